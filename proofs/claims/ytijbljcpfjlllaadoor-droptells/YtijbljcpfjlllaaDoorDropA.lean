/-
  Our own contracts of dropref1.Drop and of drop.Set, Make, Check whatever they are handed: the fault's number and the answer. Lemmas for the laws above; no statement is proved here.
-/
import Derived.Test.YtijbljcpfjlllaaDoorDropW
import Derived.Test.YtijbljcpfjlllaaDoorRSet
import Derived.Test.YtijbljcpfjlllaaDoorRSum
import Derived.Test.YtijbljcpfjlllaaDoorRBlk
import Derived.Test.YtijbljcpfjlllaaDoorErrIs
import Derived.Test.YtijbljcpfjlllaaDoorInOwn
namespace Go.Proofs.YtijbljcpfjlllaaDoor
open Go.RowKit Go.Maps
set_option linter.unusedVariables false
set_option maxRecDepth 100000

/-- What is wrong with a Drop: its number. -/
def OkD (k size seed : Int) : Prop := (1 ≤ k ∧ k ≤ 16) ∧ (1 ≤ size ∧ size ≤ 8) ∧ 1 ≤ seed ∧ seed ≤ 10000
instance (k size seed : Int) : Decidable (OkD k size seed) := inferInstanceAs (Decidable (_ ∧ _))
def fD (k size seed : Int) (n : Nat) : Int := if OkD k size seed then (if (n : Int) = size then 0 else 3) else 1

set_option maxHeartbeats 1000000 in
theorem rdrop_range (k size seed : Int) (s : ByteArray) (w : World) (h : ¬ OkD k size seed) :
    Calls Tryd.prog 11 #[.int .i64 k, .int .i64 size, dropV seed s] w fun e w' => e = .returned (.int .i64 1) ∧ Below w.heap.size w w' := by
  unfold dropV
  by_cases c0 : k < 1
  · clear h
    go_enter Tryd.func11, Tryd.ntmps11
    go_wp2
    go_ret
    exact ⟨rfl, (Below.refl _ _).alloc (Nat.le_refl _) _⟩
  · skip
    by_cases c1 : 16 < k
    · clear h
      go_enter Tryd.func11, Tryd.ntmps11
      go_wp2
      go_ret
      exact ⟨rfl, (Below.refl _ _).alloc (Nat.le_refl _) _⟩
    · skip
      by_cases c2 : size < 1
      · clear h
        go_enter Tryd.func11, Tryd.ntmps11
        go_wp2
        go_ret
        exact ⟨rfl, (Below.refl _ _).alloc (Nat.le_refl _) _⟩
      · skip
        by_cases c3 : 8 < size
        · clear h
          go_enter Tryd.func11, Tryd.ntmps11
          go_wp2
          go_ret
          exact ⟨rfl, (Below.refl _ _).alloc (Nat.le_refl _) _⟩
        · skip
          by_cases c4 : seed < 1
          · clear h
            go_enter Tryd.func11, Tryd.ntmps11
            go_wp2
            go_ret
            exact ⟨rfl, (Below.refl _ _).alloc (Nat.le_refl _) _⟩
          · skip
            by_cases c5 : 10000 < seed
            · clear h
              go_enter Tryd.func11, Tryd.ntmps11
              go_wp2
              go_ret
              exact ⟨rfl, (Below.refl _ _).alloc (Nat.le_refl _) _⟩
            · exact absurd (show OkD k size seed by unfold OkD; omega) h
set_option maxHeartbeats 1000000 in
theorem rdrop_size (k size seed : Int) (s : ByteArray) (w : World) (h : OkD k size seed) :
    Calls Tryd.prog 11 #[.int .i64 k, .int .i64 size, dropV seed s] w fun e w' => e = .returned (.int .i64 (if (s.size : Int) = size then 0 else 3)) ∧ Below w.heap.size w w' := by
  obtain ⟨⟨h1, h2⟩, ⟨h3, h4⟩, h5, h6⟩ := h
  unfold dropV
  have c0 : ¬ k < 1 := by omega
  have c1 : ¬ 16 < k := by omega
  have c2 : ¬ size < 1 := by omega
  have c3 : ¬ 8 < size := by omega
  have c4 : ¬ seed < 1 := by omega
  have c5 : ¬ 10000 < seed := by omega
  clear h1 h2 h3 h4 h5 h6
  by_cases c : (s.size : Int) = size
  · have hne : ((s.size : Int) == size) = true := by rw [beq_iff_eq]; exact c
    rw [if_pos c]
    clear c
    go_enter Tryd.func11, Tryd.ntmps11
    go_wp2
    go_ret
    exact ⟨rfl, (Below.refl _ _).alloc (Nat.le_refl _) _⟩
  · have hne : ((s.size : Int) == size) = false := by rw [beq_eq_false_iff_ne]; exact c
    rw [if_neg c]
    clear c
    go_enter Tryd.func11, Tryd.ntmps11
    go_wp2
    go_ret
    exact ⟨rfl, (Below.refl _ _).alloc (Nat.le_refl _) _⟩
theorem rdrop_any (k size seed : Int) (s : ByteArray) (w : World) :
    Calls Tryd.prog 11 #[.int .i64 k, .int .i64 size, dropV seed s] w fun e w' => e = .returned (.int .i64 (fD k size seed s.size)) ∧ Below w.heap.size w w' := by
  unfold fD
  by_cases h : OkD k size seed
  · rw [if_pos h]; exact rdrop_size k size seed s w h
  · rw [if_neg h]; exact rdrop_range k size seed s w h
theorem dcheck_any (k size seed : Int) (s : ByteArray) (w : World) :
    Calls Tryd.prog 12 #[.int .i64 k, .int .i64 size, dropV seed s] w fun e w' => ∃ err, e = .returned err ∧ ErrIs (fD k size seed s.size) err ∧ Below w.heap.size w w' := by
  unfold fD
  by_cases h : OkD k size seed
  · rw [if_pos h]
    by_cases c : (s.size : Int) = size
    · rw [if_pos c]; exact (dcheck_ok k size seed s w h.1 h.2.1 h.2.2 c).mono fun e w' ⟨he, hb⟩ => ⟨_, he, Or.inl ⟨rfl, rfl⟩, hb⟩
    · rw [if_neg c]; exact (dcheck_shape k size seed s w h.1 h.2.1 h.2.2 c).mono fun e w' ⟨he, hb⟩ => ⟨_, he, Or.inr rfl, hb⟩
  · rw [if_neg h]; exact (dcheck_range k size seed s w h).mono fun e w' ⟨he, hb⟩ => ⟨_, he, Or.inr rfl, hb⟩

/-- What Set says: the fault's number, the numbers. -/
def OkS (k seed : Int) : Prop := (1 ≤ k ∧ k ≤ 16) ∧ 1 ≤ seed ∧ seed ≤ 10000
instance (k seed : Int) : Decidable (OkS k seed) := inferInstanceAs (Decidable (_ ∧ _))
def eS (k seed : Int) : Int := if OkS k seed then 0 else 1
noncomputable def lS (k seed : Int) : List Nat := if OkS k seed then setL k.toNat seed.toNat else []
theorem Lst.ints {w : World} {v : Value} {l : List Nat} (h : Lst w v l) : IntsIn w v l.length (fun i => ((l.getD i 0 : Nat) : Int)) := by
  obtain ⟨g, cap, rfl, _, _, hc⟩ := h
  rcases Nat.eq_zero_or_pos l.length with e | h0
  · rw [e]; exact Or.inl ⟨rfl, _, _, rfl⟩
  · exact Or.inr ⟨h0, g, 0, cap, rfl, hc⟩
theorem set_any (k seed : Int) (w : World) :
    Calls Tryd.prog 5 #[.int .i64 k, .int .i64 seed] w fun e w' => ∃ v err, e = .returned (.tuple #[v, err]) ∧ ErrIs (eS k seed) err ∧ IntsIn w' v (lS k seed).length (fun i => (((lS k seed).getD i 0 : Nat) : Int)) ∧ Below w.heap.size w w' := by
  by_cases h : OkS k seed
  · obtain ⟨⟨h1, h2⟩, h3, h4⟩ := id h
    rw [eS, lS, if_pos h, if_pos h]
    obtain ⟨a, rfl⟩ := Int.eq_ofNat_of_zero_le (show 0 ≤ k by omega)
    obtain ⟨b, rfl⟩ := Int.eq_ofNat_of_zero_le (show 0 ≤ seed by omega)
    exact (set_ok a b w (by omega) (by omega) (by omega) (by omega)).mono fun e w' ⟨v, he, hl, hb⟩ => ⟨v, _, he, Or.inl ⟨rfl, rfl⟩, hl.ints, hb⟩
  · rw [eS, lS, if_neg h, if_neg h]
    exact (set_range k seed w (by unfold OkS at h; omega)).mono fun e w' ⟨he, hw⟩ => ⟨_, _, he, Or.inr rfl, Or.inl ⟨rfl, _, _, rfl⟩, hw ▸ Below.refl _ _⟩
theorem lS_len (k seed : Int) : (lS k seed).length ≤ 16 := by
  by_cases h : OkS k seed
  · obtain ⟨⟨h1, h2⟩, h3, h4⟩ := id h
    rw [lS, if_pos h]
    have := (setL_len (k := k.toNat) (seed := seed.toNat) (by omega) (by omega) (by omega) (by omega)).2
    omega
  · rw [lS, if_neg h]; simp

/-- Blocks, and what both find of them: none, or a fault. -/
theorem blk_ways {w : World} {v : Value} {len : Nat} {g : Nat → ByteArray} (hv : StrsAt w v len g) :
    (∃ x : Int, 1 ≤ x ∧ (∀ w1, Below w.heap.size w w1 → Calls Tryd.prog 25 #[v] w1 fun e w' => e = .returned (.iface 45 (.int .i64 x)) ∧ Below w1.heap.size w1 w')
      ∧ ∀ w1, Below w.heap.size w w1 → Calls Tryd.prog 8 #[v] w1 fun e w' => e = .returned (.int .i64 x) ∧ Below w1.heap.size w1 w') ∨
    ∃ b o cap, v = .slice (some ⟨b, o, none⟩) len cap ∧ len ≤ cap ∧ cap ≤ maxLen ∧ Blks w b o len g := by
  rcases hv with ⟨rfl, a, cap, rfl⟩ | ⟨h0, b, o, cap, rfl, hlc, hcm, hcell, hsz⟩
  · exact Or.inl ⟨5, by decide, fun w1 hb => (check_none a cap _).mono fun e w' ⟨he, hw⟩ => ⟨he, hw ▸ Below.refl _ _⟩, fun w1 hb => (rblocks_none a cap _).mono fun e w' ⟨he, hw⟩ => ⟨he, hw ▸ Below.refl _ _⟩⟩
  by_cases h16 : len ≤ 16
  · by_cases hr : (g 0).size < 1 ∨ 8 < (g 0).size
    · exact Or.inl ⟨1, by decide, fun w1 hb => check_range b o len cap (g 0) _ h0 h16 (by simpa using cell_below hb (hcell 0 h0)) (hsz 0 h0) hr, fun w1 hb => (rblocks_range b o len cap (g 0) _ h0 h16 (by simpa using cell_below hb (hcell 0 h0)) (hsz 0 h0) hr).mono fun e w' ⟨he, hw⟩ => ⟨he, hw ▸ Below.refl _ _⟩⟩
    by_cases hq : ∃ q, q < len ∧ (g q).size ≠ (g 0).size
    · obtain ⟨q, hq, hne⟩ := hq
      exact Or.inl ⟨3, by decide, fun w1 hb => check_shape b o len cap g _ h0 h16 (fun i hi => cell_below hb (hcell i hi)) (by omega) (by omega) q hq hne, fun w1 hb => rblocks_shape b o len cap g _ h0 h16 (fun i hi => cell_below hb (hcell i hi)) hsz (by omega) (by omega) q hq hne⟩
    exact Or.inr ⟨b, o, cap, rfl, hlc, hcm, h0, h16, hcell, by omega, by omega, fun i hi => Classical.byContradiction fun hn => hq ⟨i, hi, hn⟩⟩
  · exact Or.inl ⟨4, by decide, fun w1 hb => (check_full _ len cap _ (by omega) (by omega)).mono fun e w' ⟨he, hw⟩ => ⟨he, hw ▸ Below.refl _ _⟩, fun w1 hb => (rblocks_full _ len cap _ (by omega) (by omega)).mono fun e w' ⟨he, hw⟩ => ⟨he, hw ▸ Below.refl _ _⟩⟩
end Go.Proofs.YtijbljcpfjlllaaDoor
