/-
  Lemmas for the law above, joined into one text (BmU, IntsD, Own, InOwn0). No statement is proved here.
-/
import Derived.Test.YtjhflcgphejddaaDoorHG3
import Derived.Test.YtjhflcgphejddaaDoorHG0
import Derived.Deep.AppendLies
import Derived.Deep.OwnRows
namespace Go.Proofs.YtjhflcgphejddaaDoor
set_option linter.unusedVariables false
set_option maxRecDepth 100000

/-- What is right of a coded film. -/
structure SeeOk (a b s : Int) (N : Nat) (C : Nat → Cd) (A B : Nat) : Prop where
  one : 1 ≤ N
  six : N ≤ 6
  wide : a = (A : Int)
  high : b = (B : Int)
  w1 : 1 ≤ A
  w6 : A ≤ 6
  h1 : 1 ≤ B
  h6 : B ≤ 6
  s1 : 1 ≤ s
  s2 : s ≤ 64
  each : ∀ i, i < N → CdOk (A * B) (C i)
theorem SeeOk.le {a b s : Int} {N : Nat} {C : Nat → Cd} {A B : Nat} (o : SeeOk a b s N C A B) : A * B ≤ 36 := by
  have := Nat.mul_le_mul o.w6 o.h6
  omega
theorem SeeOk.pos {a b s : Int} {N : Nat} {C : Nat → Cd} {A B : Nat} (o : SeeOk a b s N C A B) : 1 ≤ A * B := by
  have := Nat.mul_le_mul o.w1 o.h1
  omega
theorem stpC_ok {a b s : Int} {c : Cd} {p : Pc} {A B : Nat} (ha : a = (A : Int)) (hb : b = (B : Int)) (h : (stpC a b s c p).1 = 0) (hp : c.al = false → p.a = a ∧ p.b = b) : CdOk (A * B) c := by
  unfold stpC at h
  split at h
  · rename_i c1
    split at h
    · cases h
    · rename_i c2
      have hx : c.x = 0 := by
        by_cases e : c.x = 0
        · exact e
        · exact absurd (Or.inl e) c2
      have hy : c.y = 0 := by
        by_cases e : c.y = 0
        · exact e
        · exact absurd (Or.inr e) c2
      obtain ⟨A', B', o⟩ := decF_zero.1 h
      have e1 : A' = A := by have := o.wide; omega
      have e2 : B' = B := by have := o.high; omega
      subst e1 e2
      exact ⟨fun _ => ⟨hx, hy⟩, by omega, by omega, o.many, fun i hi => o.rest i (by rw [o.many]; exact hi)⟩
  · rename_i c1
    have hal : c.al = false := by cases hc : c.al <;> simp_all
    obtain ⟨ea, eb⟩ := hp hal
    obtain ⟨hpf, _, hchk⟩ := mdeF_zero.1 h
    obtain ⟨_, hm, hn, hr⟩ := chkF_zero.1 hchk
    obtain ⟨A', B', o⟩ := picF_zero.1 hpf
    have e1 : A' = A := by have := o.wide; omega
    have e2 : B' = B := by have := o.high; omega
    subst e1 e2
    have hnn : c.n = A' * B' := by have := o.many; omega
    refine ⟨fun h9 => (by rw [hal] at h9; cases h9), ⟨hm.1, hm.2.1⟩, ⟨hm.2.2.1, hm.2.2.2⟩, hnn, fun i hi => hr i (by omega)⟩
theorem see_ok {a b s : Int} {N : Nat} {C : Nat → Cd} (h : seeF a b s N C = 0) : ∃ A B, SeeOk a b s N C A B := by
  unfold seeF at h
  split at h
  · cases h
  · rename_i c1
    split at h
    · cases h
    · rename_i c2
      split at h
      · cases h
      · rename_i c3
        split at h
        · cases h
        · rename_i c4
          have hal : (C 0).al = true := by cases hc : (C 0).al <;> simp_all
          have hsd : 1 ≤ a ∧ a ≤ 6 ∧ 1 ≤ b ∧ b ≤ 6 ∧ 1 ≤ s ∧ s ≤ 64 := by
            unfold sidF at c3
            split at c3
            · rename_i q; exact q
            · simp at c3
          obtain ⟨A, rfl⟩ := Int.eq_ofNat_of_zero_le (show 0 ≤ a by omega)
          obtain ⟨B, rfl⟩ := Int.eq_ofNat_of_zero_le (show 0 ≤ b by omega)
          refine ⟨A, B, by omega, by omega, rfl, rfl, by omega, by omega, by omega, by omega, by omega, by omega, fun i hi => ?_⟩
          have hi0 := seeS_back h (show i ≤ N by omega)
          have hi1 := seeS_back h (show i + 1 ≤ N by omega)
          rw [seeS_step hi0] at hi1
          refine stpC_ok rfl rfl hi1 (fun hf => ?_)
          obtain ⟨p, rfl⟩ : ∃ p, i = p + 1 := ⟨i - 1, by
            have : i ≠ 0 := fun e => by rw [e, hal] at hf; cases hf
            omega⟩
          exact seeS_sides hal hi0

/-- What is wrong with a film that is to be bytes; a byte of it; its bytes. -/
def bytF (a b s : Int) (N : Nat) (C : Nat → Cd) : Nat := if seeF a b s N C ≠ 0 then seeF a b s N C else if 116 < octs (flmB C N) then 4 else 0
def byU (a b s : Int) (N : Nat) (L : List Int) (i : Nat) : UInt8 := if i = 0 then UInt8.ofNat a.toNat else if i = 1 then UInt8.ofNat b.toNat else if i = 2 then UInt8.ofNat s.toNat else if i = 3 then UInt8.ofNat N else UInt8.ofNat (octN L (i - 4))
def bytT (a b s : Int) (N : Nat) (L : List Int) : ByteArray := bytesB (4 + octs L) (byU a b s N L)
def bytS (a b s : Int) (N : Nat) (C : Nat → Cd) : ByteArray := if bytF a b s N C = 0 then bytT a b s N (flmB C N) else ByteArray.empty
theorem bytF_zero {a b s : Int} {N : Nat} {C : Nat → Cd} : bytF a b s N C = 0 ↔ seeF a b s N C = 0 ∧ octs (flmB C N) ≤ 116 := by
  unfold bytF
  constructor
  · intro h
    split at h
    · rename_i c; exact absurd h c
    · rename_i c
      split at h
      · cases h
      · exact ⟨by omega, by omega⟩
  · rintro ⟨h1, h2⟩
    rw [if_neg (by omega), if_neg (by omega)]
/-- The bits that lie behind the first four bytes of a text. -/
def bitB (t : ByteArray) (j : Nat) : Int := unO (fun i => (atB t (4 + i)).toNat) j
theorem bitB_in (t : ByteArray) (j : Nat) : bitB t j = 0 ∨ bitB t j = 1 := unO_in _ _
theorem u8_of {n : Nat} (h : n < 256) : (UInt8.ofNat n).toNat = n := by rw [UInt8.toNat_ofNat']; exact Nat.mod_eq_of_lt h
/-- What the bytes of a film say. -/
structure Says (t : ByteArray) (a b s : Int) (N : Nat) (L : List Int) : Prop where
  size : t.size = 4 + octs L
  b0 : (atB t 0).toNat = a.toNat
  b1 : (atB t 1).toNat = b.toNat
  b2 : (atB t 2).toNat = s.toNat
  b3 : (atB t 3).toNat = N
  bits : ∀ j, j < 8 * octs L → bitB t j = L.getD j 0
theorem says_of {a b s : Int} {N : Nat} {C : Nat → Cd} (h : bytF a b s N C = 0) : Says (bytS a b s N C) a b s N (flmB C N) := by
  obtain ⟨h1, h2⟩ := bytF_zero.1 h
  obtain ⟨A, B, o⟩ := see_ok h1
  have e : bytS a b s N C = bytT a b s N (flmB C N) := by unfold bytS; rw [if_pos h]
  have hin := flmB_in o.each
  have ha := o.wide
  have hb := o.high
  have hw := o.w6
  have hh := o.h6
  have hs1 := o.s1
  have hs2 := o.s2
  have h6 := o.six
  rw [e]
  generalize flmB C N = L at *
  unfold bytT
  refine ⟨bytesB_size _ _, ?_, ?_, ?_, ?_, fun j hj => ?_⟩
  · rw [bytesB_at _ _ _ (by omega)]; show (UInt8.ofNat a.toNat).toNat = _; exact u8_of (by omega)
  · rw [bytesB_at _ _ _ (by omega)]; show (UInt8.ofNat b.toNat).toNat = _; exact u8_of (by omega)
  · rw [bytesB_at _ _ _ (by omega)]; show (UInt8.ofNat s.toNat).toNat = _; exact u8_of (by omega)
  · rw [bytesB_at _ _ _ (by omega)]; show (UInt8.ofNat N).toNat = _; exact u8_of (by omega)
  · rw [← unO_octN hin j]
    unfold bitB unO
    have h9 : (atB (bytesB (4 + octs L) (byU a b s N L)) (4 + j / 8)).toNat = octN L (j / 8) := by
      rw [bytesB_at _ _ _ (by omega)]
      unfold byU
      rw [if_neg (by omega), if_neg (by omega), if_neg (by omega), if_neg (by omega), show 4 + j / 8 - 4 = j / 8 by omega]
      exact u8_of (octN_lt hin _)
    show bitU (atB _ (4 + j / 8)).toNat (j % 8) = _
    rw [h9]
theorem octs_ge (L : List Int) : L.length ≤ 8 * octs L := by unfold octs; omega
/-- What is read off the bytes of a film is that film. -/
theorem says_read {t : ByteArray} {a b s : Int} {N : Nat} {C : Nat → Cd} {A B m : Nat} (o : SeeOk a b s N C A B) (h : Says t a b s N (flmB C N)) (hm : m = 8 * (t.size - 4)) : flP (bitB t) m (A * B) N = some ((List.range N).map fun i => cutC (A * B) (C i), (flmB C N).length) := by
  have hz := h.size
  have hg := octs_ge (flmB C N)
  refine flP_of o.each (by omega) (fun j hj => h.bits j (by omega))
theorem cutC_inj {k : Nat} {c d : Cd} (h : cutC k c = cutC k d) : c.al = d.al ∧ c.x = d.x ∧ c.y = d.y ∧ ∀ i, i < k → c.f i = d.f i := by
  unfold cutC at h
  injection h with h1 h2 h3 h4 h5
  refine ⟨h1, h2, h3, fun i hi => ?_⟩
  have h9 := congrFun h5 i
  simp only [lst_get hi] at h9
  exact h9
/-- A film is known by its bytes. -/
theorem bytS_one {a b s a' b' s' : Int} {N N' : Nat} {C C' : Nat → Cd} (h : bytF a b s N C = 0) (h' : bytF a' b' s' N' C' = 0) (e : bytS a b s N C = bytS a' b' s' N' C') :
    a = a' ∧ b = b' ∧ s = s' ∧ N = N' ∧ ∀ i, i < N → (C i).al = (C' i).al ∧ (C i).x = (C' i).x ∧ (C i).y = (C' i).y ∧ (C i).n = (C' i).n ∧ ∀ k, k < (C i).n → (C i).f k = (C' i).f k := by
  have h1 := says_of h
  have h2 := says_of h'
  obtain ⟨A, B, o⟩ := see_ok (bytF_zero.1 h).1
  obtain ⟨A', B', o'⟩ := see_ok (bytF_zero.1 h').1
  rw [← e] at h2
  have q0 := h1.b0.symm.trans h2.b0
  have q1 := h1.b1.symm.trans h2.b1
  have q2 := h1.b2.symm.trans h2.b2
  have q3 := h1.b3.symm.trans h2.b3
  have ea := o.wide
  have eb := o.high
  have ea' := o'.wide
  have eb' := o'.high
  have es := o.s1
  have es' := o'.s1
  obtain rfl : A = A' := by omega
  obtain rfl : B = B' := by omega
  subst q3
  have r1 := says_read o h1 rfl
  have r2 := says_read o' h2 rfl
  rw [r1] at r2
  have r3 := congrArg Prod.fst (Option.some.inj r2)
  refine ⟨by omega, by omega, by omega, rfl, fun i hi => ?_⟩
  have r4 : cutC (A * B) (C i) = cutC (A * B) (C' i) := by
    have h9 := congrArg (fun l => l[i]?) r3
    simpa [hi] using h9
  obtain ⟨x1, x2, x3, x4⟩ := cutC_inj r4
  have n1 := (o.each i hi).n
  have n2 := (o'.each i hi).n
  exact ⟨x1, x2, x3, by omega, fun k hk => x4 k (by omega)⟩
end Go.Proofs.YtjhflcgphejddaaDoor

namespace Go.Proofs.YtjhflcgphejddaaDoor
open Go.RowKit
set_option linter.unusedVariables false
set_option maxRecDepth 100000

/-- A slice that holds the numbers f 0, .., f (n-1). -/
def IntsIn (w : World) (v : Value) (n : Nat) (f : Nat → Int) : Prop :=
  (n = 0 ∧ ∃ a cap, v = .slice a 0 cap) ∨ (0 < n ∧ ∃ b o cap, v = .slice (some ⟨b, o, none⟩) n cap ∧ ∀ i, i < n → w.cell? ⟨b, o + i, none⟩ = some (.int .i64 (f i)))
theorem IntsIn.below {w w' : World} {v : Value} {n : Nat} {f : Nat → Int} (h : IntsIn w v n f) (hb : Below w.heap.size w w') : IntsIn w' v n f := by
  rcases h with h | ⟨h0, b, o, cap, rfl, hc⟩
  · exact Or.inl h
  · exact Or.inr ⟨h0, b, o, cap, rfl, fun i hi => cell_below hb (hc i hi)⟩
theorem IntsIn.congr {w : World} {v : Value} {n : Nat} {f g : Nat → Int} (h : IntsIn w v n f) (e : ∀ i, i < n → f i = g i) : IntsIn w v n g := by
  rcases h with h | ⟨h0, b, o, cap, rfl, hc⟩
  · exact Or.inl h
  · exact Or.inr ⟨h0, b, o, cap, rfl, fun i hi => by rw [← e i hi]; exact hc i hi⟩
end Go.Proofs.YtjhflcgphejddaaDoor

namespace Go.Proofs.YtjhflcgphejddaaDoor
open Go.RowKit
set_option linter.unusedVariables false
set_option maxRecDepth 100000

/-- Two slices whose rows are two. -/
def Apart (a b : Value) : Prop := a.ownBlock = none ∨ b.ownBlock = none ∨ a.ownBlock ≠ b.ownBlock
theorem Apart.symm {a b : Value} (h : Apart a b) : Apart b a := by
  rcases h with h | h | h
  · exact Or.inr (Or.inl h)
  · exact Or.inl h
  · exact Or.inr (Or.inr (fun e => h e.symm))
theorem Apart.kept {a b : Value} (h : Apart a b) : b.ownBlock = none ∨ b.ownBlock ≠ a.ownBlock := by
  rcases h with h | h | h
  · rw [h]; cases b.ownBlock with
    | none => exact Or.inl rfl
    | some k => exact Or.inr (by simp)
  · exact Or.inl h
  · exact Or.inr (fun e => h e.symm)
theorem apart_new {w : World} {B : Nat} {e : TypeId} {a b : Value} {m g n c H : Nat} {xs : List Value} (hb : w.ownsRow B e 1 b m xs) (h : Apart a b) (hH : w.heap.size ≤ H) (hat : a.ownBlock = some g ∨ g = H) : Apart (.slice (some ⟨g, 0, none⟩) n c) b := by
  rcases hat with hat | rfl
  · rcases h with h | h | h
    · rw [h] at hat; cases hat
    · exact Or.inr (Or.inl h)
    · exact Or.inr (Or.inr (fun e => h (by rw [hat, ← e]; rfl)))
  · refine Or.inr (Or.inr (fun e => ?_))
    have := (hb.lt g e.symm).2
    omega

theorem Tryd.infoInt : (Tryd.prog.info? 3).map (fun i => (i.zero, i.size, i.bytes)) = some (some (.int .i64 0), 1, 8) := by kernel_rfl
/-- Ints that the call owns, opened. -/
theorem own_ints {w : World} {B : Nat} {v : Value} {n : Nat} {f : Nat → Int} (h : w.ownsRow B 3 1 v n ((List.range n).map fun k : Nat => .int .i64 (f k))) (hn : 0 < n) :
    ∃ g cap, v = .slice (some ⟨g, 0, none⟩) n cap ∧ n ≤ cap ∧ cap ≤ maxLen ∧ ∀ k, k < n → w.cell? ⟨g, 0 + k, none⟩ = some (.int .i64 (f k)) := by
  have h' := h
  rcases h.2 with ⟨_, h0⟩ | ⟨g, cap, cur, hv, _, hg, h1, h2, hcs, hcur⟩
  · omega
  · refine ⟨g, cap, hv, h1, h2, fun k hk => ?_⟩
    rw [hv] at h'
    rw [Nat.zero_add, h'.cellAt k (by omega)]
    simp [hk]
end Go.Proofs.YtjhflcgphejddaaDoor

namespace Go.Proofs.YtjhflcgphejddaaDoor
open Go.RowKit
set_option linter.unusedVariables false
set_option maxRecDepth 100000

/-- Ints that the call owns, as a slice of numbers. -/
theorem own_in {w : World} {B : Nat} {v : Value} {n : Nat} {f : Nat → Int} (h : w.ownsRow B 3 1 v n ((List.range n).map fun k : Nat => .int .i64 (f k))) : IntsIn w v n f := by
  rcases Nat.eq_zero_or_pos n with rfl | h0
  · rcases h.2 with ⟨hv, _⟩ | ⟨g, cap, cur, hv, _⟩
    · exact Or.inl ⟨rfl, _, _, hv⟩
    · exact Or.inl ⟨rfl, _, _, hv⟩
  · obtain ⟨g, cap, hv, _, _, hc⟩ := own_ints h h0
    exact Or.inr ⟨h0, g, 0, cap, hv, hc⟩
end Go.Proofs.YtjhflcgphejddaaDoor
