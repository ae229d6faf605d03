/-
  Lemmas for the law above, joined into one text (PIm0I, EarNew, GF, RV, ZeroN, ZeroA, SvN). No statement is proved here.
-/
import Derived.Test.YtjhflcgphejddaaGreatDoorZPMore
import Derived.Test.YtjhflcgphejddaaGreatDoorZG18
import Derived.Test.YtjhflcgphejddaaGreatDoorZG0
import Derived.Lib.Strings
import Derived.Test.YtjhflcgphejddaaGreatDoorZG2
import Derived.Test.YtjhflcgphejddaaGreatDoorZG15
import Derived.Lib.BitFns
namespace Go.Proofs.YtjhflcgphejddaaGreatDoor
open Go.RowKit Go.Maps
set_option linter.unusedVariables false
set_option maxRecDepth 100000

theorem newW_below (w : World) (k z : Nat) : Below w.heap.size w (newW w k z) := (((Below.refl _ w).alloc (Nat.le_refl _) _).alloc (by simp) _).alloc (by simp; omega) _
theorem newW_pq (w : World) (k z : Nat) (h1 : 1 ≤ k) (h2 : k ≤ 16) (h3 : 1 ≤ z) (h4 : z ≤ 8) : PQ (newW w k z) (w.heap.size + 2) w.heap.size (w.heap.size + 1) k z p0 [] (.slice none 0 0) [] := by
  have hs1 : (w.alloc (.map #[] 0)).heap.size = w.heap.size + 1 := by simp
  have hs2 : ((w.alloc (.map #[] 0)).alloc (.map #[] 0)).heap.size = w.heap.size + 2 := by simp
  have hh := (MapKept.heap_alloc ((w.alloc (.map #[] 0)).alloc (.map #[] 0)) (.cells #[.int .i64 k, .int .i64 z, .map (some w.heap.size), .map (some (w.heap.size + 1)), .slice none 0 0] 118)).1
  rw [hs2] at hh
  have hcell : ∀ i, (newW w k z).cell? ⟨w.heap.size + 2, i, none⟩ = (#[.int .i64 k, .int .i64 z, .map (some w.heap.size), .map (some (w.heap.size + 1)), .slice none 0 0] : Array Value)[i]? := fun i => cell_of_row _ _ i _ 118 (0, 0) hh
  have hf : ∀ i, (newW w k z).frozen? ⟨w.heap.size + 2, i, none⟩ = false := fun i => by unfold newW; simp only [World.frozen?, hh]; simp
  have hm := ((mset_made w).alloc (.map #[] 0)).alloc (.cells #[.int .i64 k, .int .i64 z, .map (some w.heap.size), .map (some (w.heap.size + 1)), .slice none 0 0] 118)
  have hk := (mkn_made (w.alloc (.map #[] 0)) k p0.B).below ((Below.refl _ _).alloc (Nat.le_refl _) (.cells #[.int .i64 k, .int .i64 z, .map (some w.heap.size), .map (some (w.heap.size + 1)), .slice none 0 0] 118))
  rw [hs1] at hk
  refine ⟨by rw [hcell]; rfl, by rw [hcell]; rfl, by rw [hcell]; rfl, by rw [hcell]; rfl, by rw [hcell]; rfl, hf 4, ⟨_, hm⟩, ⟨_, hk⟩, World.ownsRow_nil _ _ _ _, rfl, fun x hx => absurd hx (by simp), ⟨fun d hd => absurd hd (by simp [p0]), (fun r hr => by cases hr)⟩, ⟨by simp [p0], by simp⟩, (fun r hr => by cases hr), ⟨h1, h2⟩, ⟨h3, h4⟩, by omega, by omega, by omega, (fun i e => by cases e), fun x hx => absurd hx (by simp)⟩

/-- Its blocks, as they are read off the memory. -/
def FB (w : World) (b i : Nat) : Prop := i = b ∨ w.cell? ⟨b, 2, none⟩ = some (.map (some i)) ∨ w.cell? ⟨b, 3, none⟩ = some (.map (some i)) ∨ ∃ g n c, w.cell? ⟨b, 4, none⟩ = some (.slice (some ⟨g, 0, none⟩) n c) ∧ (i = g ∨ ∃ j n' c', j < n ∧ w.cell? ⟨g, j * 2, none⟩ = some (.slice (some ⟨i, 0, none⟩) n' c'))
theorem PQ.foot {w : World} {b tb kb k z : Nat} {p : PS} {T : List Nat} {vW : Value} {X : List Wtr} (h : PQ w b tb kb k z p T vW X) (i : Nat) : FB w b i ↔ PF b tb kb vW X i := by
  obtain ⟨a, cap, hv, h1, h2, h3, h4⟩ := own_wtrs h.row
  constructor
  · rintro (e | e | e | ⟨g, n, c, e, e2⟩)
    · exact Or.inl e
    · rw [h.ct] at e; injection e with e; injection e with e; injection e with e
      exact Or.inr (Or.inl e.symm)
    · rw [h.cn] at e; injection e with e; injection e with e; injection e with e
      exact Or.inr (Or.inr (Or.inl e.symm))
    · rw [h.cw] at e; injection e with e
      rcases e2 with rfl | ⟨j, n', c', hj, e2⟩
      · exact Or.inr (Or.inr (Or.inr (Or.inl (by rw [e]; rfl))))
      · rw [hv] at e
        injection e with ea en ec
        subst en
        rw [(h4 g ea j hj).1] at e2
        injection e2 with e2; injection e2 with e2; injection e2 with e2; injection e2 with e2
        exact Or.inr (Or.inr (Or.inr (Or.inr ⟨wAt X j, wAt_mem hj, e2.symm⟩)))
  · rintro (e | e | e | e | ⟨x, hx, e⟩)
    · exact Or.inl e
    · exact Or.inr (Or.inl (by rw [h.ct, e]))
    · exact Or.inr (Or.inr (Or.inl (by rw [h.cn, e])))
    · rcases h.row.2 with ⟨hv', _⟩ | ⟨g, cap', cur, hv', _⟩
      · rw [hv'] at e; cases e
      · rw [hv'] at e
        cases e
        exact Or.inr (Or.inr (Or.inr ⟨g, _, _, by rw [h.cw, hv'], Or.inl rfl⟩))
    · obtain ⟨j, hj, ej⟩ := List.getElem_of_mem hx
      obtain ⟨g, ha⟩ := h3 (by omega)
      have e2 : wAt X j = x := by rw [← ej]; simp [wAt, List.getD, hj]
      refine Or.inr (Or.inr (Or.inr ⟨g, X.length, cap, by rw [h.cw, hv, ha], Or.inr ⟨j, x.n, x.c, hj, ?_⟩⟩))
      rw [(h4 g ha j hj).1, e2, e]

/-- The state of a Peeler; its blocks. -/
def PStt (w : World) (v : Value) (k z : Nat) (p : PS) (T : List Nat) : Prop := ∃ b tb kb vW X, v = .pointer (some ⟨b, 0, none⟩) ∧ PQ w b tb kb k z p T vW X
def PFoot (w : World) (v : Value) (i : Nat) : Prop := ∃ b, v = .pointer (some ⟨b, 0, none⟩) ∧ FB w b i
theorem pfoot {w : World} {b tb kb k z : Nat} {p : PS} {T : List Nat} {vW : Value} {X : List Wtr} (h : PQ w b tb kb k z p T vW X) (i : Nat) : PFoot w (.pointer (some ⟨b, 0, none⟩)) i ↔ PF b tb kb vW X i := by
  rw [← h.foot i]
  constructor
  · rintro ⟨b', e, hf⟩
    injection e with e; injection e with e; injection e with e
    subst e; exact hf
  · exact fun hf => ⟨b, rfl, hf⟩
theorem pkeep {w w' : World} {b tb kb k z : Nat} {p : PS} {T : List Nat} {vW : Value} {X : List Wtr} (h : PQ w b tb kb k z p T vW X) (hb : ∀ i, PFoot w (.pointer (some ⟨b, 0, none⟩)) i → w'.heap[i]? = w.heap[i]?) : PQ w' b tb kb k z p T vW X := h.keep fun i hi => hb i ((pfoot h i).2 hi)

def peelI0 : PIm0 where
  St := PStt
  foot := PFoot
  foot_lt := by
    rintro w v k z p T ⟨b, tb, kb, vW, X, rfl, h⟩ i hi
    exact h.flt i ((pfoot h i).1 hi)
  keep := by
    rintro w w' v k z p T ⟨b, tb, kb, vW, X, rfl, h⟩ hs hb
    have h' := pkeep h hb
    exact ⟨⟨b, tb, kb, vW, X, rfl, h'⟩, fun i hi => (pfoot h i).2 ((pfoot h' i).1 hi)⟩
  new_ok := by
    intro k z w h1 h2 h3 h4
    refine (new_walk k z w h1 h2 h3 h4).mono ?_
    rintro e w' ⟨rfl, rfl⟩
    have hq := newW_pq w k z h1 h2 h3 h4
    refine ⟨_, rfl, ⟨_, _, _, _, _, rfl, hq⟩, fun i hi => ?_, newW_below w k z⟩
    rcases (pfoot hq i).1 hi with e | e | e | e | ⟨x, hx, _⟩
    · omega
    · omega
    · omega
    · cases e
    · cases hx
  new_range := by
    intro k z w h
    refine (new_range' k z w h).mono ?_
    rintro e w' ⟨rfl, hb⟩
    exact ⟨_, rfl, hb⟩
  take_bad := by
    rintro w v k z p T ⟨b, tb, kb, vW, X, rfl, h⟩ seed data hd ht
    have fin : ∀ x : Int, tF k z T seed data.size = x → (Calls Tryz.prog 71 #[.pointer (some ⟨b, 0, none⟩), dropV seed data] w fun e w' => e = .returned (.tuple #[.slice none 0 0, .iface 61 (.int .i64 x)]) ∧ Below w.heap.size w w') →
        Calls Tryz.prog 71 #[.pointer (some ⟨b, 0, none⟩), dropV seed data] w fun e w' => ∃ vs, e = .returned (.tuple #[vs, .iface 61 (.int .i64 (tF k z T seed data.size))]) ∧ Lsh w' vs [] ∧ PStt w' (.pointer (some ⟨b, 0, none⟩)) k z p T ∧ Kept (PFoot w (.pointer (some ⟨b, 0, none⟩))) w w' ∧ ∀ i, PFoot w' (.pointer (some ⟨b, 0, none⟩)) i → PFoot w (.pointer (some ⟨b, 0, none⟩)) i ∨ w.heap.size ≤ i := fun x hx hC => by
      refine hC.mono ?_
      rintro e w' ⟨rfl, hb⟩
      have h' := h.below hb
      exact ⟨.slice none 0 0, by rw [hx], ⟨none, 0, rfl, Nat.le_refl _, by unfold maxLen; omega, fun h => absurd h (by simp)⟩, ⟨b, tb, kb, vW, X, rfl, h'⟩, (Kept.refl _ w).below hb, fun i hi => Or.inl ((pfoot h i).2 ((pfoot h' i).1 hi))⟩
    by_cases hf : fD k z seed data.size = 0
    · have hok := fD_ok hf
      obtain ⟨n, rfl⟩ := Int.eq_ofNat_of_zero_le (show 0 ≤ seed by have := hok.1.2.2; omega)
      by_cases hm : n ∈ T
      · exact fin 7 (by unfold tF; rw [if_neg (by simp [hf]), if_pos (by simpa using hm)]) (take_clash b tb kb k z p T vW X n data w h hf hm)
      · by_cases h60 : 60 ≤ T.length
        · exact fin 4 (by unfold tF; rw [if_neg (by simp [hf]), if_neg (by simpa using hm), if_pos h60]) (take_full b tb kb k z p T vW X n data w h hf hm h60)
        · exact absurd (by unfold tF; rw [if_neg (by simp [hf]), if_neg (by simpa using hm), if_neg h60]) ht
    · exact fin _ (by unfold tF; rw [if_pos hf]) (take_check b tb kb k z p T vW X seed data w h hf)
  take_ok := by
    rintro w v k z p T ⟨b, tb, kb, vW, X, rfl, h⟩ seed data ht
    have hf : fD k z (seed : Int) data.size = 0 := by
      by_cases c : fD k z (seed : Int) data.size = 0
      · exact c
      · unfold tF at ht; rw [if_pos c] at ht; exact ht
    unfold tF at ht
    rw [if_neg (by simp [hf])] at ht
    have hm : seed ∉ T := fun hm => by rw [if_pos (by simpa using hm)] at ht; cases ht
    rw [if_neg (by simpa using hm)] at ht
    have h60 : T.length < 60 := by
      rcases Nat.lt_or_ge T.length 60 with h | h
      · exact h
      · rw [if_pos h] at ht; cases ht
    refine (take_walk b tb kb k z p T vW X seed data w h hf hm h60).mono ?_
    rintro e w' ⟨v, q, vW', X', rfl, hp, hl, hq, hk, hfo⟩
    exact ⟨v, q, rfl, hp, hl, ⟨b, tb, kb, vW', X', rfl, hq⟩, hk.wider fun i hi => (pfoot h i).2 hi, fun i hi => (hfo i ((pfoot hq i).1 hi)).imp (fun e => (pfoot h i).2 e) id⟩
  knows_ok := by
    rintro w v k z p T ⟨b, tb, kb, vW, X, rfl, h⟩
    exact knows_walk b tb kb k z p T vW X w h
end Go.Proofs.YtjhflcgphejddaaGreatDoor

namespace Go.Proofs.YtjhflcgphejddaaGreatDoor
open Go.RowKit Go.Maps
set_option linter.unusedVariables false
set_option maxRecDepth 100000

theorem makes_far (k z : Nat) (n : Int) (w : World) (hn : n < 0 ∨ 120 < n) :
    Calls Tryz.prog 32 #[.int .i64 k, .int .i64 z, .int .i64 n] w fun e w' => e = .returned (.bool false) ∧ w = w' := by
  by_cases h : n < 0
  · clear hn
    go_enter Tryz.func32, Tryz.ntmps32
    go_wp2
    go_ret
    exact ⟨rfl, rfl⟩
  · have h2 : 120 < n := by omega
    clear hn
    go_enter Tryz.func32, Tryz.ntmps32
    go_wp2
    go_ret
    exact ⟨rfl, rfl⟩
set_option maxHeartbeats 1000000 in
theorem makes_in (k z n : Nat) (w : World) (hk : k ≤ 16) (h1 : 1 ≤ z) (h8 : z ≤ 8) (hn : n ≤ 120) :
    Calls Tryz.prog 32 #[.int .i64 k, .int .i64 z, .int .i64 n] w fun e w' => e = .returned (.bool (decide (cntN n z = k))) ∧ Below w.heap.size w w' := by
  have R := hide (fun w => repeat_one 0 n w (by omega))
  have e1 : ¬ (n : Int) < 0 := by omega
  have e2 : ¬ (120 : Int) < (n : Int) := by omega
  generalize hr : decide (cntN n z = k) = r
  have HR := hide hr
  clear hr
  go_enter Tryz.func32, Tryz.ntmps32
  go_wp2_with fail
  refine (R.out _).mono ?_
  rintro e w1 ⟨s, rfl, hs, hb1⟩
  have HB1 := hide hb1
  clear hb1 R
  by_cases hc : 16 < cntN n z
  · have S := hide (split_many s z w1 (by omega) h1 h8 (by rw [hs]; exact hc))
    obtain rfl : r = false := HR.out.symm.trans (decide_eq_false (by omega))
    clear hs hc HR
    go_wp2_with fail
    refine (S.out).mono ?_
    rintro e w2 ⟨rfl, rfl⟩
    go_wp2
    go_ret
    exact ⟨rfl, HB1.out⟩
  · have S := hide (split_ok s z w1 (by omega) h1 h8 (by rw [hs]; omega))
    rw [hs] at S
    have hc16 : cntN n z ≤ 16 := by omega
    have hq : ((cntN n z : Int) == (k : Int)) = r := by
      rw [← HR.out]
      by_cases e : cntN n z = k
      · rw [decide_eq_true e, e]; simp
      · rw [decide_eq_false e, beq_eq_false_iff_ne]; omega
    clear hs hc HR
    generalize cntN n z = m at *
    cases r with
    | true =>
      go_wp2_with fail
      refine (S.out).mono ?_
      rintro e w2 ⟨rfl, _, hb2⟩
      have HB2 := hide (below_two HB1.out hb2)
      clear hb2
      go_wp2
      go_ret
      exact ⟨by first | rfl | simp [hq], HB2.out⟩
    | false =>
      go_wp2_with fail
      refine (S.out).mono ?_
      rintro e w2 ⟨rfl, _, hb2⟩
      have HB2 := hide (below_two HB1.out hb2)
      clear hb2
      go_wp2
      go_ret
      exact ⟨by first | rfl | simp [hq], HB2.out⟩

/-- What an Ear may be made of. -/
def EMk (k z n : Int) : Prop := ((1 ≤ k ∧ k ≤ 16) ∧ 1 ≤ z ∧ z ≤ 8) ∧ (0 ≤ n ∧ n ≤ 120) ∧ ((cntN n.toNat z.toNat : Nat) : Int) = k
set_option maxHeartbeats 1000000 in
theorem enew_bad (k z n : Int) (w : World) (h : ¬ EMk k z n) :
    Calls Tryz.prog 9 #[.int .i64 k, .int .i64 z, .int .i64 n] w fun e w' => e = .returned (.tuple #[.pointer none, .iface 61 (.int .i64 1)]) ∧ Below w.heap.size w w' := by
  by_cases hkz : (1 ≤ k ∧ k ≤ 16) ∧ 1 ≤ z ∧ z ≤ 8
  · obtain ⟨k, rfl⟩ : ∃ q : Nat, k = (q : Nat) := ⟨k.toNat, by omega⟩
    obtain ⟨z, rfl⟩ : ∃ q : Nat, z = (q : Nat) := ⟨z.toNat, by omega⟩
    have N := hide (peelI0.new_ok k z w (by omega) (by omega) (by omega) (by omega))
    have MK : Hid (∀ W, Calls Tryz.prog 32 #[.int .i64 k, .int .i64 z, .int .i64 n] W fun e w' => e = .returned (.bool false) ∧ Below W.heap.size W w') := fun W => by
      by_cases hn : n < 0 ∨ 120 < n
      · exact (makes_far k z n W hn).mono fun e w' ⟨he, hw⟩ => ⟨he, hw ▸ Below.refl _ _⟩
      · obtain ⟨n, rfl⟩ : ∃ q : Nat, n = (q : Nat) := ⟨n.toNat, by omega⟩
        refine (makes_in k z n W (by omega) (by omega) (by omega) (by omega)).mono fun e w' ⟨he, hb⟩ => ⟨?_, hb⟩
        rw [he, decide_eq_false fun e9 => h ⟨hkz, by omega, by simp; omega⟩]
    clear h hkz
    go_enter Tryz.func9, Tryz.ntmps9
    go_wp2_with fail
    refine (N.out).mono ?_
    rintro e w1 ⟨v, rfl, hst, _, hb1⟩
    obtain ⟨bp, _, _, _, _, rfl, _⟩ := hst
    have HB1 := hide hb1
    clear hb1
    go_wp2_with fail
    refine (MK.out _).mono ?_
    rintro e w2 ⟨rfl, hb2⟩
    have HB2 := hide (below_two HB1.out hb2)
    clear hb2
    go_wp2
    go_ret2
    exact ⟨rfl, HB2.out⟩
  · have N := hide (new_range' k z w hkz)
    clear h hkz
    go_enter Tryz.func9, Tryz.ntmps9
    go_wp2_with fail
    refine (N.out).mono ?_
    rintro e w1 ⟨rfl, hb1⟩
    have HB1 := hide hb1
    clear hb1
    go_wp2
    go_ret2
    exact ⟨rfl, HB1.out⟩
theorem est_new {w w2 : World} {vP : Value} {k z n : Nat} (hb : Below w.heap.size w w2) (hst : peelI0.St w2 vP k z p0 []) (hf : ∀ i, peelI0.foot w2 vP i → w.heap.size ≤ i) (hk : (1 ≤ k ∧ k ≤ 16) ∧ 1 ≤ z ∧ z ≤ 8) (hn : n ≤ 120) (hc : cntN n z = k) :
    ESt peelI0 (w2.alloc (.cells #[vP, .int .i64 k, .int .i64 z, .int .i64 n, .int .i64 0, .slice none 0 0] 88)) (.pointer (some ⟨w2.heap.size, 0, none⟩)) k z n 0 [] (fun i => w.heap.size ≤ i ∧ i < w2.heap.size + 1) := by
  have ha : Below w2.heap.size w2 (w2.alloc (.cells #[vP, .int .i64 k, .int .i64 z, .int .i64 n, .int .i64 0, .slice none 0 0] 88)) := (Below.refl _ _).alloc (Nat.le_refl _) _
  have hh := (MapKept.heap_alloc w2 (.cells #[vP, .int .i64 k, .int .i64 z, .int .i64 n, .int .i64 0, .slice none 0 0] 88)).1
  have hcell : ∀ i, (w2.alloc (.cells #[vP, .int .i64 k, .int .i64 z, .int .i64 n, .int .i64 0, .slice none 0 0] 88)).cell? ⟨w2.heap.size, i, none⟩ = (#[vP, .int .i64 k, .int .i64 z, .int .i64 n, .int .i64 0, .slice none 0 0] : Array Value)[i]? := fun i => cell_of_row _ _ i _ 88 (0, 0) hh
  have hfr : ∀ i, (w2.alloc (.cells #[vP, .int .i64 k, .int .i64 z, .int .i64 n, .int .i64 0, .slice none 0 0] 88)).frozen? ⟨w2.heap.size, i, none⟩ = false := fun i => by simp only [World.frozen?, hh]; simp
  have h1 := peelI0.below hst ha
  have hsz : (w2.alloc (.cells #[vP, .int .i64 k, .int .i64 z, .int .i64 n, .int .i64 0, .slice none 0 0] 88)).heap.size = w2.heap.size + 1 := by simp
  have hle := hb.size
  refine ⟨w2.heap.size, vP, _, p0, rfl, ⟨by rw [hcell]; rfl, by rw [hcell]; rfl, by rw [hcell]; rfl, by rw [hcell]; rfl, by rw [hcell]; rfl, by rw [hcell]; rfl, hfr _, hfr _, h1.1, World.ownsRow_nil _ _ _ _, ⟨hle, by omega⟩, fun i hi => ?_, (fun i e => by cases e), fun i hi => by rw [hsz]; exact hi.2, fun hi => ?_, (fun e => by cases e), (fun i e => by cases e), Kept.refl _ _⟩, took_none _ _, ⟨hk.1, hk.2, hn, hc, by simp, (fun d hd => by cases hd), by simp [sds]⟩⟩
  · have h9 := h1.2 i hi
    exact Or.inl ⟨hf i h9, by have := peelI0.foot_lt hst i h9; omega⟩
  · have := peelI0.foot_lt hst _ (h1.2 _ hi); omega
set_option maxHeartbeats 1000000 in
theorem enew_ok (k z n : Nat) (w : World) (hk : (1 ≤ k ∧ k ≤ 16) ∧ 1 ≤ z ∧ z ≤ 8) (hn : n ≤ 120) (hc : cntN n z = k) :
    Calls Tryz.prog 9 #[.int .i64 k, .int .i64 z, .int .i64 n] w fun e w' => ∃ v M, e = .returned (.tuple #[v, .nilIface]) ∧ ESt peelI0 w' v k z n 0 [] M ∧ (∀ i, M i → w.heap.size ≤ i) ∧ Below w.heap.size w w' := by
  have N := hide (peelI0.new_ok k z w hk.1.1 hk.1.2 hk.2.1 hk.2.2)
  have MK := hide (fun W => makes_in k z n W hk.1.2 hk.2.1 hk.2.2 hn)
  have HC := hide hc
  have HK := hide hk
  rw [decide_eq_true hc] at MK
  clear hc hk
  go_enter Tryz.func9, Tryz.ntmps9
  go_wp2_with fail
  refine (N.out).mono ?_
  rintro e w1 ⟨v, rfl, hst, hf, hb1⟩
  have hst' := hst
  obtain ⟨bp, _, _, _, _, rfl, _⟩ := hst'
  have HB1 := hide hb1
  have HS := hide hst
  have HF := hide hf
  clear hb1 hst hf
  go_wp2_with fail
  refine (MK.out _).mono ?_
  rintro e w2 ⟨rfl, hb2⟩
  have HB2 := hide (below_two HB1.out hb2)
  have h2 := peelI0.below HS.out hb2
  have E := hide (est_new HB2.out h2.1 (fun i hi => HF.out i (h2.2 i hi)) HK.out hn HC.out)
  clear hb2 h2
  go_wp2
  go_ret2
  exact ⟨_, _, rfl, E.out, fun i hi => hi.1, HB2.out.alloc HB2.out.size _⟩
end Go.Proofs.YtjhflcgphejddaaGreatDoor

namespace Go.Proofs.YtjhflcgphejddaaGreatDoor
set_option linter.unusedVariables false
set_option maxRecDepth 100000

/-- Things that go over one another, each twice being none. -/
structure XG (α : Type) where
  add : α → α → α
  zero : α
  assoc : ∀ a b c, add (add a b) c = add a (add b c)
  comm : ∀ a b, add a b = add b a
  self : ∀ a, add a a = zero
  left : ∀ a, add zero a = a
theorem XG.right {α : Type} (G : XG α) (a : α) : G.add a G.zero = a := by rw [G.comm, G.left]
theorem XG.twice {α : Type} (G : XG α) (a b : α) : G.add a (G.add a b) = b := by rw [← G.assoc, G.self, G.left]
theorem XG.same {α : Type} (G : XG α) {a b : α} (h : G.add a b = G.zero) : a = b := by
  have := G.twice a b
  rw [h, G.right] at this
  exact this
theorem XG.four {α : Type} (G : XG α) (a b c d : α) : G.add (G.add a b) (G.add c d) = G.add (G.add a c) (G.add b d) := by
  rw [G.assoc, ← G.assoc b, G.comm b c, G.assoc c, ← G.assoc]

/-- What some of a list make, one over the other. -/
def Sp {α : Type} (G : XG α) : List α → α → Prop
  | [], x => x = G.zero
  | v :: L, x => Sp G L x ∨ Sp G L (G.add v x)
theorem Sp.zero {α : Type} (G : XG α) : ∀ L : List α, Sp G L G.zero
  | [] => rfl
  | v :: L => Or.inl (Sp.zero G L)
theorem Sp.add {α : Type} {G : XG α} : ∀ {L : List α} {x y : α}, Sp G L x → Sp G L y → Sp G L (G.add x y)
  | [], x, y, h, k => by
    have h : x = G.zero := h
    have k : y = G.zero := k
    rw [h, k]; exact G.left _
  | v :: L, x, y, h, k => by
    rcases h with h | h <;> rcases k with k | k
    · exact Or.inl (Sp.add h k)
    · refine Or.inr ?_
      have := Sp.add h k
      rwa [← G.assoc, G.comm x v, G.assoc] at this
    · refine Or.inr ?_
      have := Sp.add h k
      rwa [G.assoc] at this
    · refine Or.inl ?_
      have := Sp.add h k
      rwa [G.four, G.self, G.left] at this
theorem Sp.mem {α : Type} {G : XG α} : ∀ {L : List α} {v : α}, v ∈ L → Sp G L v
  | u :: L, v, h => by
    rcases List.mem_cons.1 h with rfl | h
    · exact Or.inr (by rw [G.self]; exact Sp.zero G L)
    · exact Or.inl (Sp.mem h)
theorem Sp.ind {α : Type} {G : XG α} {C : α → Prop} (h0 : C G.zero) (ha : ∀ x y, C x → C y → C (G.add x y)) : ∀ {L : List α}, (∀ v ∈ L, C v) → ∀ {x : α}, Sp G L x → C x
  | [], _, x, h => by
    have h : x = G.zero := h
    rw [h]; exact h0
  | v :: L, hL, x, h => by
    have ih := fun {x} => Sp.ind h0 ha (L := L) (fun v hv => hL v (List.mem_cons_of_mem _ hv)) (x := x)
    rcases h with h | h
    · exact ih h
    · have := ha v _ (hL v (by simp)) (ih h)
      rwa [G.twice] at this
theorem Sp.sub {α : Type} {G : XG α} {L M : List α} (h : ∀ v ∈ L, Sp G M v) {x : α} (hx : Sp G L x) : Sp G M x := Sp.ind (Sp.zero G M) (fun _ _ => Sp.add) h hx
theorem Sp.same {α : Type} {G : XG α} {L M : List α} (h : ∀ v ∈ L, Sp G M v) (k : ∀ v ∈ M, Sp G L v) (x : α) : Sp G L x ↔ Sp G M x := ⟨Sp.sub h, Sp.sub k⟩
theorem Sp.mono {α : Type} {G : XG α} {L M : List α} (h : ∀ v ∈ L, v ∈ M) {x : α} (hx : Sp G L x) : Sp G M x := Sp.sub (fun v hv => Sp.mem (h v hv)) hx
theorem Sp.map {α β : Type} {G : XG α} {K : XG β} (f : α → β) (h0 : f G.zero = K.zero) (ha : ∀ x y, f (G.add x y) = K.add (f x) (f y)) {L : List α} {x : α} (h : Sp G L x) : Sp K (L.map f) (f x) :=
  Sp.ind (C := fun x => Sp K (L.map f) (f x)) (by rw [h0]; exact Sp.zero _ _) (fun x y hx hy => by rw [ha]; exact Sp.add hx hy) (fun v hv => Sp.mem (List.mem_map_of_mem hv)) h
theorem Sp.of_map {α β : Type} {G : XG α} {K : XG β} (f : α → β) (h0 : f G.zero = K.zero) (ha : ∀ x y, f (G.add x y) = K.add (f x) (f y)) {L : List α} {y : β} (h : Sp K (L.map f) y) : ∃ x, Sp G L x ∧ f x = y :=
  Sp.ind (C := fun y => ∃ x, Sp G L x ∧ f x = y) ⟨_, Sp.zero _ _, h0⟩ (fun x y ⟨a, ha1, ha2⟩ ⟨b, hb1, hb2⟩ => ⟨G.add a b, Sp.add ha1 hb1, by rw [ha, ha2, hb2]⟩) (fun v hv => by
    obtain ⟨x, hx, rfl⟩ := List.mem_map.1 hv
    exact ⟨x, Sp.mem hx, rfl⟩) h

/-- Sets of places, a bit each. -/
def XN : XG Nat := ⟨(· ^^^ ·), 0, Nat.xor_assoc, Nat.xor_comm, Nat.xor_self, Nat.zero_xor⟩
/-- None of them is what those behind it make. -/
def Indep : List Nat → Prop
  | [] => True
  | v :: L => Indep L ∧ ¬ Sp XN L v
def combos : List Nat → List Nat
  | [] => [0]
  | v :: L => combos L ++ (combos L).map (v ^^^ ·)
theorem combos_len : ∀ L : List Nat, (combos L).length = 2 ^ L.length
  | [] => rfl
  | v :: L => by
    show (combos L ++ (combos L).map (v ^^^ ·)).length = 2 ^ (L.length + 1)
    rw [List.length_append, List.length_map, combos_len L, Nat.pow_succ]; omega
theorem mem_combos : ∀ {L : List Nat} {x : Nat}, x ∈ combos L ↔ Sp XN L x
  | [], x => by simp [combos, Sp, XN]
  | v :: L, x => by
    show x ∈ combos L ++ (combos L).map (v ^^^ ·) ↔ Sp XN L x ∨ Sp XN L (v ^^^ x)
    rw [List.mem_append, List.mem_map, mem_combos]
    refine or_congr Iff.rfl ⟨fun ⟨a, ha, e⟩ => ?_, fun h => ⟨v ^^^ x, mem_combos.2 h, XN.twice v x⟩⟩
    subst e
    have e2 : v ^^^ (v ^^^ a) = a := XN.twice v a
    rw [e2]; exact mem_combos.1 ha
theorem combos_nodup : ∀ {L : List Nat}, Indep L → (combos L).Nodup
  | [], _ => by simp [combos]
  | v :: L, h => by
    have ih := combos_nodup h.1
    show (combos L ++ (combos L).map (v ^^^ ·)).Nodup
    rw [List.nodup_append]
    refine ⟨ih, ?_, ?_⟩
    · refine List.Pairwise.map _ (fun a b hab => ?_) ih
      intro e
      have e2 := congrArg (fun t => v ^^^ t) e
      have h1 : v ^^^ (v ^^^ a) = a := XN.twice v a
      have h2 : v ^^^ (v ^^^ b) = b := XN.twice v b
      simp only [h1, h2] at e2
      exact hab e2
    · intro a ha b hb e
      subst e
      obtain ⟨c, hc, e⟩ := List.mem_map.1 hb
      refine h.2 ?_
      have hs := Sp.add (mem_combos.1 ha) (mem_combos.1 hc)
      have e3 : a ^^^ c = v := by
        rw [← e]
        show v ^^^ c ^^^ c = v
        rw [Nat.xor_assoc, Nat.xor_self, Nat.xor_zero]
      exact e3 ▸ hs
theorem nodup_le : ∀ {l m : List Nat}, l.Nodup → (∀ x ∈ l, x ∈ m) → l.length ≤ m.length
  | [], _, _, _ => Nat.zero_le _
  | a :: l, m, hn, hm => by
    have ha := hm a (by simp)
    have h1 := nodup_le (l := l) (m := m.erase a) (List.nodup_cons.1 hn).2 (fun x hx => (List.mem_erase_of_ne (fun (e : x = a) => (List.nodup_cons.1 hn).1 (e ▸ hx))).2 (hm x (by simp [hx])))
    rw [List.length_erase_of_mem ha] at h1
    have := List.length_pos_of_mem ha
    simp; omega
/-- The rank of a space. -/
def Dim (S : Nat → Prop) (r : Nat) : Prop := ∃ B : List Nat, B.length = r ∧ Indep B ∧ ∀ x, Sp XN B x ↔ S x
theorem Dim.least {S : Nat → Prop} {r : Nat} (h : Dim S r) {I : List Nat} (hi : Indep I) (hs : ∀ v ∈ I, S v) : I.length ≤ r := by
  obtain ⟨B, rfl, hB, hx⟩ := h
  have h1 := nodup_le (combos_nodup hi) (m := combos B) (fun x hx' => mem_combos.2 (Sp.sub (fun v hv => (hx v).2 (hs v hv)) (mem_combos.1 hx')))
  rw [combos_len, combos_len] at h1
  exact (Nat.pow_le_pow_iff_right (by decide)).1 h1
theorem Dim.det {S : Nat → Prop} {r q : Nat} (h : Dim S r) (k : Dim S q) : r = q := by
  obtain ⟨B, h1, h2, h3⟩ := h
  obtain ⟨C, k1, k2, k3⟩ := k
  have a := Dim.least ⟨B, h1, h2, h3⟩ k2 (fun v hv => (k3 v).1 (Sp.mem hv))
  have b := Dim.least ⟨C, k1, k2, k3⟩ h2 (fun v hv => (h3 v).1 (Sp.mem hv))
  omega
theorem Dim.congr {S T : Nat → Prop} {r : Nat} (h : Dim S r) (e : ∀ x, S x ↔ T x) : Dim T r := by
  obtain ⟨B, h1, h2, h3⟩ := h
  exact ⟨B, h1, h2, fun x => (h3 x).trans (e x)⟩
/-- One more raises it by one at most. -/
theorem Dim.more {L : List Nat} {r : Nat} (h : Dim (Sp XN L) r) (v : Nat) : Dim (Sp XN (L ++ [v])) r ∧ Sp XN L v ∨ Dim (Sp XN (L ++ [v])) (r + 1) ∧ ¬ Sp XN L v := by
  obtain ⟨B, h1, h2, h3⟩ := h
  by_cases c : Sp XN L v
  · refine Or.inl ⟨⟨B, h1, h2, fun x => (h3 x).trans (Sp.same (fun u hu => Sp.mem (List.mem_append_left _ hu)) (fun u hu => ?_) x)⟩, c⟩
    rcases List.mem_append.1 hu with hu | hu
    · exact Sp.mem hu
    · rw [List.mem_singleton.1 hu]; exact c
  · refine Or.inr ⟨⟨v :: B, by simp [h1], ⟨h2, fun k => c ((h3 v).1 k)⟩, fun x => Sp.same (fun u hu => ?_) (fun u hu => ?_) x⟩, c⟩
    · rcases List.mem_cons.1 hu with rfl | hu
      · exact Sp.mem (by simp)
      · exact Sp.mono (fun _ h => List.mem_append_left _ h) ((h3 u).1 (Sp.mem hu))
    · rcases List.mem_append.1 hu with hu | hu
      · exact Or.inl ((h3 u).2 (Sp.mem hu))
      · rw [List.mem_singleton.1 hu]; exact Sp.mem (by simp)
/-- A place that none of them has none of what they make has. -/
theorem Sp.bit {L : List Nat} {b : Nat} (h : ∀ v ∈ L, v.testBit b = false) {x : Nat} (hx : Sp XN L x) : x.testBit b = false :=
  Sp.ind (G := XN) (C := fun x => x.testBit b = false) (Nat.zero_testBit b) (fun x y h1 h2 => by show (x ^^^ y).testBit b = false; rw [Nat.testBit_xor, h1, h2]; rfl) h hx
theorem Sp.lt {L : List Nat} {k : Nat} (h : ∀ v ∈ L, v < 2 ^ k) {x : Nat} (hx : Sp XN L x) : x < 2 ^ k :=
  Sp.ind (G := XN) (C := fun x => x < 2 ^ k) (Nat.pow_pos (by decide)) (fun x y h1 h2 => Nat.xor_lt_two_pow h1 h2) h hx

/-- Rows by their places: those that there are, the last place first. -/
def piv {α : Type} (has : Nat → Bool) (row : Nat → α) : Nat → List α
  | 0 => []
  | b + 1 => if has b then row b :: piv has row b else piv has row b
theorem mem_piv {α : Type} {has : Nat → Bool} {row : Nat → α} {v : α} : ∀ {k : Nat}, v ∈ piv has row k ↔ ∃ b, b < k ∧ has b = true ∧ row b = v
  | 0 => by simp [piv]
  | k + 1 => by
    unfold piv
    by_cases c : has k = true
    · rw [if_pos c, List.mem_cons, mem_piv]
      constructor
      · rintro (rfl | ⟨b, h1, h2, h3⟩)
        · exact ⟨k, by omega, c, rfl⟩
        · exact ⟨b, by omega, h2, h3⟩
      · rintro ⟨b, h1, h2, h3⟩
        by_cases e : b = k
        · subst e; exact Or.inl h3.symm
        · exact Or.inr ⟨b, by omega, h2, h3⟩
    · rw [if_neg c, mem_piv]
      constructor
      · rintro ⟨b, h1, h2, h3⟩
        exact ⟨b, by omega, h2, h3⟩
      · rintro ⟨b, h1, h2, h3⟩
        by_cases e : b = k
        · subst e; exact absurd h2 c
        · exact ⟨b, by omega, h2, h3⟩
def cntB (has : Nat → Bool) (k : Nat) : Nat := ((List.range k).filter has).length
theorem cntB_succ (has : Nat → Bool) (k : Nat) : cntB has (k + 1) = cntB has k + if has k then 1 else 0 := by
  unfold cntB
  rw [List.range_succ, List.filter_append, List.length_append]
  cases e : has k <;> simp [e]
theorem piv_len {α : Type} (has : Nat → Bool) (row : Nat → α) : ∀ k : Nat, (piv has row k).length = cntB has k
  | 0 => rfl
  | k + 1 => by
    unfold piv
    rw [cntB_succ]
    by_cases c : has k = true
    · rw [if_pos c, if_pos c]; simp [piv_len has row k]
    · rw [if_neg c, if_neg c, piv_len has row k]; rfl
theorem piv_map {α β : Type} (f : α → β) (has : Nat → Bool) (row : Nat → α) : ∀ k : Nat, (piv has row k).map f = piv has (fun b => f (row b)) k
  | 0 => rfl
  | k + 1 => by
    unfold piv
    by_cases c : has k = true
    · rw [if_pos c, if_pos c, List.map_cons, piv_map f has row k]
    · rw [if_neg c, if_neg c, piv_map f has row k]
theorem cntB_le (has : Nat → Bool) (k : Nat) : cntB has k ≤ k := Nat.le_trans (List.length_filter_le _ _) (by simp)
theorem cntB_all {has : Nat → Bool} {k : Nat} : cntB has k = k ↔ ∀ b, b < k → has b = true := by
  induction k with
  | zero => simp [cntB]
  | succ k ih =>
    rw [cntB_succ]
    have := cntB_le has k
    constructor
    · intro h b hb
      have hk : has k = true := by
        cases e : has k with
        | true => rfl
        | false => rw [e] at h; simp at h; omega
      rw [hk] at h
      by_cases c : b = k
      · rw [c]; exact hk
      · exact ih.1 (by simp at h; omega) b (by omega)
    · intro h
      rw [h k (by omega), ih.2 (fun b hb => h b (by omega))]; rfl
/-- Each has its own place, and those ahead have not. -/
def Led (has : Nat → Bool) (row : Nat → Nat) (k : Nat) : Prop := ∀ b, b < k → has b = true → (row b).testBit b = true ∧ ∀ c, c < b → has c = true → (row c).testBit b = false
theorem piv_indep {has : Nat → Bool} {row : Nat → Nat} : ∀ {k : Nat}, Led has row k → Indep (piv has row k)
  | 0, _ => trivial
  | k + 1, h => by
    have ih := piv_indep (k := k) (fun b hb h1 => h b (by omega) h1)
    unfold piv
    by_cases c : has k = true
    · rw [if_pos c]
      refine ⟨ih, fun hs => ?_⟩
      obtain ⟨h1, h2⟩ := h k (by omega) c
      have := Sp.bit (b := k) (fun v hv => by
        obtain ⟨b, hb, hb2, rfl⟩ := mem_piv.1 hv
        exact h2 b hb hb2) hs
      rw [this] at h1; cases h1
    · rw [if_neg c]; exact ih
end Go.Proofs.YtjhflcgphejddaaGreatDoor

namespace Go.Proofs.YtjhflcgphejddaaGreatDoor
set_option linter.unusedVariables false
set_option maxRecDepth 100000
/-- A row: of which blocks it is, a bit each, and its bytes. -/
abbrev RV := Nat × (Nat → UInt8)
def XV : XG RV := ⟨fun a b => (a.1 ^^^ b.1, fun i => a.2 i ^^^ b.2 i), (0, fun _ => 0),
  fun a b c => by simp only [Nat.xor_assoc, UInt8.xor_assoc], fun a b => by simp only [Nat.xor_comm a.1, UInt8.xor_comm (a.2 _)], fun a => by simp only [Nat.xor_self, UInt8.xor_self], fun a => by simp only [Nat.zero_xor, UInt8.zero_xor]⟩
theorem XV_add (a b : RV) : XV.add a b = (a.1 ^^^ b.1, fun i => a.2 i ^^^ b.2 i) := rfl
theorem XV_fst (a b : RV) : (XV.add a b).1 = a.1 ^^^ b.1 := rfl
theorem Sp.fst {L : List RV} {m : Nat} : Sp XN (L.map Prod.fst) m ↔ ∃ x, Sp XV L (m, x) :=
  ⟨fun h => by
    obtain ⟨⟨a, x⟩, h1, h2⟩ := Sp.of_map (G := XV) (K := XN) Prod.fst rfl (fun _ _ => rfl) h
    exact ⟨x, by rw [← h2]; exact h1⟩, fun ⟨x, h⟩ => Sp.map (G := XV) (K := XN) Prod.fst rfl (fun _ _ => rfl) h⟩
/-- There are no blocks of which all are. -/
def Clash (L : List RV) : Prop := ∃ x, Sp XV L (0, x) ∧ x ≠ fun _ => 0
theorem one_of {L : List RV} (h : ¬ Clash L) {m : Nat} {x y : Nat → UInt8} (hx : Sp XV L (m, x)) (hy : Sp XV L (m, y)) : x = y := by
  have hs := Sp.add hx hy
  have e : XV.add (m, x) (m, y) = (0, fun i => x i ^^^ y i) := by rw [XV_add]; simp
  rw [e] at hs
  refine Classical.byContradiction fun hne => h ⟨_, hs, fun h0 => hne (funext fun i => ?_)⟩
  have := congrFun h0 i
  simpa using this
theorem Clash.congr {L M : List RV} (h : ∀ x, Sp XV L x ↔ Sp XV M x) : Clash L ↔ Clash M := by
  unfold Clash
  simp only [h]
theorem Led.at {has : Nat → Bool} {row : Nat → RV} {k : Nat} (hl : Led has (fun b => (row b).1) k) {m : Nat} (hm : m ≤ k) : Led has (fun b => (row b).1) m := fun b hb h1 => hl b (by omega) h1
theorem piv_none {has : Nat → Bool} {row : Nat → RV} : ∀ {k : Nat}, Led has (fun b => (row b).1) k → ∀ {x : Nat → UInt8}, Sp XV (piv has row k) (0, x) → x = fun _ => 0
  | 0, _, x, h => by
    have h : ((0, x) : RV) = (0, fun _ => 0) := h
    exact (Prod.mk.inj h).2
  | k + 1, hl, x, h => by
    have hl' := hl.at (m := k) (by omega)
    unfold piv at h
    by_cases c : has k = true
    · rw [if_pos c] at h
      rcases h with h | h
      · exact piv_none hl' h
      · exfalso
        obtain ⟨h1, h2⟩ := hl k (by omega) c
        have h3 : Sp XN ((piv has row k).map Prod.fst) (row k).1 := by
          refine Sp.fst.2 ⟨fun i => (row k).2 i ^^^ x i, ?_⟩
          have e : XV.add (row k) (0, x) = ((row k).1, fun i => (row k).2 i ^^^ x i) := by rw [XV_add]; simp
          rw [e] at h
          exact h
        rw [piv_map] at h3
        have := Sp.bit (b := k) (fun v hv => by
          obtain ⟨b, hb, hb2, rfl⟩ := mem_piv.1 hv
          exact h2 b hb hb2) h3
        have h1' : (row k).1.testBit k = true := h1
        rw [this] at h1'; cases h1'
    · rw [if_neg c] at h
      exact piv_none hl' h
/-- What a clearing leaves: rows that each have a place of their own, and rows of no place. -/
structure Cleared (L : List RV) (k : Nat) (has : Nat → Bool) (row : Nat → RV) (ov : List (Nat → UInt8)) : Prop where
  led : Led has (fun b => (row b).1) k
  span : ∀ x, Sp XV (piv has row k ++ ov.map fun o => (0, o)) x ↔ Sp XV L x
theorem Cleared.clash {L : List RV} {k : Nat} {has : Nat → Bool} {row : Nat → RV} {ov : List (Nat → UInt8)} (h : Cleared L k has row ov) : Clash L ↔ ∃ o ∈ ov, o ≠ fun _ => 0 := by
  rw [← Clash.congr h.span]
  constructor
  · rintro ⟨x, hx, hne⟩
    refine Classical.byContradiction fun hno => hne (piv_none h.led (x := x) (Sp.sub (fun v hv => ?_) hx))
    rcases List.mem_append.1 hv with hv | hv
    · exact Sp.mem hv
    · obtain ⟨o, ho, rfl⟩ := List.mem_map.1 hv
      have e : o = fun _ => 0 := Classical.byContradiction fun hc => hno ⟨o, ho, hc⟩
      rw [e]; exact Sp.zero XV _
  · rintro ⟨o, ho, hne⟩
    exact ⟨o, Sp.mem (List.mem_append_right _ (List.mem_map.2 ⟨o, ho, rfl⟩)), hne⟩
theorem Cleared.dim {L : List RV} {k : Nat} {has : Nat → Bool} {row : Nat → RV} {ov : List (Nat → UInt8)} (h : Cleared L k has row ov) : Dim (Sp XN (L.map Prod.fst)) (cntB has k) := by
  refine ⟨piv has (fun b => (row b).1) k, piv_len _ _ _, piv_indep h.led, fun m => ?_⟩
  rw [← piv_map, Sp.fst, Sp.fst]
  constructor
  · rintro ⟨x, hx⟩
    exact ⟨x, (h.span _).1 (Sp.mono (fun _ h => List.mem_append_left _ h) hx)⟩
  · rintro ⟨x, hx⟩
    have hx := (h.span _).2 hx
    refine Sp.ind (G := XV) (C := fun v => ∃ x, Sp XV (piv has row k) (v.1, x)) ⟨_, Sp.zero XV _⟩ ?_ ?_ hx
    · rintro v u ⟨x, hx⟩ ⟨y, hy⟩
      have h9 := Sp.add hx hy
      exact ⟨_, h9⟩
    · intro v hv
      rcases List.mem_append.1 hv with hv | hv
      · exact ⟨v.2, Sp.mem hv⟩
      · obtain ⟨o, _, rfl⟩ := List.mem_map.1 hv
        exact ⟨_, Sp.zero XV _⟩
theorem Cleared.row {L : List RV} {k : Nat} {has : Nat → Bool} {row : Nat → RV} {ov : List (Nat → UInt8)} (h : Cleared L k has row ov) {x : RV} (hx : Sp XV (piv has row k) x) : Sp XV L x :=
  (h.span x).1 (Sp.mono (fun _ h => List.mem_append_left _ h) hx)

/-! Row by row, by the last place. -/
/-- Rows by their last places. -/
structure Table (L : List RV) (k : Nat) (has : Nat → Bool) (row : Nat → RV) (ov : List (Nat → UInt8)) : Prop where
  lt : ∀ p, has p = true → p < k
  top : ∀ p, has p = true → (row p).1.testBit p = true ∧ (row p).1 < 2 ^ (p + 1)
  span : ∀ x, Sp XV (piv has row k ++ ov.map fun o => (0, o)) x ↔ Sp XV L x
theorem bit_big {m p : Nat} (h : m < 2 ^ p) {q : Nat} (hq : p ≤ q) : m.testBit q = false := Nat.testBit_lt_two_pow (Nat.lt_of_lt_of_le h (Nat.pow_le_pow_right (by decide) hq))
theorem Table.cleared {L : List RV} {k : Nat} {has : Nat → Bool} {row : Nat → RV} {ov : List (Nat → UInt8)} (h : Table L k has row ov) : Cleared L k has row ov :=
  ⟨fun b hb h1 => ⟨(h.top b h1).1, fun c hc h2 => bit_big (h.top c h2).2 (by omega)⟩, h.span⟩
theorem table_none (k : Nat) (row : Nat → RV) : Table [] k (fun _ => false) row [] := by
  have e : ∀ k, piv (fun _ => false) row k = [] := fun k => List.eq_nil_iff_forall_not_mem.2 fun v hv => by
    obtain ⟨b, _, h, _⟩ := mem_piv.1 hv
    cases h
  exact ⟨fun p h => by simp at h, fun p h => by simp at h, fun x => by rw [e]; rfl⟩
theorem Table.over {L : List RV} {k : Nat} {has : Nat → Bool} {row : Nat → RV} {ov : List (Nat → UInt8)} (h : Table L k has row ov) {r : RV} {d : Nat → UInt8} (hr : Sp XV (piv has row k) (XV.add r (0, d))) : Table (L ++ [r]) k has row (ov ++ [d]) := by
  refine ⟨h.lt, h.top, fun x => Sp.same (fun v hv => ?_) (fun v hv => ?_) x⟩
  · rcases List.mem_append.1 hv with hv | hv
    · exact Sp.mono (fun _ h => List.mem_append_left _ h) ((h.span v).1 (Sp.mem (List.mem_append_left _ hv)))
    · rw [List.map_append] at hv
      rcases List.mem_append.1 hv with hv | hv
      · exact Sp.mono (fun _ h => List.mem_append_left _ h) ((h.span v).1 (Sp.mem (List.mem_append_right _ hv)))
      · obtain rfl : v = (0, d) := by simpa using hv
        have h1 : Sp XV (L ++ [r]) (XV.add r (0, d)) := Sp.mono (fun _ h => List.mem_append_left _ h) (h.cleared.row hr)
        have h2 := Sp.add (Sp.mem (G := XV) (L := L ++ [r]) (v := r) (by simp)) h1
        rwa [XV.twice] at h2
  · rcases List.mem_append.1 hv with hv | hv
    · refine Sp.mono (fun u hu => ?_) ((h.span v).2 (Sp.mem hv))
      rw [List.map_append]
      rcases List.mem_append.1 hu with hu | hu
      · exact List.mem_append_left _ hu
      · exact List.mem_append_right _ (List.mem_append_left _ hu)
    · obtain rfl : v = r := by simpa using hv
      have h1 : Sp XV (piv has row k ++ (ov ++ [d]).map fun o => (0, o)) (XV.add v (0, d)) := Sp.mono (fun _ h => List.mem_append_left _ h) hr
      have h2 := Sp.add h1 (Sp.mem (G := XV) (L := piv has row k ++ (ov ++ [d]).map fun o => (0, o)) (v := (0, d)) (by simp))
      rwa [XV.assoc, XV.self, XV.right] at h2
theorem Table.put {L : List RV} {k : Nat} {has has' : Nat → Bool} {row row' : Nat → RV} {ov : List (Nat → UInt8)} (h : Table L k has row ov) {r r' : RV} {p : Nat} (hr : Sp XV (piv has row k) (XV.add r r')) (hp : has p = false) (hpk : p < k) (ht : r'.1.testBit p = true ∧ r'.1 < 2 ^ (p + 1))
    (hh : ∀ q, has' q = if q = p then true else has q) (hw : ∀ q, row' q = if q = p then r' else row q) : Table (L ++ [r]) k has' row' ov := by
  have hold : ∀ v ∈ piv has row k, v ∈ piv has' row' k := fun v hv => by
    obtain ⟨b, h1, h2, h3⟩ := mem_piv.1 hv
    have hbp : b ≠ p := fun e => by rw [e, hp] at h2; cases h2
    exact mem_piv.2 ⟨b, h1, by rw [hh, if_neg hbp]; exact h2, by rw [hw, if_neg hbp]; exact h3⟩
  have hnew : r' ∈ piv has' row' k := mem_piv.2 ⟨p, hpk, by rw [hh, if_pos rfl], by rw [hw, if_pos rfl]⟩
  refine ⟨fun q hq => ?_, fun q hq => ?_, fun x => Sp.same (fun v hv => ?_) (fun v hv => ?_) x⟩
  · rw [hh] at hq
    by_cases c : q = p
    · omega
    · rw [if_neg c] at hq; exact h.lt q hq
  · rw [hh] at hq
    rw [hw]
    by_cases c : q = p
    · rw [if_pos c, c]; exact ht
    · rw [if_neg c] at hq ⊢; exact h.top q hq
  · rcases List.mem_append.1 hv with hv | hv
    · obtain ⟨b, h1, h2, h3⟩ := mem_piv.1 hv
      rw [hh] at h2
      rw [hw] at h3
      by_cases c : b = p
      · rw [if_pos c] at h3
        subst h3
        have h1 : Sp XV (L ++ [r]) (XV.add r r') := Sp.mono (fun _ h => List.mem_append_left _ h) (h.cleared.row hr)
        have h2 := Sp.add (Sp.mem (G := XV) (L := L ++ [r]) (v := r) (by simp)) h1
        rwa [XV.twice] at h2
      · rw [if_neg c] at h2 h3
        exact Sp.mono (fun _ h => List.mem_append_left _ h) (h.cleared.row (Sp.mem (mem_piv.2 ⟨b, h1, h2, h3⟩)))
    · exact Sp.mono (fun _ h => List.mem_append_left _ h) ((h.span v).1 (Sp.mem (List.mem_append_right _ hv)))
  · rcases List.mem_append.1 hv with hv | hv
    · refine Sp.mono (fun u hu => ?_) ((h.span v).2 (Sp.mem hv))
      rcases List.mem_append.1 hu with hu | hu
      · exact List.mem_append_left _ (hold u hu)
      · exact List.mem_append_right _ hu
    · obtain rfl : v = r := by simpa using hv
      have h1 : Sp XV (piv has' row' k ++ ov.map fun o => (0, o)) (XV.add v r') := Sp.mono (fun u hu => List.mem_append_left _ (hold u hu)) hr
      have h2 := Sp.add h1 (Sp.mem (G := XV) (L := piv has' row' k ++ ov.map fun o => (0, o)) (v := r') (List.mem_append_left _ hnew))
      rwa [XV.assoc, XV.self, XV.right] at h2

/-! Place by place, as the document clears. -/
structure Clr (L : List RV) (k N b : Nat) (R : Nat → RV) (at_ : Nat → Option Nat) (used : Nat → Bool) : Prop where
  span : ∀ x, Sp XV ((List.range N).map R) x ↔ Sp XV L x
  lt : ∀ i, i < N → (R i).1 < 2 ^ k
  found : ∀ c, c < b → ∀ i, at_ c = some i → i < N ∧ used i = true ∧ (R i).1.testBit c = true ∧ ∀ j, j < N → j ≠ i → (R j).1.testBit c = false
  lost : ∀ c, c < b → at_ c = none → ∀ i, i < N → used i = false → (R i).1.testBit c = false
  used : ∀ i, used i = true → ∃ c, c < b ∧ at_ c = some i
  apart : ∀ c d i, c < b → d < b → at_ c = some i → at_ d = some i → c = d
theorem clr_none {L : List RV} {k N : Nat} {R : Nat → RV} {at_ : Nat → Option Nat} {used : Nat → Bool} (hL : L = (List.range N).map R) (hlt : ∀ i, i < N → (R i).1 < 2 ^ k) (hu : ∀ i, used i = false) : Clr L k N 0 R at_ used :=
  ⟨fun x => by rw [hL], hlt, fun c hc => absurd hc (Nat.not_lt_zero _), fun c hc => absurd hc (Nat.not_lt_zero _), (fun i h => by rw [hu] at h; cases h), fun c d i hc => absurd hc (Nat.not_lt_zero _)⟩
theorem Clr.skip {L : List RV} {k N b : Nat} {R : Nat → RV} {at_ : Nat → Option Nat} {used : Nat → Bool} (h : Clr L k N b R at_ used) (ha : at_ b = none) (hno : ∀ i, i < N → used i = false → (R i).1.testBit b = false) : Clr L k N (b + 1) R at_ used := by
  refine ⟨h.span, h.lt, fun c hc i hi => ?_, fun c hc hn => ?_, fun i hi => ?_, fun c d i hc hd h1 h2 => ?_⟩
  · by_cases e : c = b
    · subst e; rw [ha] at hi; cases hi
    · exact h.found c (by omega) i hi
  · by_cases e : c = b
    · subst e; exact hno
    · exact h.lost c (by omega) hn
  · obtain ⟨c, hc, hc2⟩ := h.used i hi
    exact ⟨c, by omega, hc2⟩
  · by_cases e : c = b
    · subst e; rw [ha] at h1; cases h1
    · by_cases e2 : d = b
      · subst e2; rw [ha] at h2; cases h2
      · exact h.apart c d i (by omega) (by omega) h1 h2
theorem Clr.take {L : List RV} {k N b : Nat} {R R' : Nat → RV} {at_ at' : Nat → Option Nat} {used used' : Nat → Bool} (h : Clr L k N b R at_ used) {i : Nat} (hi : i < N) (hb : (R i).1.testBit b = true) (hu : used i = false)
    (hR : ∀ j, j < N → R' j = if j ≠ i ∧ (R j).1.testBit b = true then XV.add (R j) (R i) else R j) (ha : ∀ c, at' c = if c = b then some i else at_ c) (hus : ∀ j, used' j = if j = i then true else used j) : Clr L k N (b + 1) R' at' used' := by
  have hRi : R' i = R i := by rw [hR i hi, if_neg (by simp)]
  have hlow : ∀ c, c < b → (R i).1.testBit c = false := fun c hc => by
    cases e : at_ c with
    | none => exact h.lost c hc e i hi hu
    | some j =>
      obtain ⟨_, h2, _, h4⟩ := h.found c hc j e
      exact h4 i hi (fun e2 => by rw [← e2, hu] at h2; cases h2)
  have hbit : ∀ j, j < N → ∀ c, c < b → (R' j).1.testBit c = (R j).1.testBit c := fun j hj c hc => by
    rw [hR j hj]
    by_cases q : j ≠ i ∧ (R j).1.testBit b = true
    · rw [if_pos q, XV_fst, Nat.testBit_xor, hlow c hc]; simp
    · rw [if_neg q]
  refine ⟨fun x => ?_, fun j hj => ?_, fun c hc j hj => ?_, fun c hc hn j hj hju => ?_, fun j hj => ?_, fun c d j hc hd h1 h2 => ?_⟩
  · rw [← h.span x]
    have hi2 : Sp XV ((List.range N).map R') (R i) := Sp.mem (List.mem_map.2 ⟨i, List.mem_range.2 hi, hRi⟩)
    refine Sp.same (fun v hv => ?_) (fun v hv => ?_) x
    · obtain ⟨j, hj, rfl⟩ := List.mem_map.1 hv
      have hj := List.mem_range.1 hj
      have hj2 : Sp XV ((List.range N).map R) (R j) := Sp.mem (List.mem_map.2 ⟨j, List.mem_range.2 hj, rfl⟩)
      rw [hR j hj]
      by_cases q : j ≠ i ∧ (R j).1.testBit b = true
      · rw [if_pos q]; exact Sp.add hj2 (Sp.mem (List.mem_map.2 ⟨i, List.mem_range.2 hi, rfl⟩))
      · rw [if_neg q]; exact hj2
    · obtain ⟨j, hj, rfl⟩ := List.mem_map.1 hv
      have hj := List.mem_range.1 hj
      have hj2 : Sp XV ((List.range N).map R') (R' j) := Sp.mem (List.mem_map.2 ⟨j, List.mem_range.2 hj, rfl⟩)
      by_cases q : j ≠ i ∧ (R j).1.testBit b = true
      · have h3 := Sp.add hj2 hi2
        rwa [hR j hj, if_pos q, XV.assoc, XV.self, XV.right] at h3
      · rwa [hR j hj, if_neg q] at hj2
  · rw [hR j hj]
    by_cases q : j ≠ i ∧ (R j).1.testBit b = true
    · rw [if_pos q, XV_fst]; exact Nat.xor_lt_two_pow (h.lt j hj) (h.lt i hi)
    · rw [if_neg q]; exact h.lt j hj
  · by_cases e : c = b
    · subst e
      rw [ha, if_pos rfl] at hj
      cases hj
      refine ⟨hi, by rw [hus, if_pos rfl], by rw [hRi]; exact hb, fun q hq hne => ?_⟩
      rw [hR q hq]
      by_cases z : q ≠ i ∧ (R q).1.testBit c = true
      · rw [if_pos z, XV_fst, Nat.testBit_xor, z.2, hb]; rfl
      · rw [if_neg z]
        cases e : (R q).1.testBit c with
        | false => rfl
        | true => exact absurd ⟨hne, e⟩ z
    · rw [ha, if_neg e] at hj
      obtain ⟨h1, h2, h3, h4⟩ := h.found c (by omega) j hj
      refine ⟨h1, ?_, by rw [hbit j h1 c (by omega)]; exact h3, fun q hq hne => by rw [hbit q hq c (by omega)]; exact h4 q hq hne⟩
      rw [hus]; split
      · rfl
      · exact h2
  · by_cases e : c = b
    · subst e; rw [ha, if_pos rfl] at hn; cases hn
    · rw [ha, if_neg e] at hn
      rw [hus] at hju
      by_cases q : j = i
      · rw [if_pos q] at hju; cases hju
      · rw [if_neg q] at hju
        rw [hbit j hj c (by omega)]
        exact h.lost c (by omega) hn j hj hju
  · rw [hus] at hj
    by_cases q : j = i
    · exact ⟨b, by omega, by rw [ha, if_pos rfl, q]⟩
    · rw [if_neg q] at hj
      obtain ⟨c, hc, hc2⟩ := h.used j hj
      exact ⟨c, by omega, by rw [ha, if_neg (by omega)]; exact hc2⟩
  · have key : ∀ c, c < b → at_ c ≠ some i := fun c hc e => by
      have := (h.found c hc i e).2.1
      rw [hu] at this; cases this
    rw [ha] at h1 h2
    by_cases e : c = b
    · by_cases e2 : d = b
      · omega
      · rw [if_pos e] at h1
        rw [if_neg e2] at h2
        cases h1
        exact absurd h2 (key d (by omega))
    · by_cases e2 : d = b
      · rw [if_neg e] at h1
        rw [if_pos e2] at h2
        cases h2
        exact absurd h1 (key c (by omega))
      · rw [if_neg e] at h1
        rw [if_neg e2] at h2
        exact h.apart c d j (by omega) (by omega) h1 h2
theorem no_bits {m k : Nat} (hm : m < 2 ^ k) (h : ∀ c, c < k → m.testBit c = false) : m = 0 := Nat.eq_of_testBit_eq fun c => by
  rw [Nat.zero_testBit]
  rcases Nat.lt_or_ge c k with hc | hc
  · exact h c hc
  · exact bit_big hm hc
theorem Clr.rest {L : List RV} {k N : Nat} {R : Nat → RV} {at_ : Nat → Option Nat} {used : Nat → Bool} (h : Clr L k N k R at_ used) {i : Nat} (hi : i < N) (hu : used i = false) : (R i).1 = 0 := no_bits (h.lt i hi) fun c hc => by
  cases e : at_ c with
  | none => exact h.lost c hc e i hi hu
  | some j =>
    obtain ⟨_, h2, _, h4⟩ := h.found c hc j e
    exact h4 i hi (fun e2 => by rw [← e2, hu] at h2; cases h2)
theorem Clr.cleared {L : List RV} {k N : Nat} {R : Nat → RV} {at_ : Nat → Option Nat} {used : Nat → Bool} (h : Clr L k N k R at_ used) : Cleared L k (fun b => (at_ b).isSome) (fun b => R ((at_ b).getD 0)) (((List.range N).filter fun i => decide ((R i).1 = 0)).map fun i => (R i).2) := by
  refine ⟨fun b hb h1 => ?_, fun x => ?_⟩
  · obtain ⟨i, hi⟩ := Option.isSome_iff_exists.1 h1
    obtain ⟨h2, h3, h4, h5⟩ := h.found b hb i hi
    refine ⟨by simp only [hi, Option.getD_some]; exact h4, fun c hc h6 => ?_⟩
    obtain ⟨j, hj⟩ := Option.isSome_iff_exists.1 h6
    simp only [hj, Option.getD_some]
    refine h5 j (h.found c (by omega) j hj).1 fun e => ?_
    subst e
    have := h.apart c b j (by omega) hb hj hi
    omega
  · rw [← h.span x]
    refine Sp.same (fun v hv => ?_) (fun v hv => ?_) x
    · rcases List.mem_append.1 hv with hv | hv
      · obtain ⟨b, hb, h1, rfl⟩ := mem_piv.1 hv
        obtain ⟨i, hi⟩ := Option.isSome_iff_exists.1 h1
        simp only [hi, Option.getD_some]
        exact Sp.mem (List.mem_map.2 ⟨i, List.mem_range.2 (h.found b hb i hi).1, rfl⟩)
      · obtain ⟨o, ho, rfl⟩ := List.mem_map.1 hv
        obtain ⟨i, hi, rfl⟩ := List.mem_map.1 ho
        obtain ⟨h1, h2⟩ := List.mem_filter.1 hi
        have e : ((0, (R i).2) : RV) = R i := Prod.ext (of_decide_eq_true h2).symm rfl
        rw [e]
        exact Sp.mem (List.mem_map.2 ⟨i, h1, rfl⟩)
    · obtain ⟨i, hi, rfl⟩ := List.mem_map.1 hv
      have hi := List.mem_range.1 hi
      cases hu : used i with
      | true =>
        obtain ⟨c, hc, hc2⟩ := h.used i hu
        exact Sp.mem (List.mem_append_left _ (mem_piv.2 ⟨c, hc, by simp [hc2], by simp [hc2]⟩))
      | false =>
        have h0 := h.rest hi hu
        refine Sp.mem (List.mem_append_right _ (List.mem_map.2 ⟨(R i).2, List.mem_map.2 ⟨i, List.mem_filter.2 ⟨List.mem_range.2 hi, decide_eq_true h0⟩, rfl⟩, ?_⟩))
        exact Prod.ext h0.symm rfl
/-- Where each place has a row, that is of it alone. -/
theorem Clr.alone {L : List RV} {k N : Nat} {R : Nat → RV} {at_ : Nat → Option Nat} {used : Nat → Bool} (h : Clr L k N k R at_ used) (hall : ∀ b, b < k → at_ b ≠ none) {b i : Nat} (hb : b < k) (hi : at_ b = some i) : (R i).1 = 2 ^ b := Nat.eq_of_testBit_eq fun c => by
  rw [Nat.testBit_two_pow]
  obtain ⟨h1, h2, h3, h4⟩ := h.found b hb i hi
  by_cases e : b = c
  · subst e; simp [h3]
  · rw [decide_eq_false e]
    rcases Nat.lt_or_ge c k with hc | hc
    · cases e2 : at_ c with
      | none => exact absurd e2 (hall c hc)
      | some j =>
        refine (h.found c hc j e2).2.2.2 i h1 fun e3 => ?_
        subst e3
        exact e (h.apart b c i hb hc hi e2)
    · exact bit_big (h.lt i h1) hc
end Go.Proofs.YtjhflcgphejddaaGreatDoor

namespace Go.Proofs.YtjhflcgphejddaaGreatDoor
open Go.RowKit
set_option linter.unusedVariables false
set_option maxRecDepth 100000

/-- n bytes 0. -/
def zerosB (n : Nat) : ByteArray := ⟨(List.replicate n 0).toArray⟩
theorem zerosB_size (n : Nat) : (zerosB n).size = n := by rw [Lib.size_eq, zerosB, List.toList_toArray, List.length_replicate]
theorem zerosB_succ (n : Nat) : zerosB n ++ ⟨#[0]⟩ = zerosB (n + 1) := by
  apply ByteArray.ext
  rw [ByteArray.data_append, ← Array.toList_inj, Array.toList_append]
  simp [zerosB, List.replicate_succ']
end Go.Proofs.YtjhflcgphejddaaGreatDoor

namespace Go.Proofs.YtjhflcgphejddaaGreatDoor
open Go.RowKit
set_option linter.unusedVariables false
set_option maxRecDepth 100000

theorem zerosB_at (n i : Nat) : atB (zerosB n) i = 0 := by
  rw [atB, zerosB, List.toList_toArray, List.getD, List.getElem?_replicate]; split <;> rfl
end Go.Proofs.YtjhflcgphejddaaGreatDoor

namespace Go.Proofs.YtjhflcgphejddaaGreatDoor
open Go.RowKit
set_option linter.unusedVariables false
set_option maxRecDepth 100000

theorem atB_out (s : ByteArray) (i : Nat) (h : s.size ≤ i) : atB s i = 0 := by
  unfold atB
  rw [Lib.size_eq] at h
  simp [List.getD, List.getElem?_eq_none h]
/-- A row of a set of places and of bytes. -/
def rv (m : Nat) (d : ByteArray) : RV := (m, atB d)
theorem rv_xor {m n : Nat} {d e : ByteArray} (h : e.size = d.size) : rv (m ^^^ n) (xorB d e) = XV.add (rv m d) (rv n e) := by
  refine Prod.ext rfl (funext fun i => ?_)
  show atB (xorB d e) i = atB d i ^^^ atB e i
  rcases Nat.lt_or_ge i d.size with hi | hi
  · exact xorB_at _ _ _ hi
  · rw [atB_out _ _ (by rw [xorB_size]; exact hi), atB_out _ _ hi, atB_out _ _ (by rw [h]; exact hi)]; rfl
theorem bytes_fun {d e : ByteArray} (h : d.size = e.size) (h2 : atB d = atB e) : d = e := bytes_ext h (fun i _ => congrFun h2 i)
theorem zero_iff {d : ByteArray} {n : Nat} (h : d.size = n) : d = zerosB n ↔ atB d = fun _ => 0 := by
  constructor
  · intro e; rw [e]; exact funext fun i => zerosB_at n i
  · intro e; exact bytes_fun (by rw [h, zerosB_size]) (by rw [e]; exact (funext fun i => zerosB_at n i).symm)

/-- A list of places as a number. -/
def maskL (s : List Nat) : Nat := s.foldl (fun m p => m ||| 2 ^ p) 0
theorem mask_from (j : Nat) : ∀ (s : List Nat) (m : Nat), (s.foldl (fun m p => m ||| 2 ^ p) m).testBit j = (m.testBit j || decide (j ∈ s))
  | [], m => by simp
  | p :: s, m => by
    show (s.foldl (fun m p => m ||| 2 ^ p) (m ||| 2 ^ p)).testBit j = _
    rw [mask_from j s, Nat.testBit_or, Nat.testBit_two_pow]
    by_cases c : j = p
    · subst c; simp
    · have c' : ¬ p = j := fun e => c e.symm
      simp [c, c']
theorem maskL_bit (s : List Nat) (j : Nat) : (maskL s).testBit j = decide (j ∈ s) := by unfold maskL; rw [mask_from]; simp
theorem maskL_snoc (s : List Nat) (p : Nat) : maskL (s ++ [p]) = maskL s ||| 2 ^ p := by simp [maskL, List.foldl_append]
theorem lt_of_bits {m k : Nat} (h : ∀ j, k ≤ j → m.testBit j = false) : m < 2 ^ k := by
  refine Nat.lt_of_not_le fun hle => ?_
  obtain ⟨i, hi, hb⟩ := Nat.exists_ge_and_testBit_of_ge_two_pow hle
  rw [h i hi] at hb; cases hb
theorem maskL_lt {s : List Nat} {k : Nat} (h : ∀ p ∈ s, p < k) : maskL s < 2 ^ k := lt_of_bits fun j hj => by
  rw [maskL_bit]; exact decide_eq_false fun hm => by have := h j hm; omega
theorem bit_at {m p : Nat} (h1 : 2 ^ p ≤ m) (h2 : m < 2 ^ (p + 1)) : m.testBit p = true := by
  rw [Nat.testBit_eq_decide_div_mod_eq]
  have e : m / 2 ^ p = 1 := by
    rw [Nat.pow_succ] at h2
    exact Nat.div_eq_of_lt_le (by omega) (by omega)
  rw [e]; rfl
theorem lt_no_top {m p : Nat} (h : m < 2 ^ (p + 1)) (hb : m.testBit p = false) : m < 2 ^ p := lt_of_bits fun j hj => by
  by_cases e : j = p
  · rw [e]; exact hb
  · exact bit_big h (by omega)
/-- The last place of a set. -/
theorem top_of {m : Nat} (h0 : m ≠ 0) (h : m < 2 ^ 64) : ∃ p, Lib.bitLen m = p + 1 ∧ m.testBit p = true ∧ m < 2 ^ (p + 1) := by
  suffices ∃ p, Lib.bitLen m = p + 1 ∧ 2 ^ p ≤ m ∧ m < 2 ^ (p + 1) by
    obtain ⟨p, h1, h2, h3⟩ := this
    exact ⟨p, h1, bit_at h2 h3, h3⟩
  induction m using Nat.strongRecOn with
  | ind m ih =>
    by_cases h1 : m = 1
    · subst h1; exact ⟨0, by decide +kernel, by decide, by decide⟩
    · obtain ⟨p, e, l, u⟩ := ih (m / 2) (by omega) (by omega) (by omega)
      refine ⟨p + 1, by rw [Lib.bitLen_half m h0 h, e]; omega, ?_, ?_⟩
      · rw [Nat.pow_succ]; omega
      · rw [Nat.pow_succ]; omega
theorem top_lt {m p k : Nat} (h : m < 2 ^ k) (hb : m.testBit p = true) : p < k := by
  rcases Nat.lt_or_ge p k with h1 | h1
  · exact h1
  · rw [bit_big h h1] at hb; cases hb
/-- Over one of the same last place it is less. -/
theorem xor_less {m n p : Nat} (h1 : m.testBit p = true) (h2 : m < 2 ^ (p + 1)) (h3 : n.testBit p = true) (h4 : n < 2 ^ (p + 1)) : m ^^^ n < m := by
  have hx : m ^^^ n < 2 ^ p := lt_no_top (Nat.xor_lt_two_pow h2 h4) (by rw [Nat.testBit_xor, h1, h3]; rfl)
  have hm : 2 ^ p ≤ m := Nat.ge_two_pow_of_testBit h1
  omega
/-- The rows of the first drops, i of them. -/
noncomputable def rowsD (k : Nat) (s : Nat → Nat) (d : Nat → ByteArray) (i : Nat) : List RV := (List.range i).map fun j => rv (maskL (setL k (s j))) (d j)
theorem rowsD_succ (k : Nat) (s : Nat → Nat) (d : Nat → ByteArray) (i : Nat) : rowsD k s d (i + 1) = rowsD k s d i ++ [rv (maskL (setL k (s i))) (d i)] := by unfold rowsD; rw [List.range_succ, List.map_append]; rfl
theorem setL_mask {k seed : Nat} (hk : 1 ≤ k) (h1 : 1 ≤ seed) : maskL (setL k seed) < 2 ^ k := maskL_lt fun p hp => setL_lt hk h1 hp
end Go.Proofs.YtjhflcgphejddaaGreatDoor
