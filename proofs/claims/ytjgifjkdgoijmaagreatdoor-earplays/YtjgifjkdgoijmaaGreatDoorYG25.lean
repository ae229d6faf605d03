/-
  Lemmas for the law above, joined into one text (PIm0I, EarNew, NdN, EarR, Top). No statement is proved here.
-/
import Derived.Test.YtjgifjkdgoijmaaGreatDoorYPMore
import Derived.Test.YtjgifjkdgoijmaaGreatDoorYG6
import Derived.Test.YtjgifjkdgoijmaaGreatDoorYG16
import Derived.Test.YtjgifjkdgoijmaaGreatDoorYG9
import Derived.Test.YtjgifjkdgoijmaaGreatDoorYG12
import Derived.Deep.RegionHeld3
import Derived.Test.YtjgifjkdgoijmaaGreatDoorYG0
import Derived.ProofKit
import Derived.OpenShut
import Derived.ShutString
namespace Go.Proofs.YtjgifjkdgoijmaaGreatDoor
open Go.RowKit Go.Maps
set_option linter.unusedVariables false
set_option maxRecDepth 100000

theorem newW_below (w : World) (k z : Nat) : Below w.heap.size w (newW w k z) := (((Below.refl _ w).alloc (Nat.le_refl _) _).alloc (by simp) _).alloc (by simp; omega) _
theorem newW_pq (w : World) (k z : Nat) (h1 : 1 ≤ k) (h2 : k ≤ 16) (h3 : 1 ≤ z) (h4 : z ≤ 8) : PQ (newW w k z) (w.heap.size + 2) w.heap.size (w.heap.size + 1) k z p0 [] (.slice none 0 0) [] := by
  have hs1 : (w.alloc (.map #[] 0)).heap.size = w.heap.size + 1 := by simp
  have hs2 : ((w.alloc (.map #[] 0)).alloc (.map #[] 0)).heap.size = w.heap.size + 2 := by simp
  have hh := (MapKept.heap_alloc ((w.alloc (.map #[] 0)).alloc (.map #[] 0)) (.cells #[.int .i64 k, .int .i64 z, .map (some w.heap.size), .map (some (w.heap.size + 1)), .slice none 0 0] 114)).1
  rw [hs2] at hh
  have hcell : ∀ i, (newW w k z).cell? ⟨w.heap.size + 2, i, none⟩ = (#[.int .i64 k, .int .i64 z, .map (some w.heap.size), .map (some (w.heap.size + 1)), .slice none 0 0] : Array Value)[i]? := fun i => cell_of_row _ _ i _ 114 (0, 0) hh
  have hf : ∀ i, (newW w k z).frozen? ⟨w.heap.size + 2, i, none⟩ = false := fun i => by unfold newW; simp only [World.frozen?, hh]; simp
  have hm := ((mset_made w).alloc (.map #[] 0)).alloc (.cells #[.int .i64 k, .int .i64 z, .map (some w.heap.size), .map (some (w.heap.size + 1)), .slice none 0 0] 114)
  have hk := (mkn_made (w.alloc (.map #[] 0)) k p0.B).below ((Below.refl _ _).alloc (Nat.le_refl _) (.cells #[.int .i64 k, .int .i64 z, .map (some w.heap.size), .map (some (w.heap.size + 1)), .slice none 0 0] 114))
  rw [hs1] at hk
  refine ⟨by rw [hcell]; rfl, by rw [hcell]; rfl, by rw [hcell]; rfl, by rw [hcell]; rfl, by rw [hcell]; rfl, hf 4, ⟨_, hm⟩, ⟨_, hk⟩, World.ownsRow_nil _ _ _ _, rfl, fun x hx => absurd hx (by simp), ⟨fun d hd => absurd hd (by simp [p0]), (fun r hr => by cases hr)⟩, ⟨by simp [p0], by simp⟩, (fun r hr => by cases hr), ⟨h1, h2⟩, ⟨h3, h4⟩, by omega, by omega, by omega, (fun i e => by cases e), fun x hx => absurd hx (by simp)⟩

/-- Its blocks, as they are read off the memory. -/
def FB (w : World) (b i : Nat) : Prop := i = b ∨ w.cell? ⟨b, 2, none⟩ = some (.map (some i)) ∨ w.cell? ⟨b, 3, none⟩ = some (.map (some i)) ∨ ∃ g n c, w.cell? ⟨b, 4, none⟩ = some (.slice (some ⟨g, 0, none⟩) n c) ∧ (i = g ∨ ∃ j n' c', j < n ∧ w.cell? ⟨g, j * 2, none⟩ = some (.slice (some ⟨i, 0, none⟩) n' c'))
theorem PQ.foot {w : World} {b tb kb k z : Nat} {p : PS} {T : List Nat} {vW : Value} {X : List Wtr} (h : PQ w b tb kb k z p T vW X) (i : Nat) : FB w b i ↔ PF b tb kb vW X i := by
  obtain ⟨a, cap, hv, h1, h2, h3, h4⟩ := own_wtrs h.row
  constructor
  · rintro (e | e | e | ⟨g, n, c, e, e2⟩)
    · exact Or.inl e
    · rw [h.ct] at e; injection e with e; injection e with e; injection e with e
      exact Or.inr (Or.inl e.symm)
    · rw [h.cn] at e; injection e with e; injection e with e; injection e with e
      exact Or.inr (Or.inr (Or.inl e.symm))
    · rw [h.cw] at e; injection e with e
      rcases e2 with rfl | ⟨j, n', c', hj, e2⟩
      · exact Or.inr (Or.inr (Or.inr (Or.inl (by rw [e]; rfl))))
      · rw [hv] at e
        injection e with ea en ec
        subst en
        rw [(h4 g ea j hj).1] at e2
        injection e2 with e2; injection e2 with e2; injection e2 with e2; injection e2 with e2
        exact Or.inr (Or.inr (Or.inr (Or.inr ⟨wAt X j, wAt_mem hj, e2.symm⟩)))
  · rintro (e | e | e | e | ⟨x, hx, e⟩)
    · exact Or.inl e
    · exact Or.inr (Or.inl (by rw [h.ct, e]))
    · exact Or.inr (Or.inr (Or.inl (by rw [h.cn, e])))
    · rcases h.row.2 with ⟨hv', _⟩ | ⟨g, cap', cur, hv', _⟩
      · rw [hv'] at e; cases e
      · rw [hv'] at e
        cases e
        exact Or.inr (Or.inr (Or.inr ⟨g, _, _, by rw [h.cw, hv'], Or.inl rfl⟩))
    · obtain ⟨j, hj, ej⟩ := List.getElem_of_mem hx
      obtain ⟨g, ha⟩ := h3 (by omega)
      have e2 : wAt X j = x := by rw [← ej]; simp [wAt, List.getD, hj]
      refine Or.inr (Or.inr (Or.inr ⟨g, X.length, cap, by rw [h.cw, hv, ha], Or.inr ⟨j, x.n, x.c, hj, ?_⟩⟩))
      rw [(h4 g ha j hj).1, e2, e]

/-- The state of a Peeler; its blocks. -/
def PStt (w : World) (v : Value) (k z : Nat) (p : PS) (T : List Nat) : Prop := ∃ b tb kb vW X, v = .pointer (some ⟨b, 0, none⟩) ∧ PQ w b tb kb k z p T vW X
def PFoot (w : World) (v : Value) (i : Nat) : Prop := ∃ b, v = .pointer (some ⟨b, 0, none⟩) ∧ FB w b i
theorem pfoot {w : World} {b tb kb k z : Nat} {p : PS} {T : List Nat} {vW : Value} {X : List Wtr} (h : PQ w b tb kb k z p T vW X) (i : Nat) : PFoot w (.pointer (some ⟨b, 0, none⟩)) i ↔ PF b tb kb vW X i := by
  rw [← h.foot i]
  constructor
  · rintro ⟨b', e, hf⟩
    injection e with e; injection e with e; injection e with e
    subst e; exact hf
  · exact fun hf => ⟨b, rfl, hf⟩
theorem pkeep {w w' : World} {b tb kb k z : Nat} {p : PS} {T : List Nat} {vW : Value} {X : List Wtr} (h : PQ w b tb kb k z p T vW X) (hb : ∀ i, PFoot w (.pointer (some ⟨b, 0, none⟩)) i → w'.heap[i]? = w.heap[i]?) : PQ w' b tb kb k z p T vW X := h.keep fun i hi => hb i ((pfoot h i).2 hi)

def peelI0 : PIm0 where
  St := PStt
  foot := PFoot
  foot_lt := by
    rintro w v k z p T ⟨b, tb, kb, vW, X, rfl, h⟩ i hi
    exact h.flt i ((pfoot h i).1 hi)
  keep := by
    rintro w w' v k z p T ⟨b, tb, kb, vW, X, rfl, h⟩ hs hb
    have h' := pkeep h hb
    exact ⟨⟨b, tb, kb, vW, X, rfl, h'⟩, fun i hi => (pfoot h i).2 ((pfoot h' i).1 hi)⟩
  new_ok := by
    intro k z w h1 h2 h3 h4
    refine (new_walk k z w h1 h2 h3 h4).mono ?_
    rintro e w' ⟨rfl, rfl⟩
    have hq := newW_pq w k z h1 h2 h3 h4
    refine ⟨_, rfl, ⟨_, _, _, _, _, rfl, hq⟩, fun i hi => ?_, newW_below w k z⟩
    rcases (pfoot hq i).1 hi with e | e | e | e | ⟨x, hx, _⟩
    · omega
    · omega
    · omega
    · cases e
    · cases hx
  new_range := by
    intro k z w h
    refine (new_range' k z w h).mono ?_
    rintro e w' ⟨rfl, hb⟩
    exact ⟨_, rfl, hb⟩
  take_bad := by
    rintro w v k z p T ⟨b, tb, kb, vW, X, rfl, h⟩ seed data hd ht
    have fin : ∀ x : Int, tF k z T seed data.size = x → (Calls Tryz.prog 57 #[.pointer (some ⟨b, 0, none⟩), dropV seed data] w fun e w' => e = .returned (.tuple #[.slice none 0 0, .iface 64 (.int .i64 x)]) ∧ Below w.heap.size w w') →
        Calls Tryz.prog 57 #[.pointer (some ⟨b, 0, none⟩), dropV seed data] w fun e w' => ∃ vs, e = .returned (.tuple #[vs, .iface 64 (.int .i64 (tF k z T seed data.size))]) ∧ Lsh w' vs [] ∧ PStt w' (.pointer (some ⟨b, 0, none⟩)) k z p T ∧ Kept (PFoot w (.pointer (some ⟨b, 0, none⟩))) w w' ∧ ∀ i, PFoot w' (.pointer (some ⟨b, 0, none⟩)) i → PFoot w (.pointer (some ⟨b, 0, none⟩)) i ∨ w.heap.size ≤ i := fun x hx hC => by
      refine hC.mono ?_
      rintro e w' ⟨rfl, hb⟩
      have h' := h.below hb
      exact ⟨.slice none 0 0, by rw [hx], ⟨none, 0, rfl, Nat.le_refl _, by unfold maxLen; omega, fun h => absurd h (by simp)⟩, ⟨b, tb, kb, vW, X, rfl, h'⟩, (Kept.refl _ w).below hb, fun i hi => Or.inl ((pfoot h i).2 ((pfoot h' i).1 hi))⟩
    by_cases hf : fD k z seed data.size = 0
    · have hok := fD_ok hf
      obtain ⟨n, rfl⟩ := Int.eq_ofNat_of_zero_le (show 0 ≤ seed by have := hok.1.2.2; omega)
      by_cases hm : n ∈ T
      · exact fin 7 (by unfold tF; rw [if_neg (by simp [hf]), if_pos (by simpa using hm)]) (take_clash b tb kb k z p T vW X n data w h hf hm)
      · by_cases h60 : 60 ≤ T.length
        · exact fin 4 (by unfold tF; rw [if_neg (by simp [hf]), if_neg (by simpa using hm), if_pos h60]) (take_full b tb kb k z p T vW X n data w h hf hm h60)
        · exact absurd (by unfold tF; rw [if_neg (by simp [hf]), if_neg (by simpa using hm), if_neg h60]) ht
    · exact fin _ (by unfold tF; rw [if_pos hf]) (take_check b tb kb k z p T vW X seed data w h hf)
  take_ok := by
    rintro w v k z p T ⟨b, tb, kb, vW, X, rfl, h⟩ seed data ht
    have hf : fD k z (seed : Int) data.size = 0 := by
      by_cases c : fD k z (seed : Int) data.size = 0
      · exact c
      · unfold tF at ht; rw [if_pos c] at ht; exact ht
    unfold tF at ht
    rw [if_neg (by simp [hf])] at ht
    have hm : seed ∉ T := fun hm => by rw [if_pos (by simpa using hm)] at ht; cases ht
    rw [if_neg (by simpa using hm)] at ht
    have h60 : T.length < 60 := by
      rcases Nat.lt_or_ge T.length 60 with h | h
      · exact h
      · rw [if_pos h] at ht; cases ht
    refine (take_walk b tb kb k z p T vW X seed data w h hf hm h60).mono ?_
    rintro e w' ⟨v, q, vW', X', rfl, hp, hl, hq, hk, hfo⟩
    exact ⟨v, q, rfl, hp, hl, ⟨b, tb, kb, vW', X', rfl, hq⟩, hk.wider fun i hi => (pfoot h i).2 hi, fun i hi => (hfo i ((pfoot hq i).1 hi)).imp (fun e => (pfoot h i).2 e) id⟩
  knows_ok := by
    rintro w v k z p T ⟨b, tb, kb, vW, X, rfl, h⟩
    exact knows_walk b tb kb k z p T vW X w h
end Go.Proofs.YtjgifjkdgoijmaaGreatDoor

namespace Go.Proofs.YtjgifjkdgoijmaaGreatDoor
open Go.RowKit Go.Maps
set_option linter.unusedVariables false
set_option maxRecDepth 100000

theorem makes_far (k z : Nat) (n : Int) (w : World) (hn : n < 0 ∨ 120 < n) :
    Calls Tryz.prog 23 #[.int .i64 k, .int .i64 z, .int .i64 n] w fun e w' => e = .returned (.bool false) ∧ w = w' := by
  by_cases h : n < 0
  · clear hn
    go_enter Tryz.func23, Tryz.ntmps23
    go_wp2
    go_ret
    exact ⟨rfl, rfl⟩
  · have h2 : 120 < n := by omega
    clear hn
    go_enter Tryz.func23, Tryz.ntmps23
    go_wp2
    go_ret
    exact ⟨rfl, rfl⟩
set_option maxHeartbeats 1000000 in
theorem makes_in (k z n : Nat) (w : World) (hk : k ≤ 16) (h1 : 1 ≤ z) (h8 : z ≤ 8) (hn : n ≤ 120) :
    Calls Tryz.prog 23 #[.int .i64 k, .int .i64 z, .int .i64 n] w fun e w' => e = .returned (.bool (decide (cntN n z = k))) ∧ Below w.heap.size w w' := by
  have R := hide (fun w => repeat_one 0 n w (by omega))
  have e1 : ¬ (n : Int) < 0 := by omega
  have e2 : ¬ (120 : Int) < (n : Int) := by omega
  generalize hr : decide (cntN n z = k) = r
  have HR := hide hr
  clear hr
  go_enter Tryz.func23, Tryz.ntmps23
  go_wp2_with fail
  refine (R.out _).mono ?_
  rintro e w1 ⟨s, rfl, hs, hb1⟩
  have HB1 := hide hb1
  clear hb1 R
  by_cases hc : 16 < cntN n z
  · have S := hide (split_many s z w1 (by omega) h1 h8 (by rw [hs]; exact hc))
    obtain rfl : r = false := HR.out.symm.trans (decide_eq_false (by omega))
    clear hs hc HR
    go_wp2_with fail
    refine (S.out).mono ?_
    rintro e w2 ⟨rfl, rfl⟩
    go_wp2
    go_ret
    exact ⟨rfl, HB1.out⟩
  · have S := hide (split_ok s z w1 (by omega) h1 h8 (by rw [hs]; omega))
    rw [hs] at S
    have hc16 : cntN n z ≤ 16 := by omega
    have hq : ((cntN n z : Int) == (k : Int)) = r := by
      rw [← HR.out]
      by_cases e : cntN n z = k
      · rw [decide_eq_true e, e]; simp
      · rw [decide_eq_false e, beq_eq_false_iff_ne]; omega
    clear hs hc HR
    generalize cntN n z = m at *
    cases r with
    | true =>
      go_wp2_with fail
      refine (S.out).mono ?_
      rintro e w2 ⟨rfl, _, hb2⟩
      have HB2 := hide (below_two HB1.out hb2)
      clear hb2
      go_wp2
      go_ret
      exact ⟨by first | rfl | simp [hq], HB2.out⟩
    | false =>
      go_wp2_with fail
      refine (S.out).mono ?_
      rintro e w2 ⟨rfl, _, hb2⟩
      have HB2 := hide (below_two HB1.out hb2)
      clear hb2
      go_wp2
      go_ret
      exact ⟨by first | rfl | simp [hq], HB2.out⟩

/-- What an Ear may be made of. -/
def EMk (k z n : Int) : Prop := ((1 ≤ k ∧ k ≤ 16) ∧ 1 ≤ z ∧ z ≤ 8) ∧ (0 ≤ n ∧ n ≤ 120) ∧ ((cntN n.toNat z.toNat : Nat) : Int) = k
set_option maxHeartbeats 1000000 in
theorem enew_bad (k z n : Int) (w : World) (h : ¬ EMk k z n) :
    Calls Tryz.prog 5 #[.int .i64 k, .int .i64 z, .int .i64 n] w fun e w' => e = .returned (.tuple #[.pointer none, .iface 64 (.int .i64 1)]) ∧ Below w.heap.size w w' := by
  by_cases hkz : (1 ≤ k ∧ k ≤ 16) ∧ 1 ≤ z ∧ z ≤ 8
  · obtain ⟨k, rfl⟩ : ∃ q : Nat, k = (q : Nat) := ⟨k.toNat, by omega⟩
    obtain ⟨z, rfl⟩ : ∃ q : Nat, z = (q : Nat) := ⟨z.toNat, by omega⟩
    have N := hide (peelI0.new_ok k z w (by omega) (by omega) (by omega) (by omega))
    have MK : Hid (∀ W, Calls Tryz.prog 23 #[.int .i64 k, .int .i64 z, .int .i64 n] W fun e w' => e = .returned (.bool false) ∧ Below W.heap.size W w') := fun W => by
      by_cases hn : n < 0 ∨ 120 < n
      · exact (makes_far k z n W hn).mono fun e w' ⟨he, hw⟩ => ⟨he, hw ▸ Below.refl _ _⟩
      · obtain ⟨n, rfl⟩ : ∃ q : Nat, n = (q : Nat) := ⟨n.toNat, by omega⟩
        refine (makes_in k z n W (by omega) (by omega) (by omega) (by omega)).mono fun e w' ⟨he, hb⟩ => ⟨?_, hb⟩
        rw [he, decide_eq_false fun e9 => h ⟨hkz, by omega, by simp; omega⟩]
    clear h hkz
    go_enter Tryz.func5, Tryz.ntmps5
    go_wp2_with fail
    refine (N.out).mono ?_
    rintro e w1 ⟨v, rfl, hst, _, hb1⟩
    obtain ⟨bp, _, _, _, _, rfl, _⟩ := hst
    have HB1 := hide hb1
    clear hb1
    go_wp2_with fail
    refine (MK.out _).mono ?_
    rintro e w2 ⟨rfl, hb2⟩
    have HB2 := hide (below_two HB1.out hb2)
    clear hb2
    go_wp2
    go_ret2
    exact ⟨rfl, HB2.out⟩
  · have N := hide (new_range' k z w hkz)
    clear h hkz
    go_enter Tryz.func5, Tryz.ntmps5
    go_wp2_with fail
    refine (N.out).mono ?_
    rintro e w1 ⟨rfl, hb1⟩
    have HB1 := hide hb1
    clear hb1
    go_wp2
    go_ret2
    exact ⟨rfl, HB1.out⟩
theorem est_new {w w2 : World} {vP : Value} {k z n : Nat} (hb : Below w.heap.size w w2) (hst : peelI0.St w2 vP k z p0 []) (hf : ∀ i, peelI0.foot w2 vP i → w.heap.size ≤ i) (hk : (1 ≤ k ∧ k ≤ 16) ∧ 1 ≤ z ∧ z ≤ 8) (hn : n ≤ 120) (hc : cntN n z = k) :
    ESt peelI0 (w2.alloc (.cells #[vP, .int .i64 k, .int .i64 z, .int .i64 n, .int .i64 0, .slice none 0 0] 68)) (.pointer (some ⟨w2.heap.size, 0, none⟩)) k z n 0 [] (fun i => w.heap.size ≤ i ∧ i < w2.heap.size + 1) := by
  have ha : Below w2.heap.size w2 (w2.alloc (.cells #[vP, .int .i64 k, .int .i64 z, .int .i64 n, .int .i64 0, .slice none 0 0] 68)) := (Below.refl _ _).alloc (Nat.le_refl _) _
  have hh := (MapKept.heap_alloc w2 (.cells #[vP, .int .i64 k, .int .i64 z, .int .i64 n, .int .i64 0, .slice none 0 0] 68)).1
  have hcell : ∀ i, (w2.alloc (.cells #[vP, .int .i64 k, .int .i64 z, .int .i64 n, .int .i64 0, .slice none 0 0] 68)).cell? ⟨w2.heap.size, i, none⟩ = (#[vP, .int .i64 k, .int .i64 z, .int .i64 n, .int .i64 0, .slice none 0 0] : Array Value)[i]? := fun i => cell_of_row _ _ i _ 68 (0, 0) hh
  have hfr : ∀ i, (w2.alloc (.cells #[vP, .int .i64 k, .int .i64 z, .int .i64 n, .int .i64 0, .slice none 0 0] 68)).frozen? ⟨w2.heap.size, i, none⟩ = false := fun i => by simp only [World.frozen?, hh]; simp
  have h1 := peelI0.below hst ha
  have hsz : (w2.alloc (.cells #[vP, .int .i64 k, .int .i64 z, .int .i64 n, .int .i64 0, .slice none 0 0] 68)).heap.size = w2.heap.size + 1 := by simp
  have hle := hb.size
  refine ⟨w2.heap.size, vP, _, p0, rfl, ⟨by rw [hcell]; rfl, by rw [hcell]; rfl, by rw [hcell]; rfl, by rw [hcell]; rfl, by rw [hcell]; rfl, by rw [hcell]; rfl, hfr _, hfr _, h1.1, World.ownsRow_nil _ _ _ _, ⟨hle, by omega⟩, fun i hi => ?_, (fun i e => by cases e), fun i hi => by rw [hsz]; exact hi.2, fun hi => ?_, (fun e => by cases e), (fun i e => by cases e), Kept.refl _ _⟩, took_none _ _, ⟨hk.1, hk.2, hn, hc, by simp, (fun d hd => by cases hd), by simp [sds]⟩⟩
  · have h9 := h1.2 i hi
    exact Or.inl ⟨hf i h9, by have := peelI0.foot_lt hst i h9; omega⟩
  · have := peelI0.foot_lt hst _ (h1.2 _ hi); omega
set_option maxHeartbeats 1000000 in
theorem enew_ok (k z n : Nat) (w : World) (hk : (1 ≤ k ∧ k ≤ 16) ∧ 1 ≤ z ∧ z ≤ 8) (hn : n ≤ 120) (hc : cntN n z = k) :
    Calls Tryz.prog 5 #[.int .i64 k, .int .i64 z, .int .i64 n] w fun e w' => ∃ v M, e = .returned (.tuple #[v, .nilIface]) ∧ ESt peelI0 w' v k z n 0 [] M ∧ (∀ i, M i → w.heap.size ≤ i) ∧ Below w.heap.size w w' := by
  have N := hide (peelI0.new_ok k z w hk.1.1 hk.1.2 hk.2.1 hk.2.2)
  have MK := hide (fun W => makes_in k z n W hk.1.2 hk.2.1 hk.2.2 hn)
  have HC := hide hc
  have HK := hide hk
  rw [decide_eq_true hc] at MK
  clear hc hk
  go_enter Tryz.func5, Tryz.ntmps5
  go_wp2_with fail
  refine (N.out).mono ?_
  rintro e w1 ⟨v, rfl, hst, hf, hb1⟩
  have hst' := hst
  obtain ⟨bp, _, _, _, _, rfl, _⟩ := hst'
  have HB1 := hide hb1
  have HS := hide hst
  have HF := hide hf
  clear hb1 hst hf
  go_wp2_with fail
  refine (MK.out _).mono ?_
  rintro e w2 ⟨rfl, hb2⟩
  have HB2 := hide (below_two HB1.out hb2)
  have h2 := peelI0.below HS.out hb2
  have E := hide (est_new HB2.out h2.1 (fun i hi => HF.out i (h2.2 i hi)) HK.out hn HC.out)
  clear hb2 h2
  go_wp2
  go_ret2
  exact ⟨_, _, rfl, E.out, fun i hi => hi.1, HB2.out.alloc HB2.out.size _⟩
end Go.Proofs.YtjgifjkdgoijmaaGreatDoor

namespace Go.Proofs.YtjgifjkdgoijmaaGreatDoor
set_option linter.unusedVariables false
set_option maxRecDepth 100000

theorem take_snocN {L : List Nat} {j : Nat} (h : j < L.length) : L.take (j + 1) = L.take j ++ [L.getD j 0] := by rw [List.take_add_one]; simp [List.getD, h]
theorem dim_none : Dim (Sp XN []) 0 := ⟨[], rfl, trivial, fun x => Iff.rfl⟩
theorem dim_take (L : List Nat) : ∀ n, ∃ r, Dim (Sp XN (L.take n)) r
  | 0 => ⟨0, by rw [List.take_zero]; exact dim_none⟩
  | n + 1 => by
    obtain ⟨r, hr⟩ := dim_take L n
    rcases Nat.lt_or_ge n L.length with h | h
    · rw [take_snocN h]
      rcases hr.more (L.getD n 0) with ⟨h1, _⟩ | ⟨h1, _⟩
      · exact ⟨_, h1⟩
      · exact ⟨_, h1⟩
    · rw [List.take_of_length_le (by omega)]
      rw [List.take_of_length_le (by omega)] at hr
      exact ⟨r, hr⟩
theorem dim_ex (L : List Nat) : ∃ r, Dim (Sp XN L) r := by
  have h := dim_take L L.length
  rwa [List.take_length] at h
/-- The rank of a list of sets. -/
noncomputable def rkL (L : List Nat) : Nat := Classical.choose (dim_ex L)
theorem rkL_dim (L : List Nat) : Dim (Sp XN L) (rkL L) := Classical.choose_spec (dim_ex L)
theorem rkL_eq {L : List Nat} {r : Nat} (h : Dim (Sp XN L) r) : rkL L = r := (rkL_dim L).det h
theorem rkL_same {L M : List Nat} (h : ∀ x, Sp XN L x ↔ Sp XN M x) : rkL L = rkL M := rkL_eq ((rkL_dim M).congr fun x => (h x).symm)
theorem rkL_none : rkL [] = 0 := rkL_eq dim_none
theorem rkL_in {L : List Nat} {v : Nat} (h : Sp XN L v) : rkL (L ++ [v]) = rkL L := by
  rcases (rkL_dim L).more v with ⟨h1, _⟩ | ⟨_, h2⟩
  · exact rkL_eq h1
  · exact absurd h h2
theorem rkL_out {L : List Nat} {v : Nat} (h : ¬ Sp XN L v) : rkL (L ++ [v]) = rkL L + 1 := by
  rcases (rkL_dim L).more v with ⟨_, h2⟩ | ⟨h1, _⟩
  · exact absurd h2 h
  · exact rkL_eq h1
theorem rkL_more (L : List Nat) (v : Nat) : rkL L ≤ rkL (L ++ [v]) ∧ rkL (L ++ [v]) ≤ rkL L + 1 := by
  by_cases h : Sp XN L v
  · rw [rkL_in h]; omega
  · rw [rkL_out h]; omega
theorem rkL_app (L : List Nat) : ∀ M : List Nat, rkL L ≤ rkL (L ++ M) ∧ rkL (L ++ M) ≤ rkL L + M.length
  | M => by
    suffices ∀ n, rkL L ≤ rkL (L ++ M.take n) ∧ rkL (L ++ M.take n) ≤ rkL L + (M.take n).length by
      have h := this M.length
      rwa [List.take_length] at h
    intro n
    induction n with
    | zero => rw [List.take_zero, List.append_nil]; simp
    | succ n ih =>
      rcases Nat.lt_or_ge n M.length with h | h
      · have h9 := rkL_more (L ++ M.take n) (M.getD n 0)
        rw [List.append_assoc, ← take_snocN h] at h9
        have e1 : (M.take (n + 1)).length = n + 1 := by rw [List.length_take]; omega
        have e2 : (M.take n).length = n := by rw [List.length_take]; omega
        omega
      · rw [List.take_of_length_le (by omega)]
        rw [List.take_of_length_le (by omega)] at ih
        exact ih
theorem rkL_le (M : List Nat) : rkL M ≤ M.length := by
  have h := rkL_app [] M
  rw [rkL_none, List.nil_append] at h
  omega

/-- The first i of some sets. -/
def preL (M : Nat → Nat) (i : Nat) : List Nat := (List.range i).map M
theorem preL_zero (M : Nat → Nat) : preL M 0 = [] := rfl
theorem preL_succ (M : Nat → Nat) (i : Nat) : preL M (i + 1) = preL M i ++ [M i] := by unfold preL; rw [List.range_succ, List.map_append]; rfl
theorem preL_len (M : Nat → Nat) (i : Nat) : (preL M i).length = i := by simp [preL]
theorem preL_congr {M M' : Nat → Nat} {i : Nat} (h : ∀ j, j < i → M j = M' j) : preL M i = preL M' i := List.map_congr_left fun j hj => h j (List.mem_range.1 hj)
theorem mem_preL {M : Nat → Nat} {i v : Nat} : v ∈ preL M i ↔ ∃ j, j < i ∧ M j = v := by simp [preL]
/-- Which of the first n of some sets raise the rank of a list and of those ahead. -/
noncomputable def upL (L : List Nat) (M : Nat → Nat) (n : Nat) : List Nat := (List.range n).filter fun i => decide (rkL (L ++ preL M i) < rkL (L ++ preL M (i + 1)))
theorem upL_zero (L : List Nat) (M : Nat → Nat) : upL L M 0 = [] := rfl
theorem upL_succ (L : List Nat) (M : Nat → Nat) (n : Nat) : upL L M (n + 1) = upL L M n ++ if rkL (L ++ preL M n) < rkL (L ++ preL M (n + 1)) then [n] else [] := by
  unfold upL
  rw [List.range_succ, List.filter_append]
  by_cases h : rkL (L ++ preL M n) < rkL (L ++ preL M (n + 1))
  · rw [if_pos h]; simp [h]
  · rw [if_neg h]; simp [h]
theorem upL_in {L : List Nat} {M : Nat → Nat} {n : Nat} (h : Sp XN (L ++ preL M n) (M n)) : upL L M (n + 1) = upL L M n := by
  rw [upL_succ, if_neg, List.append_nil]
  rw [preL_succ, ← List.append_assoc, rkL_in h]; omega
theorem upL_out {L : List Nat} {M : Nat → Nat} {n : Nat} (h : ¬ Sp XN (L ++ preL M n) (M n)) : upL L M (n + 1) = upL L M n ++ [n] := by
  rw [upL_succ, if_pos]
  rw [preL_succ, ← List.append_assoc, rkL_out h]; omega
theorem upL_lt {L : List Nat} {M : Nat → Nat} {n x : Nat} (h : x ∈ upL L M n) : x < n := List.mem_range.1 (List.mem_filter.1 h).1
theorem upL_len (L : List Nat) (M : Nat → Nat) : ∀ n, (upL L M n).length + rkL L = rkL (L ++ preL M n)
  | 0 => by rw [upL_zero, preL_zero, List.append_nil]; simp
  | n + 1 => by
    have ih := upL_len L M n
    by_cases h : Sp XN (L ++ preL M n) (M n)
    · rw [upL_in h, preL_succ, ← List.append_assoc, rkL_in h]; exact ih
    · rw [upL_out h, preL_succ, ← List.append_assoc, rkL_out h, List.length_append]; simp; omega
theorem upL_le (L : List Nat) (M : Nat → Nat) (n : Nat) : (upL L M n).length ≤ n := by
  have h := List.length_filter_le (fun i => decide (rkL (L ++ preL M i) < rkL (L ++ preL M (i + 1)))) (List.range n)
  rw [List.length_range] at h
  exact h
/-- They make all that all of them make. -/
theorem upL_span (L : List Nat) (M : Nat → Nat) : ∀ n x, Sp XN (L ++ (upL L M n).map M) x ↔ Sp XN (L ++ preL M n) x
  | 0, x => by rw [upL_zero, preL_zero]; rfl
  | n + 1, x => by
    have ih := upL_span L M n
    have hup : ∀ A B : List Nat, (∀ x, Sp XN A x ↔ Sp XN B x) → ∀ v x, Sp XN (A ++ [v]) x ↔ Sp XN (B ++ [v]) x := fun A B h v x => Sp.same (fun u hu => by
      rcases List.mem_append.1 hu with hu | hu
      · exact Sp.mono (fun _ h => List.mem_append_left _ h) ((h u).1 (Sp.mem hu))
      · exact Sp.mem (List.mem_append_right _ hu)) (fun u hu => by
      rcases List.mem_append.1 hu with hu | hu
      · exact Sp.mono (fun _ h => List.mem_append_left _ h) ((h u).2 (Sp.mem hu))
      · exact Sp.mem (List.mem_append_right _ hu)) x
    by_cases h : Sp XN (L ++ preL M n) (M n)
    · rw [upL_in h, ih, preL_succ, ← List.append_assoc]
      exact Sp.same (fun u hu => Sp.mem (List.mem_append_left _ hu)) (fun u hu => by
        rcases List.mem_append.1 hu with hu | hu
        · exact Sp.mem hu
        · rw [List.mem_singleton.1 hu]; exact h) x
    · rw [upL_out h, preL_succ, List.map_append, ← List.append_assoc, ← List.append_assoc]
      exact hup _ _ ih _ x
theorem upL_getD {L : List Nat} {M : Nat → Nat} {n k : Nat} (h : k < (upL L M n).length) : (upL L M n).getD k 0 < n := upL_lt (L := L) (M := M) (by simp [List.getD, h])

/-- The first that are enough. -/
theorem first_at (M : Nat → Nat) {k : Nat} (hk : 1 ≤ k) : ∀ n, k ≤ (upL [] M n).length → ∃ p, (upL [] M n).getD (k - 1) 0 = p ∧ p < n ∧ rkL (preL M (p + 1)) = k ∧ rkL (preL M p) < k
  | 0, h => by rw [upL_zero] at h; simp at h; omega
  | n + 1, h => by
    have hl := upL_len [] M n
    rw [rkL_none, List.nil_append] at hl
    by_cases c : k ≤ (upL [] M n).length
    · obtain ⟨p, h1, h2, h3, h4⟩ := first_at M hk n c
      refine ⟨p, ?_, by omega, h3, h4⟩
      rw [← h1, upL_succ]
      simp [List.getD, List.getElem?_append_left (show k - 1 < (upL [] M n).length by omega)]
    · have hin : ¬ Sp XN ([] ++ preL M n) (M n) := fun hin => c (by rw [upL_in hin] at h; exact h)
      rw [upL_out hin, List.length_append] at h
      simp only [List.length_singleton] at h
      have e : (upL [] M n).length = k - 1 := by omega
      refine ⟨n, ?_, by omega, ?_, by omega⟩
      · rw [upL_out hin]
        simp [List.getD, e]
      · rw [List.nil_append] at hin
        rw [preL_succ, rkL_out hin]; omega
theorem rk_mono (M : Nat → Nat) {i j : Nat} (h : i ≤ j) : rkL (preL M i) ≤ rkL (preL M j) := by
  induction j with
  | zero => have : i = 0 := by omega
            rw [this]; exact Nat.le_refl _
  | succ j ih =>
    by_cases e : i = j + 1
    · rw [e]; exact Nat.le_refl _
    · have h1 := ih (by omega)
      have h2 := (rkL_more (preL M j) (M j)).1
      rw [← preL_succ] at h2
      omega

/-! Each block alone. -/
def unit (b : Nat) : Nat := 2 ^ b
theorem units_span {L : List Nat} {k : Nat} (hL : ∀ v ∈ L, v < 2 ^ k) : rkL (L ++ preL unit k) = k := by
  refine rkL_eq ⟨piv (fun _ => true) unit k, by rw [piv_len, cntB_all.2 (fun _ _ => rfl)], piv_indep (fun b _ _ => ⟨by unfold unit; rw [Nat.testBit_two_pow]; simp, fun c hc _ => by unfold unit; rw [Nat.testBit_two_pow]; exact decide_eq_false (by omega)⟩), fun x => ?_⟩
  have hall : ∀ (n m : Nat), n ≤ k → m < 2 ^ n → Sp XN (piv (fun _ => true) unit k) m := by
    intro n
    induction n with
    | zero => intro m _ h; obtain rfl : m = 0 := by simpa using h
              exact Sp.zero XN _
    | succ n ih =>
      intro m hn hm
      by_cases c : m.testBit n = true
      · have h1 : m ^^^ 2 ^ n < 2 ^ n := lt_no_top (Nat.xor_lt_two_pow hm (Nat.pow_lt_pow_right (by decide) (by omega))) (by rw [Nat.testBit_xor, c, Nat.testBit_two_pow]; simp)
        have h2 := ih _ (by omega) h1
        have h3 : Sp XN (piv (fun _ => true) unit k) (2 ^ n) := Sp.mem (mem_piv.2 ⟨n, by omega, rfl, rfl⟩)
        have h4 := Sp.add h2 h3
        have e : XN.add (m ^^^ 2 ^ n) (2 ^ n) = m := by
          show m ^^^ 2 ^ n ^^^ 2 ^ n = m
          rw [Nat.xor_assoc, Nat.xor_self, Nat.xor_zero]
        rwa [e] at h4
      · exact ih m (by omega) (lt_no_top hm (by simpa using c))
  refine Sp.same (fun v hv => ?_) (fun v hv => ?_) x
  · obtain ⟨b, hb, _, rfl⟩ := mem_piv.1 hv
    exact Sp.mem (List.mem_append_right _ (mem_preL.2 ⟨b, hb, rfl⟩))
  · rcases List.mem_append.1 hv with hv | hv
    · exact hall k v (Nat.le_refl _) (hL v hv)
    · obtain ⟨b, hb, rfl⟩ := mem_preL.1 hv
      exact Sp.mem (mem_piv.2 ⟨b, hb, rfl, rfl⟩)
theorem lack_len {L : List Nat} {k : Nat} (hL : ∀ v ∈ L, v < 2 ^ k) : (upL L unit k).length + rkL L = k := by rw [upL_len, units_span hL]
theorem rk_le {L : List Nat} {k : Nat} (hL : ∀ v ∈ L, v < 2 ^ k) : rkL L ≤ k := by have := lack_len hL; omega
/-- With all that lack it is enough. -/
theorem lack_fills {L : List Nat} {k : Nat} (hL : ∀ v ∈ L, v < 2 ^ k) : rkL (L ++ (upL L unit k).map unit) = k := by rw [rkL_same (upL_span L unit k), units_span hL]
end Go.Proofs.YtjgifjkdgoijmaaGreatDoor

namespace Go.Proofs.YtjgifjkdgoijmaaGreatDoor
open Go.RowKit Go.Maps
set_option linter.unusedVariables false
set_option maxRecDepth 100000

/-- The sets of some seeds, as numbers. -/
noncomputable def mS (k : Nat) (A : List Nat) : List Nat := A.map fun x => maskL (setL k x)
theorem masks_getD (k : Nat) (A : List Nat) : masksD k (fun i => A.getD i 0) A.length = mS k A := by
  unfold masksD mS
  apply List.ext_getElem
  · simp
  · intro i h1 h2
    simp at h1
    simp [h1]
theorem mS_lt {k : Nat} {A : List Nat} (hk : 1 ≤ k) (hA : ∀ x ∈ A, 1 ≤ x) : ∀ v ∈ mS k A, v < 2 ^ k := fun v hv => by
  obtain ⟨x, hx, rfl⟩ := List.mem_map.1 hv
  exact setL_mask hk (hA x hx)
theorem mS_app (k : Nat) (A B : List Nat) : mS k (A ++ B) = mS k A ++ mS k B := List.map_append
theorem FOk.seeds {k z n : Nat} {F : List Drp} (h : FOk k z n F) : ∀ x ∈ sds F, 1 ≤ x ∧ x ≤ 10000 := fun x hx => by
  obtain ⟨d, hd, rfl⟩ := List.mem_map.1 hx
  exact ⟨(h.good d hd).1, (h.good d hd).2.1⟩
theorem sds_len (F : List Drp) : (sds F).length = F.length := by simp [sds]
/-- The rank that is told of seeds. -/
theorem rank_list' (k : Nat) (v : Value) (A : List Nat) (w : World) (hv : IntsAt w v A.length (fun i => ((A.getD i 0 : Nat) : Int))) (h : A.length ≤ 60) (hk : 1 ≤ k ∧ k ≤ 16) (hs : ∀ x ∈ A, 1 ≤ x ∧ x ≤ 10000) :
    Calls Tryz.prog 14 #[.int .i64 k, v] w fun e w' => e = .returned (.tuple #[.int .i64 (rkL (mS k A) : Nat), .nilIface]) ∧ Below w.heap.size w w' := by
  refine (rank_ok k v A.length (fun i => A.getD i 0) w hv h hk.1 hk.2 (fun j hj => hs _ (by simp [List.getD, hj]))).mono fun e w' ⟨r, he, hd, _, hb⟩ => ⟨?_, hb⟩
  rw [masks_getD] at hd
  rw [he, rkL_eq hd]
set_option maxHeartbeats 2000000 in
theorem done_ok {I : PIm0} {w : World} {v : Value} {k z n : Nat} {dr : Int} {F : List Drp} {M : Nat → Prop} (h : ESt I w v k z n dr F M) :
    Calls Tryz.prog 8 #[v] w fun e w' => e = .returned (.bool (decide (rkL (mS k (sds F)) = k))) ∧ Below w.heap.size w w' := by
  obtain ⟨b, vP, vF, p, rfl, hE, hT, hO⟩ := h
  have SD := hide (fun W (hb : Below w.heap.size w W) => seeds_ok (hE.below hb) hO)
  have RK := hide (fun v1 W (hv : IntsAt W v1 F.length (fun i => (((sds F).getD i 0 : Nat) : Int))) => rank_list' k v1 (sds F) W (by rw [sds_len]; exact hv) (by rw [sds_len]; exact hO.few) hO.nk hO.seeds)
  have hck := hE.ck
  have hbl := hE.blt
  obtain ⟨r, hr⟩ : ∃ r, decide (rkL (mS k (sds F)) = k) = r := ⟨_, rfl⟩
  rw [hr]
  have hq : ((rkL (mS k (sds F)) : Int) == (k : Int)) = r := by
    rw [← hr]
    by_cases e : rkL (mS k (sds F)) = k
    · rw [decide_eq_true e, e]; simp
    · rw [decide_eq_false e, beq_eq_false_iff_ne]; omega
  clear hE hT hO hr
  generalize rkL (mS k (sds F)) = m at *
  go_enter Tryz.func8, Tryz.ntmps8
  go_wp2_with fail
  go_region_held3 (fun w' => w'.cell? ⟨b, 1, none⟩ = some (.int .i64 k)) (first | go_keep | exact hck1 | exact hck2)
    (first | (go_at_call 31; refine (SD.out w.drew ⟨rfl, rfl, rfl, Nat.le_refl _, fun _ _ => rfl⟩).mono ?_; rintro e w1 ⟨v1, rfl, hv1, hb1⟩; have HB1 : Hid (Below w.heap.size w w1) := ⟨hb1.os, hb1.tape, hb1.output, hb1.size, hb1.block⟩; have hck1 := cell_below HB1.out hck) | (go_at_call 14; refine (RK.out _ _ hv1).mono ?_; rintro e w2 ⟨rfl, hb2⟩; have HB2 := hide (below_two HB1.out hb2); have hck2 := cell_below hb2 hck1))
  cases r with
  | true =>
    go_wp2
    go_ret
    exact ⟨by first | rfl | simp [hq], HB2.out⟩
  | false =>
    go_wp2
    go_ret
    exact ⟨by first | rfl | simp [hq], HB2.out⟩
end Go.Proofs.YtjgifjkdgoijmaaGreatDoor

namespace Go.Proofs.YtjgifjkdgoijmaaGreatDoor
open Go.ChangeShapes Go.WideShapes Go.ChangeAt Go.RowKit
open Go.ChangeMaps (open_string shut_string)
set_option linter.unusedVariables false
set_option maxRecDepth 100000

theorem own : ownKnob Tryz.prog.godebug = none := by kernel_rfl
theorem laidOut : laidOutB Tryz.prog = true := by kernel_rfl

theorem trodAll_below {H : Type} {enc : TypeId × Value → H} {W W' : World} (hb : Below W.heap.size W W') : ∀ (ts : List TypeId) (vs : List Value) (ds : List (DataW H)) (p : List MemPlace),
    (∀ t ∈ ts, Tryz.prog.readableRec t = true ∧ t < Tryz.prog.types.size) → DataW.TrodAll enc Tryz.prog W 0 (fun _ => true) true ts vs ds p → (∀ x ∈ p, x.block < W.heap.size) →
    DataW.TrodAll enc Tryz.prog W' 0 (fun b => decide (b < W.heap.size)) true ts vs ds p
  | [], _, _, _, _, h, _ => by
    obtain ⟨rfl, rfl, rfl⟩ := trodAll_nil h
    exact trodAll_mk0
  | t :: ts, _, _, _, ht, h, hlt => by
    obtain ⟨v, vs, d, ds, p, q, rfl, rfl, rfl, h1, h2⟩ := trodAll_cons h
    have hx := ht t (by simp)
    exact trodAll_cons_mk (Below.trod laidOut hx.1 hx.2 h1 hb (fun x hx => hlt x (by simp [hx]))) (trodAll_below hb ts vs ds q (fun t' h' => ht t' (by simp [h'])) h2 (fun x hx => hlt x (by simp [hx])))
end Go.Proofs.YtjgifjkdgoijmaaGreatDoor
