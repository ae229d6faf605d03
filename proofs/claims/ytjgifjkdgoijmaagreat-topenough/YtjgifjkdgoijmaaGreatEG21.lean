/-
  Lemmas for the law above, joined into one text (PIm0I, EarNew, IRow). No statement is proved here.
-/
import Derived.Test.YtjgifjkdgoijmaaGreatEPMore
import Derived.Test.YtjgifjkdgoijmaaGreatEG10
import Derived.Test.YtjgifjkdgoijmaaGreatEG0
namespace Go.Proofs.YtjgifjkdgoijmaaGreat
open Go.RowKit Go.Maps
set_option linter.unusedVariables false
set_option maxRecDepth 100000

theorem newW_below (w : World) (k z : Nat) : Below w.heap.size w (newW w k z) := (((Below.refl _ w).alloc (Nat.le_refl _) _).alloc (by simp) _).alloc (by simp; omega) _
theorem newW_pq (w : World) (k z : Nat) (h1 : 1 ≤ k) (h2 : k ≤ 16) (h3 : 1 ≤ z) (h4 : z ≤ 8) : PQ (newW w k z) (w.heap.size + 2) w.heap.size (w.heap.size + 1) k z p0 [] (.slice none 0 0) [] := by
  have hs1 : (w.alloc (.map #[] 0)).heap.size = w.heap.size + 1 := by simp
  have hs2 : ((w.alloc (.map #[] 0)).alloc (.map #[] 0)).heap.size = w.heap.size + 2 := by simp
  have hh := (MapKept.heap_alloc ((w.alloc (.map #[] 0)).alloc (.map #[] 0)) (.cells #[.int .i64 k, .int .i64 z, .map (some w.heap.size), .map (some (w.heap.size + 1)), .slice none 0 0] 91)).1
  rw [hs2] at hh
  have hcell : ∀ i, (newW w k z).cell? ⟨w.heap.size + 2, i, none⟩ = (#[.int .i64 k, .int .i64 z, .map (some w.heap.size), .map (some (w.heap.size + 1)), .slice none 0 0] : Array Value)[i]? := fun i => cell_of_row _ _ i _ 91 (0, 0) hh
  have hf : ∀ i, (newW w k z).frozen? ⟨w.heap.size + 2, i, none⟩ = false := fun i => by unfold newW; simp only [World.frozen?, hh]; simp
  have hm := ((mset_made w).alloc (.map #[] 0)).alloc (.cells #[.int .i64 k, .int .i64 z, .map (some w.heap.size), .map (some (w.heap.size + 1)), .slice none 0 0] 91)
  have hk := (mkn_made (w.alloc (.map #[] 0)) k p0.B).below ((Below.refl _ _).alloc (Nat.le_refl _) (.cells #[.int .i64 k, .int .i64 z, .map (some w.heap.size), .map (some (w.heap.size + 1)), .slice none 0 0] 91))
  rw [hs1] at hk
  refine ⟨by rw [hcell]; rfl, by rw [hcell]; rfl, by rw [hcell]; rfl, by rw [hcell]; rfl, by rw [hcell]; rfl, hf 4, ⟨_, hm⟩, ⟨_, hk⟩, World.ownsRow_nil _ _ _ _, rfl, fun x hx => absurd hx (by simp), ⟨fun d hd => absurd hd (by simp [p0]), (fun r hr => by cases hr)⟩, ⟨by simp [p0], by simp⟩, (fun r hr => by cases hr), ⟨h1, h2⟩, ⟨h3, h4⟩, by omega, by omega, by omega, (fun i e => by cases e), fun x hx => absurd hx (by simp)⟩

/-- Its blocks, as they are read off the memory. -/
def FB (w : World) (b i : Nat) : Prop := i = b ∨ w.cell? ⟨b, 2, none⟩ = some (.map (some i)) ∨ w.cell? ⟨b, 3, none⟩ = some (.map (some i)) ∨ ∃ g n c, w.cell? ⟨b, 4, none⟩ = some (.slice (some ⟨g, 0, none⟩) n c) ∧ (i = g ∨ ∃ j n' c', j < n ∧ w.cell? ⟨g, j * 2, none⟩ = some (.slice (some ⟨i, 0, none⟩) n' c'))
theorem PQ.foot {w : World} {b tb kb k z : Nat} {p : PS} {T : List Nat} {vW : Value} {X : List Wtr} (h : PQ w b tb kb k z p T vW X) (i : Nat) : FB w b i ↔ PF b tb kb vW X i := by
  obtain ⟨a, cap, hv, h1, h2, h3, h4⟩ := own_wtrs h.row
  constructor
  · rintro (e | e | e | ⟨g, n, c, e, e2⟩)
    · exact Or.inl e
    · rw [h.ct] at e; injection e with e; injection e with e; injection e with e
      exact Or.inr (Or.inl e.symm)
    · rw [h.cn] at e; injection e with e; injection e with e; injection e with e
      exact Or.inr (Or.inr (Or.inl e.symm))
    · rw [h.cw] at e; injection e with e
      rcases e2 with rfl | ⟨j, n', c', hj, e2⟩
      · exact Or.inr (Or.inr (Or.inr (Or.inl (by rw [e]; rfl))))
      · rw [hv] at e
        injection e with ea en ec
        subst en
        rw [(h4 g ea j hj).1] at e2
        injection e2 with e2; injection e2 with e2; injection e2 with e2; injection e2 with e2
        exact Or.inr (Or.inr (Or.inr (Or.inr ⟨wAt X j, wAt_mem hj, e2.symm⟩)))
  · rintro (e | e | e | e | ⟨x, hx, e⟩)
    · exact Or.inl e
    · exact Or.inr (Or.inl (by rw [h.ct, e]))
    · exact Or.inr (Or.inr (Or.inl (by rw [h.cn, e])))
    · rcases h.row.2 with ⟨hv', _⟩ | ⟨g, cap', cur, hv', _⟩
      · rw [hv'] at e; cases e
      · rw [hv'] at e
        cases e
        exact Or.inr (Or.inr (Or.inr ⟨g, _, _, by rw [h.cw, hv'], Or.inl rfl⟩))
    · obtain ⟨j, hj, ej⟩ := List.getElem_of_mem hx
      obtain ⟨g, ha⟩ := h3 (by omega)
      have e2 : wAt X j = x := by rw [← ej]; simp [wAt, List.getD, hj]
      refine Or.inr (Or.inr (Or.inr ⟨g, X.length, cap, by rw [h.cw, hv, ha], Or.inr ⟨j, x.n, x.c, hj, ?_⟩⟩))
      rw [(h4 g ha j hj).1, e2, e]

/-- The state of a Peeler; its blocks. -/
def PStt (w : World) (v : Value) (k z : Nat) (p : PS) (T : List Nat) : Prop := ∃ b tb kb vW X, v = .pointer (some ⟨b, 0, none⟩) ∧ PQ w b tb kb k z p T vW X
def PFoot (w : World) (v : Value) (i : Nat) : Prop := ∃ b, v = .pointer (some ⟨b, 0, none⟩) ∧ FB w b i
theorem pfoot {w : World} {b tb kb k z : Nat} {p : PS} {T : List Nat} {vW : Value} {X : List Wtr} (h : PQ w b tb kb k z p T vW X) (i : Nat) : PFoot w (.pointer (some ⟨b, 0, none⟩)) i ↔ PF b tb kb vW X i := by
  rw [← h.foot i]
  constructor
  · rintro ⟨b', e, hf⟩
    injection e with e; injection e with e; injection e with e
    subst e; exact hf
  · exact fun hf => ⟨b, rfl, hf⟩
theorem pkeep {w w' : World} {b tb kb k z : Nat} {p : PS} {T : List Nat} {vW : Value} {X : List Wtr} (h : PQ w b tb kb k z p T vW X) (hb : ∀ i, PFoot w (.pointer (some ⟨b, 0, none⟩)) i → w'.heap[i]? = w.heap[i]?) : PQ w' b tb kb k z p T vW X := h.keep fun i hi => hb i ((pfoot h i).2 hi)

def peelI0 : PIm0 where
  St := PStt
  foot := PFoot
  foot_lt := by
    rintro w v k z p T ⟨b, tb, kb, vW, X, rfl, h⟩ i hi
    exact h.flt i ((pfoot h i).1 hi)
  keep := by
    rintro w w' v k z p T ⟨b, tb, kb, vW, X, rfl, h⟩ hs hb
    have h' := pkeep h hb
    exact ⟨⟨b, tb, kb, vW, X, rfl, h'⟩, fun i hi => (pfoot h i).2 ((pfoot h' i).1 hi)⟩
  new_ok := by
    intro k z w h1 h2 h3 h4
    refine (new_walk k z w h1 h2 h3 h4).mono ?_
    rintro e w' ⟨rfl, rfl⟩
    have hq := newW_pq w k z h1 h2 h3 h4
    refine ⟨_, rfl, ⟨_, _, _, _, _, rfl, hq⟩, fun i hi => ?_, newW_below w k z⟩
    rcases (pfoot hq i).1 hi with e | e | e | e | ⟨x, hx, _⟩
    · omega
    · omega
    · omega
    · cases e
    · cases hx
  new_range := by
    intro k z w h
    refine (new_range' k z w h).mono ?_
    rintro e w' ⟨rfl, hb⟩
    exact ⟨_, rfl, hb⟩
  take_bad := by
    rintro w v k z p T ⟨b, tb, kb, vW, X, rfl, h⟩ seed data hd ht
    have fin : ∀ x : Int, tF k z T seed data.size = x → (Calls Tryz.prog 60 #[.pointer (some ⟨b, 0, none⟩), dropV seed data] w fun e w' => e = .returned (.tuple #[.slice none 0 0, .iface 54 (.int .i64 x)]) ∧ Below w.heap.size w w') →
        Calls Tryz.prog 60 #[.pointer (some ⟨b, 0, none⟩), dropV seed data] w fun e w' => ∃ vs, e = .returned (.tuple #[vs, .iface 54 (.int .i64 (tF k z T seed data.size))]) ∧ Lsh w' vs [] ∧ PStt w' (.pointer (some ⟨b, 0, none⟩)) k z p T ∧ Kept (PFoot w (.pointer (some ⟨b, 0, none⟩))) w w' ∧ ∀ i, PFoot w' (.pointer (some ⟨b, 0, none⟩)) i → PFoot w (.pointer (some ⟨b, 0, none⟩)) i ∨ w.heap.size ≤ i := fun x hx hC => by
      refine hC.mono ?_
      rintro e w' ⟨rfl, hb⟩
      have h' := h.below hb
      exact ⟨.slice none 0 0, by rw [hx], ⟨none, 0, rfl, Nat.le_refl _, by unfold maxLen; omega, fun h => absurd h (by simp)⟩, ⟨b, tb, kb, vW, X, rfl, h'⟩, (Kept.refl _ w).below hb, fun i hi => Or.inl ((pfoot h i).2 ((pfoot h' i).1 hi))⟩
    by_cases hf : fD k z seed data.size = 0
    · have hok := fD_ok hf
      obtain ⟨n, rfl⟩ := Int.eq_ofNat_of_zero_le (show 0 ≤ seed by have := hok.1.2.2; omega)
      by_cases hm : n ∈ T
      · exact fin 7 (by unfold tF; rw [if_neg (by simp [hf]), if_pos (by simpa using hm)]) (take_clash b tb kb k z p T vW X n data w h hf hm)
      · by_cases h60 : 60 ≤ T.length
        · exact fin 4 (by unfold tF; rw [if_neg (by simp [hf]), if_neg (by simpa using hm), if_pos h60]) (take_full b tb kb k z p T vW X n data w h hf hm h60)
        · exact absurd (by unfold tF; rw [if_neg (by simp [hf]), if_neg (by simpa using hm), if_neg h60]) ht
    · exact fin _ (by unfold tF; rw [if_pos hf]) (take_check b tb kb k z p T vW X seed data w h hf)
  take_ok := by
    rintro w v k z p T ⟨b, tb, kb, vW, X, rfl, h⟩ seed data ht
    have hf : fD k z (seed : Int) data.size = 0 := by
      by_cases c : fD k z (seed : Int) data.size = 0
      · exact c
      · unfold tF at ht; rw [if_pos c] at ht; exact ht
    unfold tF at ht
    rw [if_neg (by simp [hf])] at ht
    have hm : seed ∉ T := fun hm => by rw [if_pos (by simpa using hm)] at ht; cases ht
    rw [if_neg (by simpa using hm)] at ht
    have h60 : T.length < 60 := by
      rcases Nat.lt_or_ge T.length 60 with h | h
      · exact h
      · rw [if_pos h] at ht; cases ht
    refine (take_walk b tb kb k z p T vW X seed data w h hf hm h60).mono ?_
    rintro e w' ⟨v, q, vW', X', rfl, hp, hl, hq, hk, hfo⟩
    exact ⟨v, q, rfl, hp, hl, ⟨b, tb, kb, vW', X', rfl, hq⟩, hk.wider fun i hi => (pfoot h i).2 hi, fun i hi => (hfo i ((pfoot hq i).1 hi)).imp (fun e => (pfoot h i).2 e) id⟩
  knows_ok := by
    rintro w v k z p T ⟨b, tb, kb, vW, X, rfl, h⟩
    exact knows_walk b tb kb k z p T vW X w h
end Go.Proofs.YtjgifjkdgoijmaaGreat

namespace Go.Proofs.YtjgifjkdgoijmaaGreat
open Go.RowKit Go.Maps
set_option linter.unusedVariables false
set_option maxRecDepth 100000

theorem makes_far (k z : Nat) (n : Int) (w : World) (hn : n < 0 ∨ 120 < n) :
    Calls Tryz.prog 27 #[.int .i64 k, .int .i64 z, .int .i64 n] w fun e w' => e = .returned (.bool false) ∧ w = w' := by
  by_cases h : n < 0
  · clear hn
    go_enter Tryz.func27, Tryz.ntmps27
    go_wp2
    go_ret
    exact ⟨rfl, rfl⟩
  · have h2 : 120 < n := by omega
    clear hn
    go_enter Tryz.func27, Tryz.ntmps27
    go_wp2
    go_ret
    exact ⟨rfl, rfl⟩
set_option maxHeartbeats 1000000 in
theorem makes_in (k z n : Nat) (w : World) (hk : k ≤ 16) (h1 : 1 ≤ z) (h8 : z ≤ 8) (hn : n ≤ 120) :
    Calls Tryz.prog 27 #[.int .i64 k, .int .i64 z, .int .i64 n] w fun e w' => e = .returned (.bool (decide (cntN n z = k))) ∧ Below w.heap.size w w' := by
  have R := hide (fun w => repeat_one 0 n w (by omega))
  have e1 : ¬ (n : Int) < 0 := by omega
  have e2 : ¬ (120 : Int) < (n : Int) := by omega
  generalize hr : decide (cntN n z = k) = r
  have HR := hide hr
  clear hr
  go_enter Tryz.func27, Tryz.ntmps27
  go_wp2_with fail
  refine (R.out _).mono ?_
  rintro e w1 ⟨s, rfl, hs, hb1⟩
  have HB1 := hide hb1
  clear hb1 R
  by_cases hc : 16 < cntN n z
  · have S := hide (split_many s z w1 (by omega) h1 h8 (by rw [hs]; exact hc))
    obtain rfl : r = false := HR.out.symm.trans (decide_eq_false (by omega))
    clear hs hc HR
    go_wp2_with fail
    refine (S.out).mono ?_
    rintro e w2 ⟨rfl, rfl⟩
    go_wp2
    go_ret
    exact ⟨rfl, HB1.out⟩
  · have S := hide (split_ok s z w1 (by omega) h1 h8 (by rw [hs]; omega))
    rw [hs] at S
    have hc16 : cntN n z ≤ 16 := by omega
    have hq : ((cntN n z : Int) == (k : Int)) = r := by
      rw [← HR.out]
      by_cases e : cntN n z = k
      · rw [decide_eq_true e, e]; simp
      · rw [decide_eq_false e, beq_eq_false_iff_ne]; omega
    clear hs hc HR
    generalize cntN n z = m at *
    cases r with
    | true =>
      go_wp2_with fail
      refine (S.out).mono ?_
      rintro e w2 ⟨rfl, _, hb2⟩
      have HB2 := hide (below_two HB1.out hb2)
      clear hb2
      go_wp2
      go_ret
      exact ⟨by first | rfl | simp [hq], HB2.out⟩
    | false =>
      go_wp2_with fail
      refine (S.out).mono ?_
      rintro e w2 ⟨rfl, _, hb2⟩
      have HB2 := hide (below_two HB1.out hb2)
      clear hb2
      go_wp2
      go_ret
      exact ⟨by first | rfl | simp [hq], HB2.out⟩

/-- What an Ear may be made of. -/
def EMk (k z n : Int) : Prop := ((1 ≤ k ∧ k ≤ 16) ∧ 1 ≤ z ∧ z ≤ 8) ∧ (0 ≤ n ∧ n ≤ 120) ∧ ((cntN n.toNat z.toNat : Nat) : Int) = k
set_option maxHeartbeats 1000000 in
theorem enew_bad (k z n : Int) (w : World) (h : ¬ EMk k z n) :
    Calls Tryz.prog 9 #[.int .i64 k, .int .i64 z, .int .i64 n] w fun e w' => e = .returned (.tuple #[.pointer none, .iface 54 (.int .i64 1)]) ∧ Below w.heap.size w w' := by
  by_cases hkz : (1 ≤ k ∧ k ≤ 16) ∧ 1 ≤ z ∧ z ≤ 8
  · obtain ⟨k, rfl⟩ : ∃ q : Nat, k = (q : Nat) := ⟨k.toNat, by omega⟩
    obtain ⟨z, rfl⟩ : ∃ q : Nat, z = (q : Nat) := ⟨z.toNat, by omega⟩
    have N := hide (peelI0.new_ok k z w (by omega) (by omega) (by omega) (by omega))
    have MK : Hid (∀ W, Calls Tryz.prog 27 #[.int .i64 k, .int .i64 z, .int .i64 n] W fun e w' => e = .returned (.bool false) ∧ Below W.heap.size W w') := fun W => by
      by_cases hn : n < 0 ∨ 120 < n
      · exact (makes_far k z n W hn).mono fun e w' ⟨he, hw⟩ => ⟨he, hw ▸ Below.refl _ _⟩
      · obtain ⟨n, rfl⟩ : ∃ q : Nat, n = (q : Nat) := ⟨n.toNat, by omega⟩
        refine (makes_in k z n W (by omega) (by omega) (by omega) (by omega)).mono fun e w' ⟨he, hb⟩ => ⟨?_, hb⟩
        rw [he, decide_eq_false fun e9 => h ⟨hkz, by omega, by simp; omega⟩]
    clear h hkz
    go_enter Tryz.func9, Tryz.ntmps9
    go_wp2_with fail
    refine (N.out).mono ?_
    rintro e w1 ⟨v, rfl, hst, _, hb1⟩
    obtain ⟨bp, _, _, _, _, rfl, _⟩ := hst
    have HB1 := hide hb1
    clear hb1
    go_wp2_with fail
    refine (MK.out _).mono ?_
    rintro e w2 ⟨rfl, hb2⟩
    have HB2 := hide (below_two HB1.out hb2)
    clear hb2
    go_wp2
    go_ret2
    exact ⟨rfl, HB2.out⟩
  · have N := hide (new_range' k z w hkz)
    clear h hkz
    go_enter Tryz.func9, Tryz.ntmps9
    go_wp2_with fail
    refine (N.out).mono ?_
    rintro e w1 ⟨rfl, hb1⟩
    have HB1 := hide hb1
    clear hb1
    go_wp2
    go_ret2
    exact ⟨rfl, HB1.out⟩
theorem est_new {w w2 : World} {vP : Value} {k z n : Nat} (hb : Below w.heap.size w w2) (hst : peelI0.St w2 vP k z p0 []) (hf : ∀ i, peelI0.foot w2 vP i → w.heap.size ≤ i) (hk : (1 ≤ k ∧ k ≤ 16) ∧ 1 ≤ z ∧ z ≤ 8) (hn : n ≤ 120) (hc : cntN n z = k) :
    ESt peelI0 (w2.alloc (.cells #[vP, .int .i64 k, .int .i64 z, .int .i64 n, .int .i64 0, .slice none 0 0] 70)) (.pointer (some ⟨w2.heap.size, 0, none⟩)) k z n 0 [] (fun i => w.heap.size ≤ i ∧ i < w2.heap.size + 1) := by
  have ha : Below w2.heap.size w2 (w2.alloc (.cells #[vP, .int .i64 k, .int .i64 z, .int .i64 n, .int .i64 0, .slice none 0 0] 70)) := (Below.refl _ _).alloc (Nat.le_refl _) _
  have hh := (MapKept.heap_alloc w2 (.cells #[vP, .int .i64 k, .int .i64 z, .int .i64 n, .int .i64 0, .slice none 0 0] 70)).1
  have hcell : ∀ i, (w2.alloc (.cells #[vP, .int .i64 k, .int .i64 z, .int .i64 n, .int .i64 0, .slice none 0 0] 70)).cell? ⟨w2.heap.size, i, none⟩ = (#[vP, .int .i64 k, .int .i64 z, .int .i64 n, .int .i64 0, .slice none 0 0] : Array Value)[i]? := fun i => cell_of_row _ _ i _ 70 (0, 0) hh
  have hfr : ∀ i, (w2.alloc (.cells #[vP, .int .i64 k, .int .i64 z, .int .i64 n, .int .i64 0, .slice none 0 0] 70)).frozen? ⟨w2.heap.size, i, none⟩ = false := fun i => by simp only [World.frozen?, hh]; simp
  have h1 := peelI0.below hst ha
  have hsz : (w2.alloc (.cells #[vP, .int .i64 k, .int .i64 z, .int .i64 n, .int .i64 0, .slice none 0 0] 70)).heap.size = w2.heap.size + 1 := by simp
  have hle := hb.size
  refine ⟨w2.heap.size, vP, _, p0, rfl, ⟨by rw [hcell]; rfl, by rw [hcell]; rfl, by rw [hcell]; rfl, by rw [hcell]; rfl, by rw [hcell]; rfl, by rw [hcell]; rfl, hfr _, hfr _, h1.1, World.ownsRow_nil _ _ _ _, ⟨hle, by omega⟩, fun i hi => ?_, (fun i e => by cases e), fun i hi => by rw [hsz]; exact hi.2, fun hi => ?_, (fun e => by cases e), (fun i e => by cases e), Kept.refl _ _⟩, took_none _ _, ⟨hk.1, hk.2, hn, hc, by simp, (fun d hd => by cases hd), by simp [sds]⟩⟩
  · have h9 := h1.2 i hi
    exact Or.inl ⟨hf i h9, by have := peelI0.foot_lt hst i h9; omega⟩
  · have := peelI0.foot_lt hst _ (h1.2 _ hi); omega
set_option maxHeartbeats 1000000 in
theorem enew_ok (k z n : Nat) (w : World) (hk : (1 ≤ k ∧ k ≤ 16) ∧ 1 ≤ z ∧ z ≤ 8) (hn : n ≤ 120) (hc : cntN n z = k) :
    Calls Tryz.prog 9 #[.int .i64 k, .int .i64 z, .int .i64 n] w fun e w' => ∃ v M, e = .returned (.tuple #[v, .nilIface]) ∧ ESt peelI0 w' v k z n 0 [] M ∧ (∀ i, M i → w.heap.size ≤ i) ∧ Below w.heap.size w w' := by
  have N := hide (peelI0.new_ok k z w hk.1.1 hk.1.2 hk.2.1 hk.2.2)
  have MK := hide (fun W => makes_in k z n W hk.1.2 hk.2.1 hk.2.2 hn)
  have HC := hide hc
  have HK := hide hk
  rw [decide_eq_true hc] at MK
  clear hc hk
  go_enter Tryz.func9, Tryz.ntmps9
  go_wp2_with fail
  refine (N.out).mono ?_
  rintro e w1 ⟨v, rfl, hst, hf, hb1⟩
  have hst' := hst
  obtain ⟨bp, _, _, _, _, rfl, _⟩ := hst'
  have HB1 := hide hb1
  have HS := hide hst
  have HF := hide hf
  clear hb1 hst hf
  go_wp2_with fail
  refine (MK.out _).mono ?_
  rintro e w2 ⟨rfl, hb2⟩
  have HB2 := hide (below_two HB1.out hb2)
  have h2 := peelI0.below HS.out hb2
  have E := hide (est_new HB2.out h2.1 (fun i hi => HF.out i (h2.2 i hi)) HK.out hn HC.out)
  clear hb2 h2
  go_wp2
  go_ret2
  exact ⟨_, _, rfl, E.out, fun i hi => hi.1, HB2.out.alloc HB2.out.size _⟩
end Go.Proofs.YtjgifjkdgoijmaaGreat

namespace Go.Proofs.YtjgifjkdgoijmaaGreat
open Go.RowKit
set_option linter.unusedVariables false
set_option maxRecDepth 100000

/-- A block whose first n cells are the numbers f 0, f 1, .., none of them frozen. -/
def IRow (w : World) (b n : Nat) (f : Nat → Int) : Prop :=
  ∀ i, i < n → w.cell? ⟨b, i, none⟩ = some (.int .i64 (f i)) ∧ w.frozen? ⟨b, i, none⟩ = false
theorem IRow.congr {w : World} {b n : Nat} {f g : Nat → Int} (h : IRow w b n f) (e : ∀ i, i < n → f i = g i) : IRow w b n g := fun i hi => by rw [← e i hi]; exact h i hi
theorem IRow.set {w : World} {b n : Nat} {f : Nat → Int} (h : IRow w b n f) (j : Nat) (v : Int) : IRow (w.setCell ⟨b, j, none⟩ (.int .i64 v)) b n (fun i => if i = j then v else f i) := fun i hi => by
  refine ⟨?_, by rw [World.frozen?_setCell]; exact (h i hi).2⟩
  have hc := (h i hi).1
  by_cases e : i = j
  · subst e
    rw [World.cell?_setCell_same _ _ _ hc]; simp
  · rw [World.cell?_setCell_other _ _ _ _ (fun h => e (by cases h; rfl))]; simp only [if_neg e]; exact hc

theorem irow_zero {w : World} {b n : Nat} {t : TypeId} (h : w.rowIs b t n (fun _ => .int .i64 0)) : IRow w b n (fun _ => 0) := fun i hi => ⟨h.cell hi, h.frozen i⟩
end Go.Proofs.YtjgifjkdgoijmaaGreat
