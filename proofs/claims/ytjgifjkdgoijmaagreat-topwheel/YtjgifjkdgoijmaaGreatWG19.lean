/-
  Lemmas for the law above, joined into one text (RV, ZeroN, ZeroA, SvN). No statement is proved here.
-/
import Derived.Test.YtjgifjkdgoijmaaGreatWG18
import Derived.Test.YtjgifjkdgoijmaaGreatWG0
import Derived.Lib.Strings
import Derived.Test.YtjgifjkdgoijmaaGreatWG4
import Derived.Test.YtjgifjkdgoijmaaGreatWG1
import Derived.Lib.BitFns
namespace Go.Proofs.YtjgifjkdgoijmaaGreat
set_option linter.unusedVariables false
set_option maxRecDepth 100000
/-- A row: of which blocks it is, a bit each, and its bytes. -/
abbrev RV := Nat × (Nat → UInt8)
def XV : XG RV := ⟨fun a b => (a.1 ^^^ b.1, fun i => a.2 i ^^^ b.2 i), (0, fun _ => 0),
  fun a b c => by simp only [Nat.xor_assoc, UInt8.xor_assoc], fun a b => by simp only [Nat.xor_comm a.1, UInt8.xor_comm (a.2 _)], fun a => by simp only [Nat.xor_self, UInt8.xor_self], fun a => by simp only [Nat.zero_xor, UInt8.zero_xor]⟩
theorem XV_add (a b : RV) : XV.add a b = (a.1 ^^^ b.1, fun i => a.2 i ^^^ b.2 i) := rfl
theorem XV_fst (a b : RV) : (XV.add a b).1 = a.1 ^^^ b.1 := rfl
theorem Sp.fst {L : List RV} {m : Nat} : Sp XN (L.map Prod.fst) m ↔ ∃ x, Sp XV L (m, x) :=
  ⟨fun h => by
    obtain ⟨⟨a, x⟩, h1, h2⟩ := Sp.of_map (G := XV) (K := XN) Prod.fst rfl (fun _ _ => rfl) h
    exact ⟨x, by rw [← h2]; exact h1⟩, fun ⟨x, h⟩ => Sp.map (G := XV) (K := XN) Prod.fst rfl (fun _ _ => rfl) h⟩
/-- There are no blocks of which all are. -/
def Clash (L : List RV) : Prop := ∃ x, Sp XV L (0, x) ∧ x ≠ fun _ => 0
theorem one_of {L : List RV} (h : ¬ Clash L) {m : Nat} {x y : Nat → UInt8} (hx : Sp XV L (m, x)) (hy : Sp XV L (m, y)) : x = y := by
  have hs := Sp.add hx hy
  have e : XV.add (m, x) (m, y) = (0, fun i => x i ^^^ y i) := by rw [XV_add]; simp
  rw [e] at hs
  refine Classical.byContradiction fun hne => h ⟨_, hs, fun h0 => hne (funext fun i => ?_)⟩
  have := congrFun h0 i
  simpa using this
theorem Clash.congr {L M : List RV} (h : ∀ x, Sp XV L x ↔ Sp XV M x) : Clash L ↔ Clash M := by
  unfold Clash
  simp only [h]
theorem Led.at {has : Nat → Bool} {row : Nat → RV} {k : Nat} (hl : Led has (fun b => (row b).1) k) {m : Nat} (hm : m ≤ k) : Led has (fun b => (row b).1) m := fun b hb h1 => hl b (by omega) h1
theorem piv_none {has : Nat → Bool} {row : Nat → RV} : ∀ {k : Nat}, Led has (fun b => (row b).1) k → ∀ {x : Nat → UInt8}, Sp XV (piv has row k) (0, x) → x = fun _ => 0
  | 0, _, x, h => by
    have h : ((0, x) : RV) = (0, fun _ => 0) := h
    exact (Prod.mk.inj h).2
  | k + 1, hl, x, h => by
    have hl' := hl.at (m := k) (by omega)
    unfold piv at h
    by_cases c : has k = true
    · rw [if_pos c] at h
      rcases h with h | h
      · exact piv_none hl' h
      · exfalso
        obtain ⟨h1, h2⟩ := hl k (by omega) c
        have h3 : Sp XN ((piv has row k).map Prod.fst) (row k).1 := by
          refine Sp.fst.2 ⟨fun i => (row k).2 i ^^^ x i, ?_⟩
          have e : XV.add (row k) (0, x) = ((row k).1, fun i => (row k).2 i ^^^ x i) := by rw [XV_add]; simp
          rw [e] at h
          exact h
        rw [piv_map] at h3
        have := Sp.bit (b := k) (fun v hv => by
          obtain ⟨b, hb, hb2, rfl⟩ := mem_piv.1 hv
          exact h2 b hb hb2) h3
        have h1' : (row k).1.testBit k = true := h1
        rw [this] at h1'; cases h1'
    · rw [if_neg c] at h
      exact piv_none hl' h
/-- What a clearing leaves: rows that each have a place of their own, and rows of no place. -/
structure Cleared (L : List RV) (k : Nat) (has : Nat → Bool) (row : Nat → RV) (ov : List (Nat → UInt8)) : Prop where
  led : Led has (fun b => (row b).1) k
  span : ∀ x, Sp XV (piv has row k ++ ov.map fun o => (0, o)) x ↔ Sp XV L x
theorem Cleared.clash {L : List RV} {k : Nat} {has : Nat → Bool} {row : Nat → RV} {ov : List (Nat → UInt8)} (h : Cleared L k has row ov) : Clash L ↔ ∃ o ∈ ov, o ≠ fun _ => 0 := by
  rw [← Clash.congr h.span]
  constructor
  · rintro ⟨x, hx, hne⟩
    refine Classical.byContradiction fun hno => hne (piv_none h.led (x := x) (Sp.sub (fun v hv => ?_) hx))
    rcases List.mem_append.1 hv with hv | hv
    · exact Sp.mem hv
    · obtain ⟨o, ho, rfl⟩ := List.mem_map.1 hv
      have e : o = fun _ => 0 := Classical.byContradiction fun hc => hno ⟨o, ho, hc⟩
      rw [e]; exact Sp.zero XV _
  · rintro ⟨o, ho, hne⟩
    exact ⟨o, Sp.mem (List.mem_append_right _ (List.mem_map.2 ⟨o, ho, rfl⟩)), hne⟩
theorem Cleared.dim {L : List RV} {k : Nat} {has : Nat → Bool} {row : Nat → RV} {ov : List (Nat → UInt8)} (h : Cleared L k has row ov) : Dim (Sp XN (L.map Prod.fst)) (cntB has k) := by
  refine ⟨piv has (fun b => (row b).1) k, piv_len _ _ _, piv_indep h.led, fun m => ?_⟩
  rw [← piv_map, Sp.fst, Sp.fst]
  constructor
  · rintro ⟨x, hx⟩
    exact ⟨x, (h.span _).1 (Sp.mono (fun _ h => List.mem_append_left _ h) hx)⟩
  · rintro ⟨x, hx⟩
    have hx := (h.span _).2 hx
    refine Sp.ind (G := XV) (C := fun v => ∃ x, Sp XV (piv has row k) (v.1, x)) ⟨_, Sp.zero XV _⟩ ?_ ?_ hx
    · rintro v u ⟨x, hx⟩ ⟨y, hy⟩
      have h9 := Sp.add hx hy
      exact ⟨_, h9⟩
    · intro v hv
      rcases List.mem_append.1 hv with hv | hv
      · exact ⟨v.2, Sp.mem hv⟩
      · obtain ⟨o, _, rfl⟩ := List.mem_map.1 hv
        exact ⟨_, Sp.zero XV _⟩
theorem Cleared.row {L : List RV} {k : Nat} {has : Nat → Bool} {row : Nat → RV} {ov : List (Nat → UInt8)} (h : Cleared L k has row ov) {x : RV} (hx : Sp XV (piv has row k) x) : Sp XV L x :=
  (h.span x).1 (Sp.mono (fun _ h => List.mem_append_left _ h) hx)

/-! Row by row, by the last place. -/
/-- Rows by their last places. -/
structure Table (L : List RV) (k : Nat) (has : Nat → Bool) (row : Nat → RV) (ov : List (Nat → UInt8)) : Prop where
  lt : ∀ p, has p = true → p < k
  top : ∀ p, has p = true → (row p).1.testBit p = true ∧ (row p).1 < 2 ^ (p + 1)
  span : ∀ x, Sp XV (piv has row k ++ ov.map fun o => (0, o)) x ↔ Sp XV L x
theorem bit_big {m p : Nat} (h : m < 2 ^ p) {q : Nat} (hq : p ≤ q) : m.testBit q = false := Nat.testBit_lt_two_pow (Nat.lt_of_lt_of_le h (Nat.pow_le_pow_right (by decide) hq))
theorem Table.cleared {L : List RV} {k : Nat} {has : Nat → Bool} {row : Nat → RV} {ov : List (Nat → UInt8)} (h : Table L k has row ov) : Cleared L k has row ov :=
  ⟨fun b hb h1 => ⟨(h.top b h1).1, fun c hc h2 => bit_big (h.top c h2).2 (by omega)⟩, h.span⟩
theorem table_none (k : Nat) (row : Nat → RV) : Table [] k (fun _ => false) row [] := by
  have e : ∀ k, piv (fun _ => false) row k = [] := fun k => List.eq_nil_iff_forall_not_mem.2 fun v hv => by
    obtain ⟨b, _, h, _⟩ := mem_piv.1 hv
    cases h
  exact ⟨fun p h => by simp at h, fun p h => by simp at h, fun x => by rw [e]; rfl⟩
theorem Table.over {L : List RV} {k : Nat} {has : Nat → Bool} {row : Nat → RV} {ov : List (Nat → UInt8)} (h : Table L k has row ov) {r : RV} {d : Nat → UInt8} (hr : Sp XV (piv has row k) (XV.add r (0, d))) : Table (L ++ [r]) k has row (ov ++ [d]) := by
  refine ⟨h.lt, h.top, fun x => Sp.same (fun v hv => ?_) (fun v hv => ?_) x⟩
  · rcases List.mem_append.1 hv with hv | hv
    · exact Sp.mono (fun _ h => List.mem_append_left _ h) ((h.span v).1 (Sp.mem (List.mem_append_left _ hv)))
    · rw [List.map_append] at hv
      rcases List.mem_append.1 hv with hv | hv
      · exact Sp.mono (fun _ h => List.mem_append_left _ h) ((h.span v).1 (Sp.mem (List.mem_append_right _ hv)))
      · obtain rfl : v = (0, d) := by simpa using hv
        have h1 : Sp XV (L ++ [r]) (XV.add r (0, d)) := Sp.mono (fun _ h => List.mem_append_left _ h) (h.cleared.row hr)
        have h2 := Sp.add (Sp.mem (G := XV) (L := L ++ [r]) (v := r) (by simp)) h1
        rwa [XV.twice] at h2
  · rcases List.mem_append.1 hv with hv | hv
    · refine Sp.mono (fun u hu => ?_) ((h.span v).2 (Sp.mem hv))
      rw [List.map_append]
      rcases List.mem_append.1 hu with hu | hu
      · exact List.mem_append_left _ hu
      · exact List.mem_append_right _ (List.mem_append_left _ hu)
    · obtain rfl : v = r := by simpa using hv
      have h1 : Sp XV (piv has row k ++ (ov ++ [d]).map fun o => (0, o)) (XV.add v (0, d)) := Sp.mono (fun _ h => List.mem_append_left _ h) hr
      have h2 := Sp.add h1 (Sp.mem (G := XV) (L := piv has row k ++ (ov ++ [d]).map fun o => (0, o)) (v := (0, d)) (by simp))
      rwa [XV.assoc, XV.self, XV.right] at h2
theorem Table.put {L : List RV} {k : Nat} {has has' : Nat → Bool} {row row' : Nat → RV} {ov : List (Nat → UInt8)} (h : Table L k has row ov) {r r' : RV} {p : Nat} (hr : Sp XV (piv has row k) (XV.add r r')) (hp : has p = false) (hpk : p < k) (ht : r'.1.testBit p = true ∧ r'.1 < 2 ^ (p + 1))
    (hh : ∀ q, has' q = if q = p then true else has q) (hw : ∀ q, row' q = if q = p then r' else row q) : Table (L ++ [r]) k has' row' ov := by
  have hold : ∀ v ∈ piv has row k, v ∈ piv has' row' k := fun v hv => by
    obtain ⟨b, h1, h2, h3⟩ := mem_piv.1 hv
    have hbp : b ≠ p := fun e => by rw [e, hp] at h2; cases h2
    exact mem_piv.2 ⟨b, h1, by rw [hh, if_neg hbp]; exact h2, by rw [hw, if_neg hbp]; exact h3⟩
  have hnew : r' ∈ piv has' row' k := mem_piv.2 ⟨p, hpk, by rw [hh, if_pos rfl], by rw [hw, if_pos rfl]⟩
  refine ⟨fun q hq => ?_, fun q hq => ?_, fun x => Sp.same (fun v hv => ?_) (fun v hv => ?_) x⟩
  · rw [hh] at hq
    by_cases c : q = p
    · omega
    · rw [if_neg c] at hq; exact h.lt q hq
  · rw [hh] at hq
    rw [hw]
    by_cases c : q = p
    · rw [if_pos c, c]; exact ht
    · rw [if_neg c] at hq ⊢; exact h.top q hq
  · rcases List.mem_append.1 hv with hv | hv
    · obtain ⟨b, h1, h2, h3⟩ := mem_piv.1 hv
      rw [hh] at h2
      rw [hw] at h3
      by_cases c : b = p
      · rw [if_pos c] at h3
        subst h3
        have h1 : Sp XV (L ++ [r]) (XV.add r r') := Sp.mono (fun _ h => List.mem_append_left _ h) (h.cleared.row hr)
        have h2 := Sp.add (Sp.mem (G := XV) (L := L ++ [r]) (v := r) (by simp)) h1
        rwa [XV.twice] at h2
      · rw [if_neg c] at h2 h3
        exact Sp.mono (fun _ h => List.mem_append_left _ h) (h.cleared.row (Sp.mem (mem_piv.2 ⟨b, h1, h2, h3⟩)))
    · exact Sp.mono (fun _ h => List.mem_append_left _ h) ((h.span v).1 (Sp.mem (List.mem_append_right _ hv)))
  · rcases List.mem_append.1 hv with hv | hv
    · refine Sp.mono (fun u hu => ?_) ((h.span v).2 (Sp.mem hv))
      rcases List.mem_append.1 hu with hu | hu
      · exact List.mem_append_left _ (hold u hu)
      · exact List.mem_append_right _ hu
    · obtain rfl : v = r := by simpa using hv
      have h1 : Sp XV (piv has' row' k ++ ov.map fun o => (0, o)) (XV.add v r') := Sp.mono (fun u hu => List.mem_append_left _ (hold u hu)) hr
      have h2 := Sp.add h1 (Sp.mem (G := XV) (L := piv has' row' k ++ ov.map fun o => (0, o)) (v := r') (List.mem_append_left _ hnew))
      rwa [XV.assoc, XV.self, XV.right] at h2

/-! Place by place, as the document clears. -/
structure Clr (L : List RV) (k N b : Nat) (R : Nat → RV) (at_ : Nat → Option Nat) (used : Nat → Bool) : Prop where
  span : ∀ x, Sp XV ((List.range N).map R) x ↔ Sp XV L x
  lt : ∀ i, i < N → (R i).1 < 2 ^ k
  found : ∀ c, c < b → ∀ i, at_ c = some i → i < N ∧ used i = true ∧ (R i).1.testBit c = true ∧ ∀ j, j < N → j ≠ i → (R j).1.testBit c = false
  lost : ∀ c, c < b → at_ c = none → ∀ i, i < N → used i = false → (R i).1.testBit c = false
  used : ∀ i, used i = true → ∃ c, c < b ∧ at_ c = some i
  apart : ∀ c d i, c < b → d < b → at_ c = some i → at_ d = some i → c = d
theorem clr_none {L : List RV} {k N : Nat} {R : Nat → RV} {at_ : Nat → Option Nat} {used : Nat → Bool} (hL : L = (List.range N).map R) (hlt : ∀ i, i < N → (R i).1 < 2 ^ k) (hu : ∀ i, used i = false) : Clr L k N 0 R at_ used :=
  ⟨fun x => by rw [hL], hlt, fun c hc => absurd hc (Nat.not_lt_zero _), fun c hc => absurd hc (Nat.not_lt_zero _), (fun i h => by rw [hu] at h; cases h), fun c d i hc => absurd hc (Nat.not_lt_zero _)⟩
theorem Clr.skip {L : List RV} {k N b : Nat} {R : Nat → RV} {at_ : Nat → Option Nat} {used : Nat → Bool} (h : Clr L k N b R at_ used) (ha : at_ b = none) (hno : ∀ i, i < N → used i = false → (R i).1.testBit b = false) : Clr L k N (b + 1) R at_ used := by
  refine ⟨h.span, h.lt, fun c hc i hi => ?_, fun c hc hn => ?_, fun i hi => ?_, fun c d i hc hd h1 h2 => ?_⟩
  · by_cases e : c = b
    · subst e; rw [ha] at hi; cases hi
    · exact h.found c (by omega) i hi
  · by_cases e : c = b
    · subst e; exact hno
    · exact h.lost c (by omega) hn
  · obtain ⟨c, hc, hc2⟩ := h.used i hi
    exact ⟨c, by omega, hc2⟩
  · by_cases e : c = b
    · subst e; rw [ha] at h1; cases h1
    · by_cases e2 : d = b
      · subst e2; rw [ha] at h2; cases h2
      · exact h.apart c d i (by omega) (by omega) h1 h2
theorem Clr.take {L : List RV} {k N b : Nat} {R R' : Nat → RV} {at_ at' : Nat → Option Nat} {used used' : Nat → Bool} (h : Clr L k N b R at_ used) {i : Nat} (hi : i < N) (hb : (R i).1.testBit b = true) (hu : used i = false)
    (hR : ∀ j, j < N → R' j = if j ≠ i ∧ (R j).1.testBit b = true then XV.add (R j) (R i) else R j) (ha : ∀ c, at' c = if c = b then some i else at_ c) (hus : ∀ j, used' j = if j = i then true else used j) : Clr L k N (b + 1) R' at' used' := by
  have hRi : R' i = R i := by rw [hR i hi, if_neg (by simp)]
  have hlow : ∀ c, c < b → (R i).1.testBit c = false := fun c hc => by
    cases e : at_ c with
    | none => exact h.lost c hc e i hi hu
    | some j =>
      obtain ⟨_, h2, _, h4⟩ := h.found c hc j e
      exact h4 i hi (fun e2 => by rw [← e2, hu] at h2; cases h2)
  have hbit : ∀ j, j < N → ∀ c, c < b → (R' j).1.testBit c = (R j).1.testBit c := fun j hj c hc => by
    rw [hR j hj]
    by_cases q : j ≠ i ∧ (R j).1.testBit b = true
    · rw [if_pos q, XV_fst, Nat.testBit_xor, hlow c hc]; simp
    · rw [if_neg q]
  refine ⟨fun x => ?_, fun j hj => ?_, fun c hc j hj => ?_, fun c hc hn j hj hju => ?_, fun j hj => ?_, fun c d j hc hd h1 h2 => ?_⟩
  · rw [← h.span x]
    have hi2 : Sp XV ((List.range N).map R') (R i) := Sp.mem (List.mem_map.2 ⟨i, List.mem_range.2 hi, hRi⟩)
    refine Sp.same (fun v hv => ?_) (fun v hv => ?_) x
    · obtain ⟨j, hj, rfl⟩ := List.mem_map.1 hv
      have hj := List.mem_range.1 hj
      have hj2 : Sp XV ((List.range N).map R) (R j) := Sp.mem (List.mem_map.2 ⟨j, List.mem_range.2 hj, rfl⟩)
      rw [hR j hj]
      by_cases q : j ≠ i ∧ (R j).1.testBit b = true
      · rw [if_pos q]; exact Sp.add hj2 (Sp.mem (List.mem_map.2 ⟨i, List.mem_range.2 hi, rfl⟩))
      · rw [if_neg q]; exact hj2
    · obtain ⟨j, hj, rfl⟩ := List.mem_map.1 hv
      have hj := List.mem_range.1 hj
      have hj2 : Sp XV ((List.range N).map R') (R' j) := Sp.mem (List.mem_map.2 ⟨j, List.mem_range.2 hj, rfl⟩)
      by_cases q : j ≠ i ∧ (R j).1.testBit b = true
      · have h3 := Sp.add hj2 hi2
        rwa [hR j hj, if_pos q, XV.assoc, XV.self, XV.right] at h3
      · rwa [hR j hj, if_neg q] at hj2
  · rw [hR j hj]
    by_cases q : j ≠ i ∧ (R j).1.testBit b = true
    · rw [if_pos q, XV_fst]; exact Nat.xor_lt_two_pow (h.lt j hj) (h.lt i hi)
    · rw [if_neg q]; exact h.lt j hj
  · by_cases e : c = b
    · subst e
      rw [ha, if_pos rfl] at hj
      cases hj
      refine ⟨hi, by rw [hus, if_pos rfl], by rw [hRi]; exact hb, fun q hq hne => ?_⟩
      rw [hR q hq]
      by_cases z : q ≠ i ∧ (R q).1.testBit c = true
      · rw [if_pos z, XV_fst, Nat.testBit_xor, z.2, hb]; rfl
      · rw [if_neg z]
        cases e : (R q).1.testBit c with
        | false => rfl
        | true => exact absurd ⟨hne, e⟩ z
    · rw [ha, if_neg e] at hj
      obtain ⟨h1, h2, h3, h4⟩ := h.found c (by omega) j hj
      refine ⟨h1, ?_, by rw [hbit j h1 c (by omega)]; exact h3, fun q hq hne => by rw [hbit q hq c (by omega)]; exact h4 q hq hne⟩
      rw [hus]; split
      · rfl
      · exact h2
  · by_cases e : c = b
    · subst e; rw [ha, if_pos rfl] at hn; cases hn
    · rw [ha, if_neg e] at hn
      rw [hus] at hju
      by_cases q : j = i
      · rw [if_pos q] at hju; cases hju
      · rw [if_neg q] at hju
        rw [hbit j hj c (by omega)]
        exact h.lost c (by omega) hn j hj hju
  · rw [hus] at hj
    by_cases q : j = i
    · exact ⟨b, by omega, by rw [ha, if_pos rfl, q]⟩
    · rw [if_neg q] at hj
      obtain ⟨c, hc, hc2⟩ := h.used j hj
      exact ⟨c, by omega, by rw [ha, if_neg (by omega)]; exact hc2⟩
  · have key : ∀ c, c < b → at_ c ≠ some i := fun c hc e => by
      have := (h.found c hc i e).2.1
      rw [hu] at this; cases this
    rw [ha] at h1 h2
    by_cases e : c = b
    · by_cases e2 : d = b
      · omega
      · rw [if_pos e] at h1
        rw [if_neg e2] at h2
        cases h1
        exact absurd h2 (key d (by omega))
    · by_cases e2 : d = b
      · rw [if_neg e] at h1
        rw [if_pos e2] at h2
        cases h2
        exact absurd h1 (key c (by omega))
      · rw [if_neg e] at h1
        rw [if_neg e2] at h2
        exact h.apart c d j (by omega) (by omega) h1 h2
theorem no_bits {m k : Nat} (hm : m < 2 ^ k) (h : ∀ c, c < k → m.testBit c = false) : m = 0 := Nat.eq_of_testBit_eq fun c => by
  rw [Nat.zero_testBit]
  rcases Nat.lt_or_ge c k with hc | hc
  · exact h c hc
  · exact bit_big hm hc
theorem Clr.rest {L : List RV} {k N : Nat} {R : Nat → RV} {at_ : Nat → Option Nat} {used : Nat → Bool} (h : Clr L k N k R at_ used) {i : Nat} (hi : i < N) (hu : used i = false) : (R i).1 = 0 := no_bits (h.lt i hi) fun c hc => by
  cases e : at_ c with
  | none => exact h.lost c hc e i hi hu
  | some j =>
    obtain ⟨_, h2, _, h4⟩ := h.found c hc j e
    exact h4 i hi (fun e2 => by rw [← e2, hu] at h2; cases h2)
theorem Clr.cleared {L : List RV} {k N : Nat} {R : Nat → RV} {at_ : Nat → Option Nat} {used : Nat → Bool} (h : Clr L k N k R at_ used) : Cleared L k (fun b => (at_ b).isSome) (fun b => R ((at_ b).getD 0)) (((List.range N).filter fun i => decide ((R i).1 = 0)).map fun i => (R i).2) := by
  refine ⟨fun b hb h1 => ?_, fun x => ?_⟩
  · obtain ⟨i, hi⟩ := Option.isSome_iff_exists.1 h1
    obtain ⟨h2, h3, h4, h5⟩ := h.found b hb i hi
    refine ⟨by simp only [hi, Option.getD_some]; exact h4, fun c hc h6 => ?_⟩
    obtain ⟨j, hj⟩ := Option.isSome_iff_exists.1 h6
    simp only [hj, Option.getD_some]
    refine h5 j (h.found c (by omega) j hj).1 fun e => ?_
    subst e
    have := h.apart c b j (by omega) hb hj hi
    omega
  · rw [← h.span x]
    refine Sp.same (fun v hv => ?_) (fun v hv => ?_) x
    · rcases List.mem_append.1 hv with hv | hv
      · obtain ⟨b, hb, h1, rfl⟩ := mem_piv.1 hv
        obtain ⟨i, hi⟩ := Option.isSome_iff_exists.1 h1
        simp only [hi, Option.getD_some]
        exact Sp.mem (List.mem_map.2 ⟨i, List.mem_range.2 (h.found b hb i hi).1, rfl⟩)
      · obtain ⟨o, ho, rfl⟩ := List.mem_map.1 hv
        obtain ⟨i, hi, rfl⟩ := List.mem_map.1 ho
        obtain ⟨h1, h2⟩ := List.mem_filter.1 hi
        have e : ((0, (R i).2) : RV) = R i := Prod.ext (of_decide_eq_true h2).symm rfl
        rw [e]
        exact Sp.mem (List.mem_map.2 ⟨i, h1, rfl⟩)
    · obtain ⟨i, hi, rfl⟩ := List.mem_map.1 hv
      have hi := List.mem_range.1 hi
      cases hu : used i with
      | true =>
        obtain ⟨c, hc, hc2⟩ := h.used i hu
        exact Sp.mem (List.mem_append_left _ (mem_piv.2 ⟨c, hc, by simp [hc2], by simp [hc2]⟩))
      | false =>
        have h0 := h.rest hi hu
        refine Sp.mem (List.mem_append_right _ (List.mem_map.2 ⟨(R i).2, List.mem_map.2 ⟨i, List.mem_filter.2 ⟨List.mem_range.2 hi, decide_eq_true h0⟩, rfl⟩, ?_⟩))
        exact Prod.ext h0.symm rfl
/-- Where each place has a row, that is of it alone. -/
theorem Clr.alone {L : List RV} {k N : Nat} {R : Nat → RV} {at_ : Nat → Option Nat} {used : Nat → Bool} (h : Clr L k N k R at_ used) (hall : ∀ b, b < k → at_ b ≠ none) {b i : Nat} (hb : b < k) (hi : at_ b = some i) : (R i).1 = 2 ^ b := Nat.eq_of_testBit_eq fun c => by
  rw [Nat.testBit_two_pow]
  obtain ⟨h1, h2, h3, h4⟩ := h.found b hb i hi
  by_cases e : b = c
  · subst e; simp [h3]
  · rw [decide_eq_false e]
    rcases Nat.lt_or_ge c k with hc | hc
    · cases e2 : at_ c with
      | none => exact absurd e2 (hall c hc)
      | some j =>
        refine (h.found c hc j e2).2.2.2 i h1 fun e3 => ?_
        subst e3
        exact e (h.apart b c i hb hc hi e2)
    · exact bit_big (h.lt i h1) hc
end Go.Proofs.YtjgifjkdgoijmaaGreat

namespace Go.Proofs.YtjgifjkdgoijmaaGreat
open Go.RowKit
set_option linter.unusedVariables false
set_option maxRecDepth 100000

/-- n bytes 0. -/
def zerosB (n : Nat) : ByteArray := ⟨(List.replicate n 0).toArray⟩
theorem zerosB_size (n : Nat) : (zerosB n).size = n := by rw [Lib.size_eq, zerosB, List.toList_toArray, List.length_replicate]
theorem zerosB_succ (n : Nat) : zerosB n ++ ⟨#[0]⟩ = zerosB (n + 1) := by
  apply ByteArray.ext
  rw [ByteArray.data_append, ← Array.toList_inj, Array.toList_append]
  simp [zerosB, List.replicate_succ']
end Go.Proofs.YtjgifjkdgoijmaaGreat

namespace Go.Proofs.YtjgifjkdgoijmaaGreat
open Go.RowKit
set_option linter.unusedVariables false
set_option maxRecDepth 100000

theorem zerosB_at (n i : Nat) : atB (zerosB n) i = 0 := by
  rw [atB, zerosB, List.toList_toArray, List.getD, List.getElem?_replicate]; split <;> rfl
end Go.Proofs.YtjgifjkdgoijmaaGreat

namespace Go.Proofs.YtjgifjkdgoijmaaGreat
open Go.RowKit
set_option linter.unusedVariables false
set_option maxRecDepth 100000

theorem atB_out (s : ByteArray) (i : Nat) (h : s.size ≤ i) : atB s i = 0 := by
  unfold atB
  rw [Lib.size_eq] at h
  simp [List.getD, List.getElem?_eq_none h]
/-- A row of a set of places and of bytes. -/
def rv (m : Nat) (d : ByteArray) : RV := (m, atB d)
theorem rv_xor {m n : Nat} {d e : ByteArray} (h : e.size = d.size) : rv (m ^^^ n) (xorB d e) = XV.add (rv m d) (rv n e) := by
  refine Prod.ext rfl (funext fun i => ?_)
  show atB (xorB d e) i = atB d i ^^^ atB e i
  rcases Nat.lt_or_ge i d.size with hi | hi
  · exact xorB_at _ _ _ hi
  · rw [atB_out _ _ (by rw [xorB_size]; exact hi), atB_out _ _ hi, atB_out _ _ (by rw [h]; exact hi)]; rfl
theorem bytes_fun {d e : ByteArray} (h : d.size = e.size) (h2 : atB d = atB e) : d = e := bytes_ext h (fun i _ => congrFun h2 i)
theorem zero_iff {d : ByteArray} {n : Nat} (h : d.size = n) : d = zerosB n ↔ atB d = fun _ => 0 := by
  constructor
  · intro e; rw [e]; exact funext fun i => zerosB_at n i
  · intro e; exact bytes_fun (by rw [h, zerosB_size]) (by rw [e]; exact (funext fun i => zerosB_at n i).symm)

/-- A list of places as a number. -/
def maskL (s : List Nat) : Nat := s.foldl (fun m p => m ||| 2 ^ p) 0
theorem mask_from (j : Nat) : ∀ (s : List Nat) (m : Nat), (s.foldl (fun m p => m ||| 2 ^ p) m).testBit j = (m.testBit j || decide (j ∈ s))
  | [], m => by simp
  | p :: s, m => by
    show (s.foldl (fun m p => m ||| 2 ^ p) (m ||| 2 ^ p)).testBit j = _
    rw [mask_from j s, Nat.testBit_or, Nat.testBit_two_pow]
    by_cases c : j = p
    · subst c; simp
    · have c' : ¬ p = j := fun e => c e.symm
      simp [c, c']
theorem maskL_bit (s : List Nat) (j : Nat) : (maskL s).testBit j = decide (j ∈ s) := by unfold maskL; rw [mask_from]; simp
theorem maskL_snoc (s : List Nat) (p : Nat) : maskL (s ++ [p]) = maskL s ||| 2 ^ p := by simp [maskL, List.foldl_append]
theorem lt_of_bits {m k : Nat} (h : ∀ j, k ≤ j → m.testBit j = false) : m < 2 ^ k := by
  refine Nat.lt_of_not_le fun hle => ?_
  obtain ⟨i, hi, hb⟩ := Nat.exists_ge_and_testBit_of_ge_two_pow hle
  rw [h i hi] at hb; cases hb
theorem maskL_lt {s : List Nat} {k : Nat} (h : ∀ p ∈ s, p < k) : maskL s < 2 ^ k := lt_of_bits fun j hj => by
  rw [maskL_bit]; exact decide_eq_false fun hm => by have := h j hm; omega
theorem bit_at {m p : Nat} (h1 : 2 ^ p ≤ m) (h2 : m < 2 ^ (p + 1)) : m.testBit p = true := by
  rw [Nat.testBit_eq_decide_div_mod_eq]
  have e : m / 2 ^ p = 1 := by
    rw [Nat.pow_succ] at h2
    exact Nat.div_eq_of_lt_le (by omega) (by omega)
  rw [e]; rfl
theorem lt_no_top {m p : Nat} (h : m < 2 ^ (p + 1)) (hb : m.testBit p = false) : m < 2 ^ p := lt_of_bits fun j hj => by
  by_cases e : j = p
  · rw [e]; exact hb
  · exact bit_big h (by omega)
/-- The last place of a set. -/
theorem top_of {m : Nat} (h0 : m ≠ 0) (h : m < 2 ^ 64) : ∃ p, Lib.bitLen m = p + 1 ∧ m.testBit p = true ∧ m < 2 ^ (p + 1) := by
  suffices ∃ p, Lib.bitLen m = p + 1 ∧ 2 ^ p ≤ m ∧ m < 2 ^ (p + 1) by
    obtain ⟨p, h1, h2, h3⟩ := this
    exact ⟨p, h1, bit_at h2 h3, h3⟩
  induction m using Nat.strongRecOn with
  | ind m ih =>
    by_cases h1 : m = 1
    · subst h1; exact ⟨0, by decide +kernel, by decide, by decide⟩
    · obtain ⟨p, e, l, u⟩ := ih (m / 2) (by omega) (by omega) (by omega)
      refine ⟨p + 1, by rw [Lib.bitLen_half m h0 h, e]; omega, ?_, ?_⟩
      · rw [Nat.pow_succ]; omega
      · rw [Nat.pow_succ]; omega
theorem top_lt {m p k : Nat} (h : m < 2 ^ k) (hb : m.testBit p = true) : p < k := by
  rcases Nat.lt_or_ge p k with h1 | h1
  · exact h1
  · rw [bit_big h h1] at hb; cases hb
/-- Over one of the same last place it is less. -/
theorem xor_less {m n p : Nat} (h1 : m.testBit p = true) (h2 : m < 2 ^ (p + 1)) (h3 : n.testBit p = true) (h4 : n < 2 ^ (p + 1)) : m ^^^ n < m := by
  have hx : m ^^^ n < 2 ^ p := lt_no_top (Nat.xor_lt_two_pow h2 h4) (by rw [Nat.testBit_xor, h1, h3]; rfl)
  have hm : 2 ^ p ≤ m := Nat.ge_two_pow_of_testBit h1
  omega
/-- The rows of the first drops, i of them. -/
noncomputable def rowsD (k : Nat) (s : Nat → Nat) (d : Nat → ByteArray) (i : Nat) : List RV := (List.range i).map fun j => rv (maskL (setL k (s j))) (d j)
theorem rowsD_succ (k : Nat) (s : Nat → Nat) (d : Nat → ByteArray) (i : Nat) : rowsD k s d (i + 1) = rowsD k s d i ++ [rv (maskL (setL k (s i))) (d i)] := by unfold rowsD; rw [List.range_succ, List.map_append]; rfl
theorem setL_mask {k seed : Nat} (hk : 1 ≤ k) (h1 : 1 ≤ seed) : maskL (setL k seed) < 2 ^ k := maskL_lt fun p hp => setL_lt hk h1 hp
end Go.Proofs.YtjgifjkdgoijmaaGreat
