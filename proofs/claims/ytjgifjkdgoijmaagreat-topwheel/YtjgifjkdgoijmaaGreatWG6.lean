/-
  Lemmas for the law above, joined into one text (StN, ErrN, DropF, PIm0). No statement is proved here.
-/
import Derived.Test.YtjgifjkdgoijmaaGreatWG2
import Derived.Test.YtjgifjkdgoijmaaGreatWG5
import Derived.Test.YtjgifjkdgoijmaaGreatWG0
import Derived.Laws.AppendOwnNone
import Derived.Deep.RegionHeld3
import Derived.Deep.AppendLies
import Derived.Deep.RegionLaw
import Derived.Deep.DrawnRows
namespace Go.Proofs.YtjgifjkdgoijmaaGreat
open Go.RowKit Go.Maps
set_option linter.unusedVariables false
set_option maxRecDepth 100000


theorem filt_snoc {s : List Nat} {p : Nat → Bool} {j : Nat} (h : j < s.length) : (s.take (j + 1)).filter p = (s.take j).filter p ++ if p (s.getD j 0) then [s.getD j 0] else [] := by
  have e : s.take (j + 1) = s.take j ++ [s.getD j 0] := by rw [List.take_add_one]; simp [List.getD, h]
  rw [e, List.filter_append]
  generalize s.getD j 0 = x
  congr 1
  by_cases c : p x = true
  · rw [List.filter_cons_of_pos c, if_pos c]; rfl
  · rw [List.filter_cons_of_neg c, if_neg c]; rfl

theorem DropIn.of_block {w w' : World} {b : Nat} {seed : Int} {s : ByteArray} (h : DropIn w b seed s) (hb : w'.heap[b]? = w.heap[b]?) : DropIn w' b seed s := by
  have hc : ∀ i, w'.cell? ⟨b, i, none⟩ = w.cell? ⟨b, i, none⟩ := fun i => World.cell?_of_block (w := w) hb
  have hf : ∀ i, w'.frozen? ⟨b, i, none⟩ = w.frozen? ⟨b, i, none⟩ := fun i => World.frozen?_of_block (w := w) hb
  unfold DropIn
  rw [hc, hf, hc, hf]
  exact h

theorem sift_snoc {S : Nat → List Nat} {kn : Nat → Bool} {L : List Drp} {j : Nat} (h : j < L.length) : sift S kn (L.take (j + 1)) = sift S kn (L.take j) ++ if (lft S kn (dAt L j)).length = 0 then [] else [dAt L j] := by
  unfold sift
  rw [take_dAt h, List.filter_append]
  congr 1
  by_cases c : (lft S kn (dAt L j)).length = 0
  · rw [if_pos c, List.filter_cons_of_neg (by simp [c])]; rfl
  · rw [if_neg c, List.filter_cons_of_pos (by simpa using c)]; rfl
theorem sift_len {S : Nat → List Nat} {kn : Nat → Bool} (L : List Drp) : (sift S kn L).length ≤ L.length := List.length_filter_le _ _
/-- All is right: seeds, sizes. -/
def Good (z : Nat) (p : PS) : Prop := (∀ d ∈ p.L, 1 ≤ d.1 ∧ d.1 ≤ 10000 ∧ d.2.size = z) ∧ ∀ r, p.known r = true → (p.B r).size = z
theorem Lst.set_far {w : World} {v : Value} {l : List Nat} (h : Lst w v l) {a : Addr} (hne : v.ownBlock ≠ some a.block) (u : Value) : Lst (w.setCell a u) v l := by
  obtain ⟨g, cap, hv, h1, h2, h3⟩ := h
  refine ⟨g, cap, hv, h1, h2, fun i hi => ?_⟩
  rw [World.cell?_setCell_other _ _ _ _ (fun e => hne (by rw [hv, e]; rfl))]
  exact h3 i hi
theorem Lsh.set_far {w : World} {v : Value} {l : List Nat} (h : Lsh w v l) {a : Addr} (hne : v.ownBlock ≠ some a.block) (u : Value) : Lsh (w.setCell a u) v l := by
  obtain ⟨b, cap, hv, h1, h2, h3⟩ := h
  exact ⟨b, cap, hv, h1, h2, fun h0 => (h3 h0).set_far hne u⟩
theorem find_first {L : List Drp} {P : Drp → Bool} : ∀ {j : Nat}, j < L.length → (∀ i, i < j → P (dAt L i) = false) → P (dAt L j) = true → L.find? P = some (dAt L j) := fun {j} hj h1 h2 => by
  induction L generalizing j with
  | nil => exact absurd hj (Nat.not_lt_zero _)
  | cons d L ih =>
    cases j with
    | zero =>
      have e : dAt (d :: L) 0 = d := by simp [dAt]
      rw [e] at h2 ⊢
      simp [List.find?, h2]
    | succ j =>
      have e : ∀ i, dAt (d :: L) (i + 1) = dAt L i := fun i => by simp [dAt]
      have h0 := h1 0 (by omega)
      have e0 : dAt (d :: L) 0 = d := by simp [dAt]
      rw [e0] at h0
      rw [e] at h2 ⊢
      simp only [List.find?, h0]
      exact ih (by simpa using hj) (fun i hi => by have := h1 (i + 1) (by omega); rwa [e] at this) h2
theorem find_none {L : List Drp} {P : Drp → Bool} (h : ∀ i, i < L.length → P (dAt L i) = false) : L.find? P = none := List.find?_eq_none.2 fun d hd => by
  obtain ⟨i, hi, rfl⟩ := List.getElem_of_mem hd
  have := h i hi
  rw [show dAt L i = L[i] by simp [dAt, List.getD, hi]] at this
  simp [this]
/-- One more has come. -/
theorem came_ins {k x : Nat} {kn kn' : Nat → Bool} (hx : x < k) (h1 : kn x = false) (h2 : kn' x = false) : ∃ A B, came k kn kn' = A ++ B ∧ came k kn (upd kn' x true) = A ++ x :: B ∧ (∀ a ∈ A, a < x) ∧ ∀ b ∈ B, x < b := by
  obtain ⟨B, hb1, hb2, hb3⟩ := filter_ins (fun r => kn' r && !kn r) x (by simp [h2]) k hx
  refine ⟨_, B, hb1, ?_, fun a ha => List.mem_range.1 (List.mem_filter.1 ha).1, hb3⟩
  rw [← hb2]
  refine List.filter_congr fun r _ => ?_
  by_cases c : r = x
  · subst c; simp [upd, h1]
  · have c' : ¬ x = r := fun e => c e.symm
    simp [upd, c, c']
theorem outB_snoc (B : Nat → ByteArray) (x r : Nat) (s : List Nat) (b : ByteArray) : outB B x (s ++ [r]) b = if r = x then outB B x s b else xorB (outB B x s b) (B r) := by unfold outB; rw [List.foldl_append]; rfl
theorem came_len16 (k : Nat) (kn kn' : Nat → Bool) : (came k kn kn').length ≤ k := Nat.le_trans (List.length_filter_le _ _) (by simp)
theorem came_some {k x : Nat} {kn kn' : Nat → Bool} (hx : x < k) (h1 : kn x = false) (h2 : kn' x = false) : came k kn (upd kn' x true) ≠ [] := by
  obtain ⟨A, B, hA1, hA2, hA3, hA4⟩ := came_ins hx h1 h2
  rw [hA2]; simp
theorem knows_succ (kn : Nat → Bool) (j : Nat) : knows (j + 1) kn = knows j kn ++ if kn j then [j] else [] := by
  unfold knows
  rw [List.range_succ, List.filter_append]
  congr 1
  by_cases c : kn j = true
  · rw [List.filter_cons_of_pos c, if_pos c]; rfl
  · rw [List.filter_cons_of_neg c, if_neg c]; rfl
theorem knows_len (k : Nat) (kn : Nat → Bool) : (knows k kn).length ≤ k := Nat.le_trans (List.length_filter_le _ _) (by simp)
end Go.Proofs.YtjgifjkdgoijmaaGreat

namespace Go.Proofs.YtjgifjkdgoijmaaGreat
open Go.RowKit
set_option linter.unusedVariables false
set_option maxRecDepth 100000

/-- The error that stands for the number x: none for 0. -/
def ErrIs (x : Int) (err : Value) : Prop := (x = 0 ∧ err = .nilIface) ∨ err = .iface 54 (.int .i64 x)
end Go.Proofs.YtjgifjkdgoijmaaGreat

namespace Go.Proofs.YtjgifjkdgoijmaaGreat
open Go.RowKit Go.Maps
set_option linter.unusedVariables false
set_option maxRecDepth 100000

/-- What is wrong with a Drop: its number. -/
def OkD (k size seed : Int) : Prop := (1 ≤ k ∧ k ≤ 16) ∧ (1 ≤ size ∧ size ≤ 8) ∧ 1 ≤ seed ∧ seed ≤ 10000
instance (k size seed : Int) : Decidable (OkD k size seed) := inferInstanceAs (Decidable (_ ∧ _))
def fD (k size seed : Int) (n : Nat) : Int := if OkD k size seed then (if (n : Int) = size then 0 else 3) else 1

theorem dcheck_any (k size seed : Int) (s : ByteArray) (w : World) :
    Calls Tryz.prog 34 #[.int .i64 k, .int .i64 size, dropV seed s] w fun e w' => ∃ err, e = .returned err ∧ ErrIs (fD k size seed s.size) err ∧ Below w.heap.size w w' := by
  unfold fD
  by_cases h : OkD k size seed
  · rw [if_pos h]
    by_cases c : (s.size : Int) = size
    · rw [if_pos c]; exact (dcheck_ok k size seed s w h.1 h.2.1 h.2.2 c).mono fun e w' ⟨he, hb⟩ => ⟨_, he, Or.inl ⟨rfl, rfl⟩, hb⟩
    · rw [if_neg c]; exact (dcheck_shape k size seed s w h.1 h.2.1 h.2.2 c).mono fun e w' ⟨he, hb⟩ => ⟨_, he, Or.inr rfl, hb⟩
  · rw [if_neg h]; exact (dcheck_range k size seed s w h).mono fun e w' ⟨he, hb⟩ => ⟨_, he, Or.inr rfl, hb⟩
/-- The error that tells the number x: none for 0. -/
def Tell (x : Int) : Value := if x = 0 then .nilIface else .iface 54 (.int .i64 x)
theorem tell_is (x : Int) : ErrIs x (Tell x) := by
  unfold Tell
  by_cases h : x = 0
  · rw [if_pos h]; exact Or.inl ⟨h, rfl⟩
  · rw [if_neg h]; exact Or.inr rfl
theorem dcheck_tell (k size seed : Int) (s : ByteArray) (w : World) :
    Calls Tryz.prog 34 #[.int .i64 k, .int .i64 size, .agg #[.int .i64 seed, .string s]] w fun e w' => e = .returned (Tell (fD k size seed s.size)) ∧ Below w.heap.size w w' := by
  unfold fD
  by_cases h : OkD k size seed
  · rw [if_pos h]
    by_cases c : (s.size : Int) = size
    · rw [if_pos c]; exact dcheck_ok k size seed s w h.1 h.2.1 h.2.2 c
    · rw [if_neg c]; exact dcheck_shape k size seed s w h.1 h.2.1 h.2.2 c
  · rw [if_neg h]; exact dcheck_range k size seed s w h
end Go.Proofs.YtjgifjkdgoijmaaGreat

namespace Go.Proofs.YtjgifjkdgoijmaaGreat
open Go.RowKit Go.Maps
set_option linter.unusedVariables false
set_option maxRecDepth 100000

/-- What Take finds: the fault's number. -/
def tF (k z : Nat) (T : List Nat) (seed : Int) (n : Nat) : Int := if fD k z seed n ≠ 0 then fD k z seed n else if seed.toNat ∈ T then 7 else if 60 ≤ T.length then 4 else 0
/-- One that knows nothing. -/
def p0 : PS := ⟨fun _ => false, fun _ => ⟨#[]⟩, []⟩

structure PIm0 where
  St : World → Value → Nat → Nat → PS → List Nat → Prop
  foot : World → Value → Nat → Prop
  foot_lt : ∀ {w : World} {v : Value} {k z : Nat} {p : PS} {T : List Nat}, St w v k z p T → ∀ i, foot w v i → i < w.heap.size
  keep : ∀ {w w' : World} {v : Value} {k z : Nat} {p : PS} {T : List Nat}, St w v k z p T → w.heap.size ≤ w'.heap.size → (∀ i, foot w v i → w'.heap[i]? = w.heap[i]?) → St w' v k z p T ∧ ∀ i, foot w' v i → foot w v i
  new_ok : ∀ (k z : Nat) (w : World), 1 ≤ k → k ≤ 16 → 1 ≤ z → z ≤ 8 → Calls Tryz.prog 26 #[.int .i64 k, .int .i64 z] w fun e w' => ∃ v, e = .returned (.tuple #[v, .nilIface]) ∧ St w' v k z p0 [] ∧ (∀ i, foot w' v i → w.heap.size ≤ i) ∧ Below w.heap.size w w'
  new_range : ∀ (k z : Int) (w : World), ¬ ((1 ≤ k ∧ k ≤ 16) ∧ 1 ≤ z ∧ z ≤ 8) → Calls Tryz.prog 26 #[.int .i64 k, .int .i64 z] w fun e w' => ∃ v, e = .returned (.tuple #[v, .iface 54 (.int .i64 1)]) ∧ Below w.heap.size w w'
  take_bad : ∀ {w : World} {v : Value} {k z : Nat} {p : PS} {T : List Nat}, St w v k z p T → ∀ (seed : Int) (data : ByteArray), data.size ≤ maxLen → tF k z T seed data.size ≠ 0 →
    Calls Tryz.prog 60 #[v, dropV seed data] w fun e w' => ∃ vs, e = .returned (.tuple #[vs, .iface 54 (.int .i64 (tF k z T seed data.size))]) ∧ Lsh w' vs [] ∧ St w' v k z p T ∧ Kept (foot w v) w w' ∧ ∀ i, foot w' v i → foot w v i ∨ w.heap.size ≤ i
  take_ok : ∀ {w : World} {v : Value} {k z : Nat} {p : PS} {T : List Nat}, St w v k z p T → ∀ (seed : Nat) (data : ByteArray), tF k z T seed data.size = 0 →
    Calls Tryz.prog 60 #[v, dropV seed data] w fun e w' => ∃ vs q, e = .returned (.tuple #[vs, .nilIface]) ∧ Peels (setL k) ⟨p.known, p.B, p.L ++ [(seed, data)]⟩ q ∧ Lsh w' vs (came k p.known q.known) ∧ St w' v k z q (T ++ [seed]) ∧ Kept (foot w v) w w' ∧ ∀ i, foot w' v i → foot w v i ∨ w.heap.size ≤ i
  knows_ok : ∀ {w : World} {v : Value} {k z : Nat} {p : PS} {T : List Nat}, St w v k z p T → Calls Tryz.prog 62 #[v] w fun e w' => ∃ vs, e = .returned vs ∧ Lsh w' vs (knows k p.known) ∧ Below w.heap.size w w'
theorem PIm0.below (I : PIm0) {w w' : World} {v : Value} {k z : Nat} {p : PS} {T : List Nat} (h : I.St w v k z p T) (hb : Below w.heap.size w w') : I.St w' v k z p T ∧ ∀ i, I.foot w' v i → I.foot w v i := I.keep h hb.size fun i hi => hb.block i (I.foot_lt h i hi)
theorem fD_ok {k z sj : Int} {n : Nat} (h : fD k z sj n = 0) : OkD k z sj ∧ (n : Int) = z := by
  unfold fD at h
  by_cases c : OkD k z sj
  · rw [if_pos c] at h
    by_cases c2 : (n : Int) = z
    · exact ⟨c, c2⟩
    · rw [if_neg c2] at h; cases h
  · rw [if_neg c] at h; cases h
end Go.Proofs.YtjgifjkdgoijmaaGreat
