/-
  Lemmas for the law above, joined into one text (Told, ErrIs, DropF, PIm0, PKit). No statement is proved here.
-/
import Derived.Test.YtldjbampimbaeaaGreatDoorZAs
import Derived.Test.YtldjbampimbaeaaGreatDoorZG3
import Derived.Test.YtldjbampimbaeaaGreatDoorZG4
namespace Go.Proofs.YtldjbampimbaeaaGreatDoor
open Go.RowKit Go.Extern.Stop Go.Stop Go.Extern
set_option linter.unusedVariables false
set_option maxRecDepth 100000

/-- What the row's list of variables gives: the cell of errors.errorType. -/
def HasErr (w : World) : Prop := w.cell? ⟨0, 0, none⟩ = some (.iface 139 (.agg #[.pointer (some ⟨1, 25, none⟩)]))
theorem HasErr.lt {w : World} (h : HasErr w) : 0 < w.heap.size := by
  rcases Nat.lt_or_ge 0 w.heap.size with h' | h'
  · exact h'
  · simp [HasErr, World.cell?, Array.getElem?_eq_none h'] at h
theorem HasErr.below {w w' : World} (h : HasErr w) {B : Nat} (hB : 0 < B) (hb : Below B w w') : HasErr w' :=
  (hb.cell (p := ⟨0, 0, none⟩) hB).trans h

theorem told_nil (w : World) : Calls Tryz.prog 29 #[.nilIface] w fun e w' => e = .returned (.int .i64 0) ∧ w = w' := by
  go_enter Tryz.func29, Tryz.ntmps29
  go_wp2
  go_ret
  exact ⟨rfl, rfl⟩
set_option maxHeartbeats 1000000 in
theorem told_hit (n : Int) (w : World) (hg : HasErr w) : Calls Tryz.prog 29 #[.iface 54 (.int .i64 n)] w fun e w' => e = .returned (.int .i64 n) ∧ Below w.heap.size w w' := by
  have hA := as_hit n ⟨w.heap.size, 0, none⟩ (.int .i64 0) (w.alloc (.cells #[.int .i64 0] 54)) (by rw [World.cell?_alloc_lt _ _ ⟨0, 0, none⟩ hg.lt]; exact hg) (by simp) (by simp)
  have K := hide hA
  clear hA
  go_enter Tryz.func29, Tryz.ntmps29
  go_wp2_with fail
  refine (K.out).mono ?_
  rintro e w1 ⟨rfl, rfl⟩
  go_wp2
  go_ret
  refine ⟨rfl, ?_⟩
  repeat (first | exact Below.refl _ _ | refine Below.alloc ?_ (by simp <;> omega) _)
theorem error_nil (x : Int) (w : World) : Calls Tryz.prog 11 #[.nilIface, .int .i64 x] w fun e w' => e = .returned (.bool (0 == x)) ∧ w = w' := by
  go_enter Tryz.func11, Tryz.ntmps11
  go_wp2_with fail
  refine (told_nil _).mono ?_
  rintro e w1 ⟨rfl, rfl⟩
  go_wp2
  go_ret
  exact ⟨rfl, rfl⟩
theorem error_hit (n x : Int) (w : World) (hg : HasErr w) : Calls Tryz.prog 11 #[.iface 54 (.int .i64 n), .int .i64 x] w fun e w' => e = .returned (.bool (n == x)) ∧ Below w.heap.size w w' := by
  go_enter Tryz.func11, Tryz.ntmps11
  go_wp2_with fail
  refine (told_hit _ _ hg).mono ?_
  rintro e w1 ⟨rfl, hb⟩
  go_wp2
  go_ret
  exact ⟨rfl, hb⟩

/-! What the row's list gives a walk, and a world that meets it. -/
theorem errGlobal : Tryz.prog.globalNamed "errors.errorType" = some 0 := by kernel_rfl
theorem errRt : (Tryz.prog.cutTypes.find? (·.1 == "internal/reflectlite.rtype")).map (·.2) = some 139 := by kernel_rfl
theorem errOneRow : ((List.range 189).filter fun t => Tryz.prog.rowNamed t [101, 114, 114, 111, 114]) = [25] := by kernel_rfl
theorem errSize : Tryz.prog.types.size = 189 := by kernel_rfl
theorem hasErr_of_laid {W : World} (h : laidMetH Tryz.prog [("errors.errorType", Rows.laid_errors_errorType)] W) : HasErr W := by
  have h' : laidMet Tryz.prog [] W ∧ handlesMet Tryz.prog [("errors.errorType", Rows.laid_errors_errorType)] W := h
  obtain ⟨name, u, ty, e1, e2, e3, e4, e5⟩ := h'.2 _ (List.mem_singleton.2 rfl)
  have en : name = [101, 114, 114, 111, 114] := (Option.some.inj e1).symm
  subst en
  obtain rfl := Option.some.inj (errRt.symm.trans e2)
  have hm : ty ∈ (List.range 189).filter fun t => Tryz.prog.rowNamed t [101, 114, 114, 111, 114] := List.mem_filter.2 ⟨List.mem_range.2 (by rw [← errSize]; exact e3), e4⟩
  rw [errOneRow] at hm
  obtain rfl := List.mem_singleton.1 hm
  have hh : typeHandle Tryz.prog 25 = .pointer (some ⟨1, 25, none⟩) := by kernel_rfl
  rw [hh] at e5
  have := World.var?_cell errGlobal e5 0
  simpa [HasErr] using this
end Go.Proofs.YtldjbampimbaeaaGreatDoor

namespace Go.Proofs.YtldjbampimbaeaaGreatDoor
open Go.RowKit
set_option linter.unusedVariables false
set_option maxRecDepth 100000

/-- The error that stands for the number x: none for 0. -/
def ErrIs (x : Int) (err : Value) : Prop := (x = 0 ∧ err = .nilIface) ∨ err = .iface 54 (.int .i64 x)
theorem error_right (x : Int) (err : Value) (w : World) (hg : HasErr w) (h : ErrIs x err) :
    Calls Tryz.prog 11 #[err, .int .i64 x] w fun e w' => e = .returned (.bool true) ∧ Below w.heap.size w w' := by
  rcases h with ⟨rfl, rfl⟩ | rfl
  · exact (error_nil 0 w).mono fun e w' ⟨he, hw⟩ => ⟨he, hw ▸ Below.refl _ _⟩
  · exact (error_hit x x w hg).mono fun e w' ⟨he, hb⟩ => ⟨by rw [he]; simp, hb⟩
end Go.Proofs.YtldjbampimbaeaaGreatDoor

namespace Go.Proofs.YtldjbampimbaeaaGreatDoor
open Go.RowKit Go.Maps
set_option linter.unusedVariables false
set_option maxRecDepth 100000

/-- What is wrong with a Drop: its number. -/
def OkD (k size seed : Int) : Prop := (1 ≤ k ∧ k ≤ 16) ∧ (1 ≤ size ∧ size ≤ 8) ∧ 1 ≤ seed ∧ seed ≤ 10000
instance (k size seed : Int) : Decidable (OkD k size seed) := inferInstanceAs (Decidable (_ ∧ _))
def fD (k size seed : Int) (n : Nat) : Int := if OkD k size seed then (if (n : Int) = size then 0 else 3) else 1

theorem dcheck_any (k size seed : Int) (s : ByteArray) (w : World) :
    Calls Tryz.prog 26 #[.int .i64 k, .int .i64 size, dropV seed s] w fun e w' => ∃ err, e = .returned err ∧ ErrIs (fD k size seed s.size) err ∧ Below w.heap.size w w' := by
  unfold fD
  by_cases h : OkD k size seed
  · rw [if_pos h]
    by_cases c : (s.size : Int) = size
    · rw [if_pos c]; exact (dcheck_ok k size seed s w h.1 h.2.1 h.2.2 c).mono fun e w' ⟨he, hb⟩ => ⟨_, he, Or.inl ⟨rfl, rfl⟩, hb⟩
    · rw [if_neg c]; exact (dcheck_shape k size seed s w h.1 h.2.1 h.2.2 c).mono fun e w' ⟨he, hb⟩ => ⟨_, he, Or.inr rfl, hb⟩
  · rw [if_neg h]; exact (dcheck_range k size seed s w h).mono fun e w' ⟨he, hb⟩ => ⟨_, he, Or.inr rfl, hb⟩
/-- The error that tells the number x: none for 0. -/
def Tell (x : Int) : Value := if x = 0 then .nilIface else .iface 54 (.int .i64 x)
theorem tell_is (x : Int) : ErrIs x (Tell x) := by
  unfold Tell
  by_cases h : x = 0
  · rw [if_pos h]; exact Or.inl ⟨h, rfl⟩
  · rw [if_neg h]; exact Or.inr rfl
theorem dcheck_tell (k size seed : Int) (s : ByteArray) (w : World) :
    Calls Tryz.prog 26 #[.int .i64 k, .int .i64 size, .agg #[.int .i64 seed, .string s]] w fun e w' => e = .returned (Tell (fD k size seed s.size)) ∧ Below w.heap.size w w' := by
  unfold fD
  by_cases h : OkD k size seed
  · rw [if_pos h]
    by_cases c : (s.size : Int) = size
    · rw [if_pos c]; exact dcheck_ok k size seed s w h.1 h.2.1 h.2.2 c
    · rw [if_neg c]; exact dcheck_shape k size seed s w h.1 h.2.1 h.2.2 c
  · rw [if_neg h]; exact dcheck_range k size seed s w h
end Go.Proofs.YtldjbampimbaeaaGreatDoor

namespace Go.Proofs.YtldjbampimbaeaaGreatDoor
open Go.RowKit Go.Maps
set_option linter.unusedVariables false
set_option maxRecDepth 100000

/-- What Take finds: the fault's number. -/
def tF (k z : Nat) (T : List Nat) (seed : Int) (n : Nat) : Int := if fD k z seed n ≠ 0 then fD k z seed n else if seed.toNat ∈ T then 7 else if 60 ≤ T.length then 4 else 0
/-- One that knows nothing. -/
def p0 : PS := ⟨fun _ => false, fun _ => ⟨#[]⟩, []⟩

structure PIm0 where
  St : World → Value → Nat → Nat → PS → List Nat → Prop
  foot : World → Value → Nat → Prop
  foot_lt : ∀ {w : World} {v : Value} {k z : Nat} {p : PS} {T : List Nat}, St w v k z p T → ∀ i, foot w v i → i < w.heap.size
  keep : ∀ {w w' : World} {v : Value} {k z : Nat} {p : PS} {T : List Nat}, St w v k z p T → w.heap.size ≤ w'.heap.size → (∀ i, foot w v i → w'.heap[i]? = w.heap[i]?) → St w' v k z p T ∧ ∀ i, foot w' v i → foot w v i
  new_ok : ∀ (k z : Nat) (w : World), 1 ≤ k → k ≤ 16 → 1 ≤ z → z ≤ 8 → Calls Tryz.prog 7 #[.int .i64 k, .int .i64 z] w fun e w' => ∃ v, e = .returned (.tuple #[v, .nilIface]) ∧ St w' v k z p0 [] ∧ (∀ i, foot w' v i → w.heap.size ≤ i) ∧ Below w.heap.size w w'
  new_range : ∀ (k z : Int) (w : World), ¬ ((1 ≤ k ∧ k ≤ 16) ∧ 1 ≤ z ∧ z ≤ 8) → Calls Tryz.prog 7 #[.int .i64 k, .int .i64 z] w fun e w' => ∃ v, e = .returned (.tuple #[v, .iface 54 (.int .i64 1)]) ∧ Below w.heap.size w w'
  take_bad : ∀ {w : World} {v : Value} {k z : Nat} {p : PS} {T : List Nat}, St w v k z p T → ∀ (seed : Int) (data : ByteArray), data.size ≤ maxLen → tF k z T seed data.size ≠ 0 →
    Calls Tryz.prog 9 #[v, dropV seed data] w fun e w' => ∃ vs, e = .returned (.tuple #[vs, .iface 54 (.int .i64 (tF k z T seed data.size))]) ∧ Lsh w' vs [] ∧ St w' v k z p T ∧ Kept (foot w v) w w' ∧ ∀ i, foot w' v i → foot w v i ∨ w.heap.size ≤ i
  take_ok : ∀ {w : World} {v : Value} {k z : Nat} {p : PS} {T : List Nat}, St w v k z p T → ∀ (seed : Nat) (data : ByteArray), tF k z T seed data.size = 0 →
    Calls Tryz.prog 9 #[v, dropV seed data] w fun e w' => ∃ vs q, e = .returned (.tuple #[vs, .nilIface]) ∧ Peels (setL k) ⟨p.known, p.B, p.L ++ [(seed, data)]⟩ q ∧ Lsh w' vs (came k p.known q.known) ∧ St w' v k z q (T ++ [seed]) ∧ Kept (foot w v) w w' ∧ ∀ i, foot w' v i → foot w v i ∨ w.heap.size ≤ i
  knows_ok : ∀ {w : World} {v : Value} {k z : Nat} {p : PS} {T : List Nat}, St w v k z p T → Calls Tryz.prog 12 #[v] w fun e w' => ∃ vs, e = .returned vs ∧ Lsh w' vs (knows k p.known) ∧ Below w.heap.size w w'
theorem PIm0.below (I : PIm0) {w w' : World} {v : Value} {k z : Nat} {p : PS} {T : List Nat} (h : I.St w v k z p T) (hb : Below w.heap.size w w') : I.St w' v k z p T ∧ ∀ i, I.foot w' v i → I.foot w v i := I.keep h hb.size fun i hi => hb.block i (I.foot_lt h i hi)
theorem fD_ok {k z sj : Int} {n : Nat} (h : fD k z sj n = 0) : OkD k z sj ∧ (n : Int) = z := by
  unfold fD at h
  by_cases c : OkD k z sj
  · rw [if_pos c] at h
    by_cases c2 : (n : Int) = z
    · exact ⟨c, c2⟩
    · rw [if_neg c2] at h; cases h
  · rw [if_neg c] at h; cases h
end Go.Proofs.YtldjbampimbaeaaGreatDoor

namespace Go.Proofs.YtldjbampimbaeaaGreatDoor
open Go.RowKit Go.Maps
set_option linter.unusedVariables false
set_option maxRecDepth 100000

theorem below_two' {w0 w w' : World} (h : Below w0.heap.size w0 w) (k : Below w.heap.size w w') : Below w0.heap.size w0 w' := below_two h k
theorem kept_below {M : Nat → Prop} {w0 w w' : World} (h : Below w0.heap.size w0 w) (k : Kept M w w') (hm : ∀ i, M i → w0.heap.size ≤ i) : Below w0.heap.size w0 w' :=
  ⟨k.os.trans h.os, k.tape.trans h.tape, k.output.trans h.output, Nat.le_trans h.size k.size, fun i hi => (k.block i (Nat.lt_of_lt_of_le hi h.size) (fun e => by have := hm i e; omega)).trans (h.block i hi)⟩
theorem came_self (k : Nat) (kn : Nat → Bool) : came k kn kn = [] := List.filter_eq_nil_iff.2 fun r _ => by cases kn r <;> simp
theorem Lsh.kept {M : Nat → Prop} {w w' : World} {v : Value} {l : List Nat} (h : Lsh w v l) (k : Kept M w w') (hm : ∀ i, v.ownBlock = some i → ¬ M i) : Lsh w' v l := by
  obtain ⟨a, cap, hv, h1, h2, h3⟩ := h
  refine ⟨a, cap, hv, h1, h2, fun h0 => ?_⟩
  obtain ⟨g, cap', hv', q1, q2, q3⟩ := h3 h0
  have hlt : g < w.heap.size := cell_lt (q3 0 h0)
  have hb : w'.heap[g]? = w.heap[g]? := k.block g hlt (hm g (by rw [hv']; rfl))
  exact ⟨g, cap', hv', q1, q2, fun i hi => (World.cell?_of_block (w := w) hb).trans (q3 i hi)⟩
theorem Peels.shrinks {S : Nat → List Nat} {p a : PS} (h : Peels S p a) : a.L.length ≤ p.L.length := by rw [h.waits]; exact sift_len _
theorem tF_ok {k z : Nat} {T : List Nat} {n d : Nat} (hf : fD k z (n : Int) d = 0) (hm : n ∉ T) (h : ¬ 60 ≤ T.length) : tF k z T (n : Int) d = 0 := by
  unfold tF
  rw [if_neg (by simp [hf]), if_neg (by simpa using hm), if_neg h]
end Go.Proofs.YtldjbampimbaeaaGreatDoor
