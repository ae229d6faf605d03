/-
  What a Peeler must do, whatever it is made of: its contracts as one thing, so that the laws on it can be walked. Lemmas for the laws above; no statement is proved here.
-/
import Derived.Test.YtopibfbpecjgbaaDoorRSt
import Derived.Test.YtopibfbpecjgbaaDoorRDrop
namespace Go.Proofs.YtopibfbpecjgbaaDoor
open Go.RowKit Go.Maps
set_option linter.unusedVariables false
set_option maxRecDepth 100000

/-- What Take finds: the fault's number. -/
def tF (k z : Nat) (T : List Nat) (seed : Int) (n : Nat) : Int := if fD k z seed n ≠ 0 then fD k z seed n else if seed.toNat ∈ T then 7 else if 60 ≤ T.length then 4 else 0
/-- What Block finds, and tells. -/
def bF (k : Nat) (p : PS) (i : Int) : Int := if i < 0 ∨ (k : Int) ≤ i then 1 else if p.known i.toNat then 0 else 5
def bS (k : Nat) (p : PS) (i : Int) : ByteArray := if i < 0 ∨ (k : Int) ≤ i then ⟨#[]⟩ else if p.known i.toNat then p.B i.toNat else ⟨#[]⟩
/-- One that knows nothing. -/
def p0 : PS := ⟨fun _ => false, fun _ => ⟨#[]⟩, []⟩

structure PIm where
  St : World → Value → Nat → Nat → PS → List Nat → Prop
  foot : World → Value → Nat → Prop
  foot_lt : ∀ {w : World} {v : Value} {k z : Nat} {p : PS} {T : List Nat}, St w v k z p T → ∀ i, foot w v i → i < w.heap.size
  keep : ∀ {w w' : World} {v : Value} {k z : Nat} {p : PS} {T : List Nat}, St w v k z p T → w.heap.size ≤ w'.heap.size → (∀ i, foot w v i → w'.heap[i]? = w.heap[i]?) → St w' v k z p T ∧ ∀ i, foot w' v i → foot w v i
  new_ok : ∀ (k z : Nat) (w : World), 1 ≤ k → k ≤ 16 → 1 ≤ z → z ≤ 8 → Calls Tryd.prog 6 #[.int .i64 k, .int .i64 z] w fun e w' => ∃ v, e = .returned (.tuple #[v, .nilIface]) ∧ St w' v k z p0 [] ∧ (∀ i, foot w' v i → w.heap.size ≤ i) ∧ Below w.heap.size w w'
  new_range : ∀ (k z : Int) (w : World), ¬ ((1 ≤ k ∧ k ≤ 16) ∧ 1 ≤ z ∧ z ≤ 8) → Calls Tryd.prog 6 #[.int .i64 k, .int .i64 z] w fun e w' => ∃ v, e = .returned (.tuple #[v, .iface 54 (.int .i64 1)]) ∧ Below w.heap.size w w'
  take_bad : ∀ {w : World} {v : Value} {k z : Nat} {p : PS} {T : List Nat}, St w v k z p T → ∀ (seed : Int) (data : ByteArray), data.size ≤ maxLen → tF k z T seed data.size ≠ 0 →
    Calls Tryd.prog 7 #[v, dropV seed data] w fun e w' => ∃ vs, e = .returned (.tuple #[vs, .iface 54 (.int .i64 (tF k z T seed data.size))]) ∧ Lsh w' vs [] ∧ St w' v k z p T ∧ Kept (foot w v) w w' ∧ ∀ i, foot w' v i → foot w v i ∨ w.heap.size ≤ i
  take_ok : ∀ {w : World} {v : Value} {k z : Nat} {p : PS} {T : List Nat}, St w v k z p T → ∀ (seed : Nat) (data : ByteArray), tF k z T seed data.size = 0 →
    Calls Tryd.prog 7 #[v, dropV seed data] w fun e w' => ∃ vs q, e = .returned (.tuple #[vs, .nilIface]) ∧ Peels (setL k) ⟨p.known, p.B, p.L ++ [(seed, data)]⟩ q ∧ Lsh w' vs (came k p.known q.known) ∧ St w' v k z q (T ++ [seed]) ∧ Kept (foot w v) w w' ∧ ∀ i, foot w' v i → foot w v i ∨ w.heap.size ≤ i
  knows_ok : ∀ {w : World} {v : Value} {k z : Nat} {p : PS} {T : List Nat}, St w v k z p T → Calls Tryd.prog 12 #[v] w fun e w' => ∃ vs, e = .returned vs ∧ Lsh w' vs (knows k p.known) ∧ Below w.heap.size w w'
  waits_ok : ∀ {w : World} {v : Value} {k z : Nat} {p : PS} {T : List Nat}, St w v k z p T → Calls Tryd.prog 14 #[v] w fun e w' => e = .returned (.int .i64 (p.L.length : Nat)) ∧ Below w.heap.size w w'
  block_any : ∀ {w : World} {v : Value} {k z : Nat} {p : PS} {T : List Nat}, St w v k z p T → ∀ i : Int, Calls Tryd.prog 8 #[v, .int .i64 i] w fun e w' => ∃ err, e = .returned (.tuple #[.string (bS k p i), err]) ∧ ErrIs (bF k p i) err ∧ Below w.heap.size w w'
theorem PIm.below (I : PIm) {w w' : World} {v : Value} {k z : Nat} {p : PS} {T : List Nat} (h : I.St w v k z p T) (hb : Below w.heap.size w w') : I.St w' v k z p T ∧ ∀ i, I.foot w' v i → I.foot w v i := I.keep h hb.size fun i hi => hb.block i (I.foot_lt h i hi)
theorem fD_ok {k z sj : Int} {n : Nat} (h : fD k z sj n = 0) : OkD k z sj ∧ (n : Int) = z := by
  unfold fD at h
  by_cases c : OkD k z sj
  · rw [if_pos c] at h
    by_cases c2 : (n : Int) = z
    · exact ⟨c, c2⟩
    · rw [if_neg c2] at h; cases h
  · rw [if_neg c] at h; cases h
end Go.Proofs.YtopibfbpecjgbaaDoor
