/-
  Lemmas for the law above, joined into one text (EarRep, PMap). No statement is proved here.
-/
import Derived.Shelf.Strings.Repeat
import Derived.Shelf.Strings.BuilderX
import Derived.Test.YtjgifjkdgoijmaaPG0
import Derived.WalkKit
import Derived.Test.YtjgifjkdgoijmaaPG4
import Derived.Test.YtjgifjkdgoijmaaPG11
namespace Go.Proofs.Ytjgifjkdgoijmaa
open Go.Shelf Go.RowKit
set_option linter.unusedVariables false
set_option maxRecDepth 100000
def renRep : Go.Shelf.Ren := ⟨fun | 99 => 50 | 105 => 33 | 165 => 51 | 166 => 52 | 169 => 54 | 170 => 53 | 206 => 65 | 212 => 49 | 240 => 66 | 241 => 67 | 263 => 63 | 264 => 64 | 276 => 77 | 277 => 78 | n => n,
  fun | 9 => 9 | 3 => 3 | 4 => 4 | 0 => 0 | 20 => 20 | 46 => 96 | 51 => 119 | 53 => 122 | 72 => 102 | 76 => 63 | 70 => 100 | 37 => 66 | 75 => 24 | 109 => 97 | 127 => 110 | 146 => 120 | 148 => 123 | 164 => 136 | 5 => 5 | 80 => 105 | n => n, fun | n => n⟩
theorem laysRep : Go.Proofs.Lays.n105 Try.prog renRep := by constructor <;> (intros; kernel_rfl)
theorem extraRep0 : Builder.X72 Try.prog renRep := by constructor <;> (intros; kernel_rfl)
theorem extraRep : Builder.Extra Try.prog renRep :=
  Builder.Extra.mk extraRep0 (by kernel_rfl) (fun _ => by kernel_rfl) (fun _ => by kernel_rfl) (fun _ => by kernel_rfl) (by kernel_rfl) (by kernel_rfl) (by kernel_rfl) (by decide)
/-- One byte, n times: a string of n bytes. -/
theorem repeat_one (a : UInt8) (n : Nat) (w : World) (hn : n ≤ 1000) :
    Calls Try.prog 33 #[.string ⟨#[a]⟩, .int .i64 n] w fun e w' => ∃ s : ByteArray, e = .returned (.string s) ∧ s.size = n ∧ Below w.heap.size w w' := by
  have h1 : (ByteArray.mk #[a]).size = 1 := rfl
  refine (Any.strings_Repeat laysRep extraRep ⟨#[a]⟩ n w (by omega) (by rw [h1]; omega)).mono ?_
  rintro e w' ⟨rfl, hb⟩
  refine ⟨_, rfl, ?_, hb⟩
  rw [Lib.size_eq, List.toList_toArray, Lib.repeatL_length]
  show n * 1 = n
  omega
end Go.Proofs.Ytjgifjkdgoijmaa

namespace Go.Proofs.Ytjgifjkdgoijmaa
open Go.RowKit Go.Maps
set_option linter.unusedVariables false
set_option maxRecDepth 100000

/-- How a block that is known reads. -/
def blkElem (v : Value) : Option (DataW Unit × List MemPlace) :=
  match v with
  | .agg cs => match cs.toList with
    | [.string s] => some (.lit (.string s.data.toList), [])
    | _ => none
  | _ => none
theorem blkElem_mk (s : ByteArray) : blkElem (.agg #[.string s]) = some (.lit (.string s.data.toList), []) := rfl
theorem blkElem_inv {v : Value} {z : DataW Unit × List MemPlace} (h : blkElem v = some z) : ∃ s : ByteArray, v = .agg #[.string s] ∧ z = (.lit (.string s.data.toList), []) := by
  unfold blkElem at h
  split at h
  · rename_i cs
    split at h
    · rename_i s hs
      cases h
      refine ⟨s, ?_, rfl⟩
      rw [show cs = #[.string s] from Array.toList_inj.1 hs]
    · cases h
  · cases h
theorem bytes_of_list {a b : ByteArray} (h : a.data.toList = b.data.toList) : a = b := by
  cases a; cases b
  congr 1
  exact Array.toList_inj.1 h
theorem Try.zeroBlk (w : World) : (zeroValue 132).run Try.prog w = .ok (.agg #[.string ⟨#[]⟩]) w := by kernel_rfl
theorem tightR {R : Value → Option (DataW Unit × List MemPlace)} {P : Program} {t : TypeId} {w : World} {b n : Nat} {D : DataW Unit} (h : w.ownsMap P t R b n D) : w.ownsMap P t R b (Maps.size D) D := by
  obtain ⟨es, clock, hb, F, hs, rfl⟩ := h
  exact ⟨es, clock, hb, F, by simp [Maps.size, length_sorted], rfl⟩
theorem ownsMap_block {R : Value → Option (DataW Unit × List MemPlace)} {P : Program} {t : TypeId} {w w' : World} {b n : Nat} {D : DataW Unit} (h : w.ownsMap P t R b n D) (hb : w'.heap[b]? = w.heap[b]?) : w'.ownsMap P t R b n D := by
  obtain ⟨es, clock, h1, r⟩ := h
  exact ⟨es, clock, hb.trans h1, r⟩

/-- The map of block b holds the blocks that are known, of k. -/
structure MKn (w : World) (b k : Nat) (kn : Nat → Bool) (B : Nat → ByteArray) (D : DataW Unit) : Prop where
  own : w.ownsMap Try.prog 3 blkElem b (Maps.size D) D
  few : Maps.size D + unk k kn ≤ k
  has : ∀ r : Nat, Maps.has D (.int .i64 r) = kn r
  val : ∀ r : Nat, kn r = true → D.atKey (.int .i64 r) (.lit (.string [])) = .lit (.string (B r).data.toList)
theorem unk_none (k : Nat) : unk k (fun _ => false) = k := by
  have e : ((List.range k).filter fun r => !(fun _ => false) r) = List.range k := List.filter_eq_self.2 fun _ _ => rfl
  unfold unk; rw [e, List.length_range]
theorem mkn_made (w : World) (k : Nat) (B : Nat → ByteArray) : MKn (w.alloc (.map #[] 0)) w.heap.size k (fun _ => false) B (.map []) :=
  ⟨World.ownsMap_made _ _ _ _, by rw [unk_none]; simp [Maps.size], fun r => by simp [Maps.has], fun r h => by cases h⟩
theorem MKn.lt {w : World} {b k : Nat} {kn : Nat → Bool} {B : Nat → ByteArray} {D : DataW Unit} (h : MKn w b k kn B D) : b < w.heap.size := h.own.lt
theorem MKn.of_block {w w' : World} {b k : Nat} {kn : Nat → Bool} {B : Nat → ByteArray} {D : DataW Unit} (h : MKn w b k kn B D) (hb : w'.heap[b]? = w.heap[b]?) : MKn w' b k kn B D := ⟨ownsMap_block h.own hb, h.few, h.has, h.val⟩
theorem MKn.below {w w' : World} {b k : Nat} {kn : Nat → Bool} {B : Nat → ByteArray} {D : DataW Unit} (h : MKn w b k kn B D) (hb : Below w.heap.size w w') : MKn w' b k kn B D := h.of_block (hb.block b h.lt)
theorem MKn.put {w w' : World} {b k : Nat} {kn : Nat → Bool} {B : Nat → ByteArray} {D : DataW Unit} (h : MKn w b k kn B D) {x : Nat} {s : ByteArray} (hx : kn x = false) (hxk : x < k) {n : Nat}
    (h' : w'.ownsMap Try.prog 3 blkElem b n (D.put (.int .i64 x) (.lit (.string s.data.toList)))) : MKn w' b k (upd kn x true) (upd B x s) (D.put (.int .i64 x) (.lit (.string s.data.toList))) := by
  refine ⟨tightR h', ?_, fun r => ?_, fun r hr => ?_⟩
  · rw [Maps.size_put (h.own.tidy Try.lawInt), h.has x, hx]
    have := h.few
    have := unk_less hx hxk
    simp only [Bool.false_eq_true, if_false]
    omega
  · by_cases c : r = x
    · subst c
      rw [Maps.has_put_same (k := .int .i64 (r : Int)) h.own.isMap trivial]; simp [upd]
    · rw [Maps.has_put_other (fun e => c (by injection e with _ e; omega)), h.has r]; simp [upd, c]
  · by_cases c : r = x
    · subst c
      rw [Maps.atKey_put_same (k := .int .i64 (r : Int)) h.own.isMap trivial]; simp [upd]
    · rw [Maps.atKey_put_other (fun e => c (by injection e with _ e; omega))]
      have e : upd B x s r = B r := by simp [upd, c]
      rw [e]
      exact h.val r (by simpa [upd, c] using hr)
theorem key16 {r : Nat} (h : r ≤ 10000) : keyOf Try.prog 3 (.int .i64 (r : Nat)) = some (.int .i64 (r : Nat)) := keyOf_int_mk Try.underlying3 (WalkArith.wf_i64 (by omega))

/-- 'b, ok := known[r]'. -/
theorem wpList_lookup_blk {w : World} {ops : Array Oper} {rest : List Oper} {o : Oper} {a : Act} {Q : Exit → Act → World → Prop} (hg : o.guard = none) (m x : Operand) (hop : o.op = Op.lookup 79 m x true)
    (b k r : Nat) (kn : Nat → Bool) (B : Nat → ByteArray) (D : DataW Unit) (hm : a.eval m = .map (some b)) (hx : a.eval x = .int .i64 (r : Nat)) (hM : MKn w b k kn B D) (hr : r ≤ 10000)
    (hK : ∀ s : ByteArray, (kn r = true → s = B r) → wpList Try.prog ops Q rest (a.put o.dst (.tuple #[.agg #[.string s], .bool (kn r)])) w) :
    wpList Try.prog ops Q (o :: rest) a w := by
  refine wpList_lookup_own_ok w hg m x 79 hop 3 132 Try.lawInt Try.underlying79 blkElem (Try.zeroBlk w) (.lit (.string [])) [] (blkElem_mk ⟨#[]⟩) b _ D hm hM.own _ _ hx (key16 hr) (fun v ps hv => ?_)
  obtain ⟨s, rfl, hz⟩ := blkElem_inv hv
  rw [hM.has r]
  refine hK s fun h => ?_
  have h1 := congrArg Prod.fst hz
  rw [hM.val r h] at h1
  simp only at h1
  injection h1 with h1
  injection h1 with h1
  exact bytes_of_list h1.symm

set_option maxHeartbeats 1000000 in
theorem pknows_ok (b kb k r : Nat) (kn : Nat → Bool) (B : Nat → ByteArray) (D : DataW Unit) (w : World) (hc : w.cell? ⟨b, 3, none⟩ = some (.map (some kb))) (hM : MKn w kb k kn B D) (hr : r ≤ 10000) :
    Calls Try.prog 57 #[.pointer (some ⟨b, 0, none⟩), .int .i64 (r : Nat)] w fun e w' => e = .returned (.bool (kn r)) ∧ Below w.heap.size w w' := by
  have HM := hide hM
  clear hM
  go_enter Try.func57, Try.ntmps57
  go_wp2_with (first | (at_lookup; refine wpList_lookup_blk rfl _ _ rfl kb k r kn B D rfl rfl HM.out hr ?_; intro s hs) | go_in)
  go_ret
  exact ⟨rfl, (Below.refl _ _).alloc (Nat.le_refl _) _⟩
end Go.Proofs.Ytjgifjkdgoijmaa
