/-
  Lemmas for the law above, joined into one text (EarRep, PMap, OwnCut, IClone). No statement is proved here.
-/
import Derived.Shelf.Strings.Repeat
import Derived.Shelf.Strings.BuilderX
import Derived.Test.YtjgifjkdgoijmaaGreatWG0
import Derived.WalkKit
import Derived.Test.YtjgifjkdgoijmaaGreatWG2
import Derived.Test.YtjgifjkdgoijmaaGreatWG5
import Derived.Lib.SliceRun
namespace Go.Proofs.YtjgifjkdgoijmaaGreat
open Go.Shelf Go.RowKit
set_option linter.unusedVariables false
set_option maxRecDepth 100000
def renRep : Go.Shelf.Ren := ⟨fun | 99 => 75 | 105 => 47 | 165 => 76 | 166 => 77 | 169 => 79 | 170 => 78 | 206 => 96 | 212 => 74 | 240 => 97 | 241 => 98 | 263 => 94 | 264 => 95 | 276 => 109 | 277 => 110 | n => n,
  fun | 9 => 9 | 3 => 3 | 4 => 4 | 0 => 0 | 20 => 20 | 46 => 116 | 51 => 145 | 53 => 148 | 72 => 128 | 76 => 51 | 70 => 126 | 37 => 86 | 75 => 26 | 109 => 123 | 127 => 140 | 146 => 146 | 148 => 149 | 164 => 164 | 5 => 5 | 80 => 130 | n => n, fun | n => n⟩
theorem laysRep : Go.Proofs.Lays.n105 Tryz.prog renRep := by constructor <;> (intros; kernel_rfl)
theorem extraRep0 : Builder.X72 Tryz.prog renRep := by constructor <;> (intros; kernel_rfl)
theorem extraRep : Builder.Extra Tryz.prog renRep :=
  Builder.Extra.mk extraRep0 (by kernel_rfl) (fun _ => by kernel_rfl) (fun _ => by kernel_rfl) (fun _ => by kernel_rfl) (by kernel_rfl) (by kernel_rfl) (by kernel_rfl) (by decide)
/-- One byte, n times: a string of n bytes. -/
theorem repeat_one (a : UInt8) (n : Nat) (w : World) (hn : n ≤ 1000) :
    Calls Tryz.prog 47 #[.string ⟨#[a]⟩, .int .i64 n] w fun e w' => ∃ s : ByteArray, e = .returned (.string s) ∧ s.size = n ∧ Below w.heap.size w w' := by
  have h1 : (ByteArray.mk #[a]).size = 1 := rfl
  refine (Any.strings_Repeat laysRep extraRep ⟨#[a]⟩ n w (by omega) (by rw [h1]; omega)).mono ?_
  rintro e w' ⟨rfl, hb⟩
  refine ⟨_, rfl, ?_, hb⟩
  rw [Lib.size_eq, List.toList_toArray, Lib.repeatL_length]
  show n * 1 = n
  omega
end Go.Proofs.YtjgifjkdgoijmaaGreat

namespace Go.Proofs.YtjgifjkdgoijmaaGreat
open Go.RowKit Go.Maps
set_option linter.unusedVariables false
set_option maxRecDepth 100000

/-- How a block that is known reads. -/
def blkElem (v : Value) : Option (DataW Unit × List MemPlace) :=
  match v with
  | .agg cs => match cs.toList with
    | [.string s] => some (.lit (.string s.data.toList), [])
    | _ => none
  | _ => none
theorem blkElem_mk (s : ByteArray) : blkElem (.agg #[.string s]) = some (.lit (.string s.data.toList), []) := rfl
theorem blkElem_inv {v : Value} {z : DataW Unit × List MemPlace} (h : blkElem v = some z) : ∃ s : ByteArray, v = .agg #[.string s] ∧ z = (.lit (.string s.data.toList), []) := by
  unfold blkElem at h
  split at h
  · rename_i cs
    split at h
    · rename_i s hs
      cases h
      refine ⟨s, ?_, rfl⟩
      rw [show cs = #[.string s] from Array.toList_inj.1 hs]
    · cases h
  · cases h
theorem bytes_of_list {a b : ByteArray} (h : a.data.toList = b.data.toList) : a = b := by
  cases a; cases b
  congr 1
  exact Array.toList_inj.1 h
theorem Tryz.zeroBlk (w : World) : (zeroValue 159).run Tryz.prog w = .ok (.agg #[.string ⟨#[]⟩]) w := by kernel_rfl
theorem tightR {R : Value → Option (DataW Unit × List MemPlace)} {P : Program} {t : TypeId} {w : World} {b n : Nat} {D : DataW Unit} (h : w.ownsMap P t R b n D) : w.ownsMap P t R b (Maps.size D) D := by
  obtain ⟨es, clock, hb, F, hs, rfl⟩ := h
  exact ⟨es, clock, hb, F, by simp [Maps.size, length_sorted], rfl⟩
theorem ownsMap_block {R : Value → Option (DataW Unit × List MemPlace)} {P : Program} {t : TypeId} {w w' : World} {b n : Nat} {D : DataW Unit} (h : w.ownsMap P t R b n D) (hb : w'.heap[b]? = w.heap[b]?) : w'.ownsMap P t R b n D := by
  obtain ⟨es, clock, h1, r⟩ := h
  exact ⟨es, clock, hb.trans h1, r⟩

/-- The map of block b holds the blocks that are known, of k. -/
structure MKn (w : World) (b k : Nat) (kn : Nat → Bool) (B : Nat → ByteArray) (D : DataW Unit) : Prop where
  own : w.ownsMap Tryz.prog 3 blkElem b (Maps.size D) D
  few : Maps.size D + unk k kn ≤ k
  has : ∀ r : Nat, Maps.has D (.int .i64 r) = kn r
  val : ∀ r : Nat, kn r = true → D.atKey (.int .i64 r) (.lit (.string [])) = .lit (.string (B r).data.toList)
theorem unk_none (k : Nat) : unk k (fun _ => false) = k := by
  have e : ((List.range k).filter fun r => !(fun _ => false) r) = List.range k := List.filter_eq_self.2 fun _ _ => rfl
  unfold unk; rw [e, List.length_range]
theorem mkn_made (w : World) (k : Nat) (B : Nat → ByteArray) : MKn (w.alloc (.map #[] 0)) w.heap.size k (fun _ => false) B (.map []) :=
  ⟨World.ownsMap_made _ _ _ _, by rw [unk_none]; simp [Maps.size], fun r => by simp [Maps.has], fun r h => by cases h⟩
theorem MKn.lt {w : World} {b k : Nat} {kn : Nat → Bool} {B : Nat → ByteArray} {D : DataW Unit} (h : MKn w b k kn B D) : b < w.heap.size := h.own.lt
theorem MKn.of_block {w w' : World} {b k : Nat} {kn : Nat → Bool} {B : Nat → ByteArray} {D : DataW Unit} (h : MKn w b k kn B D) (hb : w'.heap[b]? = w.heap[b]?) : MKn w' b k kn B D := ⟨ownsMap_block h.own hb, h.few, h.has, h.val⟩
theorem MKn.below {w w' : World} {b k : Nat} {kn : Nat → Bool} {B : Nat → ByteArray} {D : DataW Unit} (h : MKn w b k kn B D) (hb : Below w.heap.size w w') : MKn w' b k kn B D := h.of_block (hb.block b h.lt)
theorem MKn.put {w w' : World} {b k : Nat} {kn : Nat → Bool} {B : Nat → ByteArray} {D : DataW Unit} (h : MKn w b k kn B D) {x : Nat} {s : ByteArray} (hx : kn x = false) (hxk : x < k) {n : Nat}
    (h' : w'.ownsMap Tryz.prog 3 blkElem b n (D.put (.int .i64 x) (.lit (.string s.data.toList)))) : MKn w' b k (upd kn x true) (upd B x s) (D.put (.int .i64 x) (.lit (.string s.data.toList))) := by
  refine ⟨tightR h', ?_, fun r => ?_, fun r hr => ?_⟩
  · rw [Maps.size_put (h.own.tidy Tryz.lawInt), h.has x, hx]
    have := h.few
    have := unk_less hx hxk
    simp only [Bool.false_eq_true, if_false]
    omega
  · by_cases c : r = x
    · subst c
      rw [Maps.has_put_same (k := .int .i64 (r : Int)) h.own.isMap trivial]; simp [upd]
    · rw [Maps.has_put_other (fun e => c (by injection e with _ e; omega)), h.has r]; simp [upd, c]
  · by_cases c : r = x
    · subst c
      rw [Maps.atKey_put_same (k := .int .i64 (r : Int)) h.own.isMap trivial]; simp [upd]
    · rw [Maps.atKey_put_other (fun e => c (by injection e with _ e; omega))]
      have e : upd B x s r = B r := by simp [upd, c]
      rw [e]
      exact h.val r (by simpa [upd, c] using hr)
theorem key16 {r : Nat} (h : r ≤ 10000) : keyOf Tryz.prog 3 (.int .i64 (r : Nat)) = some (.int .i64 (r : Nat)) := keyOf_int_mk Tryz.underlying3 (WalkArith.wf_i64 (by omega))

/-- 'b, ok := known[r]'. -/
theorem wpList_lookup_blk {w : World} {ops : Array Oper} {rest : List Oper} {o : Oper} {a : Act} {Q : Exit → Act → World → Prop} (hg : o.guard = none) (m x : Operand) (hop : o.op = Op.lookup 88 m x true)
    (b k r : Nat) (kn : Nat → Bool) (B : Nat → ByteArray) (D : DataW Unit) (hm : a.eval m = .map (some b)) (hx : a.eval x = .int .i64 (r : Nat)) (hM : MKn w b k kn B D) (hr : r ≤ 10000)
    (hK : ∀ s : ByteArray, (kn r = true → s = B r) → wpList Tryz.prog ops Q rest (a.put o.dst (.tuple #[.agg #[.string s], .bool (kn r)])) w) :
    wpList Tryz.prog ops Q (o :: rest) a w := by
  refine wpList_lookup_own_ok w hg m x 88 hop 3 159 Tryz.lawInt Tryz.underlying88 blkElem (Tryz.zeroBlk w) (.lit (.string [])) [] (blkElem_mk ⟨#[]⟩) b _ D hm hM.own _ _ hx (key16 hr) (fun v ps hv => ?_)
  obtain ⟨s, rfl, hz⟩ := blkElem_inv hv
  rw [hM.has r]
  refine hK s fun h => ?_
  have h1 := congrArg Prod.fst hz
  rw [hM.val r h] at h1
  simp only at h1
  injection h1 with h1
  injection h1 with h1
  exact bytes_of_list h1.symm

set_option maxHeartbeats 1000000 in
theorem pknows_ok (b kb k r : Nat) (kn : Nat → Bool) (B : Nat → ByteArray) (D : DataW Unit) (w : World) (hc : w.cell? ⟨b, 3, none⟩ = some (.map (some kb))) (hM : MKn w kb k kn B D) (hr : r ≤ 10000) :
    Calls Tryz.prog 88 #[.pointer (some ⟨b, 0, none⟩), .int .i64 (r : Nat)] w fun e w' => e = .returned (.bool (kn r)) ∧ Below w.heap.size w w' := by
  have HM := hide hM
  clear hM
  go_enter Tryz.func88, Tryz.ntmps88
  go_wp2_with (first | (at_lookup; refine wpList_lookup_blk rfl _ _ rfl kb k r kn B D rfl rfl HM.out hr ?_; intro s hs) | go_in)
  go_ret
  exact ⟨rfl, (Below.refl _ _).alloc (Nat.le_refl _) _⟩
end Go.Proofs.YtjgifjkdgoijmaaGreat

namespace Go.Proofs.YtjgifjkdgoijmaaGreat
open Go.RowKit
set_option linter.unusedVariables false
set_option maxRecDepth 100000

theorem own_cut {w : World} {B e size g n cap : Nat} {xs : List Value} (h : w.ownsRow B e size (.slice (some ⟨g, 0, none⟩) n cap) n xs) {i : Nat} (hi : i ≤ n) : w.ownsRow B e size (.slice (some ⟨g, 0, none⟩) i cap) i (xs.take (i * size)) := by
  have hm : i * size ≤ n * size := Nat.mul_le_mul_right _ hi
  rcases h.2 with ⟨hv, _⟩ | ⟨g', cap', cur, hv, h1, h2, h3, h4, h5, h6⟩
  · cases hv
  · cases hv
    refine ⟨by rw [List.length_take, h.1]; omega, Or.inr ⟨g, cap, cur, rfl, h1, h2, by omega, h4, h5, ?_⟩⟩
    rw [← h6, List.take_take, Nat.min_eq_left hm]
theorem own_sets {B e size g n cap : Nat} : ∀ (vs : List Value) (o : Nat) (w : World) (xs : List Value), w.ownsRow B e size (.slice (some ⟨g, 0, none⟩) n cap) n xs → ∃ ys, (w.setCells g o vs).ownsRow B e size (.slice (some ⟨g, 0, none⟩) n cap) n ys ∧ ys.take o = xs.take o
  | [], o, w, xs, h => ⟨xs, h, rfl⟩
  | v :: r, o, w, xs, h => by
    obtain ⟨ys, h1, h2⟩ := own_sets r (o + 1) _ _ (h.stored o v).1
    refine ⟨ys, h1, ?_⟩
    have := congrArg (List.take o) h2
    rw [List.take_take, List.take_take, Nat.min_eq_left (Nat.le_succ o), List.take_set_of_le (Nat.le_refl _)] at this
    exact this
/-- 'clear(s)' of elements of two cells. -/
theorem run_clear_two {P : Program} (w : World) (t e ty : TypeId) (x y : Value) (ht : P.underlying t = some (.slice e)) (hv : ∀ w, (zeroValue e).run P w = .ok (.agg #[x, y]) w) (hz : (Value.agg #[x, y]).cells = #[x, y]) (h1 : x.oneCell' = true) (h2 : y.oneCell' = true) (b o n c : Nat) (hn : 0 < n)
    (hc : ∀ j, j < n * 2 → (w.cell? ⟨b, o + j, none⟩).isSome = true) (hf : ∀ j, j < n * 2 → w.frozen? ⟨b, o + j, none⟩ = false) :
    (Builtin.clear_ #[t] ty #[.slice (some ⟨b, o, none⟩) n c]).run P w = .ok (.tuple #[]) (w.setCells b o (Builtin.zeroCells #[x, y] n).toList) := by
  have hlen : (Builtin.zeroCells #[x, y] n).toList.length = n * 2 := by simp [Builtin.zeroCells]
  have hone : ∀ v ∈ (Builtin.zeroCells #[x, y] n).toList, v.oneCell' = true := fun v hv => by
    simp [Builtin.zeroCells] at hv
    obtain ⟨i, hi, rfl⟩ := hv
    rcases Nat.mod_two_eq_zero_or_one i with e | e <;> simp [e, h1, h2]
  have hst := run_storeCells_cells (P := P) b o (Builtin.zeroCells #[x, y] n).toList 0 w (by rw [hlen]; simpa using hc) (by rw [hlen]; simpa using hf) hone
  simp only [Nat.add_zero] at hst
  obtain ⟨m, rfl⟩ : ∃ m, n = m + 1 := ⟨n - 1, by omega⟩
  simp [Builtin.clear_, run_underlying ht, hv, hz, hst]
theorem kept_sets {M : Nat → Prop} {w0 : World} {g : Nat} : ∀ {w : World}, Kept M w0 w → ∀ (vs : List Value) (o : Nat), M g → Kept M w0 (w.setCells g o vs)
  | _, h, [], _, _ => h
  | _, h, v :: r, o, hm => kept_sets (h.setCell ⟨g, o, none⟩ v (Or.inl hm)) r (o + 1) hm
/-- A row with some cells written over from place o on. -/
def puts : List Value → Nat → List Value → List Value
  | xs, _, [] => xs
  | xs, o, v :: r => puts (xs.set o v) (o + 1) r
theorem own_puts {B e size g n cap : Nat} : ∀ (vs : List Value) (o : Nat) (w : World) (xs : List Value), w.ownsRow B e size (.slice (some ⟨g, 0, none⟩) n cap) n xs → (w.setCells g o vs).ownsRow B e size (.slice (some ⟨g, 0, none⟩) n cap) n (puts xs o vs)
  | [], o, w, xs, h => h
  | v :: r, o, w, xs, h => own_puts r (o + 1) _ _ (h.stored o v).1
theorem puts_eq : ∀ (vs : List Value) (o : Nat) (xs : List Value), o + vs.length ≤ xs.length → puts xs o vs = xs.take o ++ vs ++ xs.drop (o + vs.length)
  | [], o, xs, h => by simp [puts]
  | v :: r, o, xs, h => by
    have h' : o + (r.length + 1) ≤ xs.length := by simpa using h
    have ho : o < xs.length := by omega
    show puts (xs.set o v) (o + 1) r = _
    rw [puts_eq r (o + 1) (xs.set o v) (by rw [List.length_set]; omega)]
    have e1 : (xs.set o v).take (o + 1) = xs.take o ++ [v] := by
      rw [List.take_add_one, List.take_set_of_le (Nat.le_refl o)]
      simp [ho]
    have e2 : (xs.set o v).drop (o + 1 + r.length) = xs.drop (o + (v :: r).length) := by
      rw [List.drop_set_of_lt (by omega)]
      congr 1
      simp; omega
    rw [e1, e2, List.append_assoc, List.append_assoc, List.append_assoc]
    rfl
end Go.Proofs.YtjgifjkdgoijmaaGreat

namespace Go.Proofs.YtjgifjkdgoijmaaGreat
open Go.RowKit
set_option linter.unusedVariables false
set_option maxRecDepth 100000

set_option maxHeartbeats 1000000 in
theorem clone_ok {v : Value} {l : List Nat} {w : World} (h : Lst w v l) (h0 : 0 < l.length) (hl : l.length ≤ 16) :
    Calls Tryz.prog 112 #[v] w fun e w' => ∃ v', e = .returned v' ∧ w'.ownsRow w.heap.size 3 1 v' l.length (toV l) ∧ Below w.heap.size w w' := by
  obtain ⟨g, cap, rfl, h1, h2, h3⟩ := h
  have HC : Hid (∀ j u, (toV l)[j]? = some u → w.cell? ((⟨g, 0, none⟩ : Addr).add j) = some u) := fun j u hu => by
    unfold toV at hu
    rw [List.getElem?_map] at hu
    cases hj : l[j]? with
    | none => rw [hj] at hu; cases hu
    | some r =>
      rw [hj] at hu
      have hlt : j < l.length := (List.getElem?_eq_some_iff.1 hj).1
      have := h3 j hlt
      rw [Addr.add_lit, this, ← hu]
      simp [List.getD, hj]
  clear h3
  unfold maxLen at h2
  obtain ⟨i0, hi, hz0, hz1, hz2⟩ := info_parts Tryz.infoInt
  have Hi := hide hi
  have Hz0 := hide hz0
  have Hz1 := hide hz1
  have Hz2 := hide hz2
  clear hi hz0 hz1 hz2
  have q23 : ∀ (w : World) (a : Option Addr) (n c n' c' : Nat), (binOp .eql 22 (.slice a n c) (.slice none n' c')).run Tryz.prog w = .ok (.bool a.isNone) w := fun w a n c n' c' => Lib.run_eql_slice_nil w _ _ a n c n' c' Tryz.underlying22
  go_enter Tryz.func112, Tryz.ntmps112
  go_wp2_with (at_builtin; refine wpList_append_own _ rfl _ _ 22 rfl w.heap.size 3 i0 (.int .i64 0) 1 8 Tryz.underlying22 Hi.out Hz0.out Hz1.out Hz2.out rfl (by decide) _ _ _ rfl (World.ownsRow_made w #[] 0 (Nat.le_refl _) (Nat.zero_le _) rfl) ⟨g, 0, none⟩ l.length cap (toV l) rfl (by simp [toV]) (fun j u hu => Lib.cell?_alloc_some _ (HC.out j u hu)) (toV_one l) (by unfold maxLen; omega) (by omega) (by simp) ?_; intro v' w1 hown hgrow hnil)
  go_ret
  refine ⟨v', rfl, by simpa using hown, ?_⟩
  exact ((Below.refl _ w).alloc (Nat.le_refl _) _).grown hgrow (by simp) (by intro k hk; cases hk; exact Nat.le_refl _)

/-- What IndexFunc tells: the first, or none. -/
def IsIdx (p : Nat → Bool) (n : Nat) (i : Int) : Prop := (i = -1 ∧ ∀ q, q < n → p q = false) ∨ ∃ j : Nat, i = j ∧ j < n ∧ p j = true ∧ ∀ q, q < j → p q = false

/-! DeleteFunc: the row as it goes. -/
/-- Of l the first j are done: i of them are kept, and lie at the head of X; behind j it is as it was. -/
structure KInv {α : Type} (del : α → Bool) (l : List α) (i j : Nat) (X : List α) : Prop where
  lt : i < j
  le : j ≤ l.length
  len : X.length = l.length
  head : X.take i = (l.take j).filter fun x => !del x
  tail : X.drop j = l.drop j
theorem filter_last {α : Type} {del : α → Bool} {l : List α} {j : Nat} {x : α} (hx : l[j]? = some x) : (l.take (j + 1)).filter (fun x => !del x) = (l.take j).filter (fun x => !del x) ++ if del x then [] else [x] := by
  rw [List.take_add_one, hx, List.filter_append]
  congr 1
  cases e : del x <;> simp [e]
theorem KInv.start {α : Type} {del : α → Bool} {l : List α} {j : Nat} (hno : ∀ q x, q < j → l[q]? = some x → del x = false) {x : α} (hx : l[j]? = some x) (hd : del x = true) : KInv del l j (j + 1) l := by
  have hlt := (List.getElem?_eq_some_iff.1 hx).1
  refine ⟨by omega, by omega, rfl, ?_, rfl⟩
  rw [filter_last hx, hd, if_pos rfl, List.append_nil]
  refine (List.filter_eq_self.2 fun a ha => ?_).symm
  obtain ⟨q, hq, e⟩ := List.getElem_of_mem ha
  simp only [List.length_take] at hq
  rw [List.getElem_take] at e
  rw [hno q a (by omega) (by rw [← e]; exact List.getElem?_eq_getElem _)]; rfl
theorem KInv.nth {α : Type} {del : α → Bool} {l X : List α} {i j : Nat} (h : KInv del l i j X) : X[j]? = l[j]? := by
  have := congrArg (fun l => l[0]?) h.tail
  simpa using this
theorem KInv.skip {α : Type} {del : α → Bool} {l X : List α} {i j : Nat} (h : KInv del l i j X) {x : α} (hx : l[j]? = some x) (hd : del x = true) : KInv del l i (j + 1) X := by
  have hlt := (List.getElem?_eq_some_iff.1 hx).1
  have := h.lt
  refine ⟨by omega, by omega, h.len, ?_, ?_⟩
  · rw [filter_last hx, hd, if_pos rfl, List.append_nil, h.head]
  · rw [← List.drop_drop, ← List.drop_drop, h.tail]
theorem KInv.keep {α : Type} {del : α → Bool} {l X : List α} {i j : Nat} (h : KInv del l i j X) {x : α} (hx : l[j]? = some x) (hd : del x = false) : KInv del l (i + 1) (j + 1) (X.set i x) := by
  have hlt := (List.getElem?_eq_some_iff.1 hx).1
  have h1 := h.lt
  have h2 := h.len
  refine ⟨by omega, by omega, by simp [h2], ?_, ?_⟩
  · rw [filter_last hx, hd]
    rw [List.take_add_one, List.take_set_of_le (Nat.le_refl _), h.head]
    congr 1
    rw [List.getElem?_set_self (by omega)]; rfl
  · rw [List.drop_set_of_lt (by omega), ← List.drop_drop, ← List.drop_drop, h.tail]
theorem KInv.done {α : Type} {del : α → Bool} {l X : List α} {i : Nat} (h : KInv del l i l.length X) : X.take i = l.filter fun x => !del x := by rw [h.head, List.take_length]
theorem set_below {B g : Nat} {a : World} (hb : B ≤ g) : ∀ (vs : List Value) (o : Nat) (w : World), Below B a w → Below B a (w.setCells g o vs)
  | [], _, _, h => h
  | v :: r, o, w, h => set_below hb r (o + 1) _ (h.setCell hb _)
end Go.Proofs.YtjgifjkdgoijmaaGreat
