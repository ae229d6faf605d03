/-
  Lemmas for the law above, joined into one text (PMap, PLeft, PWait). No statement is proved here.
-/
import Derived.Test.YtldjbampimbaeaaGreatDoorZG2
import Derived.Test.YtldjbampimbaeaaGreatDoorZG4
import Derived.Lib.SliceRun
namespace Go.Proofs.YtldjbampimbaeaaGreatDoor
open Go.RowKit Go.Maps
set_option linter.unusedVariables false
set_option maxRecDepth 100000

/-- How a block that is known reads. -/
def blkElem (v : Value) : Option (DataW Unit × List MemPlace) :=
  match v with
  | .agg cs => match cs.toList with
    | [.string s] => some (.lit (.string s.data.toList), [])
    | _ => none
  | _ => none
theorem blkElem_mk (s : ByteArray) : blkElem (.agg #[.string s]) = some (.lit (.string s.data.toList), []) := rfl
theorem blkElem_inv {v : Value} {z : DataW Unit × List MemPlace} (h : blkElem v = some z) : ∃ s : ByteArray, v = .agg #[.string s] ∧ z = (.lit (.string s.data.toList), []) := by
  unfold blkElem at h
  split at h
  · rename_i cs
    split at h
    · rename_i s hs
      cases h
      refine ⟨s, ?_, rfl⟩
      rw [show cs = #[.string s] from Array.toList_inj.1 hs]
    · cases h
  · cases h
theorem bytes_of_list {a b : ByteArray} (h : a.data.toList = b.data.toList) : a = b := by
  cases a; cases b
  congr 1
  exact Array.toList_inj.1 h
theorem Tryz.zeroBlk (w : World) : (zeroValue 100).run Tryz.prog w = .ok (.agg #[.string ⟨#[]⟩]) w := by kernel_rfl
theorem tightR {R : Value → Option (DataW Unit × List MemPlace)} {P : Program} {t : TypeId} {w : World} {b n : Nat} {D : DataW Unit} (h : w.ownsMap P t R b n D) : w.ownsMap P t R b (Maps.size D) D := by
  obtain ⟨es, clock, hb, F, hs, rfl⟩ := h
  exact ⟨es, clock, hb, F, by simp [Maps.size, length_sorted], rfl⟩
theorem ownsMap_block {R : Value → Option (DataW Unit × List MemPlace)} {P : Program} {t : TypeId} {w w' : World} {b n : Nat} {D : DataW Unit} (h : w.ownsMap P t R b n D) (hb : w'.heap[b]? = w.heap[b]?) : w'.ownsMap P t R b n D := by
  obtain ⟨es, clock, h1, r⟩ := h
  exact ⟨es, clock, hb.trans h1, r⟩

/-- The map of block b holds the blocks that are known, of k. -/
structure MKn (w : World) (b k : Nat) (kn : Nat → Bool) (B : Nat → ByteArray) (D : DataW Unit) : Prop where
  own : w.ownsMap Tryz.prog 3 blkElem b (Maps.size D) D
  few : Maps.size D + unk k kn ≤ k
  has : ∀ r : Nat, Maps.has D (.int .i64 r) = kn r
  val : ∀ r : Nat, kn r = true → D.atKey (.int .i64 r) (.lit (.string [])) = .lit (.string (B r).data.toList)
theorem unk_none (k : Nat) : unk k (fun _ => false) = k := by
  have e : ((List.range k).filter fun r => !(fun _ => false) r) = List.range k := List.filter_eq_self.2 fun _ _ => rfl
  unfold unk; rw [e, List.length_range]
theorem mkn_made (w : World) (k : Nat) (B : Nat → ByteArray) : MKn (w.alloc (.map #[] 0)) w.heap.size k (fun _ => false) B (.map []) :=
  ⟨World.ownsMap_made _ _ _ _, by rw [unk_none]; simp [Maps.size], fun r => by simp [Maps.has], fun r h => by cases h⟩
theorem MKn.lt {w : World} {b k : Nat} {kn : Nat → Bool} {B : Nat → ByteArray} {D : DataW Unit} (h : MKn w b k kn B D) : b < w.heap.size := h.own.lt
theorem MKn.of_block {w w' : World} {b k : Nat} {kn : Nat → Bool} {B : Nat → ByteArray} {D : DataW Unit} (h : MKn w b k kn B D) (hb : w'.heap[b]? = w.heap[b]?) : MKn w' b k kn B D := ⟨ownsMap_block h.own hb, h.few, h.has, h.val⟩
theorem MKn.below {w w' : World} {b k : Nat} {kn : Nat → Bool} {B : Nat → ByteArray} {D : DataW Unit} (h : MKn w b k kn B D) (hb : Below w.heap.size w w') : MKn w' b k kn B D := h.of_block (hb.block b h.lt)
theorem MKn.put {w w' : World} {b k : Nat} {kn : Nat → Bool} {B : Nat → ByteArray} {D : DataW Unit} (h : MKn w b k kn B D) {x : Nat} {s : ByteArray} (hx : kn x = false) (hxk : x < k) {n : Nat}
    (h' : w'.ownsMap Tryz.prog 3 blkElem b n (D.put (.int .i64 x) (.lit (.string s.data.toList)))) : MKn w' b k (upd kn x true) (upd B x s) (D.put (.int .i64 x) (.lit (.string s.data.toList))) := by
  refine ⟨tightR h', ?_, fun r => ?_, fun r hr => ?_⟩
  · rw [Maps.size_put (h.own.tidy Tryz.lawInt), h.has x, hx]
    have := h.few
    have := unk_less hx hxk
    simp only [Bool.false_eq_true, if_false]
    omega
  · by_cases c : r = x
    · subst c
      rw [Maps.has_put_same (k := .int .i64 (r : Int)) h.own.isMap trivial]; simp [upd]
    · rw [Maps.has_put_other (fun e => c (by injection e with _ e; omega)), h.has r]; simp [upd, c]
  · by_cases c : r = x
    · subst c
      rw [Maps.atKey_put_same (k := .int .i64 (r : Int)) h.own.isMap trivial]; simp [upd]
    · rw [Maps.atKey_put_other (fun e => c (by injection e with _ e; omega))]
      have e : upd B x s r = B r := by simp [upd, c]
      rw [e]
      exact h.val r (by simpa [upd, c] using hr)
theorem key16 {r : Nat} (h : r ≤ 10000) : keyOf Tryz.prog 3 (.int .i64 (r : Nat)) = some (.int .i64 (r : Nat)) := keyOf_int_mk Tryz.underlying3 (WalkArith.wf_i64 (by omega))

/-- 'b, ok := known[r]'. -/
theorem wpList_lookup_blk {w : World} {ops : Array Oper} {rest : List Oper} {o : Oper} {a : Act} {Q : Exit → Act → World → Prop} (hg : o.guard = none) (m x : Operand) (hop : o.op = Op.lookup 60 m x true)
    (b k r : Nat) (kn : Nat → Bool) (B : Nat → ByteArray) (D : DataW Unit) (hm : a.eval m = .map (some b)) (hx : a.eval x = .int .i64 (r : Nat)) (hM : MKn w b k kn B D) (hr : r ≤ 10000)
    (hK : ∀ s : ByteArray, (kn r = true → s = B r) → wpList Tryz.prog ops Q rest (a.put o.dst (.tuple #[.agg #[.string s], .bool (kn r)])) w) :
    wpList Tryz.prog ops Q (o :: rest) a w := by
  refine wpList_lookup_own_ok w hg m x 60 hop 3 100 Tryz.lawInt Tryz.underlying60 blkElem (Tryz.zeroBlk w) (.lit (.string [])) [] (blkElem_mk ⟨#[]⟩) b _ D hm hM.own _ _ hx (key16 hr) (fun v ps hv => ?_)
  obtain ⟨s, rfl, hz⟩ := blkElem_inv hv
  rw [hM.has r]
  refine hK s fun h => ?_
  have h1 := congrArg Prod.fst hz
  rw [hM.val r h] at h1
  simp only at h1
  injection h1 with h1
  injection h1 with h1
  exact bytes_of_list h1.symm

set_option maxHeartbeats 1000000 in
theorem pknows_ok (b kb k r : Nat) (kn : Nat → Bool) (B : Nat → ByteArray) (D : DataW Unit) (w : World) (hc : w.cell? ⟨b, 3, none⟩ = some (.map (some kb))) (hM : MKn w kb k kn B D) (hr : r ≤ 10000) :
    Calls Tryz.prog 30 #[.pointer (some ⟨b, 0, none⟩), .int .i64 (r : Nat)] w fun e w' => e = .returned (.bool (kn r)) ∧ Below w.heap.size w w' := by
  have HM := hide hM
  clear hM
  go_enter Tryz.func30, Tryz.ntmps30
  go_wp2_with (first | (at_lookup; refine wpList_lookup_blk rfl _ _ rfl kb k r kn B D rfl rfl HM.out hr ?_; intro s hs) | go_in)
  go_ret
  exact ⟨rfl, (Below.refl _ _).alloc (Nat.le_refl _) _⟩
end Go.Proofs.YtldjbampimbaeaaGreatDoor

namespace Go.Proofs.YtldjbampimbaeaaGreatDoor
open Go.RowKit Go.Maps
set_option linter.unusedVariables false
set_option maxRecDepth 100000

set_option maxHeartbeats 1000000 in
theorem clone_ok {v : Value} {l : List Nat} {w : World} (h : Lst w v l) (h0 : 0 < l.length) (hl : l.length ≤ 16) :
    Calls Tryz.prog 60 #[v] w fun e w' => ∃ v', e = .returned v' ∧ w'.ownsRow w.heap.size 3 1 v' l.length (toV l) ∧ Below w.heap.size w w' := by
  obtain ⟨g, cap, rfl, h1, h2, h3⟩ := h
  have HC : Hid (∀ j u, (toV l)[j]? = some u → w.cell? ((⟨g, 0, none⟩ : Addr).add j) = some u) := fun j u hu => by
    unfold toV at hu
    rw [List.getElem?_map] at hu
    cases hj : l[j]? with
    | none => rw [hj] at hu; cases hu
    | some r =>
      rw [hj] at hu
      have hlt : j < l.length := (List.getElem?_eq_some_iff.1 hj).1
      have := h3 j hlt
      rw [Addr.add_lit, this, ← hu]
      simp [List.getD, hj]
  clear h3
  unfold maxLen at h2
  obtain ⟨i0, hi, hz0, hz1, hz2⟩ := info_parts Tryz.infoInt
  have Hi := hide hi
  have Hz0 := hide hz0
  have Hz1 := hide hz1
  have Hz2 := hide hz2
  clear hi hz0 hz1 hz2
  have q23 : ∀ (w : World) (a : Option Addr) (n c n' c' : Nat), (binOp .eql 23 (.slice a n c) (.slice none n' c')).run Tryz.prog w = .ok (.bool a.isNone) w := fun w a n c n' c' => Lib.run_eql_slice_nil w _ _ a n c n' c' Tryz.underlying23
  go_enter Tryz.func60, Tryz.ntmps60
  go_wp2_with (at_builtin; refine wpList_append_own _ rfl _ _ 23 rfl w.heap.size 3 i0 (.int .i64 0) 1 8 Tryz.underlying23 Hi.out Hz0.out Hz1.out Hz2.out rfl (by decide) _ _ _ rfl (World.ownsRow_made w #[] 0 (Nat.le_refl _) (Nat.zero_le _) rfl) ⟨g, 0, none⟩ l.length cap (toV l) rfl (by simp [toV]) (fun j u hu => Lib.cell?_alloc_some _ (HC.out j u hu)) (toV_one l) (by unfold maxLen; omega) (by omega) (by simp) ?_; intro v' w1 hown hgrow hnil)
  go_ret
  refine ⟨v', rfl, by simpa using hown, ?_⟩
  exact ((Below.refl _ w).alloc (Nat.le_refl _) _).grown hgrow (by simp) (by intro k hk; cases hk; exact Nat.le_refl _)

/-- The Peeler's knows, as a value. -/
def fnK (b : Nat) : Value := .func (.func 30) #[.pointer (some ⟨b, 0, none⟩)] #[]
theorem getD_mem {l : List Nat} {j : Nat} (h : j < l.length) : l.getD j 0 ∈ l := by
  rw [show l.getD j 0 = l[j] by simp [List.getD, h]]; exact List.getElem_mem h

/-- What IndexFunc tells: the first, or none. -/
def IsIdx (p : Nat → Bool) (n : Nat) (i : Int) : Prop := (i = -1 ∧ ∀ q, q < n → p q = false) ∨ ∃ j : Nat, i = j ∧ j < n ∧ p j = true ∧ ∀ q, q < j → p q = false

set_option maxHeartbeats 1000000 in
theorem idxf_ok {w : World} (b : Nat) {v : Value} {l : List Nat} (kn : Nat → Bool) (h : Lst w v l) (hl : l.length ≤ 16)
    (hK : ∀ W (r : Nat), Below w.heap.size w W → r ∈ l → Calls Tryz.prog 30 #[.pointer (some ⟨b, 0, none⟩), .int .i64 (r : Nat)] W fun e w' => e = .returned (.bool (kn r)) ∧ Below W.heap.size W w') :
    Calls Tryz.prog 36 #[v, fnK b] w fun e w' => ∃ i : Int, e = .returned (.int .i64 i) ∧ IsIdx (fun q => kn (l.getD q 0)) l.length i ∧ Below w.heap.size w w' := by
  obtain ⟨g, cap, rfl, h1, h2, h3⟩ := h
  have HC := hide h3
  have K := hide hK
  clear h3 hK
  unfold maxLen at h2
  unfold fnK
  go_enter Tryz.func36, Tryz.ntmps36
  go_wp2
  go_loopw [5, 8] (fun _ i wr => ∃ j : Nat, j ≤ l.length ∧ i = .int .i64 j ∧ Below w.heap.size w wr ∧ ∀ q, q < j → kn (l.getD q 0) = false) (fun _ i _ => l.length - (intOf i).toNat)
  case atStart => exact ⟨0, Nat.zero_le _, rfl, Below.refl _ _, fun q hq => absurd hq (Nat.not_lt_zero _)⟩
  case round =>
    obtain ⟨j, hj, rfl, hb, hno⟩ := hrel
    have HN := hide hno
    clear hno
    by_cases hlt : j < l.length
    · have hc := cell_below hb (HC.out j hlt)
      have hK := K.out wr _ hb (getD_mem hlt)
      simp only [Nat.zero_add] at hc
      have HB := hide hb
      clear hb
      generalize hr : l.getD j 0 = r at *
      have HR := hide hr
      clear hr
      cases hq : kn r with
      | true =>
        rw [hq] at hK
        have HQ := hide hq
        clear hq
        go_wp2_with (go_at_call 30; refine hK.mono ?_; rintro e w1 ⟨rfl, hb1⟩)
        go_ret
        exact ⟨_, rfl, Or.inr ⟨j, rfl, hlt, by show kn (l.getD j 0) = true; rw [HR.out]; exact HQ.out, HN.out⟩, below_two HB.out hb1⟩
      | false =>
        rw [hq] at hK
        have HQ := hide hq
        clear hq
        go_wp2_with (go_at_call 30; refine hK.mono ?_; rintro e w1 ⟨rfl, hb1⟩)
        go_roundw
        case rel =>
          refine ⟨j + 1, by omega, by go_num, below_two HB.out hb1, fun q hq => ?_⟩
          by_cases c : q = j
          · rw [c, HR.out]; exact HQ.out
          · exact HN.out q (by omega)
        case measure => simp [intOf]; omega
    · obtain rfl : j = l.length := by omega
      go_wp2
      go_ret
      exact ⟨_, rfl, Or.inl ⟨rfl, HN.out⟩, hb⟩

/-! DeleteFunc: the row as it goes. -/
/-- Of l the first j are done: i of them are kept, and lie at the head of X; behind j it is as it was. -/
structure KInv {α : Type} (del : α → Bool) (l : List α) (i j : Nat) (X : List α) : Prop where
  lt : i < j
  le : j ≤ l.length
  len : X.length = l.length
  head : X.take i = (l.take j).filter fun x => !del x
  tail : X.drop j = l.drop j
theorem filter_last {α : Type} {del : α → Bool} {l : List α} {j : Nat} {x : α} (hx : l[j]? = some x) : (l.take (j + 1)).filter (fun x => !del x) = (l.take j).filter (fun x => !del x) ++ if del x then [] else [x] := by
  rw [List.take_add_one, hx, List.filter_append]
  congr 1
  cases e : del x <;> simp [e]
theorem KInv.start {α : Type} {del : α → Bool} {l : List α} {j : Nat} (hno : ∀ q x, q < j → l[q]? = some x → del x = false) {x : α} (hx : l[j]? = some x) (hd : del x = true) : KInv del l j (j + 1) l := by
  have hlt := (List.getElem?_eq_some_iff.1 hx).1
  refine ⟨by omega, by omega, rfl, ?_, rfl⟩
  rw [filter_last hx, hd, if_pos rfl, List.append_nil]
  refine (List.filter_eq_self.2 fun a ha => ?_).symm
  obtain ⟨q, hq, e⟩ := List.getElem_of_mem ha
  simp only [List.length_take] at hq
  rw [List.getElem_take] at e
  rw [hno q a (by omega) (by rw [← e]; exact List.getElem?_eq_getElem _)]; rfl
theorem KInv.nth {α : Type} {del : α → Bool} {l X : List α} {i j : Nat} (h : KInv del l i j X) : X[j]? = l[j]? := by
  have := congrArg (fun l => l[0]?) h.tail
  simpa using this
theorem KInv.skip {α : Type} {del : α → Bool} {l X : List α} {i j : Nat} (h : KInv del l i j X) {x : α} (hx : l[j]? = some x) (hd : del x = true) : KInv del l i (j + 1) X := by
  have hlt := (List.getElem?_eq_some_iff.1 hx).1
  have := h.lt
  refine ⟨by omega, by omega, h.len, ?_, ?_⟩
  · rw [filter_last hx, hd, if_pos rfl, List.append_nil, h.head]
  · rw [← List.drop_drop, ← List.drop_drop, h.tail]
theorem KInv.keep {α : Type} {del : α → Bool} {l X : List α} {i j : Nat} (h : KInv del l i j X) {x : α} (hx : l[j]? = some x) (hd : del x = false) : KInv del l (i + 1) (j + 1) (X.set i x) := by
  have hlt := (List.getElem?_eq_some_iff.1 hx).1
  have h1 := h.lt
  have h2 := h.len
  refine ⟨by omega, by omega, by simp [h2], ?_, ?_⟩
  · rw [filter_last hx, hd]
    rw [List.take_add_one, List.take_set_of_le (Nat.le_refl _), h.head]
    congr 1
    rw [List.getElem?_set_self (by omega)]; rfl
  · rw [List.drop_set_of_lt (by omega), ← List.drop_drop, ← List.drop_drop, h.tail]
theorem KInv.done {α : Type} {del : α → Bool} {l X : List α} {i : Nat} (h : KInv del l i l.length X) : X.take i = l.filter fun x => !del x := by rw [h.head, List.take_length]
theorem set_below {B g : Nat} {a : World} (hb : B ≤ g) : ∀ (vs : List Value) (o : Nat) (w : World), Below B a w → Below B a (w.setCells g o vs)
  | [], _, _, h => h
  | v :: r, o, w, h => set_below hb r (o + 1) _ (h.setCell hb _)
theorem own_cut {w : World} {B e size g n cap : Nat} {xs : List Value} (h : w.ownsRow B e size (.slice (some ⟨g, 0, none⟩) n cap) n xs) {i : Nat} (hi : i ≤ n) : w.ownsRow B e size (.slice (some ⟨g, 0, none⟩) i cap) i (xs.take (i * size)) := by
  have hm : i * size ≤ n * size := Nat.mul_le_mul_right _ hi
  rcases h.2 with ⟨hv, _⟩ | ⟨g', cap', cur, hv, h1, h2, h3, h4, h5, h6⟩
  · cases hv
  · cases hv
    refine ⟨by rw [List.length_take, h.1]; omega, Or.inr ⟨g, cap, cur, rfl, h1, h2, by omega, h4, h5, ?_⟩⟩
    rw [← h6, List.take_take, Nat.min_eq_left hm]
theorem own_sets {B e size g n cap : Nat} : ∀ (vs : List Value) (o : Nat) (w : World) (xs : List Value), w.ownsRow B e size (.slice (some ⟨g, 0, none⟩) n cap) n xs → ∃ ys, (w.setCells g o vs).ownsRow B e size (.slice (some ⟨g, 0, none⟩) n cap) n ys ∧ ys.take o = xs.take o
  | [], o, w, xs, h => ⟨xs, h, rfl⟩
  | v :: r, o, w, xs, h => by
    obtain ⟨ys, h1, h2⟩ := own_sets r (o + 1) _ _ (h.stored o v).1
    refine ⟨ys, h1, ?_⟩
    have := congrArg (List.take o) h2
    rw [List.take_take, List.take_take, Nat.min_eq_left (Nat.le_succ o), List.take_set_of_le (Nat.le_refl _)] at this
    exact this

set_option maxHeartbeats 2000000 in
theorem delf_ok {w : World} (B b : Nat) {v : Value} {l : List Nat} (kn : Nat → Bool) (h : w.ownsRow B 3 1 v l.length (toV l)) (h0 : 0 < l.length) (hl : l.length ≤ 16) (hB : B ≤ w.heap.size)
    (hK : ∀ W (r : Nat), Below B w W → r ∈ l → Calls Tryz.prog 30 #[.pointer (some ⟨b, 0, none⟩), .int .i64 (r : Nat)] W fun e w' => e = .returned (.bool (kn r)) ∧ Below W.heap.size W w') :
    Calls Tryz.prog 59 #[v, fnK b] w fun e w' => ∃ v', e = .returned v' ∧ Lsh w' v' (l.filter fun r => !kn r) ∧ Below B w w' ∧ ∀ i, v'.ownBlock = some i → B ≤ i := by
  have IX := hide (idxf_ok b kn (own_lst h h0) hl fun W r hb hr => hK W r (hb.mono hB) hr)
  obtain ⟨g, cap, rfl, hg1, hg2⟩ := h.form h0
  have hcap : l.length ≤ cap ∧ cap ≤ maxLen := by
    obtain ⟨g', cap', hv', q1, q2, _⟩ := own_lst h h0
    cases hv'
    exact ⟨q1, q2⟩
  obtain ⟨hc1, hc2⟩ := hcap
  unfold maxLen at hc2
  have H := hide h
  have K := hide hK
  clear h hK
  have HLen : Hid (∀ j, j < l.length → l[j]? = some (l.getD j 0)) := fun j hj => by simp [List.getD, hj]
  unfold fnK
  go_enter Tryz.func59, Tryz.ntmps59
  go_wp2_with fail
  refine (IX.out).mono ?_
  rintro e w1 ⟨i1, rfl, hi1, hb1⟩
  have HB1 := hide hb1
  clear hb1
  rcases hi1 with ⟨rfl, hall⟩ | ⟨j0, rfl, hj0, hd0, hno⟩
  · have HA := hide hall
    clear hall
    go_wp2
    go_ret
    have e : (l.filter fun r => !kn r) = l := List.filter_eq_self.2 fun r hr => by
      obtain ⟨q, hq, e⟩ := List.getElem_of_mem hr
      have := HA.out q hq
      simp only [List.getD, List.getElem?_eq_getElem hq, Option.getD_some, e] at this
      rw [this]; rfl
    rw [e]
    refine ⟨_, rfl, (own_lsh H.out).below HB1.out, HB1.out.mono hB, fun i hi => ?_⟩
    cases hi
    exact hg1
  · have HS := hide (KInv.start (del := kn) (l := l) (j := j0) (fun q x hq hx => by have h9 : kn (l.getD q 0) = false := hno q hq; simpa [List.getD, hx] using h9) (HLen.out j0 hj0) hd0)
    have hne : ((j0 : Int) == -1) = false := by rw [beq_eq_false_iff_ne]; omega
    clear hno hd0
    go_wp2
    go_loopw [5, 6, 7] (fun s5 s6 _ wr => ∃ (i j : Nat) (X : List Nat), s5 = .int .i64 i ∧ s6 = .int .i64 j ∧ KInv kn l i j X ∧ wr.ownsRow B 3 1 (.slice (some ⟨g, 0, none⟩) l.length cap) l.length (toV X) ∧ Below B w wr) (fun _ s6 _ _ => l.length - (intOf s6).toNat)
    case atStart => exact ⟨j0, j0 + 1, l, rfl, by go_num, HS.out, own_under' H.out HB1.out, HB1.out.mono hB⟩
    case round =>
      obtain ⟨i, j, X, rfl, rfl, hI, hO, hb⟩ := hrel
      have hij := hI.lt
      have hjl := hI.le
      have HI := hide hI
      have HO := hide hO
      have HB := hide hb
      clear hI hO hb
      by_cases hlt : j < l.length
      · have hx := HLen.out j hlt
        have hXj := HI.out.nth
        have hXl := HI.out.len
        have hcj : wr.cell? ⟨g, j, none⟩ = some (.int .i64 (l.getD j 0 : Nat)) := by
          rw [HO.out.cellAt j (by omega)]
          unfold toV
          rw [List.getElem?_map, hXj, hx]; rfl
        have KC := hide (K.out wr _ HB.out (getD_mem hlt))
        generalize hr : l.getD j 0 = r at *
        have HX := hide hx
        clear hr hx hXj
        go_wp2_with fail
        refine (KC.out).mono ?_
        rintro e w2 ⟨rfl, hb2⟩
        have HO2 := hide (own_under' HO.out hb2)
        have HB2 := hide (HB.out.trans (hb2.mono (Nat.le_trans hB HB.out.size)))
        have hci : w2.cell? ⟨g, i, none⟩ = some (.int .i64 (X.getD i 0 : Nat)) := by
          rw [HO2.out.cellAt i (by omega)]
          unfold toV
          rw [List.getElem?_map]
          simp [List.getD, show i < X.length by omega]
        have hfi := HO2.out.frozenAt i
        clear hb2 hcj KC
        cases hq : kn r with
        | true =>
          have HQ := hide hq
          clear hq
          go_wp2
          go_roundw
          case rel => exact ⟨i, j + 1, X, rfl, by go_num, HI.out.skip HX.out HQ.out, HO2.out, HB2.out⟩
          case measure => simp [intOf]; omega
        | false =>
          have HQ := hide hq
          clear hq
          go_wp2
          go_roundw
          case rel =>
            refine ⟨i + 1, j + 1, X.set i r, by go_num, by go_num, HI.out.keep HX.out HQ.out, ?_, HB2.out.setCell hg1 _⟩
            have h9 := (HO2.out.stored i (.int .i64 (r : Nat))).1
            have e : toV (X.set i r) = (toV X).set i (.int .i64 (r : Nat)) := by unfold toV; rw [List.map_set]
            rw [e]; exact h9
          case measure => simp [intOf]; omega
      · obtain rfl : j = l.length := by omega
        have hXl := HI.out.len
        have hcl : ∀ ty, (Builtin.clear_ #[23] ty #[.slice (some ⟨g, i, none⟩) (l.length - i) (cap - i)]).run Tryz.prog wr = .ok (.tuple #[]) (wr.setCells g i (List.replicate (l.length - i) (.int .i64 0))) :=
          fun ty => Lib.run_clear_slice wr 23 3 ty (.int .i64 0) Tryz.underlying23 (fun _ => by kernel_rfl) rfl rfl g i _ _ (by omega) (fun t ht => by
            rw [HO.out.cellAt (i + t) (by omega)]
            unfold toV
            rw [List.getElem?_map]
            simp [show i + t < X.length by omega]) (fun t ht => HO.out.frozenAt _)
        go_wp2
        go_ret
        obtain ⟨ys, hy1, hy2⟩ := own_sets (List.replicate (l.length - i) (.int .i64 0)) i wr _ HO.out
        have hc := own_cut hy1 (i := i) (by omega)
        have e : ys.take (i * 1) = toV (l.filter fun r => !kn r) := by rw [Nat.mul_one, hy2, ← HI.out.done]; unfold toV; rw [List.map_take]
        have e2 : i = (l.filter fun r => !kn r).length := by rw [← HI.out.done, List.length_take]; omega
        rw [e] at hc
        refine ⟨_, rfl, own_lsh (B := B) (by rw [← e2]; exact hc), set_below hg1 _ _ _ HB.out, fun q hq => by cases hq; exact hg1⟩

set_option maxHeartbeats 1000000 in
theorem pleft_ok (b kb k seed : Nat) (kn : Nat → Bool) (B : Nat → ByteArray) (D : DataW Unit) (vo : Value) (data : ByteArray) (w : World) (hk : 1 ≤ k) (hk2 : k ≤ 16) (h1 : 1 ≤ seed) (h2 : seed ≤ 10000)
    (hc : w.cell? ⟨b, 3, none⟩ = some (.map (some kb))) (hM : MKn w kb k kn B D) (ho : Lst w vo (setL k seed)) :
    Calls Tryz.prog 47 #[.pointer (some ⟨b, 0, none⟩), .agg #[vo, .string data]] w fun e w' => ∃ v, e = .returned v ∧ Lsh w' v (lft (setL k) kn (seed, data)) ∧ Below w.heap.size w w' ∧ ∀ i, v.ownBlock = some i → w.heap.size ≤ i := by
  have hb0 : Below w.heap.size w (w.alloc (.cells #[vo, .string data] 71)) := (Below.refl _ _).alloc (Nat.le_refl _) _
  have HB0 := hide hb0
  have hl : 0 < (setL k seed).length ∧ (setL k seed).length ≤ 16 := ⟨(setL_len hk hk2 h1 h2).1, Nat.le_trans (setL_len hk hk2 h1 h2).2 hk2⟩
  have C := hide (clone_ok (ho.below hb0) hl.1 hl.2)
  have HSL : Hid (∀ r ∈ setL k seed, r < k) := fun r hr => setL_lt hk h1 hr
  have HC := hide hc
  have HM := hide hM
  obtain ⟨g, cap, rfl, hq1, hq2, hq3⟩ := ho
  unfold maxLen at hq2
  clear hc hM hb0 hq3
  show Calls _ _ _ _ fun e w' => ∃ v, e = .returned v ∧ Lsh w' v ((setL k seed).filter fun r => !kn r) ∧ Below w.heap.size w w' ∧ ∀ i, v.ownBlock = some i → w.heap.size ≤ i
  generalize setL k seed = l at *
  go_enter Tryz.func47, Tryz.ntmps47
  go_wp2_with fail
  refine (C.out).mono ?_
  rintro e w1 ⟨v1, rfl, hown, hb1⟩
  have HB1 := hide (below_two HB0.out hb1)
  have DF := hide (delf_ok (w := w1) _ b kn hown hl.1 hl.2 hb1.size fun W r hb hr => pknows_ok b kb k r kn B D W (cell_below (HB1.out.trans (hb.mono HB0.out.size)) HC.out) (HM.out.below (HB1.out.trans (hb.mono HB0.out.size))) (by have := HSL.out r hr; omega))
  clear hown hb1
  unfold fnK at DF
  go_wp2_with fail
  refine (DF.out).mono ?_
  rintro e w2 ⟨v2, rfl, hl2, hb2, hf2⟩
  go_wp2
  go_ret
  exact ⟨_, rfl, hl2, HB1.out.trans (hb2.mono HB0.out.size), fun i hi => Nat.le_trans HB0.out.size (hf2 i hi)⟩
end Go.Proofs.YtldjbampimbaeaaGreatDoor

namespace Go.Proofs.YtldjbampimbaeaaGreatDoor
open Go.RowKit Go.Maps
set_option linter.unusedVariables false
set_option maxRecDepth 100000

/-- One that waits: where its set lies; its drop. -/
structure Wtr where
  g : Nat
  n : Nat
  c : Nat
  d : Drp
/-- Those that wait as a slice holds them. -/
def wC (X : List Wtr) : List Value := X.flatMap fun x => [.slice (some ⟨x.g, 0, none⟩) x.n x.c, .string x.d.2]
theorem wC_snoc (X : List Wtr) (x : Wtr) : wC (X ++ [x]) = wC X ++ [.slice (some ⟨x.g, 0, none⟩) x.n x.c, .string x.d.2] := by simp [wC]
theorem wC_len (X : List Wtr) : (wC X).length = X.length * 2 := by
  induction X with
  | nil => rfl
  | cons x X ih => rw [show wC (x :: X) = [.slice (some ⟨x.g, 0, none⟩) x.n x.c, .string x.d.2] ++ wC X by simp [wC], List.length_append, ih]; simp; omega
def wAt (X : List Wtr) (j : Nat) : Wtr := X.getD j ⟨0, 0, 0, 0, ⟨#[]⟩⟩
theorem wAt_some {X : List Wtr} {j : Nat} (h : j < X.length) : X[j]? = some (wAt X j) := by simp [wAt, List.getD, h]
theorem wAt_mem {X : List Wtr} {j : Nat} (h : j < X.length) : wAt X j ∈ X := List.mem_of_getElem? (wAt_some h)
theorem wC_at : ∀ (X : List Wtr) (j : Nat), j < X.length → (wC X)[j * 2]? = some (.slice (some ⟨(wAt X j).g, 0, none⟩) (wAt X j).n (wAt X j).c) ∧ (wC X)[j * 2 + 1]? = some (.string (wAt X j).d.2)
  | [], j, h => absurd h (Nat.not_lt_zero _)
  | x :: X, 0, _ => by simp [wC, wAt]
  | x :: X, j + 1, h => by
    have ih := wC_at X j (by simpa using h)
    have e : wC (x :: X) = [.slice (some ⟨x.g, 0, none⟩) x.n x.c, .string x.d.2] ++ wC X := by simp [wC]
    have e2 : wAt (x :: X) (j + 1) = wAt X j := by simp [wAt]
    rw [e, e2, show (j + 1) * 2 = 2 + j * 2 by omega, show 2 + j * 2 + 1 = 2 + (j * 2 + 1) by omega]
    rw [List.getElem?_append_right (by simp), List.getElem?_append_right (by simp)]
    simp only [List.length_cons, List.length_nil]
    rw [show 2 + j * 2 - (0 + 1 + 1) = j * 2 by omega, show 2 + (j * 2 + 1) - (0 + 1 + 1) = j * 2 + 1 by omega]
    exact ih
theorem wC_set : ∀ (X : List Wtr) (i : Nat) (x : Wtr), wC (X.set i x) = ((wC X).set (i * 2) (.slice (some ⟨x.g, 0, none⟩) x.n x.c)).set (i * 2 + 1) (.string x.d.2)
  | [], i, x => by simp [wC]
  | y :: X, 0, x => by simp [wC]
  | y :: X, i + 1, x => by
    have ih := wC_set X i x
    have e : ∀ y Y, wC (y :: Y) = .slice (some ⟨y.g, 0, none⟩) y.n y.c :: .string y.d.2 :: wC Y := fun y Y => by simp [wC]
    rw [List.set_cons_succ, e, e, ih, show (i + 1) * 2 = i * 2 + 1 + 1 by omega, show i * 2 + 1 + 1 + 1 = (i * 2 + 1) + 1 + 1 by omega]
    simp only [List.set_cons_succ]
theorem wC_take : ∀ (X : List Wtr) (i : Nat), (wC X).take (i * 2) = wC (X.take i)
  | [], i => by simp [wC]
  | y :: X, 0 => by simp [wC]
  | y :: X, i + 1 => by
    have e : ∀ y Y, wC (y :: Y) = .slice (some ⟨y.g, 0, none⟩) y.n y.c :: .string y.d.2 :: wC Y := fun y Y => by simp [wC]
    rw [List.take_succ_cons, e, e, show (i + 1) * 2 = i * 2 + 1 + 1 by omega]
    simp only [List.take_succ_cons]
    rw [wC_take X i]
theorem Tryz.infoWtr : (Tryz.prog.info? 71).map (fun i => (i.zero, i.size, i.bytes)) = some (some (.agg #[.slice none 0 0, .string ⟨#[]⟩]), 2, 40) := by kernel_rfl
/-- Those that wait, opened. -/
theorem own_wtrs {w : World} {B : Nat} {v : Value} {X : List Wtr} (h : w.ownsRow B 71 2 v X.length (wC X)) :
    ∃ a cap, v = .slice a X.length cap ∧ X.length ≤ cap ∧ cap ≤ maxLen ∧ (0 < X.length → ∃ g, a = some ⟨g, 0, none⟩) ∧ ∀ g, a = some ⟨g, 0, none⟩ → ∀ j, j < X.length → w.cell? ⟨g, j * 2, none⟩ = some (.slice (some ⟨(wAt X j).g, 0, none⟩) (wAt X j).n (wAt X j).c) ∧ w.cell? ⟨g, j * 2 + 1, none⟩ = some (.string (wAt X j).d.2) := by
  have h' := h
  rcases h.2 with ⟨hv, h0⟩ | ⟨g, cap, cur, hv, _, hg, h1, h2, hcs, hcur⟩
  · exact ⟨none, 0, by rw [h0]; exact hv, by omega, by unfold maxLen; omega, fun h => by omega, fun g e => by cases e⟩
  · refine ⟨_, cap, hv, h1, h2, fun _ => ⟨g, rfl⟩, fun g' e j hj => ?_⟩
    cases e
    rw [hv] at h'
    rw [h'.cellAt (j * 2) (by omega), h'.cellAt (j * 2 + 1) (by omega)]
    exact wC_at X j hj

/-- What the two predicates read: the Peeler's place, the blocks that are known, the drops' sets. -/
structure PRead (w : World) (c b kb k : Nat) (kn : Nat → Bool) (B : Nat → ByteArray) (D : DataW Unit) (X : List Wtr) : Prop where
  box : w.cell? ⟨c, 0, none⟩ = some (.pointer (some ⟨b, 0, none⟩))
  kmap : w.cell? ⟨b, 3, none⟩ = some (.map (some kb))
  mkn : MKn w kb k kn B D
  sets : ∀ x ∈ X, Lst w (.slice (some ⟨x.g, 0, none⟩) x.n x.c) (setL k x.d.1) ∧ 1 ≤ x.d.1 ∧ x.d.1 ≤ 10000
theorem PRead.keep {w w' : World} {c b kb k : Nat} {kn : Nat → Bool} {B : Nat → ByteArray} {D : DataW Unit} {X : List Wtr} (h : PRead w c b kb k kn B D X) (hc : w'.heap[c]? = w.heap[c]?) (hb : w'.heap[b]? = w.heap[b]?) (hk : w'.heap[kb]? = w.heap[kb]?) (hs : ∀ x ∈ X, w'.heap[x.g]? = w.heap[x.g]?) : PRead w' c b kb k kn B D X := by
  refine ⟨(World.cell?_of_block (w := w) hc).trans h.box, (World.cell?_of_block (w := w) hb).trans h.kmap, h.mkn.of_block hk, fun x hx => ⟨?_, (h.sets x hx).2⟩⟩
  obtain ⟨g, cap, hv, h1, h2, h3⟩ := (h.sets x hx).1
  have e : x.g = g := by injection hv with e; injection e with e; injection e with e
  subst e
  exact ⟨x.g, cap, hv, h1, h2, fun i hi => (World.cell?_of_block (w := w) (hs x hx)).trans (h3 i hi)⟩
theorem PRead.setLt {w : World} {c b kb k : Nat} {kn : Nat → Bool} {B : Nat → ByteArray} {D : DataW Unit} {X : List Wtr} (h : PRead w c b kb k kn B D X) (hk : 1 ≤ k) (hk2 : k ≤ 16) : ∀ x ∈ X, x.g < w.heap.size := fun x hx => by
  obtain ⟨g, cap, hv, h1, h2, h3⟩ := (h.sets x hx).1
  have e : x.g = g := by injection hv with e; injection e with e; injection e with e
  subst e
  exact cell_lt (h3 0 (setL_len hk hk2 (h.sets x hx).2.1 (h.sets x hx).2.2).1)
theorem PRead.below {w w' : World} {c b kb k : Nat} {kn : Nat → Bool} {B : Nat → ByteArray} {D : DataW Unit} {X : List Wtr} (h : PRead w c b kb k kn B D X) (hk : 1 ≤ k) (hk2 : k ≤ 16) (hb : Below w.heap.size w w') : PRead w' c b kb k kn B D X :=
  h.keep (hb.block _ (cell_lt h.box)) (hb.block _ (cell_lt h.kmap)) (hb.block _ h.mkn.lt) fun x hx => hb.block _ (h.setLt hk hk2 x hx)

/-- How many are left of it. -/
noncomputable def lfn (k : Nat) (kn : Nat → Bool) (x : Wtr) : Nat := (lft (setL k) kn x.d).length

set_option maxHeartbeats 1000000 in
theorem none_ok (c b kb k : Nat) (kn : Nat → Bool) (B : Nat → ByteArray) (D : DataW Unit) (X : List Wtr) (x : Wtr) (w : World) (hk : 1 ≤ k) (hk2 : k ≤ 16) (hp : PRead w c b kb k kn B D X) (hx : x ∈ X) :
    Calls Tryz.prog 46 #[.agg #[.slice (some ⟨x.g, 0, none⟩) x.n x.c, .string x.d.2], .pointer (some ⟨c, 0, none⟩)] w fun e w' => e = .returned (.bool (lfn k kn x == 0)) ∧ Below w.heap.size w w' := by
  have hb0 : Below w.heap.size w (w.alloc (.cells #[.slice (some ⟨x.g, 0, none⟩) x.n x.c, .string x.d.2] 71)) := (Below.refl _ _).alloc (Nat.le_refl _) _
  have hp0 := hp.below hk hk2 hb0
  have hbx := hp0.box
  have L := hide (pleft_ok b kb k x.d.1 kn B D _ x.d.2 _ hk hk2 (hp0.sets x hx).2.1 (hp0.sets x hx).2.2 hp0.kmap hp0.mkn (hp0.sets x hx).1)
  have HB0 := hide hb0
  have hlb : Hid (lfn k kn x ≤ 16) := Nat.le_trans (List.length_filter_le _ _) (Nat.le_trans (setL_len hk hk2 (hp0.sets x hx).2.1 (hp0.sets x hx).2.2).2 hk2)
  clear hp hp0 hb0 hx
  obtain ⟨gx, nx, cx, sx, bx⟩ := x
  unfold lfn at *
  generalize lft (setL k) kn (sx, bx) = l at *
  go_enter Tryz.func46, Tryz.ntmps46
  go_wp2_with fail
  refine (L.out).mono ?_
  rintro e w1 ⟨v1, rfl, ⟨a1, c1, rfl, hq1, hq2, _⟩, hb1, _⟩
  unfold maxLen at hq2
  have hl16 := hlb.out
  have HB1 := hide (below_two HB0.out hb1)
  clear hb1
  go_wp2
  go_ret
  exact ⟨ret_bool (by rw [Bool.eq_iff_iff]; simp <;> omega), HB1.out⟩
set_option maxHeartbeats 1000000 in
theorem one_ok (c b kb k : Nat) (kn : Nat → Bool) (B : Nat → ByteArray) (D : DataW Unit) (X : List Wtr) (x : Wtr) (w : World) (hk : 1 ≤ k) (hk2 : k ≤ 16) (hp : PRead w c b kb k kn B D X) (hx : x ∈ X) :
    Calls Tryz.prog 49 #[.agg #[.slice (some ⟨x.g, 0, none⟩) x.n x.c, .string x.d.2], .pointer (some ⟨c, 0, none⟩)] w fun e w' => e = .returned (.bool (lfn k kn x == 1)) ∧ Below w.heap.size w w' := by
  have hb0 : Below w.heap.size w (w.alloc (.cells #[.slice (some ⟨x.g, 0, none⟩) x.n x.c, .string x.d.2] 71)) := (Below.refl _ _).alloc (Nat.le_refl _) _
  have hp0 := hp.below hk hk2 hb0
  have hbx := hp0.box
  have L := hide (pleft_ok b kb k x.d.1 kn B D _ x.d.2 _ hk hk2 (hp0.sets x hx).2.1 (hp0.sets x hx).2.2 hp0.kmap hp0.mkn (hp0.sets x hx).1)
  have HB0 := hide hb0
  have hlb : Hid (lfn k kn x ≤ 16) := Nat.le_trans (List.length_filter_le _ _) (Nat.le_trans (setL_len hk hk2 (hp0.sets x hx).2.1 (hp0.sets x hx).2.2).2 hk2)
  clear hp hp0 hb0 hx
  obtain ⟨gx, nx, cx, sx, bx⟩ := x
  unfold lfn at *
  generalize lft (setL k) kn (sx, bx) = l at *
  go_enter Tryz.func49, Tryz.ntmps49
  go_wp2_with fail
  refine (L.out).mono ?_
  rintro e w1 ⟨v1, rfl, ⟨a1, c1, rfl, hq1, hq2, _⟩, hb1, _⟩
  unfold maxLen at hq2
  have hl16 := hlb.out
  have HB1 := hide (below_two HB0.out hb1)
  clear hb1
  go_wp2
  go_ret
  exact ⟨ret_bool (by rw [Bool.eq_iff_iff]; simp <;> omega), HB1.out⟩
end Go.Proofs.YtldjbampimbaeaaGreatDoor
