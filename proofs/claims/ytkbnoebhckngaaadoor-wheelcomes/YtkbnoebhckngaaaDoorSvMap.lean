/-
  The table of package solve, a map of rows by their last places: as it lies, stored into, asked. Lemmas for the laws above; no statement is proved here.
-/
import Derived.Test.YtkbnoebhckngaaaDoorMapS
import Derived.Test.YtkbnoebhckngaaaDoorSvN
namespace Go.Proofs.YtkbnoebhckngaaaDoor
open Go.RowKit Go.Maps
set_option linter.unusedVariables false
set_option maxRecDepth 100000

/-- A row. -/
def rowW (m : Nat) (s : ByteArray) : Value := .agg #[.int .u64 (m : Nat), .string s]
/-- How a row of the table reads. -/
def rowElem (v : Value) : Option (DataW Unit × List MemPlace) :=
  match v with
  | .agg cs => match cs.toList with
    | [.int .u64 m, .string s] => some (.agg [.lit (.int .u64 m), .lit (.string s.data.toList)], [])
    | _ => none
  | _ => none
theorem rowElem_mk (m : Nat) (s : ByteArray) : rowElem (rowW m s) = some (.agg [.lit (.int .u64 (m : Nat)), .lit (.string s.data.toList)], []) := rfl
theorem rowElem_inv {v : Value} {z : DataW Unit × List MemPlace} (h : rowElem v = some z) : ∃ (m : Int) (s : ByteArray), v = .agg #[.int .u64 m, .string s] ∧ z = (.agg [.lit (.int .u64 m), .lit (.string s.data.toList)], []) := by
  unfold rowElem at h
  split at h
  · rename_i cs
    split at h
    · rename_i m s hs
      cases h
      refine ⟨m, s, ?_, rfl⟩
      rw [show cs = #[.int .u64 m, .string s] from Array.toList_inj.1 hs]
    · cases h
  · cases h
theorem bytes_of_list' {a b : ByteArray} (h : a.data.toList = b.data.toList) : a = b := by
  cases a; cases b
  congr 1
  exact Array.toList_inj.1 h
theorem Tryd.zeroRow (w : World) : (zeroValue 56).run Tryd.prog w = .ok (rowW 0 ⟨#[]⟩) w := by kernel_rfl
theorem tightS {R : Value → Option (DataW Unit × List MemPlace)} {P : Program} {t : TypeId} {w : World} {b n : Nat} {D : DataW Unit} (h : w.ownsMap P t R b n D) : w.ownsMap P t R b (Maps.size D) D := by
  obtain ⟨es, clock, hb, F, hs, rfl⟩ := h
  exact ⟨es, clock, hb, F, by simp [Maps.size, length_sorted], rfl⟩
theorem ownsMap_blockS {R : Value → Option (DataW Unit × List MemPlace)} {P : Program} {t : TypeId} {w w' : World} {b n : Nat} {D : DataW Unit} (h : w.ownsMap P t R b n D) (hb : w'.heap[b]? = w.heap[b]?) : w'.ownsMap P t R b n D := by
  obtain ⟨es, clock, h1, r⟩ := h
  exact ⟨es, clock, hb.trans h1, r⟩

/-- What the zero value of a row reads as. -/
def zeroD : DataW Unit := .agg [.lit (.int .u64 0), .lit (.string [])]
/-- The map of block b holds a table's rows, of k places. -/
structure TMap (w : World) (b k : Nat) (has : Nat → Bool) (ofs : Nat → Nat) (dat : Nat → ByteArray) (D : DataW Unit) : Prop where
  own : w.ownsMap Tryd.prog 3 rowElem b (Maps.size D) D
  size : Maps.size D = cntB has k
  neg : Maps.has D (.int .i64 (-1)) = false
  holds : ∀ r : Nat, Maps.has D (.int .i64 r) = has r
  val : ∀ r : Nat, has r = true → D.atKey (.int .i64 r) zeroD = .agg [.lit (.int .u64 (ofs r : Nat)), .lit (.string (dat r).data.toList)]
theorem cntB_none (k : Nat) : cntB (fun _ => false) k = 0 := by unfold cntB; rw [List.filter_eq_nil_iff.2 (fun _ _ => by simp)]; rfl
theorem tmap_made (w : World) (k : Nat) (ofs : Nat → Nat) (dat : Nat → ByteArray) : TMap (w.alloc (.map #[] 0)) w.heap.size k (fun _ => false) ofs dat (.map []) :=
  ⟨World.ownsMap_made _ _ _ _, by rw [cntB_none]; rfl, by simp [Maps.has], fun r => by simp [Maps.has], (fun r h => by cases h)⟩
theorem TMap.lt {w : World} {b k : Nat} {has : Nat → Bool} {ofs : Nat → Nat} {dat : Nat → ByteArray} {D : DataW Unit} (h : TMap w b k has ofs dat D) : b < w.heap.size := h.own.lt
theorem TMap.of_block {w w' : World} {b k : Nat} {has : Nat → Bool} {ofs : Nat → Nat} {dat : Nat → ByteArray} {D : DataW Unit} (h : TMap w b k has ofs dat D) (hb : w'.heap[b]? = w.heap[b]?) : TMap w' b k has ofs dat D := ⟨ownsMap_blockS h.own hb, h.size, h.neg, h.holds, h.val⟩
theorem TMap.below {w w' : World} {b k : Nat} {has : Nat → Bool} {ofs : Nat → Nat} {dat : Nat → ByteArray} {D : DataW Unit} (h : TMap w b k has ofs dat D) (hb : Below w.heap.size w w') : TMap w' b k has ofs dat D := h.of_block (hb.block b h.lt)
def updT {α : Type} (f : Nat → α) (x : Nat) (v : α) : Nat → α := fun r => if r = x then v else f r
theorem cntB_upd {has : Nat → Bool} {x : Nat} (hx : has x = false) : ∀ k, cntB (updT has x true) k = if x < k then cntB has k + 1 else cntB has k
  | 0 => rfl
  | k + 1 => by
    rw [cntB_succ, cntB_succ, cntB_upd hx k]
    by_cases e : x = k
    · subst e
      have e3 : updT has x true x = true := by unfold updT; rw [if_pos rfl]
      rw [if_neg (Nat.lt_irrefl _), if_pos (show x < x + 1 by omega), hx, e3]
      rfl
    · have e2 : updT has x true k = has k := by unfold updT; rw [if_neg (fun h => e h.symm)]
      rw [e2]
      by_cases c : x < k
      · rw [if_pos c, if_pos (show x < k + 1 by omega)]; omega
      · rw [if_neg c, if_neg (show ¬ x < k + 1 by omega)]
theorem TMap.put {w w' : World} {b k : Nat} {has : Nat → Bool} {ofs : Nat → Nat} {dat : Nat → ByteArray} {D : DataW Unit} (h : TMap w b k has ofs dat D) {x m : Nat} {s : ByteArray} (hx : has x = false) (hxk : x < k) {n : Nat}
    (h' : w'.ownsMap Tryd.prog 3 rowElem b n (D.put (.int .i64 x) (.agg [.lit (.int .u64 (m : Nat)), .lit (.string s.data.toList)]))) : TMap w' b k (updT has x true) (updT ofs x m) (updT dat x s) (D.put (.int .i64 x) (.agg [.lit (.int .u64 (m : Nat)), .lit (.string s.data.toList)])) := by
  refine ⟨tightS h', ?_, ?_, fun r => ?_, fun r hr => ?_⟩
  · rw [Maps.size_put (h.own.tidy Tryd.lawInt), h.holds x, hx, cntB_upd hx, if_pos hxk, ← h.size]; simp
  · rw [Maps.has_put_other (fun e => by injection e with _ e; omega), h.neg]
  · by_cases c : r = x
    · subst c
      rw [Maps.has_put_same (k := .int .i64 (r : Int)) h.own.isMap trivial]; simp [updT]
    · rw [Maps.has_put_other (fun e => c (by injection e with _ e; omega)), h.holds r]; simp [updT, c]
  · by_cases c : r = x
    · subst c
      rw [Maps.atKey_put_same (k := .int .i64 (r : Int)) h.own.isMap trivial]; simp [updT]
    · rw [Maps.atKey_put_other (fun e => c (by injection e with _ e; omega))]
      have e : updT dat x s r = dat r := by simp [updT, c]
      have e2 : updT ofs x m r = ofs r := by simp [updT, c]
      rw [e, e2]
      exact h.val r (by simpa [updT, c] using hr)
theorem keyS {r : Int} (h : -1 ≤ r) (h2 : r ≤ 10000) : keyOf Tryd.prog 3 (.int .i64 r) = some (.int .i64 r) := keyOf_int_mk Tryd.underlying3 (WalkArith.wf_i64 (by omega))

/-- 'by, ok := t[r]' where there is one. -/
theorem wpList_lookup_row {w : World} {ops : Array Oper} {rest : List Oper} {o : Oper} {a : Act} {Q : Exit → Act → World → Prop} (hg : o.guard = none) (m x : Operand) (hop : o.op = Op.lookup 46 m x true)
    (b k r : Nat) (has : Nat → Bool) (ofs : Nat → Nat) (dat : Nat → ByteArray) (D : DataW Unit) (hm : a.eval m = .map (some b)) (hx : a.eval x = .int .i64 (r : Nat)) (hM : TMap w b k has ofs dat D) (hr : r ≤ 10000) (hh : has r = true)
    (hK : wpList Tryd.prog ops Q rest (a.put o.dst (.tuple #[.agg #[.int .u64 (ofs r : Nat), .string (dat r)], .bool true])) w) :
    wpList Tryd.prog ops Q (o :: rest) a w := by
  refine wpList_lookup_own_ok w hg m x 46 hop 3 56 Tryd.lawInt Tryd.underlying46 rowElem (Tryd.zeroRow w) zeroD [] (rowElem_mk 0 ⟨#[]⟩) b _ D hm hM.own _ _ hx (keyS (by omega) (by omega)) (fun v ps hv => ?_)
  obtain ⟨z, s, rfl, hz⟩ := rowElem_inv hv
  rw [hM.holds r, hh]
  have h1 := congrArg Prod.fst hz
  rw [hM.val r hh] at h1
  simp only at h1
  injection h1 with h1
  injection h1 with h2 h3
  injection h3 with h3
  injection h2 with h2
  injection h2 with _ h2
  injection h3 with h3
  injection h3 with h3
  rw [← h2, ← bytes_of_list' h3]
  exact hK
/-- .. where there is none. -/
theorem wpList_lookup_norow {w : World} {ops : Array Oper} {rest : List Oper} {o : Oper} {a : Act} {Q : Exit → Act → World → Prop} (hg : o.guard = none) (m x : Operand) (hop : o.op = Op.lookup 46 m x true)
    (b k : Nat) (r : Int) (has : Nat → Bool) (ofs : Nat → Nat) (dat : Nat → ByteArray) (D : DataW Unit) (hm : a.eval m = .map (some b)) (hx : a.eval x = .int .i64 r) (hM : TMap w b k has ofs dat D) (hr0 : -1 ≤ r) (hr : r ≤ 10000) (hh : Maps.has D (.int .i64 r) = false)
    (hK : ∀ (z : Int) (s : ByteArray), wpList Tryd.prog ops Q rest (a.put o.dst (.tuple #[.agg #[.int .u64 z, .string s], .bool false])) w) :
    wpList Tryd.prog ops Q (o :: rest) a w := by
  refine wpList_lookup_own_ok w hg m x 46 hop 3 56 Tryd.lawInt Tryd.underlying46 rowElem (Tryd.zeroRow w) zeroD [] (rowElem_mk 0 ⟨#[]⟩) b _ D hm hM.own _ _ hx (keyS hr0 hr) (fun v ps hv => ?_)
  obtain ⟨z, s, rfl, hz⟩ := rowElem_inv hv
  rw [hh]
  exact hK z s
end Go.Proofs.YtkbnoebhckngaaaDoor
