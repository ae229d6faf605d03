/-
  Lemmas for the law above, joined into one text (ZeroA, SvN, SvMap). No statement is proved here.
-/
import Derived.Test.YtjgifjkdgoijmaaGreatEG22
import Derived.Test.YtjgifjkdgoijmaaGreatEG6
import Derived.Test.YtjgifjkdgoijmaaGreatEG2
import Derived.Lib.BitFns
namespace Go.Proofs.YtjgifjkdgoijmaaGreat
open Go.RowKit
set_option linter.unusedVariables false
set_option maxRecDepth 100000

theorem zerosB_at (n i : Nat) : atB (zerosB n) i = 0 := by
  rw [atB, zerosB, List.toList_toArray, List.getD, List.getElem?_replicate]; split <;> rfl
end Go.Proofs.YtjgifjkdgoijmaaGreat

namespace Go.Proofs.YtjgifjkdgoijmaaGreat
open Go.RowKit
set_option linter.unusedVariables false
set_option maxRecDepth 100000

theorem atB_out (s : ByteArray) (i : Nat) (h : s.size ≤ i) : atB s i = 0 := by
  unfold atB
  rw [Lib.size_eq] at h
  simp [List.getD, List.getElem?_eq_none h]
/-- A row of a set of places and of bytes. -/
def rv (m : Nat) (d : ByteArray) : RV := (m, atB d)
theorem rv_xor {m n : Nat} {d e : ByteArray} (h : e.size = d.size) : rv (m ^^^ n) (xorB d e) = XV.add (rv m d) (rv n e) := by
  refine Prod.ext rfl (funext fun i => ?_)
  show atB (xorB d e) i = atB d i ^^^ atB e i
  rcases Nat.lt_or_ge i d.size with hi | hi
  · exact xorB_at _ _ _ hi
  · rw [atB_out _ _ (by rw [xorB_size]; exact hi), atB_out _ _ hi, atB_out _ _ (by rw [h]; exact hi)]; rfl
theorem bytes_fun {d e : ByteArray} (h : d.size = e.size) (h2 : atB d = atB e) : d = e := bytes_ext h (fun i _ => congrFun h2 i)
theorem zero_iff {d : ByteArray} {n : Nat} (h : d.size = n) : d = zerosB n ↔ atB d = fun _ => 0 := by
  constructor
  · intro e; rw [e]; exact funext fun i => zerosB_at n i
  · intro e; exact bytes_fun (by rw [h, zerosB_size]) (by rw [e]; exact (funext fun i => zerosB_at n i).symm)

/-- A list of places as a number. -/
def maskL (s : List Nat) : Nat := s.foldl (fun m p => m ||| 2 ^ p) 0
theorem mask_from (j : Nat) : ∀ (s : List Nat) (m : Nat), (s.foldl (fun m p => m ||| 2 ^ p) m).testBit j = (m.testBit j || decide (j ∈ s))
  | [], m => by simp
  | p :: s, m => by
    show (s.foldl (fun m p => m ||| 2 ^ p) (m ||| 2 ^ p)).testBit j = _
    rw [mask_from j s, Nat.testBit_or, Nat.testBit_two_pow]
    by_cases c : j = p
    · subst c; simp
    · have c' : ¬ p = j := fun e => c e.symm
      simp [c, c']
theorem maskL_bit (s : List Nat) (j : Nat) : (maskL s).testBit j = decide (j ∈ s) := by unfold maskL; rw [mask_from]; simp
theorem maskL_snoc (s : List Nat) (p : Nat) : maskL (s ++ [p]) = maskL s ||| 2 ^ p := by simp [maskL, List.foldl_append]
theorem lt_of_bits {m k : Nat} (h : ∀ j, k ≤ j → m.testBit j = false) : m < 2 ^ k := by
  refine Nat.lt_of_not_le fun hle => ?_
  obtain ⟨i, hi, hb⟩ := Nat.exists_ge_and_testBit_of_ge_two_pow hle
  rw [h i hi] at hb; cases hb
theorem maskL_lt {s : List Nat} {k : Nat} (h : ∀ p ∈ s, p < k) : maskL s < 2 ^ k := lt_of_bits fun j hj => by
  rw [maskL_bit]; exact decide_eq_false fun hm => by have := h j hm; omega
theorem bit_at {m p : Nat} (h1 : 2 ^ p ≤ m) (h2 : m < 2 ^ (p + 1)) : m.testBit p = true := by
  rw [Nat.testBit_eq_decide_div_mod_eq]
  have e : m / 2 ^ p = 1 := by
    rw [Nat.pow_succ] at h2
    exact Nat.div_eq_of_lt_le (by omega) (by omega)
  rw [e]; rfl
theorem lt_no_top {m p : Nat} (h : m < 2 ^ (p + 1)) (hb : m.testBit p = false) : m < 2 ^ p := lt_of_bits fun j hj => by
  by_cases e : j = p
  · rw [e]; exact hb
  · exact bit_big h (by omega)
/-- The last place of a set. -/
theorem top_of {m : Nat} (h0 : m ≠ 0) (h : m < 2 ^ 64) : ∃ p, Lib.bitLen m = p + 1 ∧ m.testBit p = true ∧ m < 2 ^ (p + 1) := by
  suffices ∃ p, Lib.bitLen m = p + 1 ∧ 2 ^ p ≤ m ∧ m < 2 ^ (p + 1) by
    obtain ⟨p, h1, h2, h3⟩ := this
    exact ⟨p, h1, bit_at h2 h3, h3⟩
  induction m using Nat.strongRecOn with
  | ind m ih =>
    by_cases h1 : m = 1
    · subst h1; exact ⟨0, by decide +kernel, by decide, by decide⟩
    · obtain ⟨p, e, l, u⟩ := ih (m / 2) (by omega) (by omega) (by omega)
      refine ⟨p + 1, by rw [Lib.bitLen_half m h0 h, e]; omega, ?_, ?_⟩
      · rw [Nat.pow_succ]; omega
      · rw [Nat.pow_succ]; omega
theorem top_lt {m p k : Nat} (h : m < 2 ^ k) (hb : m.testBit p = true) : p < k := by
  rcases Nat.lt_or_ge p k with h1 | h1
  · exact h1
  · rw [bit_big h h1] at hb; cases hb
/-- Over one of the same last place it is less. -/
theorem xor_less {m n p : Nat} (h1 : m.testBit p = true) (h2 : m < 2 ^ (p + 1)) (h3 : n.testBit p = true) (h4 : n < 2 ^ (p + 1)) : m ^^^ n < m := by
  have hx : m ^^^ n < 2 ^ p := lt_no_top (Nat.xor_lt_two_pow h2 h4) (by rw [Nat.testBit_xor, h1, h3]; rfl)
  have hm : 2 ^ p ≤ m := Nat.ge_two_pow_of_testBit h1
  omega
/-- The rows of the first drops, i of them. -/
noncomputable def rowsD (k : Nat) (s : Nat → Nat) (d : Nat → ByteArray) (i : Nat) : List RV := (List.range i).map fun j => rv (maskL (setL k (s j))) (d j)
theorem rowsD_succ (k : Nat) (s : Nat → Nat) (d : Nat → ByteArray) (i : Nat) : rowsD k s d (i + 1) = rowsD k s d i ++ [rv (maskL (setL k (s i))) (d i)] := by unfold rowsD; rw [List.range_succ, List.map_append]; rfl
theorem setL_mask {k seed : Nat} (hk : 1 ≤ k) (h1 : 1 ≤ seed) : maskL (setL k seed) < 2 ^ k := maskL_lt fun p hp => setL_lt hk h1 hp
end Go.Proofs.YtjgifjkdgoijmaaGreat

namespace Go.Proofs.YtjgifjkdgoijmaaGreat
open Go.RowKit Go.Maps
set_option linter.unusedVariables false
set_option maxRecDepth 100000

/-- A row. -/
def rowW (m : Nat) (s : ByteArray) : Value := .agg #[.int .u64 (m : Nat), .string s]
/-- How a row of the table reads. -/
def rowElem (v : Value) : Option (DataW Unit × List MemPlace) :=
  match v with
  | .agg cs => match cs.toList with
    | [.int .u64 m, .string s] => some (.agg [.lit (.int .u64 m), .lit (.string s.data.toList)], [])
    | _ => none
  | _ => none
theorem rowElem_mk (m : Nat) (s : ByteArray) : rowElem (rowW m s) = some (.agg [.lit (.int .u64 (m : Nat)), .lit (.string s.data.toList)], []) := rfl
theorem rowElem_inv {v : Value} {z : DataW Unit × List MemPlace} (h : rowElem v = some z) : ∃ (m : Int) (s : ByteArray), v = .agg #[.int .u64 m, .string s] ∧ z = (.agg [.lit (.int .u64 m), .lit (.string s.data.toList)], []) := by
  unfold rowElem at h
  split at h
  · rename_i cs
    split at h
    · rename_i m s hs
      cases h
      refine ⟨m, s, ?_, rfl⟩
      rw [show cs = #[.int .u64 m, .string s] from Array.toList_inj.1 hs]
    · cases h
  · cases h
theorem bytes_of_list' {a b : ByteArray} (h : a.data.toList = b.data.toList) : a = b := by
  cases a; cases b
  congr 1
  exact Array.toList_inj.1 h
theorem Tryz.zeroRow (w : World) : (zeroValue 118).run Tryz.prog w = .ok (rowW 0 ⟨#[]⟩) w := by kernel_rfl
theorem tightS {R : Value → Option (DataW Unit × List MemPlace)} {P : Program} {t : TypeId} {w : World} {b n : Nat} {D : DataW Unit} (h : w.ownsMap P t R b n D) : w.ownsMap P t R b (Maps.size D) D := by
  obtain ⟨es, clock, hb, F, hs, rfl⟩ := h
  exact ⟨es, clock, hb, F, by simp [Maps.size, length_sorted], rfl⟩
theorem ownsMap_blockS {R : Value → Option (DataW Unit × List MemPlace)} {P : Program} {t : TypeId} {w w' : World} {b n : Nat} {D : DataW Unit} (h : w.ownsMap P t R b n D) (hb : w'.heap[b]? = w.heap[b]?) : w'.ownsMap P t R b n D := by
  obtain ⟨es, clock, h1, r⟩ := h
  exact ⟨es, clock, hb.trans h1, r⟩

/-- What the zero value of a row reads as. -/
def zeroD : DataW Unit := .agg [.lit (.int .u64 0), .lit (.string [])]
/-- The map of block b holds a table's rows, of k places. -/
structure TMap (w : World) (b k : Nat) (has : Nat → Bool) (ofs : Nat → Nat) (dat : Nat → ByteArray) (D : DataW Unit) : Prop where
  own : w.ownsMap Tryz.prog 3 rowElem b (Maps.size D) D
  size : Maps.size D = cntB has k
  neg : Maps.has D (.int .i64 (-1)) = false
  holds : ∀ r : Nat, Maps.has D (.int .i64 r) = has r
  val : ∀ r : Nat, has r = true → D.atKey (.int .i64 r) zeroD = .agg [.lit (.int .u64 (ofs r : Nat)), .lit (.string (dat r).data.toList)]
theorem cntB_none (k : Nat) : cntB (fun _ => false) k = 0 := by unfold cntB; rw [List.filter_eq_nil_iff.2 (fun _ _ => by simp)]; rfl
theorem tmap_made (w : World) (k : Nat) (ofs : Nat → Nat) (dat : Nat → ByteArray) : TMap (w.alloc (.map #[] 0)) w.heap.size k (fun _ => false) ofs dat (.map []) :=
  ⟨World.ownsMap_made _ _ _ _, by rw [cntB_none]; rfl, by simp [Maps.has], fun r => by simp [Maps.has], (fun r h => by cases h)⟩
theorem TMap.lt {w : World} {b k : Nat} {has : Nat → Bool} {ofs : Nat → Nat} {dat : Nat → ByteArray} {D : DataW Unit} (h : TMap w b k has ofs dat D) : b < w.heap.size := h.own.lt
theorem TMap.of_block {w w' : World} {b k : Nat} {has : Nat → Bool} {ofs : Nat → Nat} {dat : Nat → ByteArray} {D : DataW Unit} (h : TMap w b k has ofs dat D) (hb : w'.heap[b]? = w.heap[b]?) : TMap w' b k has ofs dat D := ⟨ownsMap_blockS h.own hb, h.size, h.neg, h.holds, h.val⟩
theorem TMap.below {w w' : World} {b k : Nat} {has : Nat → Bool} {ofs : Nat → Nat} {dat : Nat → ByteArray} {D : DataW Unit} (h : TMap w b k has ofs dat D) (hb : Below w.heap.size w w') : TMap w' b k has ofs dat D := h.of_block (hb.block b h.lt)
def updT {α : Type} (f : Nat → α) (x : Nat) (v : α) : Nat → α := fun r => if r = x then v else f r
theorem cntB_upd {has : Nat → Bool} {x : Nat} (hx : has x = false) : ∀ k, cntB (updT has x true) k = if x < k then cntB has k + 1 else cntB has k
  | 0 => rfl
  | k + 1 => by
    rw [cntB_succ, cntB_succ, cntB_upd hx k]
    by_cases e : x = k
    · subst e
      have e3 : updT has x true x = true := by unfold updT; rw [if_pos rfl]
      rw [if_neg (Nat.lt_irrefl _), if_pos (show x < x + 1 by omega), hx, e3]
      rfl
    · have e2 : updT has x true k = has k := by unfold updT; rw [if_neg (fun h => e h.symm)]
      rw [e2]
      by_cases c : x < k
      · rw [if_pos c, if_pos (show x < k + 1 by omega)]; omega
      · rw [if_neg c, if_neg (show ¬ x < k + 1 by omega)]
theorem TMap.put {w w' : World} {b k : Nat} {has : Nat → Bool} {ofs : Nat → Nat} {dat : Nat → ByteArray} {D : DataW Unit} (h : TMap w b k has ofs dat D) {x m : Nat} {s : ByteArray} (hx : has x = false) (hxk : x < k) {n : Nat}
    (h' : w'.ownsMap Tryz.prog 3 rowElem b n (D.put (.int .i64 x) (.agg [.lit (.int .u64 (m : Nat)), .lit (.string s.data.toList)]))) : TMap w' b k (updT has x true) (updT ofs x m) (updT dat x s) (D.put (.int .i64 x) (.agg [.lit (.int .u64 (m : Nat)), .lit (.string s.data.toList)])) := by
  refine ⟨tightS h', ?_, ?_, fun r => ?_, fun r hr => ?_⟩
  · rw [Maps.size_put (h.own.tidy Tryz.lawInt), h.holds x, hx, cntB_upd hx, if_pos hxk, ← h.size]; simp
  · rw [Maps.has_put_other (fun e => by injection e with _ e; omega), h.neg]
  · by_cases c : r = x
    · subst c
      rw [Maps.has_put_same (k := .int .i64 (r : Int)) h.own.isMap trivial]; simp [updT]
    · rw [Maps.has_put_other (fun e => c (by injection e with _ e; omega)), h.holds r]; simp [updT, c]
  · by_cases c : r = x
    · subst c
      rw [Maps.atKey_put_same (k := .int .i64 (r : Int)) h.own.isMap trivial]; simp [updT]
    · rw [Maps.atKey_put_other (fun e => c (by injection e with _ e; omega))]
      have e : updT dat x s r = dat r := by simp [updT, c]
      have e2 : updT ofs x m r = ofs r := by simp [updT, c]
      rw [e, e2]
      exact h.val r (by simpa [updT, c] using hr)
theorem keyS {r : Int} (h : -1 ≤ r) (h2 : r ≤ 10000) : keyOf Tryz.prog 3 (.int .i64 r) = some (.int .i64 r) := keyOf_int_mk Tryz.underlying3 (WalkArith.wf_i64 (by omega))

/-- 'by, ok := t[r]' where there is one. -/
theorem wpList_lookup_row {w : World} {ops : Array Oper} {rest : List Oper} {o : Oper} {a : Act} {Q : Exit → Act → World → Prop} (hg : o.guard = none) (m x : Operand) (hop : o.op = Op.lookup 83 m x true)
    (b k r : Nat) (has : Nat → Bool) (ofs : Nat → Nat) (dat : Nat → ByteArray) (D : DataW Unit) (hm : a.eval m = .map (some b)) (hx : a.eval x = .int .i64 (r : Nat)) (hM : TMap w b k has ofs dat D) (hr : r ≤ 10000) (hh : has r = true)
    (hK : wpList Tryz.prog ops Q rest (a.put o.dst (.tuple #[.agg #[.int .u64 (ofs r : Nat), .string (dat r)], .bool true])) w) :
    wpList Tryz.prog ops Q (o :: rest) a w := by
  refine wpList_lookup_own_ok w hg m x 83 hop 3 118 Tryz.lawInt Tryz.underlying83 rowElem (Tryz.zeroRow w) zeroD [] (rowElem_mk 0 ⟨#[]⟩) b _ D hm hM.own _ _ hx (keyS (by omega) (by omega)) (fun v ps hv => ?_)
  obtain ⟨z, s, rfl, hz⟩ := rowElem_inv hv
  rw [hM.holds r, hh]
  have h1 := congrArg Prod.fst hz
  rw [hM.val r hh] at h1
  simp only at h1
  injection h1 with h1
  injection h1 with h2 h3
  injection h3 with h3
  injection h2 with h2
  injection h2 with _ h2
  injection h3 with h3
  injection h3 with h3
  rw [← h2, ← bytes_of_list' h3]
  exact hK
/-- .. where there is none. -/
theorem wpList_lookup_norow {w : World} {ops : Array Oper} {rest : List Oper} {o : Oper} {a : Act} {Q : Exit → Act → World → Prop} (hg : o.guard = none) (m x : Operand) (hop : o.op = Op.lookup 83 m x true)
    (b k : Nat) (r : Int) (has : Nat → Bool) (ofs : Nat → Nat) (dat : Nat → ByteArray) (D : DataW Unit) (hm : a.eval m = .map (some b)) (hx : a.eval x = .int .i64 r) (hM : TMap w b k has ofs dat D) (hr0 : -1 ≤ r) (hr : r ≤ 10000) (hh : Maps.has D (.int .i64 r) = false)
    (hK : ∀ (z : Int) (s : ByteArray), wpList Tryz.prog ops Q rest (a.put o.dst (.tuple #[.agg #[.int .u64 z, .string s], .bool false])) w) :
    wpList Tryz.prog ops Q (o :: rest) a w := by
  refine wpList_lookup_own_ok w hg m x 83 hop 3 118 Tryz.lawInt Tryz.underlying83 rowElem (Tryz.zeroRow w) zeroD [] (rowElem_mk 0 ⟨#[]⟩) b _ D hm hM.own _ _ hx (keyS hr0 hr) (fun v ps hv => ?_)
  obtain ⟨z, s, rfl, hz⟩ := rowElem_inv hv
  rw [hh]
  exact hK z s
end Go.Proofs.YtjgifjkdgoijmaaGreat
