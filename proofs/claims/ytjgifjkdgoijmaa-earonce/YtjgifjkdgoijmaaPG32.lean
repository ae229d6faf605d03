/-
  Lemmas for the law above, joined into one text (SvMap, SvLast). No statement is proved here.
-/
import Derived.Test.YtjgifjkdgoijmaaPG4
import Derived.Test.YtjgifjkdgoijmaaPG31
import Derived.Shelf.Small.Bits
import Derived.Laws.BitsAll
import Derived.Test.YtjgifjkdgoijmaaPG5
namespace Go.Proofs.Ytjgifjkdgoijmaa
open Go.RowKit Go.Maps
set_option linter.unusedVariables false
set_option maxRecDepth 100000

/-- A row. -/
def rowW (m : Nat) (s : ByteArray) : Value := .agg #[.int .u64 (m : Nat), .string s]
/-- How a row of the table reads. -/
def rowElem (v : Value) : Option (DataW Unit × List MemPlace) :=
  match v with
  | .agg cs => match cs.toList with
    | [.int .u64 m, .string s] => some (.agg [.lit (.int .u64 m), .lit (.string s.data.toList)], [])
    | _ => none
  | _ => none
theorem rowElem_mk (m : Nat) (s : ByteArray) : rowElem (rowW m s) = some (.agg [.lit (.int .u64 (m : Nat)), .lit (.string s.data.toList)], []) := rfl
theorem rowElem_inv {v : Value} {z : DataW Unit × List MemPlace} (h : rowElem v = some z) : ∃ (m : Int) (s : ByteArray), v = .agg #[.int .u64 m, .string s] ∧ z = (.agg [.lit (.int .u64 m), .lit (.string s.data.toList)], []) := by
  unfold rowElem at h
  split at h
  · rename_i cs
    split at h
    · rename_i m s hs
      cases h
      refine ⟨m, s, ?_, rfl⟩
      rw [show cs = #[.int .u64 m, .string s] from Array.toList_inj.1 hs]
    · cases h
  · cases h
theorem bytes_of_list' {a b : ByteArray} (h : a.data.toList = b.data.toList) : a = b := by
  cases a; cases b
  congr 1
  exact Array.toList_inj.1 h
theorem Try.zeroRow (w : World) : (zeroValue 113).run Try.prog w = .ok (rowW 0 ⟨#[]⟩) w := by kernel_rfl
theorem tightS {R : Value → Option (DataW Unit × List MemPlace)} {P : Program} {t : TypeId} {w : World} {b n : Nat} {D : DataW Unit} (h : w.ownsMap P t R b n D) : w.ownsMap P t R b (Maps.size D) D := by
  obtain ⟨es, clock, hb, F, hs, rfl⟩ := h
  exact ⟨es, clock, hb, F, by simp [Maps.size, length_sorted], rfl⟩
theorem ownsMap_blockS {R : Value → Option (DataW Unit × List MemPlace)} {P : Program} {t : TypeId} {w w' : World} {b n : Nat} {D : DataW Unit} (h : w.ownsMap P t R b n D) (hb : w'.heap[b]? = w.heap[b]?) : w'.ownsMap P t R b n D := by
  obtain ⟨es, clock, h1, r⟩ := h
  exact ⟨es, clock, hb.trans h1, r⟩

/-- What the zero value of a row reads as. -/
def zeroD : DataW Unit := .agg [.lit (.int .u64 0), .lit (.string [])]
/-- The map of block b holds a table's rows, of k places. -/
structure TMap (w : World) (b k : Nat) (has : Nat → Bool) (ofs : Nat → Nat) (dat : Nat → ByteArray) (D : DataW Unit) : Prop where
  own : w.ownsMap Try.prog 3 rowElem b (Maps.size D) D
  size : Maps.size D = cntB has k
  neg : Maps.has D (.int .i64 (-1)) = false
  holds : ∀ r : Nat, Maps.has D (.int .i64 r) = has r
  val : ∀ r : Nat, has r = true → D.atKey (.int .i64 r) zeroD = .agg [.lit (.int .u64 (ofs r : Nat)), .lit (.string (dat r).data.toList)]
theorem cntB_none (k : Nat) : cntB (fun _ => false) k = 0 := by unfold cntB; rw [List.filter_eq_nil_iff.2 (fun _ _ => by simp)]; rfl
theorem tmap_made (w : World) (k : Nat) (ofs : Nat → Nat) (dat : Nat → ByteArray) : TMap (w.alloc (.map #[] 0)) w.heap.size k (fun _ => false) ofs dat (.map []) :=
  ⟨World.ownsMap_made _ _ _ _, by rw [cntB_none]; rfl, by simp [Maps.has], fun r => by simp [Maps.has], (fun r h => by cases h)⟩
theorem TMap.lt {w : World} {b k : Nat} {has : Nat → Bool} {ofs : Nat → Nat} {dat : Nat → ByteArray} {D : DataW Unit} (h : TMap w b k has ofs dat D) : b < w.heap.size := h.own.lt
theorem TMap.of_block {w w' : World} {b k : Nat} {has : Nat → Bool} {ofs : Nat → Nat} {dat : Nat → ByteArray} {D : DataW Unit} (h : TMap w b k has ofs dat D) (hb : w'.heap[b]? = w.heap[b]?) : TMap w' b k has ofs dat D := ⟨ownsMap_blockS h.own hb, h.size, h.neg, h.holds, h.val⟩
theorem TMap.below {w w' : World} {b k : Nat} {has : Nat → Bool} {ofs : Nat → Nat} {dat : Nat → ByteArray} {D : DataW Unit} (h : TMap w b k has ofs dat D) (hb : Below w.heap.size w w') : TMap w' b k has ofs dat D := h.of_block (hb.block b h.lt)
def updT {α : Type} (f : Nat → α) (x : Nat) (v : α) : Nat → α := fun r => if r = x then v else f r
theorem cntB_upd {has : Nat → Bool} {x : Nat} (hx : has x = false) : ∀ k, cntB (updT has x true) k = if x < k then cntB has k + 1 else cntB has k
  | 0 => rfl
  | k + 1 => by
    rw [cntB_succ, cntB_succ, cntB_upd hx k]
    by_cases e : x = k
    · subst e
      have e3 : updT has x true x = true := by unfold updT; rw [if_pos rfl]
      rw [if_neg (Nat.lt_irrefl _), if_pos (show x < x + 1 by omega), hx, e3]
      rfl
    · have e2 : updT has x true k = has k := by unfold updT; rw [if_neg (fun h => e h.symm)]
      rw [e2]
      by_cases c : x < k
      · rw [if_pos c, if_pos (show x < k + 1 by omega)]; omega
      · rw [if_neg c, if_neg (show ¬ x < k + 1 by omega)]
theorem TMap.put {w w' : World} {b k : Nat} {has : Nat → Bool} {ofs : Nat → Nat} {dat : Nat → ByteArray} {D : DataW Unit} (h : TMap w b k has ofs dat D) {x m : Nat} {s : ByteArray} (hx : has x = false) (hxk : x < k) {n : Nat}
    (h' : w'.ownsMap Try.prog 3 rowElem b n (D.put (.int .i64 x) (.agg [.lit (.int .u64 (m : Nat)), .lit (.string s.data.toList)]))) : TMap w' b k (updT has x true) (updT ofs x m) (updT dat x s) (D.put (.int .i64 x) (.agg [.lit (.int .u64 (m : Nat)), .lit (.string s.data.toList)])) := by
  refine ⟨tightS h', ?_, ?_, fun r => ?_, fun r hr => ?_⟩
  · rw [Maps.size_put (h.own.tidy Try.lawInt), h.holds x, hx, cntB_upd hx, if_pos hxk, ← h.size]; simp
  · rw [Maps.has_put_other (fun e => by injection e with _ e; omega), h.neg]
  · by_cases c : r = x
    · subst c
      rw [Maps.has_put_same (k := .int .i64 (r : Int)) h.own.isMap trivial]; simp [updT]
    · rw [Maps.has_put_other (fun e => c (by injection e with _ e; omega)), h.holds r]; simp [updT, c]
  · by_cases c : r = x
    · subst c
      rw [Maps.atKey_put_same (k := .int .i64 (r : Int)) h.own.isMap trivial]; simp [updT]
    · rw [Maps.atKey_put_other (fun e => c (by injection e with _ e; omega))]
      have e : updT dat x s r = dat r := by simp [updT, c]
      have e2 : updT ofs x m r = ofs r := by simp [updT, c]
      rw [e, e2]
      exact h.val r (by simpa [updT, c] using hr)
theorem keyS {r : Int} (h : -1 ≤ r) (h2 : r ≤ 10000) : keyOf Try.prog 3 (.int .i64 r) = some (.int .i64 r) := keyOf_int_mk Try.underlying3 (WalkArith.wf_i64 (by omega))

/-- 'by, ok := t[r]' where there is one. -/
theorem wpList_lookup_row {w : World} {ops : Array Oper} {rest : List Oper} {o : Oper} {a : Act} {Q : Exit → Act → World → Prop} (hg : o.guard = none) (m x : Operand) (hop : o.op = Op.lookup 88 m x true)
    (b k r : Nat) (has : Nat → Bool) (ofs : Nat → Nat) (dat : Nat → ByteArray) (D : DataW Unit) (hm : a.eval m = .map (some b)) (hx : a.eval x = .int .i64 (r : Nat)) (hM : TMap w b k has ofs dat D) (hr : r ≤ 10000) (hh : has r = true)
    (hK : wpList Try.prog ops Q rest (a.put o.dst (.tuple #[.agg #[.int .u64 (ofs r : Nat), .string (dat r)], .bool true])) w) :
    wpList Try.prog ops Q (o :: rest) a w := by
  refine wpList_lookup_own_ok w hg m x 88 hop 3 113 Try.lawInt Try.underlying88 rowElem (Try.zeroRow w) zeroD [] (rowElem_mk 0 ⟨#[]⟩) b _ D hm hM.own _ _ hx (keyS (by omega) (by omega)) (fun v ps hv => ?_)
  obtain ⟨z, s, rfl, hz⟩ := rowElem_inv hv
  rw [hM.holds r, hh]
  have h1 := congrArg Prod.fst hz
  rw [hM.val r hh] at h1
  simp only at h1
  injection h1 with h1
  injection h1 with h2 h3
  injection h3 with h3
  injection h2 with h2
  injection h2 with _ h2
  injection h3 with h3
  injection h3 with h3
  rw [← h2, ← bytes_of_list' h3]
  exact hK
/-- .. where there is none. -/
theorem wpList_lookup_norow {w : World} {ops : Array Oper} {rest : List Oper} {o : Oper} {a : Act} {Q : Exit → Act → World → Prop} (hg : o.guard = none) (m x : Operand) (hop : o.op = Op.lookup 88 m x true)
    (b k : Nat) (r : Int) (has : Nat → Bool) (ofs : Nat → Nat) (dat : Nat → ByteArray) (D : DataW Unit) (hm : a.eval m = .map (some b)) (hx : a.eval x = .int .i64 r) (hM : TMap w b k has ofs dat D) (hr0 : -1 ≤ r) (hr : r ≤ 10000) (hh : Maps.has D (.int .i64 r) = false)
    (hK : ∀ (z : Int) (s : ByteArray), wpList Try.prog ops Q rest (a.put o.dst (.tuple #[.agg #[.int .u64 z, .string s], .bool false])) w) :
    wpList Try.prog ops Q (o :: rest) a w := by
  refine wpList_lookup_own_ok w hg m x 88 hop 3 113 Try.lawInt Try.underlying88 rowElem (Try.zeroRow w) zeroD [] (rowElem_mk 0 ⟨#[]⟩) b _ D hm hM.own _ _ hx (keyS hr0 hr) (fun v ps hv => ?_)
  obtain ⟨z, s, rfl, hz⟩ := rowElem_inv hv
  rw [hh]
  exact hK z s
end Go.Proofs.Ytjgifjkdgoijmaa

namespace Go.Proofs.Ytjgifjkdgoijmaa
open Go.Shelf Go.RowKit
set_option linter.unusedVariables false
set_option maxRecDepth 100000

def renLen : Go.Shelf.Ren := ⟨fun | 125 => 76 | 128 => 82 | 129 => 83 | n => n,
  fun | 0 => 0 | 3 => 3 | 4 => 4 | 5 => 5 | 9 => 9 | 46 => 96 | 51 => 119 | 53 => 122 | n => n, fun | n => n⟩
theorem laysLen : Go.Proofs.Lays.n125 Try.prog renLen := by constructor <;> (intros; kernel_rfl)
theorem len_ok (m : Nat) (w : World) (h : m < 65536) :
    Calls Try.prog 76 #[.int .u64 (m : Nat)] w fun e w' => e = .returned (.int .i64 (Lib.bitLen m : Nat)) ∧ w = w' := by
  have h9 := Any.bits_Len laysLen (m : Int) w (by omega) (by omega)
  rw [Int.toNat_natCast] at h9
  exact h9.mono fun e w' ⟨he, hw⟩ => ⟨he, hw.symm⟩
theorem last_none (w : World) :
    Calls Try.prog 61 #[.int .u64 0] w fun e w' => e = .returned (.int .i64 (-1)) ∧ w = w' := by
  have L := hide (len_ok 0 w (by omega))
  rw [show Lib.bitLen 0 = 0 from by decide +kernel] at L
  go_enter Try.func61, Try.ntmps61
  go_wp2_with fail
  refine (L.out).mono ?_
  rintro e w1 ⟨rfl, rfl⟩
  go_wp2
  go_ret
  exact ⟨rfl, rfl⟩
theorem last_ok (m p : Nat) (w : World) (h : m < 65536) (hp : Lib.bitLen m = p + 1) (h2 : p < 64) :
    Calls Try.prog 61 #[.int .u64 (m : Nat)] w fun e w' => e = .returned (.int .i64 (p : Nat)) ∧ w = w' := by
  have L := hide (len_ok m w h)
  rw [hp] at L
  clear hp
  go_enter Try.func61, Try.ntmps61
  go_wp2_with fail
  refine (L.out).mono ?_
  rintro e w1 ⟨rfl, rfl⟩
  go_wp2
  go_ret
  exact ⟨ret_int (by omega), rfl⟩

theorem take_snoc {l : List Nat} {j : Nat} (h : j < l.length) : l.take (j + 1) = l.take j ++ [l.getD j 0] := by rw [List.take_add_one]; simp [List.getD, h]
theorem mask16 {l : List Nat} {k : Nat} (hk : k ≤ 16) (hl : ∀ p ∈ l, p < k) (j : Nat) : maskL (l.take j) < 65536 :=
  Nat.lt_of_lt_of_le (maskL_lt (k := k) fun p hp => hl p (List.mem_of_mem_take hp)) (Nat.pow_le_pow_right (n := 2) (by decide) hk)
set_option maxHeartbeats 1000000 in
theorem marks_ok (l : List Nat) (k : Nat) (v : Value) (w : World) (hv : Lst w v l) (hk : k ≤ 16) (hl : ∀ p ∈ l, p < k) (hn : l.length ≤ 16) :
    Calls Try.prog 60 #[v] w fun e w' => e = .returned (.int .u64 (maskL l : Nat)) ∧ w = w' := by
  obtain ⟨g, cap, rfl, hc1, hc2, hc⟩ := hv
  have HC := hide hc
  have HL := hide hl
  unfold maxLen at hc2
  clear hc hl
  go_enter Try.func60, Try.ntmps60
  go_wp2
  go_loop [3, 5, 8] (fun m _ i => ∃ j : Nat, j ≤ l.length ∧ i = .int .i64 j ∧ m = .int .u64 (maskL (l.take j) : Nat)) (fun _ _ i => l.length - (intOf i).toNat)
  case atStart => exact ⟨0, Nat.zero_le _, rfl, rfl⟩
  case round =>
    obtain ⟨j, hj, rfl, rfl⟩ := hrel
    have hm := mask16 hk HL.out j
    by_cases hlt : j < l.length
    · have hcj := HC.out j hlt
      rw [Nat.zero_add] at hcj
      have HS : Hid (maskL (l.take (j + 1)) = maskL (l.take j) ||| 2 ^ l.getD j 0) := by rw [Hid, take_snoc hlt, maskL_snoc]
      have hp : l.getD j 0 < 16 := by
        have h9 : l.getD j 0 ∈ l := by simp [List.getD, hlt]
        have := HL.out _ h9; omega
      generalize l.getD j 0 = p at *
      generalize maskL (l.take j) = m at *
      have hpow : 2 ^ p ≤ 32768 := Nat.pow_le_pow_right (n := 2) (by decide) (show p ≤ 15 by omega)
      obtain ⟨q, hq⟩ : ∃ q : Nat, q = 2 ^ p := ⟨_, rfl⟩
      have hsh : IntKind.u64.wrap (2 ^ p) = (q : Int) := by
        rw [IntKind.wrap_u64, hq, Int.natCast_pow]
        have h9 : ((2 : Int) ^ p) ≤ 32768 := by exact_mod_cast hpow
        have h8 : (0 : Int) ≤ 2 ^ p := by exact_mod_cast Nat.zero_le (2 ^ p)
        exact Int.emod_eq_of_lt h8 (by omega)
      have hor : bits .or .u64 (m : Int) (q : Int) = ((m ||| q : Nat) : Int) := u64_or_nat _ _ (by omega) (by omega)
      rw [← hq] at HS
      have HQ := hide hq
      clear hq hpow
      go_wp2
      go_round
      case rel =>
        refine ⟨j + 1, by omega, by go_num, ?_⟩
        rw [HS.out]
      case measure => simp [intOf]; omega
    · obtain rfl : j = l.length := by omega
      rw [List.take_length] at *
      go_wp2
      go_ret
      exact ⟨rfl, rfl⟩
end Go.Proofs.Ytjgifjkdgoijmaa
