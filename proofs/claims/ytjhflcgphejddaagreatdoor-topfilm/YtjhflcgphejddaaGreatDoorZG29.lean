/-
  Lemmas for the law above, joined into one text (SvMap, SvLast, SvRed, DFrame). No statement is proved here.
-/
import Derived.Test.YtjhflcgphejddaaGreatDoorZG15
import Derived.Test.YtjhflcgphejddaaGreatDoorZG28
import Derived.Shelf.Small.Bits
import Derived.Laws.BitsAll
import Derived.Test.YtjhflcgphejddaaGreatDoorZG23
import Derived.Deep.LoopGhost
import Derived.Test.YtjhflcgphejddaaGreatDoorZG0
import Derived.Deep.SlicePairs
import Derived.ProofKit
namespace Go.Proofs.YtjhflcgphejddaaGreatDoor
open Go.RowKit Go.Maps
set_option linter.unusedVariables false
set_option maxRecDepth 100000

/-- A row. -/
def rowW (m : Nat) (s : ByteArray) : Value := .agg #[.int .u64 (m : Nat), .string s]
/-- How a row of the table reads. -/
def rowElem (v : Value) : Option (DataW Unit × List MemPlace) :=
  match v with
  | .agg cs => match cs.toList with
    | [.int .u64 m, .string s] => some (.agg [.lit (.int .u64 m), .lit (.string s.data.toList)], [])
    | _ => none
  | _ => none
theorem rowElem_mk (m : Nat) (s : ByteArray) : rowElem (rowW m s) = some (.agg [.lit (.int .u64 (m : Nat)), .lit (.string s.data.toList)], []) := rfl
theorem rowElem_inv {v : Value} {z : DataW Unit × List MemPlace} (h : rowElem v = some z) : ∃ (m : Int) (s : ByteArray), v = .agg #[.int .u64 m, .string s] ∧ z = (.agg [.lit (.int .u64 m), .lit (.string s.data.toList)], []) := by
  unfold rowElem at h
  split at h
  · rename_i cs
    split at h
    · rename_i m s hs
      cases h
      refine ⟨m, s, ?_, rfl⟩
      rw [show cs = #[.int .u64 m, .string s] from Array.toList_inj.1 hs]
    · cases h
  · cases h
theorem bytes_of_list' {a b : ByteArray} (h : a.data.toList = b.data.toList) : a = b := by
  cases a; cases b
  congr 1
  exact Array.toList_inj.1 h
theorem Tryz.zeroRow (w : World) : (zeroValue 190).run Tryz.prog w = .ok (rowW 0 ⟨#[]⟩) w := by kernel_rfl
theorem tightS {R : Value → Option (DataW Unit × List MemPlace)} {P : Program} {t : TypeId} {w : World} {b n : Nat} {D : DataW Unit} (h : w.ownsMap P t R b n D) : w.ownsMap P t R b (Maps.size D) D := by
  obtain ⟨es, clock, hb, F, hs, rfl⟩ := h
  exact ⟨es, clock, hb, F, by simp [Maps.size, length_sorted], rfl⟩
theorem ownsMap_blockS {R : Value → Option (DataW Unit × List MemPlace)} {P : Program} {t : TypeId} {w w' : World} {b n : Nat} {D : DataW Unit} (h : w.ownsMap P t R b n D) (hb : w'.heap[b]? = w.heap[b]?) : w'.ownsMap P t R b n D := by
  obtain ⟨es, clock, h1, r⟩ := h
  exact ⟨es, clock, hb.trans h1, r⟩

/-- What the zero value of a row reads as. -/
def zeroD : DataW Unit := .agg [.lit (.int .u64 0), .lit (.string [])]
/-- The map of block b holds a table's rows, of k places. -/
structure TMap (w : World) (b k : Nat) (has : Nat → Bool) (ofs : Nat → Nat) (dat : Nat → ByteArray) (D : DataW Unit) : Prop where
  own : w.ownsMap Tryz.prog 3 rowElem b (Maps.size D) D
  size : Maps.size D = cntB has k
  neg : Maps.has D (.int .i64 (-1)) = false
  holds : ∀ r : Nat, Maps.has D (.int .i64 r) = has r
  val : ∀ r : Nat, has r = true → D.atKey (.int .i64 r) zeroD = .agg [.lit (.int .u64 (ofs r : Nat)), .lit (.string (dat r).data.toList)]
theorem cntB_none (k : Nat) : cntB (fun _ => false) k = 0 := by unfold cntB; rw [List.filter_eq_nil_iff.2 (fun _ _ => by simp)]; rfl
theorem tmap_made (w : World) (k : Nat) (ofs : Nat → Nat) (dat : Nat → ByteArray) : TMap (w.alloc (.map #[] 0)) w.heap.size k (fun _ => false) ofs dat (.map []) :=
  ⟨World.ownsMap_made _ _ _ _, by rw [cntB_none]; rfl, by simp [Maps.has], fun r => by simp [Maps.has], (fun r h => by cases h)⟩
theorem TMap.lt {w : World} {b k : Nat} {has : Nat → Bool} {ofs : Nat → Nat} {dat : Nat → ByteArray} {D : DataW Unit} (h : TMap w b k has ofs dat D) : b < w.heap.size := h.own.lt
theorem TMap.of_block {w w' : World} {b k : Nat} {has : Nat → Bool} {ofs : Nat → Nat} {dat : Nat → ByteArray} {D : DataW Unit} (h : TMap w b k has ofs dat D) (hb : w'.heap[b]? = w.heap[b]?) : TMap w' b k has ofs dat D := ⟨ownsMap_blockS h.own hb, h.size, h.neg, h.holds, h.val⟩
theorem TMap.below {w w' : World} {b k : Nat} {has : Nat → Bool} {ofs : Nat → Nat} {dat : Nat → ByteArray} {D : DataW Unit} (h : TMap w b k has ofs dat D) (hb : Below w.heap.size w w') : TMap w' b k has ofs dat D := h.of_block (hb.block b h.lt)
def updT {α : Type} (f : Nat → α) (x : Nat) (v : α) : Nat → α := fun r => if r = x then v else f r
theorem cntB_upd {has : Nat → Bool} {x : Nat} (hx : has x = false) : ∀ k, cntB (updT has x true) k = if x < k then cntB has k + 1 else cntB has k
  | 0 => rfl
  | k + 1 => by
    rw [cntB_succ, cntB_succ, cntB_upd hx k]
    by_cases e : x = k
    · subst e
      have e3 : updT has x true x = true := by unfold updT; rw [if_pos rfl]
      rw [if_neg (Nat.lt_irrefl _), if_pos (show x < x + 1 by omega), hx, e3]
      rfl
    · have e2 : updT has x true k = has k := by unfold updT; rw [if_neg (fun h => e h.symm)]
      rw [e2]
      by_cases c : x < k
      · rw [if_pos c, if_pos (show x < k + 1 by omega)]; omega
      · rw [if_neg c, if_neg (show ¬ x < k + 1 by omega)]
theorem TMap.put {w w' : World} {b k : Nat} {has : Nat → Bool} {ofs : Nat → Nat} {dat : Nat → ByteArray} {D : DataW Unit} (h : TMap w b k has ofs dat D) {x m : Nat} {s : ByteArray} (hx : has x = false) (hxk : x < k) {n : Nat}
    (h' : w'.ownsMap Tryz.prog 3 rowElem b n (D.put (.int .i64 x) (.agg [.lit (.int .u64 (m : Nat)), .lit (.string s.data.toList)]))) : TMap w' b k (updT has x true) (updT ofs x m) (updT dat x s) (D.put (.int .i64 x) (.agg [.lit (.int .u64 (m : Nat)), .lit (.string s.data.toList)])) := by
  refine ⟨tightS h', ?_, ?_, fun r => ?_, fun r hr => ?_⟩
  · rw [Maps.size_put (h.own.tidy Tryz.lawInt), h.holds x, hx, cntB_upd hx, if_pos hxk, ← h.size]; simp
  · rw [Maps.has_put_other (fun e => by injection e with _ e; omega), h.neg]
  · by_cases c : r = x
    · subst c
      rw [Maps.has_put_same (k := .int .i64 (r : Int)) h.own.isMap trivial]; simp [updT]
    · rw [Maps.has_put_other (fun e => c (by injection e with _ e; omega)), h.holds r]; simp [updT, c]
  · by_cases c : r = x
    · subst c
      rw [Maps.atKey_put_same (k := .int .i64 (r : Int)) h.own.isMap trivial]; simp [updT]
    · rw [Maps.atKey_put_other (fun e => c (by injection e with _ e; omega))]
      have e : updT dat x s r = dat r := by simp [updT, c]
      have e2 : updT ofs x m r = ofs r := by simp [updT, c]
      rw [e, e2]
      exact h.val r (by simpa [updT, c] using hr)
theorem keyS {r : Int} (h : -1 ≤ r) (h2 : r ≤ 10000) : keyOf Tryz.prog 3 (.int .i64 r) = some (.int .i64 r) := keyOf_int_mk Tryz.underlying3 (WalkArith.wf_i64 (by omega))

/-- 'by, ok := t[r]' where there is one. -/
theorem wpList_lookup_row {w : World} {ops : Array Oper} {rest : List Oper} {o : Oper} {a : Act} {Q : Exit → Act → World → Prop} (hg : o.guard = none) (m x : Operand) (hop : o.op = Op.lookup 140 m x true)
    (b k r : Nat) (has : Nat → Bool) (ofs : Nat → Nat) (dat : Nat → ByteArray) (D : DataW Unit) (hm : a.eval m = .map (some b)) (hx : a.eval x = .int .i64 (r : Nat)) (hM : TMap w b k has ofs dat D) (hr : r ≤ 10000) (hh : has r = true)
    (hK : wpList Tryz.prog ops Q rest (a.put o.dst (.tuple #[.agg #[.int .u64 (ofs r : Nat), .string (dat r)], .bool true])) w) :
    wpList Tryz.prog ops Q (o :: rest) a w := by
  refine wpList_lookup_own_ok w hg m x 140 hop 3 190 Tryz.lawInt Tryz.underlying140 rowElem (Tryz.zeroRow w) zeroD [] (rowElem_mk 0 ⟨#[]⟩) b _ D hm hM.own _ _ hx (keyS (by omega) (by omega)) (fun v ps hv => ?_)
  obtain ⟨z, s, rfl, hz⟩ := rowElem_inv hv
  rw [hM.holds r, hh]
  have h1 := congrArg Prod.fst hz
  rw [hM.val r hh] at h1
  simp only at h1
  injection h1 with h1
  injection h1 with h2 h3
  injection h3 with h3
  injection h2 with h2
  injection h2 with _ h2
  injection h3 with h3
  injection h3 with h3
  rw [← h2, ← bytes_of_list' h3]
  exact hK
/-- .. where there is none. -/
theorem wpList_lookup_norow {w : World} {ops : Array Oper} {rest : List Oper} {o : Oper} {a : Act} {Q : Exit → Act → World → Prop} (hg : o.guard = none) (m x : Operand) (hop : o.op = Op.lookup 140 m x true)
    (b k : Nat) (r : Int) (has : Nat → Bool) (ofs : Nat → Nat) (dat : Nat → ByteArray) (D : DataW Unit) (hm : a.eval m = .map (some b)) (hx : a.eval x = .int .i64 r) (hM : TMap w b k has ofs dat D) (hr0 : -1 ≤ r) (hr : r ≤ 10000) (hh : Maps.has D (.int .i64 r) = false)
    (hK : ∀ (z : Int) (s : ByteArray), wpList Tryz.prog ops Q rest (a.put o.dst (.tuple #[.agg #[.int .u64 z, .string s], .bool false])) w) :
    wpList Tryz.prog ops Q (o :: rest) a w := by
  refine wpList_lookup_own_ok w hg m x 140 hop 3 190 Tryz.lawInt Tryz.underlying140 rowElem (Tryz.zeroRow w) zeroD [] (rowElem_mk 0 ⟨#[]⟩) b _ D hm hM.own _ _ hx (keyS hr0 hr) (fun v ps hv => ?_)
  obtain ⟨z, s, rfl, hz⟩ := rowElem_inv hv
  rw [hh]
  exact hK z s
end Go.Proofs.YtjhflcgphejddaaGreatDoor

namespace Go.Proofs.YtjhflcgphejddaaGreatDoor
open Go.Shelf Go.RowKit
set_option linter.unusedVariables false
set_option maxRecDepth 100000

def renLen : Go.Shelf.Ren := ⟨fun | 125 => 154 | 128 => 161 | 129 => 162 | n => n,
  fun | 0 => 0 | 3 => 3 | 4 => 4 | 5 => 5 | 9 => 9 | 46 => 111 | 51 => 216 | 53 => 219 | n => n, fun | n => n⟩
theorem laysLen : Go.Proofs.Lays.n125 Tryz.prog renLen := by constructor <;> (intros; kernel_rfl)
theorem len_ok (m : Nat) (w : World) (h : m < 65536) :
    Calls Tryz.prog 154 #[.int .u64 (m : Nat)] w fun e w' => e = .returned (.int .i64 (Lib.bitLen m : Nat)) ∧ w = w' := by
  have h9 := Any.bits_Len laysLen (m : Int) w (by omega) (by omega)
  rw [Int.toNat_natCast] at h9
  exact h9.mono fun e w' ⟨he, hw⟩ => ⟨he, hw.symm⟩
theorem last_none (w : World) :
    Calls Tryz.prog 127 #[.int .u64 0] w fun e w' => e = .returned (.int .i64 (-1)) ∧ w = w' := by
  have L := hide (len_ok 0 w (by omega))
  rw [show Lib.bitLen 0 = 0 from by decide +kernel] at L
  go_enter Tryz.func127, Tryz.ntmps127
  go_wp2_with fail
  refine (L.out).mono ?_
  rintro e w1 ⟨rfl, rfl⟩
  go_wp2
  go_ret
  exact ⟨rfl, rfl⟩
theorem last_ok (m p : Nat) (w : World) (h : m < 65536) (hp : Lib.bitLen m = p + 1) (h2 : p < 64) :
    Calls Tryz.prog 127 #[.int .u64 (m : Nat)] w fun e w' => e = .returned (.int .i64 (p : Nat)) ∧ w = w' := by
  have L := hide (len_ok m w h)
  rw [hp] at L
  clear hp
  go_enter Tryz.func127, Tryz.ntmps127
  go_wp2_with fail
  refine (L.out).mono ?_
  rintro e w1 ⟨rfl, rfl⟩
  go_wp2
  go_ret
  exact ⟨ret_int (by omega), rfl⟩

theorem take_snoc {l : List Nat} {j : Nat} (h : j < l.length) : l.take (j + 1) = l.take j ++ [l.getD j 0] := by rw [List.take_add_one]; simp [List.getD, h]
theorem mask16 {l : List Nat} {k : Nat} (hk : k ≤ 16) (hl : ∀ p ∈ l, p < k) (j : Nat) : maskL (l.take j) < 65536 :=
  Nat.lt_of_lt_of_le (maskL_lt (k := k) fun p hp => hl p (List.mem_of_mem_take hp)) (Nat.pow_le_pow_right (n := 2) (by decide) hk)
set_option maxHeartbeats 1000000 in
theorem marks_ok (l : List Nat) (k : Nat) (v : Value) (w : World) (hv : Lst w v l) (hk : k ≤ 16) (hl : ∀ p ∈ l, p < k) (hn : l.length ≤ 16) :
    Calls Tryz.prog 126 #[v] w fun e w' => e = .returned (.int .u64 (maskL l : Nat)) ∧ w = w' := by
  obtain ⟨g, cap, rfl, hc1, hc2, hc⟩ := hv
  have HC := hide hc
  have HL := hide hl
  unfold maxLen at hc2
  clear hc hl
  go_enter Tryz.func126, Tryz.ntmps126
  go_wp2
  go_loop [3, 5, 8] (fun m _ i => ∃ j : Nat, j ≤ l.length ∧ i = .int .i64 j ∧ m = .int .u64 (maskL (l.take j) : Nat)) (fun _ _ i => l.length - (intOf i).toNat)
  case atStart => exact ⟨0, Nat.zero_le _, rfl, rfl⟩
  case round =>
    obtain ⟨j, hj, rfl, rfl⟩ := hrel
    have hm := mask16 hk HL.out j
    by_cases hlt : j < l.length
    · have hcj := HC.out j hlt
      rw [Nat.zero_add] at hcj
      have HS : Hid (maskL (l.take (j + 1)) = maskL (l.take j) ||| 2 ^ l.getD j 0) := by rw [Hid, take_snoc hlt, maskL_snoc]
      have hp : l.getD j 0 < 16 := by
        have h9 : l.getD j 0 ∈ l := by simp [List.getD, hlt]
        have := HL.out _ h9; omega
      generalize l.getD j 0 = p at *
      generalize maskL (l.take j) = m at *
      have hpow : 2 ^ p ≤ 32768 := Nat.pow_le_pow_right (n := 2) (by decide) (show p ≤ 15 by omega)
      obtain ⟨q, hq⟩ : ∃ q : Nat, q = 2 ^ p := ⟨_, rfl⟩
      have hsh : IntKind.u64.wrap (2 ^ p) = (q : Int) := by
        rw [IntKind.wrap_u64, hq, Int.natCast_pow]
        have h9 : ((2 : Int) ^ p) ≤ 32768 := by exact_mod_cast hpow
        have h8 : (0 : Int) ≤ 2 ^ p := by exact_mod_cast Nat.zero_le (2 ^ p)
        exact Int.emod_eq_of_lt h8 (by omega)
      have hor : bits .or .u64 (m : Int) (q : Int) = ((m ||| q : Nat) : Int) := u64_or_nat _ _ (by omega) (by omega)
      rw [← hq] at HS
      have HQ := hide hq
      clear hq hpow
      go_wp2
      go_round
      case rel =>
        refine ⟨j + 1, by omega, by go_num, ?_⟩
        rw [HS.out]
      case measure => simp [intOf]; omega
    · obtain rfl : j = l.length := by omega
      rw [List.take_length] at *
      go_wp2
      go_ret
      exact ⟨rfl, rfl⟩
end Go.Proofs.YtjhflcgphejddaaGreatDoor

namespace Go.Proofs.YtjhflcgphejddaaGreatDoor
open Go.RowKit Go.Maps
set_option linter.unusedVariables false
set_option maxRecDepth 100000

/-- A block that holds a row, none of it frozen. -/
def RowIn (w : World) (b m : Nat) (s : ByteArray) : Prop :=
  (w.cell? ⟨b, 0, none⟩ = some (.int .u64 (m : Nat)) ∧ w.frozen? ⟨b, 0, none⟩ = false) ∧ w.cell? ⟨b, 0 + 1, none⟩ = some (.string s) ∧ w.frozen? ⟨b, 0 + 1, none⟩ = false
theorem rowIn_new (w : World) (m : Nat) (s : ByteArray) : RowIn (w.alloc (.cells #[.int .u64 (m : Nat), .string s] 190)) w.heap.size m s :=
  ⟨⟨by simp, by simp only [World.frozen?, (MapKept.heap_alloc w _).1]; simp⟩, by simp, by simp only [World.frozen?, (MapKept.heap_alloc w _).1]; simp⟩
theorem RowIn.lt {w : World} {b m : Nat} {s : ByteArray} (h : RowIn w b m s) : b < w.heap.size := cell_lt h.1.1
theorem RowIn.of_block {w w' : World} {b m : Nat} {s : ByteArray} (h : RowIn w b m s) (hb : w'.heap[b]? = w.heap[b]?) : RowIn w' b m s :=
  ⟨⟨(World.cell?_of_block (w := w) hb).trans h.1.1, (World.frozen?_of_block (w := w) hb).trans h.1.2⟩, (World.cell?_of_block (w := w) hb).trans h.2.1, (World.frozen?_of_block (w := w) hb).trans h.2.2⟩
theorem RowIn.below {w w' : World} {b m : Nat} {s : ByteArray} (h : RowIn w b m s) (hb : Below w.heap.size w w') : RowIn w' b m s := h.of_block (hb.block b h.lt)
theorem RowIn.set {w : World} {b m n : Nat} {s t : ByteArray} (h : RowIn w b m s) : RowIn ((w.setCell ⟨b, 0, none⟩ (.int .u64 (n : Nat))).setCell ⟨b, 0 + 1, none⟩ (.string t)) b n t := by
  obtain ⟨⟨c0, f0⟩, c1, f1⟩ := h
  refine ⟨⟨?_, by rw [World.frozen?_setCell, World.frozen?_setCell]; exact f0⟩, ?_, by rw [World.frozen?_setCell, World.frozen?_setCell]; exact f1⟩
  · rw [World.cell?_setCell_other _ _ _ _ (fun h => by cases h)]
    exact World.cell?_setCell_same _ _ _ c0
  · refine World.cell?_setCell_same _ _ (.string t) (u := .string s) ?_
    rw [World.cell?_setCell_other _ _ _ _ (fun h => by cases h)]; exact c1
theorem RowIn.other {w : World} {b m : Nat} {s : ByteArray} (h : RowIn w b m s) {a : Addr} {v : Value} (hne : a.block ≠ b) : RowIn (w.setCell a v) b m s := by
  obtain ⟨⟨c0, f0⟩, c1, f1⟩ := h
  refine ⟨⟨?_, by rw [World.frozen?_setCell]; exact f0⟩, ?_, by rw [World.frozen?_setCell]; exact f1⟩
  · rw [World.cell?_setCell_other _ _ _ _ (fun h => hne (by cases h; rfl))]; exact c0
  · rw [World.cell?_setCell_other _ _ _ _ (fun h => hne (by cases h; rfl))]; exact c1

/-- What reduce has come to. -/
structure Red (w : World) (k n b : Nat) (has : Nat → Bool) (ofs : Nat → Nat) (dat : Nat → ByteArray) (r : RV) (m : Nat) (d : ByteArray) (wr : World) : Prop where
  row : RowIn wr w.heap.size m d
  res : RowIn wr (w.heap.size + 1) 0 ⟨#[]⟩
  sp : Sp XV (piv has (fun p => rv (ofs p) (dat p)) k) (XV.add r (rv m d))
  lt : m < 2 ^ k
  size : d.size = n
  below : Below w.heap.size w wr

set_option maxHeartbeats 2000000 in
theorem reduce_ok (k n b m0 : Nat) (has : Nat → Bool) (ofs : Nat → Nat) (dat : Nat → ByteArray) (D : DataW Unit) (d0 : ByteArray) (w : World) (hk : k ≤ 16) (hn : n ≤ 8) (hM : TMap w b k has ofs dat D)
    (hp : ∀ p, has p = true → p < k ∧ (ofs p).testBit p = true ∧ ofs p < 2 ^ (p + 1) ∧ (dat p).size = n) (hm : m0 < 2 ^ k) (hd : d0.size = n) :
    Calls Tryz.prog 125 #[.map (some b), .agg #[.int .u64 (m0 : Nat), .string d0]] w fun e w' => ∃ m d, e = .returned (.tuple #[rowW m d, .nilIface]) ∧ Sp XV (piv has (fun p => rv (ofs p) (dat p)) k) (XV.add (rv m0 d0) (rv m d)) ∧ (m = 0 ∨ ∃ p, Lib.bitLen m = p + 1 ∧ has p = false ∧ p < k ∧ m.testBit p = true ∧ m < 2 ^ (p + 1)) ∧ m < 2 ^ k ∧ d.size = n ∧ Below w.heap.size w w' := by
  have HM := hide hM
  have HP := hide hp
  have hbw := hM.lt
  have h16 : (2 : Nat) ^ k ≤ 65536 := Nat.pow_le_pow_right (n := 2) (by decide) hk
  obtain ⟨K, hK⟩ : ∃ K : Nat, K = 2 ^ k := ⟨_, rfl⟩
  have HK := hide hK
  have HR0 : Hid (Red w k n b has ofs dat (rv m0 d0) m0 d0 ((w.alloc (.cells #[.int .u64 (m0 : Nat), .string d0] 190)).alloc (.cells #[.int .u64 0, .string ⟨#[]⟩] 190))) := by
    have h1 := (rowIn_new w m0 d0).below ((Below.refl _ _).alloc (Nat.le_refl _) (.cells #[.int .u64 0, .string ⟨#[]⟩] 190))
    have h2 := rowIn_new (w.alloc (.cells #[.int .u64 (m0 : Nat), .string d0] 190)) 0 ⟨#[]⟩
    rw [heap_alloc1] at h2
    exact ⟨h1, h2, by rw [XV.self]; exact Sp.zero XV _, hm, hd, ((Below.refl _ w).alloc (Nat.le_refl _) _).alloc (by simp) _⟩
  have HMl := hide hm
  rw [← hK] at h16
  clear hM hp hm hd hK
  go_enter Tryz.func125, Tryz.ntmps125
  go_wp2_with fail
  go_loopg [7] (K + 1) (fun gk _ wr => ∃ (m : Nat) (d : ByteArray), m + 1 ≤ gk ∧ Red w k n b has ofs dat (rv m0 d0) m d wr)
  case atStart => exact ⟨m0, d0, by have := HMl.out; rw [HK.out]; omega, HR0.out⟩
  case round =>
    obtain ⟨m, d, hmg, hR⟩ := hrel
    have HR := hide hR
    have hml : m < 65536 := by have := hR.lt; rw [← HK.out] at this; omega
    have hds := hR.size
    have HT := hide (HM.out.below hR.below)
    obtain ⟨⟨c0, f0⟩, c1, f1⟩ := hR.row
    obtain ⟨⟨e0, g0⟩, e1, g1⟩ := hR.res
    simp only [Nat.zero_add] at c1 f1 e1 g1
    have n0 : ∀ o, (wr.alloc o).cell? ⟨w.heap.size, 0, none⟩ = some (.int .u64 (m : Nat)) := fun o => cell_below ((Below.refl _ _).alloc (Nat.le_refl _) o) c0
    have n1 : ∀ o, (wr.alloc o).cell? ⟨w.heap.size, 1, none⟩ = some (.string d) := fun o => cell_below ((Below.refl _ _).alloc (Nat.le_refl _) o) c1
    have hRb := hide (fun o => HR.out.res.below ((Below.refl _ _).alloc (Nat.le_refl _) o))
    have e0' : ∀ o, (wr.alloc o).cell? ⟨w.heap.size + 1, 0, none⟩ = some (.int .u64 0) := fun o => (hRb.out o).1.1
    have e1' : ∀ o, (wr.alloc o).cell? ⟨w.heap.size + 1, 1, none⟩ = some (.string ⟨#[]⟩) := fun o => (hRb.out o).2.1
    have g0' : ∀ o, (wr.alloc o).frozen? ⟨w.heap.size + 1, 0, none⟩ = false := fun o => (hRb.out o).1.2
    have g1' : ∀ o, (wr.alloc o).frozen? ⟨w.heap.size + 1, 1, none⟩ = false := fun o => (hRb.out o).2.2
    clear hR HR0 HMl e0 g0 e1 g1
    by_cases hz : m = 0
    · subst hz
      have L := hide (last_none wr)
      have HG : Hid (Maps.has D (.int .i64 (-1)) = false) := HM.out.neg
      go_wp2_with fail
      refine (L.out).mono ?_
      rintro e w1 ⟨rfl, rfl⟩
      go_wp2_with (first | (at_lookup; refine wpList_lookup_norow rfl _ _ rfl b k (-1) has ofs dat D rfl rfl HT.out (by omega) (by omega) HG.out ?_; intro z s) | fail)
      refine bodyPost_ret (v := .tuple #[rowW 0 d, .nilIface]) (by simp [results, Tryz.results125, go_sem, rowW, e0', e1']) rfl ⟨0, d, rfl, HR.out.sp, Or.inl rfl, HR.out.lt, hds, ?_⟩
      exact ((HR.out.below.alloc HR.out.below.size _).setCell (Nat.le_succ _) _).setCell (Nat.le_succ _) _
    · obtain ⟨p, hp1, hp2, hp3⟩ := top_of hz (by omega)
      have hpk := top_lt HR.out.lt hp2
      have L := hide (last_ok m p wr hml hp1 (by omega))
      cases hh : has p with
      | false =>
        have HG : Hid (Maps.has D (.int .i64 (p : Nat)) = false) := by rw [Hid, HM.out.holds p]; exact hh
        have HH := hide hh
        have HP1 := hide hp1
        have HP2 := hide hp2
        have HP3 := hide hp3
        clear hh hp1 hp2 hp3 hz
        go_wp2_with fail
        refine (L.out).mono ?_
        rintro e w1 ⟨rfl, rfl⟩
        go_wp2_with (first | (at_lookup; refine wpList_lookup_norow rfl _ _ rfl b k (p : Nat) has ofs dat D rfl rfl HT.out (by omega) (by omega) HG.out ?_; intro z s) | fail)
        refine bodyPost_ret (v := .tuple #[rowW m d, .nilIface]) (by simp [results, Tryz.results125, go_sem, rowW, e0', e1']) rfl ⟨m, d, rfl, HR.out.sp, Or.inr ⟨p, HP1.out, HH.out, hpk, HP2.out, HP3.out⟩, HR.out.lt, hds, ?_⟩
        exact ((HR.out.below.alloc HR.out.below.size _).setCell (Nat.le_succ _) _).setCell (Nat.le_succ _) _
      | true =>
        obtain ⟨_, hq1, hq2, hq3⟩ := HP.out p hh
        have hless := xor_less hp2 hp3 hq1 hq2
        have hsp : Hid (Sp XV (piv has (fun p => rv (ofs p) (dat p)) k) (XV.add (rv m0 d0) (rv (m ^^^ ofs p) (xorB d (dat p))))) := by
          unfold Hid
          rw [rv_xor (by rw [hq3, hds]), ← XV.assoc]
          exact Sp.add HR.out.sp (Sp.mem (mem_piv.2 ⟨p, hpk, hh, rfl⟩))
        have hxs : Hid ((xorB d (dat p)).size = n) := by rw [Hid, xorB_size]; exact hds
        have hol : ofs p < 65536 := Nat.lt_of_lt_of_le hq2 (Nat.pow_le_pow_right (n := 2) (i := p + 1) (j := 16) (by decide) (by omega))
        have hxr : bits .xor .u64 (m : Int) (ofs p : Int) = ((m ^^^ ofs p : Nat) : Int) := u64_xor_nat _ _ (by omega) (by omega)
        have X := hide (fun o => xor_ok d (dat p) (wr.alloc o) (by omega) (by rw [hq3, hds]))
        have HH := hide hh
        have hs1 := HR.out.below.size
        clear hh hp1 hp2 hp3 hz hq1 hq2
        have hr9 := rowIn_new wr (ofs p) (dat p)
        have q0 := hr9.1.1
        have q1 := hr9.2.1
        simp only [Nat.zero_add] at q1
        clear hr9
        generalize hx : xorB d (dat p) = x at *
        generalize hy : m ^^^ ofs p = y at *
        generalize hda : dat p = da at *
        generalize hoa : ofs p = oa at *
        have HL : Hid (has p = true ∧ dat p = da ∧ ofs p = oa) := ⟨HH.out, hda, hoa⟩
        clear hx hy hda hoa
        go_wp2_with fail
        refine (L.out).mono ?_
        rintro e w1 ⟨rfl, rfl⟩
        go_wp2_with (first | (at_lookup; refine wpList_lookup_row rfl _ _ rfl b k p has ofs dat D rfl rfl HT.out (by omega) HL.out.1 ?_; rw [HL.out.2.1, HL.out.2.2]) | fail)
        refine (X.out _).mono ?_
        rintro e w2 ⟨rfl, hb2⟩
        have r2 := HR.out.row.below (below_two ((Below.refl _ _).alloc (Nat.le_refl _) _) hb2)
        have s2 := HR.out.res.below (below_two ((Below.refl _ _).alloc (Nat.le_refl _) _) hb2)
        have HRow := hide r2
        have HRes := hide s2
        have HB2 := hide (below_two HR.out.below (below_two ((Below.refl _ _).alloc (Nat.le_refl _) _) hb2))
        have q0' := cell_below hb2 q0
        have q1' := cell_below hb2 q1
        obtain ⟨⟨c0', f0'⟩, c1', f1'⟩ := r2
        simp only [Nat.zero_add] at c1' f1'
        clear n0 n1 e0' e1' g0' g1' hRb q0 q1 s2 hb2 c0 f0 c1 f1
        go_wp2
        go_roundg (gk - 1)
        case measure => omega
        case rel =>
          have h9 := HRow.out.set (n := y) (t := x)
          rw [Nat.zero_add] at h9
          refine ⟨y, x, by omega, h9, (HRes.out.other (by simp)).other (by simp), hsp.out, Nat.lt_trans hless HR.out.lt, hxs.out, ?_⟩
          exact (HB2.out.setCell (Nat.le_refl _) _).setCell (Nat.le_refl _) _
end Go.Proofs.YtjhflcgphejddaaGreatDoor

namespace Go.Proofs.YtjhflcgphejddaaGreatDoor
open Go.ChangeShapes Go.WideShapes Go.ChangeAt Go.RowKit
set_option linter.unusedVariables false
set_option maxRecDepth 100000

/-- A slice of Drops as it lies: len of them, their seeds, their data. -/
def DropsAt (W : World) (v : Value) (len : Nat) (s : Nat → Int) (d : Nat → ByteArray) : Prop :=
  (len = 0 ∧ ∃ a cap, v = .slice a 0 cap) ∨ (0 < len ∧ ∃ b o cap, v = .slice (some ⟨b, o, none⟩) len cap ∧ len ≤ cap ∧ cap ≤ maxLen ∧ ∀ i, i < len → W.cell? ⟨b, o + i * 2, none⟩ = some (.int .i64 (s i)) ∧ W.cell? ⟨b, o + i * 2 + 1, none⟩ = some (.string (d i)) ∧ (d i).size ≤ maxLen ∧ (Lit.int .i64 (s i)).wf = true)

theorem open_dropsAt {H : Type} {enc : TypeId × Value → H} {W : World} {base : Nat} {v : Value} {dt : DataW H} {p : List MemPlace}
    (hv : Value.okWide Tryz.prog W .any base 86 v) (h : DataW.Trod enc Tryz.prog W 0 (fun _ => true) true 86 v dt p) : ∃ len s d, DropsAt W v len s d := by
  obtain ⟨a0, len, cap, rfl⟩ := okWide_slice Tryz.underlying86 hv
  obtain ⟨fuel, hf⟩ := h
  rcases Deep.open_slice_pairs Tryz.underlying86 Tryz.underlying43 (by kernel_rfl) rfl rfl (by kernel_rfl) (by kernel_rfl) hf with ⟨hcs, hx⟩ | ⟨a, len', cap', m, n, V0, V1, D0, D1, P0, P1, hcs, _, hl, hm, hmm, hx, hcell⟩
  · simp [Value.cells] at hcs
    obtain ⟨rfl, rfl, rfl⟩ := hcs
    exact ⟨0, fun _ => 0, fun _ => ByteArray.empty, Or.inl ⟨rfl, none, 0, rfl⟩⟩
  · simp [Value.cells] at hcs
    obtain ⟨rfl, rfl, rfl⟩ := hcs
    simp only [if_true] at hmm
    by_cases h0 : len = 0
    · subst h0
      exact ⟨0, fun _ => 0, fun _ => ByteArray.empty, Or.inl ⟨rfl, some a, cap, rfl⟩⟩
    · have each : ∀ i, i < len → ∃ x : Int × ByteArray, W.cell? (a.add (i * 2)) = some (.int .i64 x.1) ∧ W.cell? (a.add (i * 2 + 1)) = some (.string x.2) ∧ x.2.size ≤ maxLen ∧ (Lit.int .i64 x.1).wf = true := fun i hi => by
        obtain ⟨h1, h2, h3, h4⟩ := hcell i (by omega)
        obtain ⟨q, e1, _, w1⟩ := DataW.trod_int Tryz.underlying3 h3
        obtain ⟨s, e2, _, w2⟩ := DataW.trod_string Tryz.underlying9 h4
        simp at e1 e2
        rw [e1] at h1
        rw [e2] at h2
        exact ⟨(q, s), h1, h2, w2, w1⟩
      obtain ⟨f, hf⟩ := Deep.choose_lt (α := Int × ByteArray) each
      obtain ⟨b, off, spot⟩ := a
      have hspot : spot = none := by
        have h9 := World.cell?_spot (hf 0 (by omega)).1
        simpa [Addr.add] using h9
      subst hspot
      refine ⟨len, fun i => (f i).1, fun i => (f i).2, Or.inr ⟨by omega, b, off, cap, rfl, hl, hm, fun i hi => ?_⟩⟩
      obtain ⟨h1, h2, h3, h4⟩ := hf i hi
      rw [Addr.add_lit] at h1 h2
      exact ⟨h1, by rw [Nat.add_assoc]; exact h2, h3, h4⟩
end Go.Proofs.YtjhflcgphejddaaGreatDoor
