/-
  Lemmas for the law above, joined into one text (AppK, SvLast, SvMap, NdMap, NdRed). No statement is proved here.
-/
import Derived.Test.YtakaeikobahaoaaDoorTG3
import Derived.Shelf.Small.Bits
import Derived.Laws.BitsAll
import Derived.Test.YtakaeikobahaoaaDoorTG1
import Derived.Deep.LoopGhost
namespace Go.Proofs.YtakaeikobahaoaaDoor
open Go.RowKit
set_option linter.unusedVariables false
set_option maxRecDepth 100000

theorem run_append_keeps {P : Program} (w : World) (t ty : TypeId) (base : Nat) (e : TypeId) (i : TypeInfo) (z : Value) (size bytes : Nat) (ht : P.underlying t = some (.slice e)) (hi : P.info? e = some i) (hz : i.zero = some z)
    (hsize : i.size = size) (hby : i.bytes = bytes) (hzs : z.cells.size = size) (hsz : 0 < size)
    (v : Value) (n : Nat) (xs : List Value) (hown : w.ownsRow base e size v n xs)
    (ad : Addr) (m c : Nat) (news : List Value) (hl : news.length = m * size) (hnews : ∀ j u, news[j]? = some u → w.cell? (ad.add j) = some u) (h1 : ∀ u ∈ news, u.oneCell' = true)
    (hm : 0 < m) (h63 : n + m ≤ maxLen) (hbytes : (n + m) * bytes ≤ 140737488355328) (hbase : base ≤ w.heap.size) (H : Nat) (hH : w.heap.size = H) :
    ∃ g cap w', (Builtin.append_ #[t, t] ty #[v, .slice (some ad) m c]).run P w = .ok (.slice (some ⟨g, 0, none⟩) (n + m) cap) w' ∧
      w'.ownsRow base e size (.slice (some ⟨g, 0, none⟩) (n + m) cap) (n + m) (xs ++ news) ∧ w'.ownsRow base e size v n xs ∧ w.grownBy w' v.ownBlock ∧ (v.ownBlock = some g ∨ g = H) ∧ g < w'.heap.size := by
  obtain ⟨g, cap, w', hr, h2, h3, h4, h5⟩ := run_append_lies (P := P) w t ty base e i z size bytes ht hi hz hsize hby hzs hsz v n xs hown ad m c news hl hnews h1 hm h63 hbytes hbase H hH
  refine ⟨g, cap, w', hr, h2, ?_, h3, h4, h5⟩
  subst hsize hby
  have hsmall : n + m ≤ 9223372036854775807 := by simp only [maxLen] at h63; omega
  rcases hown.2 with ⟨rfl, rfl⟩ | ⟨g0, cap0, cur, rfl, hbg, hg, hnc, hcm, hcs, htake⟩
  · exact ⟨hown.1, Or.inl ⟨rfl, rfl⟩⟩
  · by_cases hroom : n + m ≤ cap0
    · have hfit : n * i.size + news.length ≤ cur.size := by rw [hl, hcs, ← Nat.add_mul]; exact Nat.mul_le_mul_right _ hroom
      have hr' := run_append_room (P := P) w t ty e i ht hi g0 n cap0 cur hg ad m c news hl hnews h1 hroom hfit
      rw [hr] at hr'
      injection hr' with e1 e2
      subst e2
      have hxl : xs.length = n * i.size := hown.1
      refine ⟨hown.1, Or.inr ⟨g0, cap0, _, rfl, hbg, setRow_heap w g0 cur _ e _ hg, hnc, hcm, ?_, ?_⟩⟩
      · simp only [List.size_toArray, List.length_append, List.length_take, List.length_drop, Array.length_toList]
        omega
      · rw [htake, ← hxl]
        show List.take xs.length (xs ++ news ++ List.drop (xs.length + news.length) cur.toList) = xs
        rw [List.append_assoc, List.take_left]
    · have holds : ∀ j u, xs[j]? = some u → w.cell? ((⟨g0, 0, none⟩ : Addr).add j) = some u := hown.cells (g := g0) rfl
      have hr' := run_append_grow (P := P) w t ty e i z ht hi hz ⟨g0, 0, none⟩ n cap0 xs hown.1 holds ad m c news hl hnews (by omega) (by omega) (growslice_fits (by omega) hbytes)
      rw [hr] at hr'
      injection hr' with e1 e2
      subst e2
      have hlt : g0 < w.heap.size := (Array.getElem?_eq_some_iff.1 hg).1
      exact ⟨hown.1, Or.inr ⟨g0, cap0, cur, rfl, hbg, (heap_alloc_old w.drew _ hlt).trans hg, hnc, hcm, hcs, htake⟩⟩
theorem wpList_append_keeps {P : Program} (w : World) {ops : Array Oper} {rest : List Oper} {o : Oper} {a : Act} {Q : Exit → Act → World → Prop} (hgd : o.guard = none) (s x : Operand) (t : TypeId)
    (ho : o.op = .call { callee := .builtin .append, args := #[s, x], argTypes := #[t, t] })
    (base : Nat) (e : TypeId) (i : TypeInfo) (z : Value) (size bytes : Nat) (ht : P.underlying t = some (.slice e)) (hi : P.info? e = some i) (hz : i.zero = some z)
    (hsize : i.size = size) (hby : i.bytes = bytes) (hzs : z.cells.size = size) (hsz : 0 < size)
    (v : Value) (n : Nat) (xs : List Value) (hs : a.eval s = v) (hown : w.ownsRow base e size v n xs)
    (ad : Addr) (m c : Nat) (news : List Value) (hx : a.eval x = .slice (some ad) m c) (hl : news.length = m * size) (hnews : ∀ j u, news[j]? = some u → w.cell? (ad.add j) = some u) (h1 : ∀ u ∈ news, u.oneCell' = true)
    (hm : 0 < m) (h63 : n + m ≤ maxLen) (hbytes : (n + m) * bytes ≤ 140737488355328) (hbase : base ≤ w.heap.size) (H : Nat) (hH : w.heap.size = H)
    (h : ∀ g cap w', w'.ownsRow base e size (.slice (some ⟨g, 0, none⟩) (n + m) cap) (n + m) (xs ++ news) → w'.ownsRow base e size v n xs → w.grownBy w' v.ownBlock → (v.ownBlock = some g ∨ g = H) → g < w'.heap.size → wpList P ops Q rest (a.put o.dst (.slice (some ⟨g, 0, none⟩) (n + m) cap)) w') : wpList P ops Q (o :: rest) a w := by
  obtain ⟨g, cap, w', hr, h2, h2', h3, h4, h5⟩ := run_append_keeps (P := P) w t o.type base e i z size bytes ht hi hz hsize hby hzs hsz v n xs hown ad m c news hl hnews h1 hm h63 hbytes hbase H hH
  refine wpList_plain hgd fun K hK => ?_
  unfold Oper.wp execOp
  simp only [ho, resolve, invoke, builtin, Sem.run_bind, Sem.run_pure, Result.andThen_ok, List.map_toArray, List.map_cons, List.map_nil, hs, hx, hr]
  exact hK _ _ (h g cap w' h2 h2' h3 h4 h5)
theorem apart_any {w : World} {B e size : Nat} {a b : Value} {m g n c H : Nat} {xs : List Value} (hb : w.ownsRow B e size b m xs) (h : Apart a b) (hH : w.heap.size ≤ H) (hat : a.ownBlock = some g ∨ g = H) : Apart (.slice (some ⟨g, 0, none⟩) n c) b := by
  rcases hat with hat | rfl
  · rcases h with h | h | h
    · rw [h] at hat; cases hat
    · exact Or.inr (Or.inl h)
    · exact Or.inr (Or.inr (fun e => h (by rw [hat, ← e]; rfl)))
  · refine Or.inr (Or.inr (fun e => ?_))
    have := (hb.lt g e.symm).2
    omega
end Go.Proofs.YtakaeikobahaoaaDoor

namespace Go.Proofs.YtakaeikobahaoaaDoor
open Go.Shelf Go.RowKit
set_option linter.unusedVariables false
set_option maxRecDepth 100000

def renLen : Go.Shelf.Ren := ⟨fun | 125 => 45 | 128 => 57 | 129 => 58 | n => n,
  fun | 0 => 0 | 3 => 3 | 4 => 4 | 5 => 5 | 9 => 9 | 46 => 61 | 51 => 121 | 53 => 123 | n => n, fun | n => n⟩
theorem laysLen : Go.Proofs.Lays.n125 Tryd.prog renLen := by constructor <;> (intros; kernel_rfl)
theorem len_ok (m : Nat) (w : World) (h : m < 65536) :
    Calls Tryd.prog 45 #[.int .u64 (m : Nat)] w fun e w' => e = .returned (.int .i64 (Lib.bitLen m : Nat)) ∧ w = w' := by
  have h9 := Any.bits_Len laysLen (m : Int) w (by omega) (by omega)
  rw [Int.toNat_natCast] at h9
  exact h9.mono fun e w' ⟨he, hw⟩ => ⟨he, hw.symm⟩
theorem last_none (w : World) :
    Calls Tryd.prog 49 #[.int .u64 0] w fun e w' => e = .returned (.int .i64 (-1)) ∧ w = w' := by
  have L := hide (len_ok 0 w (by omega))
  rw [show Lib.bitLen 0 = 0 from by decide +kernel] at L
  go_enter Tryd.func49, Tryd.ntmps49
  go_wp2_with fail
  refine (L.out).mono ?_
  rintro e w1 ⟨rfl, rfl⟩
  go_wp2
  go_ret
  exact ⟨rfl, rfl⟩
theorem last_ok (m p : Nat) (w : World) (h : m < 65536) (hp : Lib.bitLen m = p + 1) (h2 : p < 64) :
    Calls Tryd.prog 49 #[.int .u64 (m : Nat)] w fun e w' => e = .returned (.int .i64 (p : Nat)) ∧ w = w' := by
  have L := hide (len_ok m w h)
  rw [hp] at L
  clear hp
  go_enter Tryd.func49, Tryd.ntmps49
  go_wp2_with fail
  refine (L.out).mono ?_
  rintro e w1 ⟨rfl, rfl⟩
  go_wp2
  go_ret
  exact ⟨ret_int (by omega), rfl⟩

theorem take_snoc {l : List Nat} {j : Nat} (h : j < l.length) : l.take (j + 1) = l.take j ++ [l.getD j 0] := by rw [List.take_add_one]; simp [List.getD, h]
theorem mask16 {l : List Nat} {k : Nat} (hk : k ≤ 16) (hl : ∀ p ∈ l, p < k) (j : Nat) : maskL (l.take j) < 65536 :=
  Nat.lt_of_lt_of_le (maskL_lt (k := k) fun p hp => hl p (List.mem_of_mem_take hp)) (Nat.pow_le_pow_right (n := 2) (by decide) hk)
set_option maxHeartbeats 1000000 in
theorem marks_ok (l : List Nat) (k : Nat) (v : Value) (w : World) (hv : Lst w v l) (hk : k ≤ 16) (hl : ∀ p ∈ l, p < k) (hn : l.length ≤ 16) :
    Calls Tryd.prog 48 #[v] w fun e w' => e = .returned (.int .u64 (maskL l : Nat)) ∧ w = w' := by
  obtain ⟨g, cap, rfl, hc1, hc2, hc⟩ := hv
  have HC := hide hc
  have HL := hide hl
  unfold maxLen at hc2
  clear hc hl
  go_enter Tryd.func48, Tryd.ntmps48
  go_wp2
  go_loop [3, 5, 8] (fun m _ i => ∃ j : Nat, j ≤ l.length ∧ i = .int .i64 j ∧ m = .int .u64 (maskL (l.take j) : Nat)) (fun _ _ i => l.length - (intOf i).toNat)
  case atStart => exact ⟨0, Nat.zero_le _, rfl, rfl⟩
  case round =>
    obtain ⟨j, hj, rfl, rfl⟩ := hrel
    have hm := mask16 hk HL.out j
    by_cases hlt : j < l.length
    · have hcj := HC.out j hlt
      rw [Nat.zero_add] at hcj
      have HS : Hid (maskL (l.take (j + 1)) = maskL (l.take j) ||| 2 ^ l.getD j 0) := by rw [Hid, take_snoc hlt, maskL_snoc]
      have hp : l.getD j 0 < 16 := by
        have h9 : l.getD j 0 ∈ l := by simp [List.getD, hlt]
        have := HL.out _ h9; omega
      generalize l.getD j 0 = p at *
      generalize maskL (l.take j) = m at *
      have hpow : 2 ^ p ≤ 32768 := Nat.pow_le_pow_right (n := 2) (by decide) (show p ≤ 15 by omega)
      obtain ⟨q, hq⟩ : ∃ q : Nat, q = 2 ^ p := ⟨_, rfl⟩
      have hsh : IntKind.u64.wrap (2 ^ p) = (q : Int) := by
        rw [IntKind.wrap_u64, hq, Int.natCast_pow]
        have h9 : ((2 : Int) ^ p) ≤ 32768 := by exact_mod_cast hpow
        have h8 : (0 : Int) ≤ 2 ^ p := by exact_mod_cast Nat.zero_le (2 ^ p)
        exact Int.emod_eq_of_lt h8 (by omega)
      have hor : bits .or .u64 (m : Int) (q : Int) = ((m ||| q : Nat) : Int) := u64_or_nat _ _ (by omega) (by omega)
      rw [← hq] at HS
      have HQ := hide hq
      clear hq hpow
      go_wp2
      go_round
      case rel =>
        refine ⟨j + 1, by omega, by go_num, ?_⟩
        rw [HS.out]
      case measure => simp [intOf]; omega
    · obtain rfl : j = l.length := by omega
      rw [List.take_length] at *
      go_wp2
      go_ret
      exact ⟨rfl, rfl⟩
end Go.Proofs.YtakaeikobahaoaaDoor

namespace Go.Proofs.YtakaeikobahaoaaDoor
open Go.RowKit Go.Maps
set_option linter.unusedVariables false
set_option maxRecDepth 100000

/-- A row. -/
def rowW (m : Nat) (s : ByteArray) : Value := .agg #[.int .u64 (m : Nat), .string s]
/-- How a row of the table reads. -/
def rowElem (v : Value) : Option (DataW Unit × List MemPlace) :=
  match v with
  | .agg cs => match cs.toList with
    | [.int .u64 m, .string s] => some (.agg [.lit (.int .u64 m), .lit (.string s.data.toList)], [])
    | _ => none
  | _ => none
theorem rowElem_mk (m : Nat) (s : ByteArray) : rowElem (rowW m s) = some (.agg [.lit (.int .u64 (m : Nat)), .lit (.string s.data.toList)], []) := rfl
theorem rowElem_inv {v : Value} {z : DataW Unit × List MemPlace} (h : rowElem v = some z) : ∃ (m : Int) (s : ByteArray), v = .agg #[.int .u64 m, .string s] ∧ z = (.agg [.lit (.int .u64 m), .lit (.string s.data.toList)], []) := by
  unfold rowElem at h
  split at h
  · rename_i cs
    split at h
    · rename_i m s hs
      cases h
      refine ⟨m, s, ?_, rfl⟩
      rw [show cs = #[.int .u64 m, .string s] from Array.toList_inj.1 hs]
    · cases h
  · cases h
theorem bytes_of_list' {a b : ByteArray} (h : a.data.toList = b.data.toList) : a = b := by
  cases a; cases b
  congr 1
  exact Array.toList_inj.1 h
theorem Tryd.zeroRow (w : World) : (zeroValue 100).run Tryd.prog w = .ok (rowW 0 ⟨#[]⟩) w := by kernel_rfl
theorem tightS {R : Value → Option (DataW Unit × List MemPlace)} {P : Program} {t : TypeId} {w : World} {b n : Nat} {D : DataW Unit} (h : w.ownsMap P t R b n D) : w.ownsMap P t R b (Maps.size D) D := by
  obtain ⟨es, clock, hb, F, hs, rfl⟩ := h
  exact ⟨es, clock, hb, F, by simp [Maps.size, length_sorted], rfl⟩
theorem ownsMap_blockS {R : Value → Option (DataW Unit × List MemPlace)} {P : Program} {t : TypeId} {w w' : World} {b n : Nat} {D : DataW Unit} (h : w.ownsMap P t R b n D) (hb : w'.heap[b]? = w.heap[b]?) : w'.ownsMap P t R b n D := by
  obtain ⟨es, clock, h1, r⟩ := h
  exact ⟨es, clock, hb.trans h1, r⟩

/-- What the zero value of a row reads as. -/
def zeroD : DataW Unit := .agg [.lit (.int .u64 0), .lit (.string [])]
/-- The map of block b holds a table's rows, of k places. -/
structure TMap (w : World) (b k : Nat) (has : Nat → Bool) (ofs : Nat → Nat) (dat : Nat → ByteArray) (D : DataW Unit) : Prop where
  own : w.ownsMap Tryd.prog 3 rowElem b (Maps.size D) D
  size : Maps.size D = cntB has k
  neg : Maps.has D (.int .i64 (-1)) = false
  holds : ∀ r : Nat, Maps.has D (.int .i64 r) = has r
  val : ∀ r : Nat, has r = true → D.atKey (.int .i64 r) zeroD = .agg [.lit (.int .u64 (ofs r : Nat)), .lit (.string (dat r).data.toList)]
theorem cntB_none (k : Nat) : cntB (fun _ => false) k = 0 := by unfold cntB; rw [List.filter_eq_nil_iff.2 (fun _ _ => by simp)]; rfl
theorem tmap_made (w : World) (k : Nat) (ofs : Nat → Nat) (dat : Nat → ByteArray) : TMap (w.alloc (.map #[] 0)) w.heap.size k (fun _ => false) ofs dat (.map []) :=
  ⟨World.ownsMap_made _ _ _ _, by rw [cntB_none]; rfl, by simp [Maps.has], fun r => by simp [Maps.has], (fun r h => by cases h)⟩
theorem TMap.lt {w : World} {b k : Nat} {has : Nat → Bool} {ofs : Nat → Nat} {dat : Nat → ByteArray} {D : DataW Unit} (h : TMap w b k has ofs dat D) : b < w.heap.size := h.own.lt
theorem TMap.of_block {w w' : World} {b k : Nat} {has : Nat → Bool} {ofs : Nat → Nat} {dat : Nat → ByteArray} {D : DataW Unit} (h : TMap w b k has ofs dat D) (hb : w'.heap[b]? = w.heap[b]?) : TMap w' b k has ofs dat D := ⟨ownsMap_blockS h.own hb, h.size, h.neg, h.holds, h.val⟩
theorem TMap.below {w w' : World} {b k : Nat} {has : Nat → Bool} {ofs : Nat → Nat} {dat : Nat → ByteArray} {D : DataW Unit} (h : TMap w b k has ofs dat D) (hb : Below w.heap.size w w') : TMap w' b k has ofs dat D := h.of_block (hb.block b h.lt)
def updT {α : Type} (f : Nat → α) (x : Nat) (v : α) : Nat → α := fun r => if r = x then v else f r
theorem cntB_upd {has : Nat → Bool} {x : Nat} (hx : has x = false) : ∀ k, cntB (updT has x true) k = if x < k then cntB has k + 1 else cntB has k
  | 0 => rfl
  | k + 1 => by
    rw [cntB_succ, cntB_succ, cntB_upd hx k]
    by_cases e : x = k
    · subst e
      have e3 : updT has x true x = true := by unfold updT; rw [if_pos rfl]
      rw [if_neg (Nat.lt_irrefl _), if_pos (show x < x + 1 by omega), hx, e3]
      rfl
    · have e2 : updT has x true k = has k := by unfold updT; rw [if_neg (fun h => e h.symm)]
      rw [e2]
      by_cases c : x < k
      · rw [if_pos c, if_pos (show x < k + 1 by omega)]; omega
      · rw [if_neg c, if_neg (show ¬ x < k + 1 by omega)]
theorem TMap.put {w w' : World} {b k : Nat} {has : Nat → Bool} {ofs : Nat → Nat} {dat : Nat → ByteArray} {D : DataW Unit} (h : TMap w b k has ofs dat D) {x m : Nat} {s : ByteArray} (hx : has x = false) (hxk : x < k) {n : Nat}
    (h' : w'.ownsMap Tryd.prog 3 rowElem b n (D.put (.int .i64 x) (.agg [.lit (.int .u64 (m : Nat)), .lit (.string s.data.toList)]))) : TMap w' b k (updT has x true) (updT ofs x m) (updT dat x s) (D.put (.int .i64 x) (.agg [.lit (.int .u64 (m : Nat)), .lit (.string s.data.toList)])) := by
  refine ⟨tightS h', ?_, ?_, fun r => ?_, fun r hr => ?_⟩
  · rw [Maps.size_put (h.own.tidy Tryd.lawInt), h.holds x, hx, cntB_upd hx, if_pos hxk, ← h.size]; simp
  · rw [Maps.has_put_other (fun e => by injection e with _ e; omega), h.neg]
  · by_cases c : r = x
    · subst c
      rw [Maps.has_put_same (k := .int .i64 (r : Int)) h.own.isMap trivial]; simp [updT]
    · rw [Maps.has_put_other (fun e => c (by injection e with _ e; omega)), h.holds r]; simp [updT, c]
  · by_cases c : r = x
    · subst c
      rw [Maps.atKey_put_same (k := .int .i64 (r : Int)) h.own.isMap trivial]; simp [updT]
    · rw [Maps.atKey_put_other (fun e => c (by injection e with _ e; omega))]
      have e : updT dat x s r = dat r := by simp [updT, c]
      have e2 : updT ofs x m r = ofs r := by simp [updT, c]
      rw [e, e2]
      exact h.val r (by simpa [updT, c] using hr)
theorem keyS {r : Int} (h : -1 ≤ r) (h2 : r ≤ 10000) : keyOf Tryd.prog 3 (.int .i64 r) = some (.int .i64 r) := keyOf_int_mk Tryd.underlying3 (WalkArith.wf_i64 (by omega))

/-- 'by, ok := t[r]' where there is one. -/
theorem wpList_lookup_row {w : World} {ops : Array Oper} {rest : List Oper} {o : Oper} {a : Act} {Q : Exit → Act → World → Prop} (hg : o.guard = none) (m x : Operand) (hop : o.op = Op.lookup 72 m x true)
    (b k r : Nat) (has : Nat → Bool) (ofs : Nat → Nat) (dat : Nat → ByteArray) (D : DataW Unit) (hm : a.eval m = .map (some b)) (hx : a.eval x = .int .i64 (r : Nat)) (hM : TMap w b k has ofs dat D) (hr : r ≤ 10000) (hh : has r = true)
    (hK : wpList Tryd.prog ops Q rest (a.put o.dst (.tuple #[.agg #[.int .u64 (ofs r : Nat), .string (dat r)], .bool true])) w) :
    wpList Tryd.prog ops Q (o :: rest) a w := by
  refine wpList_lookup_own_ok w hg m x 72 hop 3 100 Tryd.lawInt Tryd.underlying72 rowElem (Tryd.zeroRow w) zeroD [] (rowElem_mk 0 ⟨#[]⟩) b _ D hm hM.own _ _ hx (keyS (by omega) (by omega)) (fun v ps hv => ?_)
  obtain ⟨z, s, rfl, hz⟩ := rowElem_inv hv
  rw [hM.holds r, hh]
  have h1 := congrArg Prod.fst hz
  rw [hM.val r hh] at h1
  simp only at h1
  injection h1 with h1
  injection h1 with h2 h3
  injection h3 with h3
  injection h2 with h2
  injection h2 with _ h2
  injection h3 with h3
  injection h3 with h3
  rw [← h2, ← bytes_of_list' h3]
  exact hK
/-- .. where there is none. -/
theorem wpList_lookup_norow {w : World} {ops : Array Oper} {rest : List Oper} {o : Oper} {a : Act} {Q : Exit → Act → World → Prop} (hg : o.guard = none) (m x : Operand) (hop : o.op = Op.lookup 72 m x true)
    (b k : Nat) (r : Int) (has : Nat → Bool) (ofs : Nat → Nat) (dat : Nat → ByteArray) (D : DataW Unit) (hm : a.eval m = .map (some b)) (hx : a.eval x = .int .i64 r) (hM : TMap w b k has ofs dat D) (hr0 : -1 ≤ r) (hr : r ≤ 10000) (hh : Maps.has D (.int .i64 r) = false)
    (hK : ∀ (z : Int) (s : ByteArray), wpList Tryd.prog ops Q rest (a.put o.dst (.tuple #[.agg #[.int .u64 z, .string s], .bool false])) w) :
    wpList Tryd.prog ops Q (o :: rest) a w := by
  refine wpList_lookup_own_ok w hg m x 72 hop 3 100 Tryd.lawInt Tryd.underlying72 rowElem (Tryd.zeroRow w) zeroD [] (rowElem_mk 0 ⟨#[]⟩) b _ D hm hM.own _ _ hx (keyS hr0 hr) (fun v ps hv => ?_)
  obtain ⟨z, s, rfl, hz⟩ := rowElem_inv hv
  rw [hh]
  exact hK z s
end Go.Proofs.YtakaeikobahaoaaDoor

namespace Go.Proofs.YtakaeikobahaoaaDoor
open Go.RowKit Go.Maps
set_option linter.unusedVariables false
set_option maxRecDepth 100000

/-- How a number of the map reads. -/
def uElem (v : Value) : Option (DataW Unit × List MemPlace) :=
  match v with
  | .int .u64 m => some (.lit (.int .u64 m), [])
  | _ => none
theorem uElem_mk (m : Int) : uElem (.int .u64 m) = some (.lit (.int .u64 m), []) := rfl
theorem uElem_inv {v : Value} {z : DataW Unit × List MemPlace} (h : uElem v = some z) : ∃ m : Int, v = .int .u64 m ∧ z = (.lit (.int .u64 m), []) := by
  unfold uElem at h
  split at h
  · rename_i m
    cases h
    exact ⟨m, rfl, rfl⟩
  · cases h
theorem Tryd.zeroU (w : World) : (zeroValue 61).run Tryd.prog w = .ok (.int .u64 0) w := by kernel_rfl
/-- The map of block b holds sets by their last places, of k places. -/
structure UMap (w : World) (b k : Nat) (has : Nat → Bool) (ofs : Nat → Nat) (D : DataW Unit) : Prop where
  own : w.ownsMap Tryd.prog 3 uElem b (Maps.size D) D
  size : Maps.size D = cntB has k
  neg : Maps.has D (.int .i64 (-1)) = false
  holds : ∀ r : Nat, Maps.has D (.int .i64 r) = has r
  val : ∀ r : Nat, has r = true → D.atKey (.int .i64 r) (.lit (.int .u64 0)) = .lit (.int .u64 (ofs r : Nat))
theorem umap_made (w : World) (k : Nat) (ofs : Nat → Nat) : UMap (w.alloc (.map #[] 0)) w.heap.size k (fun _ => false) ofs (.map []) :=
  ⟨World.ownsMap_made _ _ _ _, by rw [cntB_none]; rfl, by simp [Maps.has], fun r => by simp [Maps.has], (fun r h => by cases h)⟩
theorem UMap.lt {w : World} {b k : Nat} {has : Nat → Bool} {ofs : Nat → Nat} {D : DataW Unit} (h : UMap w b k has ofs D) : b < w.heap.size := h.own.lt
theorem UMap.of_block {w w' : World} {b k : Nat} {has : Nat → Bool} {ofs : Nat → Nat} {D : DataW Unit} (h : UMap w b k has ofs D) (hb : w'.heap[b]? = w.heap[b]?) : UMap w' b k has ofs D := ⟨ownsMap_blockS h.own hb, h.size, h.neg, h.holds, h.val⟩
theorem UMap.below {w w' : World} {b k : Nat} {has : Nat → Bool} {ofs : Nat → Nat} {D : DataW Unit} (h : UMap w b k has ofs D) (hb : Below w.heap.size w w') : UMap w' b k has ofs D := h.of_block (hb.block b h.lt)
theorem UMap.put {w w' : World} {b k : Nat} {has : Nat → Bool} {ofs : Nat → Nat} {D : DataW Unit} (h : UMap w b k has ofs D) {x m : Nat} (hx : has x = false) (hxk : x < k) {n : Nat}
    (h' : w'.ownsMap Tryd.prog 3 uElem b n (D.put (.int .i64 x) (.lit (.int .u64 (m : Nat))))) : UMap w' b k (updT has x true) (updT ofs x m) (D.put (.int .i64 x) (.lit (.int .u64 (m : Nat)))) := by
  refine ⟨tightS h', ?_, ?_, fun r => ?_, fun r hr => ?_⟩
  · rw [Maps.size_put (h.own.tidy Tryd.lawInt), h.holds x, hx, cntB_upd hx, if_pos hxk, ← h.size]; simp
  · rw [Maps.has_put_other (fun e => by injection e with _ e; omega), h.neg]
  · by_cases c : r = x
    · subst c
      rw [Maps.has_put_same (k := .int .i64 (r : Int)) h.own.isMap trivial]; simp [updT]
    · rw [Maps.has_put_other (fun e => c (by injection e with _ e; omega)), h.holds r]; simp [updT, c]
  · by_cases c : r = x
    · subst c
      rw [Maps.atKey_put_same (k := .int .i64 (r : Int)) h.own.isMap trivial]; simp [updT]
    · rw [Maps.atKey_put_other (fun e => c (by injection e with _ e; omega))]
      have e2 : updT ofs x m r = ofs r := by simp [updT, c]
      rw [e2]
      exact h.val r (by simpa [updT, c] using hr)

/-- 'by, ok := t[r]' where there is one. -/
theorem wpList_lookup_u {w : World} {ops : Array Oper} {rest : List Oper} {o : Oper} {a : Act} {Q : Exit → Act → World → Prop} (hg : o.guard = none) (m x : Operand) (hop : o.op = Op.lookup 45 m x true)
    (b k r : Nat) (has : Nat → Bool) (ofs : Nat → Nat) (D : DataW Unit) (hm : a.eval m = .map (some b)) (hx : a.eval x = .int .i64 (r : Nat)) (hM : UMap w b k has ofs D) (hr : r ≤ 10000) (hh : has r = true)
    (hK : wpList Tryd.prog ops Q rest (a.put o.dst (.tuple #[.int .u64 (ofs r : Nat), .bool true])) w) :
    wpList Tryd.prog ops Q (o :: rest) a w := by
  refine wpList_lookup_own_ok w hg m x 45 hop 3 61 Tryd.lawInt Tryd.underlying45 uElem (Tryd.zeroU w) (.lit (.int .u64 0)) [] (uElem_mk 0) b _ D hm hM.own _ _ hx (keyS (by omega) (by omega)) (fun v ps hv => ?_)
  obtain ⟨z, rfl, hz⟩ := uElem_inv hv
  rw [hM.holds r, hh]
  have h1 := congrArg Prod.fst hz
  rw [hM.val r hh] at h1
  simp only at h1
  injection h1 with h1
  injection h1 with _ h2
  rw [← h2]
  exact hK
/-- .. where there is none. -/
theorem wpList_lookup_nou {w : World} {ops : Array Oper} {rest : List Oper} {o : Oper} {a : Act} {Q : Exit → Act → World → Prop} (hg : o.guard = none) (m x : Operand) (hop : o.op = Op.lookup 45 m x true)
    (b k : Nat) (r : Int) (has : Nat → Bool) (ofs : Nat → Nat) (D : DataW Unit) (hm : a.eval m = .map (some b)) (hx : a.eval x = .int .i64 r) (hM : UMap w b k has ofs D) (hr0 : -1 ≤ r) (hr : r ≤ 10000) (hh : Maps.has D (.int .i64 r) = false)
    (hK : ∀ z : Int, wpList Tryd.prog ops Q rest (a.put o.dst (.tuple #[.int .u64 z, .bool false])) w) :
    wpList Tryd.prog ops Q (o :: rest) a w := by
  refine wpList_lookup_own_ok w hg m x 45 hop 3 61 Tryd.lawInt Tryd.underlying45 uElem (Tryd.zeroU w) (.lit (.int .u64 0)) [] (uElem_mk 0) b _ D hm hM.own _ _ hx (keyS hr0 hr) (fun v ps hv => ?_)
  obtain ⟨z, rfl, hz⟩ := uElem_inv hv
  rw [hh]
  exact hK z

/-! What it stands for. -/
/-- Sets by their last places, that make what a list makes. -/
structure NTab (L : List Nat) (k : Nat) (has : Nat → Bool) (ofs : Nat → Nat) : Prop where
  lt : ∀ p, has p = true → p < k
  top : ∀ p, has p = true → (ofs p).testBit p = true ∧ ofs p < 2 ^ (p + 1)
  span : ∀ x, Sp XN (piv has ofs k) x ↔ Sp XN L x
theorem ntab_none (k : Nat) (ofs : Nat → Nat) : NTab [] k (fun _ => false) ofs := by
  have e : ∀ k, piv (fun _ => false) ofs k = [] := fun k => List.eq_nil_iff_forall_not_mem.2 fun v hv => by
    obtain ⟨b, _, h, _⟩ := mem_piv.1 hv
    cases h
  exact ⟨fun p h => by simp at h, fun p h => by simp at h, fun x => by rw [e]⟩
theorem NTab.led {L : List Nat} {k : Nat} {has : Nat → Bool} {ofs : Nat → Nat} (h : NTab L k has ofs) : Led has ofs k := fun b hb h1 => ⟨(h.top b h1).1, fun c hc h2 => bit_big (h.top c h2).2 (by omega)⟩
theorem NTab.dim {L : List Nat} {k : Nat} {has : Nat → Bool} {ofs : Nat → Nat} (h : NTab L k has ofs) : Dim (Sp XN L) (cntB has k) := ⟨piv has ofs k, piv_len _ _ _, piv_indep h.led, h.span⟩
theorem NTab.skip {L : List Nat} {k : Nat} {has : Nat → Bool} {ofs : Nat → Nat} (h : NTab L k has ofs) {r : Nat} (hr : Sp XN (piv has ofs k) r) : NTab (L ++ [r]) k has ofs ∧ Sp XN L r := by
  have hr' := (h.span r).1 hr
  refine ⟨⟨h.lt, h.top, fun x => (h.span x).trans (Sp.same (fun u hu => Sp.mem (List.mem_append_left _ hu)) (fun u hu => ?_) x)⟩, hr'⟩
  rcases List.mem_append.1 hu with hu | hu
  · exact Sp.mem hu
  · rw [List.mem_singleton.1 hu]; exact hr'
theorem xor_back (a b : Nat) : a ^^^ (a ^^^ b) = b := XN.twice a b
theorem NTab.put {L : List Nat} {k : Nat} {has : Nat → Bool} {ofs : Nat → Nat} (h : NTab L k has ofs) {r m p : Nat} (hr : Sp XN (piv has ofs k) (r ^^^ m)) (hp : has p = false) (hpk : p < k) (ht : m.testBit p = true ∧ m < 2 ^ (p + 1)) :
    NTab (L ++ [r]) k (updT has p true) (updT ofs p m) ∧ ¬ Sp XN L r := by
  have hold : ∀ v ∈ piv has ofs k, v ∈ piv (updT has p true) (updT ofs p m) k := fun v hv => by
    obtain ⟨b, h1, h2, h3⟩ := mem_piv.1 hv
    have hbp : b ≠ p := fun e => by rw [e, hp] at h2; cases h2
    exact mem_piv.2 ⟨b, h1, by unfold updT; rw [if_neg hbp]; exact h2, by unfold updT; rw [if_neg hbp]; exact h3⟩
  have hnew : m ∈ piv (updT has p true) (updT ofs p m) k := mem_piv.2 ⟨p, hpk, by unfold updT; rw [if_pos rfl], by unfold updT; rw [if_pos rfl]⟩
  have hT : NTab (L ++ [r]) k (updT has p true) (updT ofs p m) := by
    refine ⟨fun q hq => ?_, fun q hq => ?_, fun x => Sp.same (fun v hv => ?_) (fun v hv => ?_) x⟩
    · unfold updT at hq
      by_cases c : q = p
      · omega
      · rw [if_neg c] at hq; exact h.lt q hq
    · unfold updT at hq ⊢
      by_cases c : q = p
      · rw [if_pos c, c]; exact ht
      · rw [if_neg c] at hq ⊢; exact h.top q hq
    · obtain ⟨b, h1, h2, h3⟩ := mem_piv.1 hv
      unfold updT at h2 h3
      by_cases c : b = p
      · rw [if_pos c] at h3
        subst h3
        have h1 : Sp XN (L ++ [r]) (r ^^^ m) := Sp.mono (fun _ h => List.mem_append_left _ h) ((h.span _).1 hr)
        have h2 := Sp.add (Sp.mem (G := XN) (L := L ++ [r]) (v := r) (by simp)) h1
        rwa [show XN.add r (r ^^^ m) = m from XN.twice r m] at h2
      · rw [if_neg c] at h2 h3
        exact Sp.mono (fun _ h => List.mem_append_left _ h) ((h.span v).1 (Sp.mem (mem_piv.2 ⟨b, h1, h2, h3⟩)))
    · rcases List.mem_append.1 hv with hv | hv
      · exact Sp.mono hold ((h.span v).2 (Sp.mem hv))
      · obtain rfl : v = r := by simpa using hv
        have h1 : Sp XN (piv (updT has p true) (updT ofs p m) k) (v ^^^ m) := Sp.mono hold hr
        have h2 := Sp.add h1 (Sp.mem hnew)
        rwa [show XN.add (v ^^^ m) m = v from by show v ^^^ m ^^^ m = v; rw [Nat.xor_assoc, Nat.xor_self, Nat.xor_zero]] at h2
  refine ⟨hT, fun hin => ?_⟩
  rcases h.dim.more r with ⟨h1, _⟩ | ⟨_, h2⟩
  · have h9 := h1.det hT.dim
    rw [cntB_upd hp, if_pos hpk] at h9
    omega
  · exact h2 hin
end Go.Proofs.YtakaeikobahaoaaDoor

namespace Go.Proofs.YtakaeikobahaoaaDoor
open Go.Shelf Go.RowKit Go.Maps
set_option linter.unusedVariables false
set_option maxRecDepth 100000

theorem nlast_none (w : World) :
    Calls Tryd.prog 30 #[.int .u64 0] w fun e w' => e = .returned (.int .i64 (-1)) ∧ w = w' := by
  have L := hide (len_ok 0 w (by omega))
  rw [show Lib.bitLen 0 = 0 from by decide +kernel] at L
  go_enter Tryd.func30, Tryd.ntmps30
  go_wp2_with fail
  refine (L.out).mono ?_
  rintro e w1 ⟨rfl, rfl⟩
  go_wp2
  go_ret
  exact ⟨rfl, rfl⟩
theorem nlast_ok (m p : Nat) (w : World) (h : m < 65536) (hp : Lib.bitLen m = p + 1) (h2 : p < 64) :
    Calls Tryd.prog 30 #[.int .u64 (m : Nat)] w fun e w' => e = .returned (.int .i64 (p : Nat)) ∧ w = w' := by
  have L := hide (len_ok m w h)
  rw [hp] at L
  clear hp
  go_enter Tryd.func30, Tryd.ntmps30
  go_wp2_with fail
  refine (L.out).mono ?_
  rintro e w1 ⟨rfl, rfl⟩
  go_wp2
  go_ret
  exact ⟨ret_int (by omega), rfl⟩

set_option maxHeartbeats 1000000 in
theorem nmarks_ok (l : List Nat) (k : Nat) (v : Value) (w : World) (hv : Lst w v l) (hk : k ≤ 16) (hl : ∀ p ∈ l, p < k) (hn : l.length ≤ 16) :
    Calls Tryd.prog 29 #[v] w fun e w' => e = .returned (.int .u64 (maskL l : Nat)) ∧ w = w' := by
  obtain ⟨g, cap, rfl, hc1, hc2, hc⟩ := hv
  have HC := hide hc
  have HL := hide hl
  unfold maxLen at hc2
  clear hc hl
  go_enter Tryd.func29, Tryd.ntmps29
  go_wp2
  go_loop [3, 5, 8] (fun m _ i => ∃ j : Nat, j ≤ l.length ∧ i = .int .i64 j ∧ m = .int .u64 (maskL (l.take j) : Nat)) (fun _ _ i => l.length - (intOf i).toNat)
  case atStart => exact ⟨0, Nat.zero_le _, rfl, rfl⟩
  case round =>
    obtain ⟨j, hj, rfl, rfl⟩ := hrel
    have hm := mask16 hk HL.out j
    by_cases hlt : j < l.length
    · have hcj := HC.out j hlt
      rw [Nat.zero_add] at hcj
      have HS : Hid (maskL (l.take (j + 1)) = maskL (l.take j) ||| 2 ^ l.getD j 0) := by rw [Hid, take_snoc hlt, maskL_snoc]
      have hp : l.getD j 0 < 16 := by
        have h9 : l.getD j 0 ∈ l := by simp [List.getD, hlt]
        have := HL.out _ h9; omega
      generalize l.getD j 0 = p at *
      generalize maskL (l.take j) = m at *
      have hpow : 2 ^ p ≤ 32768 := Nat.pow_le_pow_right (n := 2) (by decide) (show p ≤ 15 by omega)
      obtain ⟨q, hq⟩ : ∃ q : Nat, q = 2 ^ p := ⟨_, rfl⟩
      have hsh : IntKind.u64.wrap (2 ^ p) = (q : Int) := by
        rw [IntKind.wrap_u64, hq, Int.natCast_pow]
        have h9 : ((2 : Int) ^ p) ≤ 32768 := by exact_mod_cast hpow
        have h8 : (0 : Int) ≤ 2 ^ p := by exact_mod_cast Nat.zero_le (2 ^ p)
        exact Int.emod_eq_of_lt h8 (by omega)
      have hor : bits .or .u64 (m : Int) (q : Int) = ((m ||| q : Nat) : Int) := u64_or_nat _ _ (by omega) (by omega)
      rw [← hq] at HS
      have HQ := hide hq
      clear hq hpow
      go_wp2
      go_round
      case rel =>
        refine ⟨j + 1, by omega, by go_num, ?_⟩
        rw [HS.out]
      case measure => simp [intOf]; omega
    · obtain rfl : j = l.length := by omega
      rw [List.take_length] at *
      go_wp2
      go_ret
      exact ⟨rfl, rfl⟩

set_option maxHeartbeats 2000000 in
theorem nreduce_ok (k b m0 : Nat) (has : Nat → Bool) (ofs : Nat → Nat) (D : DataW Unit) (w : World) (hk : k ≤ 16) (hM : UMap w b k has ofs D)
    (hp : ∀ p, has p = true → p < k ∧ (ofs p).testBit p = true ∧ ofs p < 2 ^ (p + 1)) (hm : m0 < 2 ^ k) :
    Calls Tryd.prog 28 #[.map (some b), .int .u64 (m0 : Nat)] w fun e w' => ∃ m : Nat, e = .returned (.int .u64 (m : Nat)) ∧ Sp XN (piv has ofs k) (m0 ^^^ m) ∧ (m = 0 ∨ ∃ p, Lib.bitLen m = p + 1 ∧ has p = false ∧ p < k ∧ m.testBit p = true ∧ m < 2 ^ (p + 1)) ∧ m < 2 ^ k ∧ w = w' := by
  have HM := hide hM
  have HP := hide hp
  have h16 : (2 : Nat) ^ k ≤ 65536 := Nat.pow_le_pow_right (n := 2) (by decide) hk
  obtain ⟨K, hK⟩ : ∃ K : Nat, K = 2 ^ k := ⟨_, rfl⟩
  have HK := hide hK
  have HMl := hide hm
  rw [← hK] at h16
  clear hM hp hm hK
  go_enter Tryd.func28, Tryd.ntmps28
  go_wp2_with fail
  go_loopg [1, 5, 6] (K + 1) (fun gk t1 _ _ wr => ∃ m : Nat, m + 1 ≤ gk ∧ t1 = .int .u64 (m : Nat) ∧ Sp XN (piv has ofs k) (m0 ^^^ m) ∧ m < 2 ^ k ∧ w = wr)
  case atStart => exact ⟨m0, by have := HMl.out; rw [HK.out]; omega, rfl, by rw [Nat.xor_self]; exact Sp.zero XN _, HMl.out, rfl⟩
  case round =>
    obtain ⟨m, hmg, rfl, hsp, hml0, hw⟩ := hrel
    subst hw
    have HSP := hide hsp
    have HML := hide hml0
    have hml : m < 65536 := by have := hml0; rw [← HK.out] at this; omega
    clear hsp hml0 HMl
    by_cases hz : m = 0
    · subst hz
      have L := hide (nlast_none w)
      have HG : Hid (Maps.has D (.int .i64 (-1)) = false) := HM.out.neg
      go_wp2_with fail
      refine (L.out).mono ?_
      rintro e w1 ⟨rfl, rfl⟩
      go_wp2_with (first | (at_lookup; refine wpList_lookup_nou rfl _ _ rfl b k (-1) has ofs D rfl rfl HM.out (by omega) (by omega) HG.out ?_; intro z) | fail)
      go_ret
      exact ⟨0, rfl, HSP.out, Or.inl rfl, HML.out, rfl⟩
    · obtain ⟨p, hp1, hp2, hp3⟩ := top_of hz (by omega)
      have hpk := top_lt HML.out hp2
      have L := hide (nlast_ok m p w hml hp1 (by omega))
      cases hh : has p with
      | false =>
        have HG : Hid (Maps.has D (.int .i64 (p : Nat)) = false) := by rw [Hid, HM.out.holds p]; exact hh
        have HH := hide hh
        have HP1 := hide hp1
        have HP2 := hide hp2
        have HP3 := hide hp3
        clear hh hp1 hp2 hp3 hz
        go_wp2_with fail
        refine (L.out).mono ?_
        rintro e w1 ⟨rfl, rfl⟩
        go_wp2_with (first | (at_lookup; refine wpList_lookup_nou rfl _ _ rfl b k (p : Nat) has ofs D rfl rfl HM.out (by omega) (by omega) HG.out ?_; intro z) | fail)
        go_ret
        exact ⟨m, rfl, HSP.out, Or.inr ⟨p, HP1.out, HH.out, hpk, HP2.out, HP3.out⟩, HML.out, rfl⟩
      | true =>
        obtain ⟨_, hq1, hq2⟩ := HP.out p hh
        have hless := xor_less hp2 hp3 hq1 hq2
        have hsp : Hid (Sp XN (piv has ofs k) (m0 ^^^ (m ^^^ ofs p))) := by
          unfold Hid
          rw [← Nat.xor_assoc]
          exact Sp.add HSP.out (Sp.mem (mem_piv.2 ⟨p, hpk, hh, rfl⟩))
        have hol : ofs p < 65536 := Nat.lt_of_lt_of_le hq2 (Nat.pow_le_pow_right (n := 2) (i := p + 1) (j := 16) (by decide) (by omega))
        have hxr : bits .xor .u64 (m : Int) (ofs p : Int) = ((m ^^^ ofs p : Nat) : Int) := u64_xor_nat _ _ (by omega) (by omega)
        have HH := hide hh
        clear hh hp1 hp2 hp3 hz hq1 hq2
        generalize hy : m ^^^ ofs p = y at *
        generalize hoa : ofs p = oa at *
        have HL : Hid (has p = true ∧ ofs p = oa) := ⟨HH.out, hoa⟩
        clear hy hoa
        go_wp2_with fail
        refine (L.out).mono ?_
        rintro e w1 ⟨rfl, rfl⟩
        go_wp2_with (first | (at_lookup; refine wpList_lookup_u rfl _ _ rfl b k p has ofs D rfl rfl HM.out (by omega) HL.out.1 ?_; rw [HL.out.2]) | fail)
        go_roundg (gk - 1)
        case measure => omega
        case rel => exact ⟨y, by omega, rfl, hsp.out, Nat.lt_trans hless HML.out, rfl⟩

/-- What raise leaves. -/
def Raised (w : World) (L : List Nat) (k b m : Nat) (r : Bool) (w' : World) : Prop :=
  ∃ has ofs D, UMap w' b k has ofs D ∧ NTab (L ++ [m]) k has ofs ∧ (r = true ↔ ¬ Sp XN L m) ∧ w.grownBy w' (some b)
set_option maxHeartbeats 2000000 in
theorem raise_ok (L l : List Nat) (k b : Nat) (v : Value) (has : Nat → Bool) (ofs : Nat → Nat) (D : DataW Unit) (w : World) (hk : k ≤ 16) (hM : UMap w b k has ofs D) (hT : NTab L k has ofs) (hv : Lst w v l) (hl : ∀ p ∈ l, p < k) (hn : l.length ≤ 16) :
    Calls Tryd.prog 19 #[.map (some b), v] w fun e w' => ∃ r : Bool, e = .returned (.bool r) ∧ Raised w L k b (maskL l) r w' := by
  have MK := hide (nmarks_ok l k v w hv hk hl hn)
  have RD := hide (nreduce_ok k b (maskL l) has ofs D w hk hM (fun p hp => ⟨hT.lt p hp, hT.top p hp⟩) (maskL_lt hl))
  have HM := hide hM
  have HT := hide hT
  clear hM hT hv hl
  generalize maskL l = mk at *
  go_enter Tryd.func19, Tryd.ntmps19
  go_wp2_with fail
  refine (MK.out).mono ?_
  rintro e w1 ⟨rfl, rfl⟩
  go_wp2_with fail
  refine (RD.out).mono ?_
  rintro e w1 ⟨m, rfl, hsp, hor, hm, rfl⟩
  have HSP := hide hsp
  have h16 : m < 65536 := Nat.lt_of_lt_of_le hm (Nat.pow_le_pow_right (n := 2) (i := k) (j := 16) (by decide) hk)
  clear hsp hm MK RD
  rcases hor with rfl | ⟨p, hp1, hp2, hp3, hp4, hp5⟩
  · have HS : Hid (NTab (L ++ [mk]) k has ofs ∧ Sp XN L mk) := HT.out.skip (by have h9 := HSP.out; rw [Nat.xor_zero] at h9; exact h9)
    go_wp2
    go_ret
    exact ⟨false, rfl, has, ofs, D, HM.out, HS.out.1, ⟨(fun h => by cases h), fun h => absurd HS.out.2 h⟩, World.grownBy.refl _ _⟩
  · have hne : ((m : Int) == 0) = false := by
      rw [beq_eq_false_iff_ne]
      intro e
      have e2 : m = 0 := by omega
      rw [e2, Nat.zero_testBit] at hp4; cases hp4
    have hfew : Maps.size D ≤ k := by rw [HM.out.size]; exact cntB_le _ _
    have LS := hide (nlast_ok m p w h16 hp1 (by omega))
    have HPut := hide (HT.out.put HSP.out hp2 hp3 ⟨hp4, hp5⟩)
    have HP2 := hide hp2
    clear hp1 hp2 hp4 hp5
    go_wp2_with fail
    refine (LS.out).mono ?_
    rintro e w1 ⟨rfl, rfl⟩
    go_wp2_with (first | (at_mapUpdate; refine wpList_mapUpdate_own _ rfl _ _ _ 45 rfl 3 61 Tryd.lawInt Tryd.underlying45 uElem b (Maps.size D) D rfl HM.out.own (by unfold maxLen; omega) _ _ _ rfl rfl (keyS (r := (p : Nat)) (by omega) (by omega)) _ [] (uElem_mk (m : Nat)) ?_; intro w2 hown2 hgrow2) | fail)
    go_ret
    exact ⟨true, rfl, _, _, _, HM.out.put HP2.out hp3 hown2, HPut.out.1, ⟨fun _ => HPut.out.2, fun _ => rfl⟩, hgrow2⟩
end Go.Proofs.YtakaeikobahaoaaDoor
