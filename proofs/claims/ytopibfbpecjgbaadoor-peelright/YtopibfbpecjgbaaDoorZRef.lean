/-
  Lemmas for the law above, joined into one text (RXor, RDeg, RSet, PeelN, Fam, As, Told, ErrIs, SInts, InOwn, RDrop, RPeel, RSt, RKnows). No statement is proved here.
-/
import Derived.Test.YtopibfbpecjgbaaDoorZBlk
import Derived.Deep.AppendLies
import Derived.Laws.BytesArg
import Derived.Deep.OwnRows
import Derived.Test.YtopibfbpecjgbaaDoorZNum
import Derived.Laws.AppendOwnNone
import Derived.Deep.QuietTactic
import Derived.BigQuiet
import Derived.WalkKit
import Derived.LaidEql
import Derived.LaidHandle
import Derived.Stop.Asserts
import Derived.RowKitTokens
import Derived.Deep.RegionHeld3
import Derived.Deep.RegionLaw
import Derived.Deep.DrawnRows
namespace Go.Proofs.YtopibfbpecjgbaaDoor
open Go.RowKit
set_option linter.unusedVariables false
set_option maxRecDepth 100000

theorem bit_step (X Y k : Nat) : (X ^^^ Y) % 2 ^ (k + 1) = (X ^^^ Y) % 2 ^ k + if X / 2 ^ k % 2 = Y / 2 ^ k % 2 then 0 else 2 ^ k := by
  rw [Nat.mod_pow_succ, ← Nat.toNat_testBit, Nat.testBit_xor, Nat.testBit_eq_decide_div_mod_eq, Nat.testBit_eq_decide_div_mod_eq]
  have hx := Nat.mod_two_eq_zero_or_one (X / 2 ^ k)
  have hy := Nat.mod_two_eq_zero_or_one (Y / 2 ^ k)
  rcases hx with hx | hx <;> rcases hy with hy | hy <;> simp [hx, hy]

theorem own_bytes {w : World} {B : Nat} {v : Value} {n : Nat} {f : Nat → UInt8} (h : w.ownsRow B 5 1 v n ((List.range n).map fun k : Nat => .int .u8 ((f k).toNat : Int))) (hn : 0 < n) :
    ∃ g cap, v = .slice (some ⟨g, 0, none⟩) n cap ∧ BRow w g n f := by
  have h' := h
  rcases h.2 with ⟨_, h0⟩ | ⟨g, cap, cur, hv, _, hg, h1, h2, hcs, hcur⟩
  · omega
  · rw [hv] at h'
    refine ⟨g, cap, hv, fun k hk => ⟨?_, h'.frozenAt k⟩⟩
    rw [h'.cellAt k (by omega)]
    simp [hk]

set_option maxHeartbeats 2000000 in
theorem rxor_ok (a b : ByteArray) (w : World) (ha : a.size ≤ 120) (h : b.size = a.size) :
    Calls Tryd.prog 31 #[.string a, .string b] w fun e w' => e = .returned (.string (xorB a b)) ∧ Below w.heap.size w w' := by
  obtain ⟨i0, hi, hz0, hzs, hzb⟩ := info_parts Tryd.infoU8
  have Hi := hide hi
  have Hz0 := hide hz0
  have Hzs := hide hzs
  have Hzb := hide hzb
  have HB := hide h
  clear hi hz0 hzs hzb h
  go_enter Tryd.func31, Tryd.ntmps31
  go_wp2
  go_loopw [5, 6, 7, 8, 9, 10, 11] (fun v i x y n p k wr => ∃ (j : Nat) (ao : Option Addr) (cv : Nat), j ≤ a.size ∧ i = .int .i64 j ∧ v = .slice ao j cv ∧ wr.ownsRow w.heap.size 5 1 v j ((List.range j).map fun k : Nat => .int .u8 ((atB a k ^^^ atB b k).toNat : Int)) ∧ Below w.heap.size w wr) (fun _ i _ _ _ _ _ _ => a.size - (intOf i).toNat)
  case atStart => exact ⟨0, none, 0, Nat.zero_le _, rfl, rfl, World.ownsRow_nil _ _ _ _, Below.refl _ _⟩
  case round =>
    obtain ⟨j, ao, cv, hj, rfl, rfl, hown, hb⟩ := hrel
    by_cases hlt : j < a.size
    · have hlb : j < b.size := by rw [HB.out]; exact hlt
      have HOwn := hide hown
      clear hown
      have hX := (a[j]).toNat_lt
      have hY := (b[j]).toNat_lt
      have hxy : Hid ((((a[j]).toNat ^^^ (b[j]).toNat : Nat)) = (atB a j ^^^ atB b j).toNat) := by
        unfold Hid; rw [atB_eq a j hlt, atB_eq b j hlb, UInt8.toNat_xor]
      go_wp2
      generalize (a[j]).toNat = X at *
      generalize (b[j]).toNat = Y at *
      go_loop [7, 8, 9, 10, 11] (fun x y n p k => ∃ q : Nat, q ≤ 8 ∧ k = .int .i64 q ∧ x = .int .i64 (X / 2 ^ q : Nat) ∧ y = .int .i64 (Y / 2 ^ q : Nat) ∧ n = .int .i64 ((X ^^^ Y) % 2 ^ q : Nat) ∧ p = .int .i64 (2 ^ q : Nat)) (fun _ _ _ _ k => 8 - (intOf k).toNat)
      case atStart => exact ⟨0, by decide, rfl, by simp, by simp, by simp [Nat.mod_one], rfl⟩
      case round =>
        obtain ⟨q, hq, rfl, rfl, rfl, rfl, rfl⟩ := hrel
        by_cases hq8 : q < 8
        · have hs := bit_step X Y q
          have e1 : X / 2 ^ (q + 1) = X / 2 ^ q / 2 := by rw [Nat.pow_succ, Nat.div_div_eq_div_mul]
          have e2 : Y / 2 ^ (q + 1) = Y / 2 ^ q / 2 := by rw [Nat.pow_succ, Nat.div_div_eq_div_mul]
          have e3 : 2 ^ (q + 1) = 2 * 2 ^ q := by rw [Nat.pow_succ, Nat.mul_comm]
          have l1 : X / 2 ^ q ≤ 255 := Nat.le_trans (Nat.div_le_self _ _) (by omega)
          have l2 : Y / 2 ^ q ≤ 255 := Nat.le_trans (Nat.div_le_self _ _) (by omega)
          have l3 : 2 ^ q ≤ 128 := Nat.pow_le_pow_right (n := 2) (by decide) (show q ≤ 7 by omega)
          have l4 : (X ^^^ Y) % 2 ^ q ≤ 128 := by
            have := Nat.mod_lt (X ^^^ Y) (show 2 ^ q > 0 from Nat.pow_pos (by decide))
            omega
          have E1 := hide e1
          have E2 := hide e2
          have E3 := hide e3
          have HS := hide hs
          clear e1 e2 e3 hs
          generalize X / 2 ^ q = xq at *
          generalize Y / 2 ^ q = yq at *
          generalize (X ^^^ Y) % 2 ^ q = nq at *
          generalize 2 ^ q = pq at *
          by_cases hxq : xq % 2 = yq % 2
          · have hne : ((xq : Int) % 2 != (yq : Int) % 2) = false := by
              have : (xq : Int) % 2 = (yq : Int) % 2 := by omega
              rw [this]; simp
            have HXQ := hide hxq
            clear hxq
            go_wp2
            go_round
            case rel => exact ⟨q + 1, by omega, by go_num, by rw [E1.out]; simp, by rw [E2.out]; simp, by rw [HS.out, if_pos HXQ.out, Nat.add_zero], by rw [E3.out]; simp⟩
            case measure => simp [intOf]; omega
          · have hne : ((xq : Int) % 2 != (yq : Int) % 2) = true := by rw [bne_iff_ne]; omega
            have HXQ := hide hxq
            clear hxq
            go_wp2
            go_round
            case rel => exact ⟨q + 1, by omega, by go_num, by rw [E1.out]; simp, by rw [E2.out]; simp, by rw [HS.out, if_neg HXQ.out]; simp, by rw [E3.out]; simp⟩
            case measure => simp [intOf]; omega
        · obtain rfl : q = 8 := by omega
          have hn8 : (X ^^^ Y) % 2 ^ 8 = (atB a j ^^^ atB b j).toNat := by
            rw [Nat.mod_eq_of_lt (Nat.xor_lt_two_pow (by omega) (by omega)), hxy.out]
          rw [hn8]
          have hU := (atB a j ^^^ atB b j).toNat_lt
          clear hn8 hxy
          generalize hu : atB a j ^^^ atB b j = u at *
          have HU := hide hu
          clear hu
          have hbs := hb.size
          go_wp2_with (at_builtin; refine wpList_append_lies _ rfl _ _ 95 rfl w.heap.size 5 i0 (.int .u8 0) 1 1 Tryd.underlying95 Hi.out Hz0.out Hzs.out Hzb.out rfl (by decide) _ _ _ rfl (HOwn.out.alloc _) ⟨wr.heap.size, 0, none⟩ 1 1 [.int .u8 (u.toNat : Int)] rfl rfl (cell_one_new _ _ _) (fun x hx => by simp at hx; subst hx; rfl) (by decide) (by unfold maxLen; omega) (by omega) (by simp; omega) _ rfl ?_; intro g3 cap3 w3 hown3 hgrow3 hat3 hlt3)
          go_roundw
          case rel =>
            have R : j + 1 ≤ a.size ∧ Value.int .i64 ((j : Int) + 1) = .int .i64 ((j + 1 : Nat) : Int) ∧ Value.slice (some ⟨g3, 0, none⟩) (j + 1) cap3 = .slice (some ⟨g3, 0, none⟩) (j + 1) cap3 ∧ w3.ownsRow w.heap.size 5 1 (.slice (some ⟨g3, 0, none⟩) (j + 1) cap3) (j + 1) ((List.range (j + 1)).map fun k : Nat => .int .u8 ((atB a k ^^^ atB b k).toNat : Int)) ∧ Below w.heap.size w w3 :=
              ⟨by omega, by simp, rfl, by rw [List.range_succ, List.map_append, List.map_singleton, HU.out]; exact hown3, (hb.alloc hbs _).grown hgrow3 (by simp; omega) (fun q hq => (HOwn.out.lt q hq).1)⟩
            first
              | exact ⟨j + 1, some ⟨g3, 0, none⟩, cap3, R⟩
              | ((repeat apply Exists.intro); exact ⟨⟨j + 1, some ⟨g3, 0, none⟩, cap3, R⟩, rfl⟩)
          case measure => simp [intOf]; omega
    · obtain rfl : j = a.size := by omega
      by_cases h0 : a.size = 0
      · have hx0 : ∀ f : Nat → UInt8, bytesB a.size f = ⟨#[]⟩ := fun f => by rw [h0]; rfl
        have HX : Hid (xorB a b = ⟨#[]⟩) := hx0 _
        rcases hown.2 with ⟨hv, _⟩ | ⟨g, cap, _, hv, _⟩
        · injection hv with e1 e2 e3
          subst e1 e3
          have hbk := run_convert_bytes_nil (P := Tryd.prog) wr 95 5 Tryd.underlying95 Tryd.underlying5 a.size 0 9 Tryd.underlying9
          have hbk0 := run_convert_bytes_nil (P := Tryd.prog) wr 95 5 Tryd.underlying95 Tryd.underlying5 0 0 9 Tryd.underlying9
          clear hown e2 h0 hx0
          go_wp2
          go_ret
          exact ⟨by rw [HX.out]; rfl, hb⟩
        · injection hv with e1 e2 e3
          subst e1 e3
          have hbk := back_row (cap := cv) (show BRow wr g a.size (fun _ => 0) from fun i hi => by omega)
          rw [hx0] at hbk
          clear hown e2 h0 hx0
          go_wp2
          go_ret
          exact ⟨by rw [HX.out]; rfl, hb⟩
      · obtain ⟨g, cap, hv, hr⟩ := own_bytes hown (by omega)
        injection hv with e1 e2 e3
        subst e1 e3
        have hbk := back_row (cap := cv) hr
        have HX : Hid (bytesB a.size (fun k => atB a k ^^^ atB b k) = xorB a b) := rfl
        clear hown e2 hr h0
        go_wp2
        go_ret
        exact ⟨rfl, hb⟩

set_option maxHeartbeats 1000000 in
theorem rin_no (b o n cap : Nat) (v : Int) (f : Nat → Int) (w : World) (hn : n ≤ maxLen)
    (hcell : ∀ i, i < n → w.cell? ⟨b, o + i, none⟩ = some (.int .i64 (f i))) (hs : ∀ i, i < n → f i ≠ v) :
    Calls Tryd.prog 16 #[.slice (some ⟨b, o, none⟩) n cap, .int .i64 v] w fun e w' => e = .returned (.bool false) ∧ w = w' := by
  unfold maxLen at hn
  have HC := hide hcell
  have HS := hide hs
  clear hcell hs
  go_enter Tryd.func16, Tryd.ntmps16
  go_wp2
  go_loop [5] (fun i => ∃ j : Nat, j ≤ n ∧ i = .int .i64 j) (fun i => n - (intOf i).toNat)
  case atStart => exact ⟨0, Nat.zero_le _, rfl⟩
  case round =>
    obtain ⟨j, hj, rfl⟩ := hrel
    by_cases hlt : j < n
    · have hc := HC.out j hlt
      have hz := HS.out j hlt
      have hz' : (f j == v) = false := by rw [beq_eq_false_iff_ne]; exact hz
      clear hz
      go_wp2
      go_round
      case rel => exact ⟨j + 1, by omega, by go_num⟩
      case measure => simp [intOf]; omega
    · go_wp2
      go_ret
      exact ⟨rfl, rfl⟩
set_option maxHeartbeats 1000000 in
theorem rin_yes (b o n cap : Nat) (v : Int) (f : Nat → Int) (w : World) (hn : n ≤ maxLen)
    (hcell : ∀ i, i < n → w.cell? ⟨b, o + i, none⟩ = some (.int .i64 (f i))) (q : Nat) (hq : q < n) (hs : f q = v) :
    Calls Tryd.prog 16 #[.slice (some ⟨b, o, none⟩) n cap, .int .i64 v] w fun e w' => e = .returned (.bool true) ∧ w = w' := by
  unfold maxLen at hn
  have HC := hide hcell
  have HS := hide hs
  clear hcell hs
  go_enter Tryd.func16, Tryd.ntmps16
  go_wp2
  go_loop [5] (fun i => ∃ j : Nat, j ≤ q ∧ i = .int .i64 j) (fun i => n - (intOf i).toNat)
  case atStart => exact ⟨0, Nat.zero_le _, rfl⟩
  case round =>
    obtain ⟨j, hj, rfl⟩ := hrel
    have hlt : j < n := by omega
    have hc := HC.out j hlt
    by_cases hz : f j = v
    · have hz' : (f j == v) = true := by rw [beq_iff_eq]; exact hz
      clear hz
      go_wp2
      go_ret
      exact ⟨rfl, rfl⟩
    · have hz' : (f j == v) = false := by rw [beq_eq_false_iff_ne]; exact hz
      have hne : j ≠ q := fun e => hz (by rw [e]; exact HS.out)
      have hlt2 : j < q := by omega
      clear hz hne
      go_wp2
      go_round
      case rel => exact ⟨j + 1, by omega, by go_num⟩
      case measure => simp [intOf]; omega
/-- 'in' as the list says it, whichever. -/
theorem rin_any (b o n cap : Nat) (v : Int) (f : Nat → Int) (w : World) (hn : n ≤ maxLen)
    (hcell : ∀ i, i < n → w.cell? ⟨b, o + i, none⟩ = some (.int .i64 (f i))) :
    ∃ r : Bool, (r = true ↔ ∃ q, q < n ∧ f q = v) ∧ Calls Tryd.prog 16 #[.slice (some ⟨b, o, none⟩) n cap, .int .i64 v] w fun e w' => e = .returned (.bool r) ∧ w = w' := by
  by_cases h : ∃ q, q < n ∧ f q = v
  · obtain ⟨q, hq, he⟩ := h
    exact ⟨true, by simp; exact ⟨q, hq, he⟩, rin_yes b o n cap v f w hn hcell q hq he⟩
  · exact ⟨false, by simp; exact fun q hq he => h ⟨q, hq, he⟩, rin_no b o n cap v f w hn hcell (fun i hi he => h ⟨i, hi, he⟩)⟩
end Go.Proofs.YtopibfbpecjgbaaDoor

namespace Go.Proofs.YtopibfbpecjgbaaDoor
open Go.RowKit
set_option linter.unusedVariables false
set_option maxRecDepth 100000

theorem rdeg (k n : Nat) (w : World) (hk : 1 ≤ k) (hk2 : k ≤ 16) (hn : n < 1000) : Calls Tryd.prog 51 #[.int .i64 k, .int .i64 n] w fun e w' => e = .returned (.int .i64 (deg k n)) ∧ w = w' := by
  obtain ⟨⟨p0, p1⟩, _⟩ := prods (d := 1) hk2 hn (by decide) (by decide)
  by_cases h1 : (n : Int) * (k : Int) < 1000
  · have HD : Hid (deg k n = 1) := by
      unfold Hid
      rcases Nat.lt_or_ge 1 k with h | h
      · exact degF_stop h (under_one.2 h1)
      · obtain rfl : k = 1 := by omega
        rfl
    go_enter Tryd.func51, Tryd.ntmps51
    go_wp2
    go_ret
    exact ⟨ret_int (by rw [HD.out]; rfl), rfl⟩
  · have hk1 : 2 ≤ k := by
      rcases Nat.lt_or_ge 1 k with h | h
      · exact h
      · obtain rfl : k = 1 := by omega
        exact absurd (by omega) h1
    have HD : Hid (deg k n = degF k n (k - 2) 2) := degF_on (d := 1) (by omega) (fun h => h1 (under_one.1 h))
    go_enter Tryd.func51, Tryd.ntmps51
    go_wp2
    go_loop [5] (fun i => ∃ d : Nat, 2 ≤ d ∧ d ≤ k ∧ i = .int .i64 d ∧ deg k n = degF k n (k - d) d) (fun i => k - (intOf i).toNat)
    case atStart => exact ⟨2, Nat.le_refl _, hk1, rfl, HD.out⟩
    case round =>
      obtain ⟨d, hd1, hd2, rfl, he⟩ := hrel
      have HE := hide he
      clear he
      by_cases hlt : d < k
      · obtain ⟨⟨a0, a1⟩, ⟨b0, b1⟩, c0, c1⟩ := prods (d := d) hk2 hn (by omega) (by omega)
        by_cases hu : Under k n d
        · have HS := hide (degF_stop hlt hu)
          unfold Under at hu
          go_wp2
          go_ret
          exact ⟨ret_int (by rw [HE.out, HS.out]), rfl⟩
        · have HS := hide (degF_on hlt hu)
          unfold Under at hu
          go_wp2
          go_round
          case rel => exact ⟨d + 1, by omega, by omega, by go_num, by rw [HE.out, HS.out]⟩
          case measure => simp [intOf]; omega
      · obtain rfl : d = k := by omega
        go_wp2
        go_ret
        exact ⟨ret_int (by rw [HE.out, degF_end]), rfl⟩
end Go.Proofs.YtopibfbpecjgbaaDoor

namespace Go.Proofs.YtopibfbpecjgbaaDoor
open Go.RowKit Go.Maps
set_option linter.unusedVariables false
set_option maxRecDepth 100000

theorem rnxt (n : Int) (w : World) (h : Num n) : Calls Tryd.prog 50 #[.int .i64 n] w fun e w' => e = .returned (.int .i64 (nxt n)) ∧ w = w' := by
  obtain ⟨h1, h2⟩ := h
  go_enter Tryd.func50, Tryd.ntmps50
  go_wp2
  go_ret
  exact ⟨ret_int (by unfold nxt; first | rfl | omega), rfl⟩

set_option maxHeartbeats 1000000 in
theorem rput_nil (r : Nat) (w : World) (hr : r ≤ 1000) :
    Calls Tryd.prog 32 #[.slice none 0 0, .int .i64 r] w fun e w' => ∃ v, e = .returned v ∧ Lst w' v [r] ∧ Below w.heap.size w w' ∧ ∀ i, v.ownBlock = some i → w.heap.size ≤ i := by
  obtain ⟨i0, hi, hz0, hz1, hz2⟩ := info_parts Tryd.infoInt
  go_enter Tryd.func32, Tryd.ntmps32
  go_wp2
  go_loop [5, 6] (fun v i => v = .slice none 0 0 ∧ i = .int .i64 0) (fun _ _ => 0)
  case atStart => exact ⟨rfl, rfl⟩
  case round =>
    obtain ⟨rfl, rfl⟩ := hrel
    go_wp2_with (first
      | (at_builtin; refine wpList_append_own _ rfl _ _ 23 rfl w.heap.size 3 i0 (.int .i64 0) 1 8 Tryd.underlying23 hi hz0 hz1 hz2 rfl (by decide) _ _ _ rfl ((World.ownsRow_nil w w.heap.size 3 1).alloc _) ⟨w.heap.size, 0, none⟩ 1 1 [.int .i64 (r : Nat)] rfl rfl (cell_one_new _ _ _) (fun x hx => by simp at hx; subst hx; rfl) (by unfold maxLen; omega) (by omega) (by simp) ?_; intro v' w2 hown' hgrow2 hnil2)
      | (at_builtin; refine wpList_append_own_none rfl _ _ 23 rfl w.heap.size 3 i0 1 Tryd.underlying23 hi _ _ _ rfl hown' rfl ?_)
      | go_in)
    go_ret
    exact ⟨v', rfl, own_lst (l := [r]) hown' (by simp), ((Below.refl _ _).alloc (Nat.le_refl _) _).grown hgrow2 (by simp) (fun j hj => by cases hj), fun i hi => (hown'.lt i hi).1⟩

/-- Numbers as a slice holds them. -/
def toV (l : List Nat) : List Value := l.map fun r => .int .i64 (r : Nat)
theorem toV_one (l : List Nat) : ∀ u ∈ toV l, u.oneCell' = true := fun u hu => by
  obtain ⟨r, _, rfl⟩ := List.mem_map.1 hu
  rfl
theorem take_snoc (l : List Nat) (j : Nat) (h : j < l.length) : toV (l.take (j + 1)) = toV (l.take j) ++ [.int .i64 (l.getD j 0 : Nat)] := by
  unfold toV
  rw [List.take_add_one, List.map_append]
  simp [List.getD, h]

set_option maxHeartbeats 2000000 in
theorem rput_ok (g cap : Nat) (l A B : List Nat) (r : Nat) (w : World) (hl : l = A ++ B) (h0 : 0 < l.length) (h16 : l.length ≤ 16) (hc1 : l.length ≤ cap) (hc2 : cap ≤ maxLen) (hr : r ≤ 1000)
    (hcell : ∀ i, i < l.length → w.cell? ⟨g, 0 + i, none⟩ = some (.int .i64 (l.getD i 0 : Nat))) (hA : ∀ a ∈ A, a < r) (hB : ∀ b ∈ B, r < b) :
    Calls Tryd.prog 32 #[.slice (some ⟨g, 0, none⟩) l.length cap, .int .i64 r] w fun e w' => ∃ v, e = .returned v ∧ Lst w' v (A ++ r :: B) ∧ Below w.heap.size w w' ∧ ∀ i, v.ownBlock = some i → w.heap.size ≤ i := by
  unfold maxLen at hc2
  have HC := hide hcell
  have hlen : l.length = A.length + B.length := by rw [hl, List.length_append]
  have HLA : Hid (∀ j, j < A.length → l.getD j 0 < r ∧ A.getD j 0 = l.getD j 0) := fun j hj => by
    have e1 : A.getD j 0 = A[j] := by simp [List.getD, hj]
    have e2 : l.getD j 0 = A[j] := by rw [hl]; simp [List.getD, hj, List.getElem?_append_left]
    exact ⟨by rw [e2]; exact hA _ (List.getElem_mem hj), by rw [e1, e2]⟩
  have HLB : Hid (A.length < l.length → r < l.getD A.length 0) := fun hj => by
    have hb : 0 < B.length := by omega
    have e2 : l.getD A.length 0 = B[0] := by rw [hl]; simp [List.getD, hb]
    rw [e2]; exact hB _ (List.getElem_mem hb)
  have HD : Hid (l.drop A.length = B) := by unfold Hid; rw [hl]; simp
  obtain ⟨i0, hi, hz0, hz1, hz2⟩ := info_parts Tryd.infoInt
  have Hi := hide hi
  have Hz0 := hide hz0
  have Hz1 := hide hz1
  have Hz2 := hide hz2
  clear hcell hl hA hB hi hz0 hz1 hz2
  generalize hn : l.length = n at *
  have HN := hide hn
  have HLN := hide hlen
  have hAn : A.length ≤ n := by omega
  clear hn hlen
  go_enter Tryd.func32, Tryd.ntmps32
  go_wp2
  go_loopw [5, 6] (fun v i wr => ∃ j : Nat, j ≤ A.length ∧ i = .int .i64 j ∧ wr.ownsRow w.heap.size 3 1 v j (toV (A.take j)) ∧ Below w.heap.size w wr) (fun _ i _ => n - (intOf i).toNat)
  case atStart => exact ⟨0, Nat.zero_le _, rfl, World.ownsRow_nil _ _ _ _, Below.refl _ _⟩
  case round =>
    obtain ⟨j, hj, rfl, hA, hb⟩ := hrel
    have HA := hide hA
    have hbs := hb.size
    clear hA
    by_cases hlt : j < A.length
    · have hcj := cell_below hb (HC.out j (by omega))
      have hjr := (HLA.out j hlt).1
      have HE := hide (HLA.out j hlt).2
      have hjn : j < n := by omega
      have hjn' : (j : Int) < (n : Int) := by omega
      have HT := hide (take_snoc A j hlt)
      have hjr' : ((l.getD j 0 : Nat) : Int) < (r : Int) := by omega
      simp only [Nat.zero_add] at hcj
      generalize l.getD j 0 = x at *
      go_wp2_with (first | (at_builtin; refine wpList_append_own _ rfl _ _ 23 rfl w.heap.size 3 i0 (.int .i64 0) 1 8 Tryd.underlying23 Hi.out Hz0.out Hz1.out Hz2.out rfl (by decide) _ _ _ rfl (HA.out.alloc _) ⟨wr.heap.size, 0, none⟩ 1 1 [.int .i64 (x : Nat)] rfl rfl (cell_one_new _ _ _) (fun x hx => by simp at hx; subst hx; rfl) (by unfold maxLen; omega) (by omega) (by simp; omega) ?_; intro v2 w2 hown2 hgrow2 hnil2; have HA2 := hide hown2; clear hown2 hnil2) | go_in)
      go_roundw
      case rel =>
        have R : j + 1 ≤ A.length ∧ Value.int .i64 ((j : Int) + 1) = .int .i64 ((j + 1 : Nat) : Int) ∧ w2.ownsRow w.heap.size 3 1 v2 (j + 1) (toV (A.take (j + 1))) ∧ Below w.heap.size w w2 :=
          ⟨by omega, by simp, by rw [HT.out, HE.out]; exact HA2.out, (hb.alloc hbs _).grown hgrow2 (by simp; omega) (fun q hq => (HA.out.lt q hq).1)⟩
        first
          | exact ⟨j + 1, R⟩
          | ((repeat apply Exists.intro); exact ⟨⟨j + 1, R⟩, rfl⟩)
      case measure => simp [intOf]; omega
    · obtain rfl : j = A.length := by omega
      rw [List.take_length] at HA
      generalize hAl : A.length = j at *
      have HAL := hide hAl
      clear hAl
      by_cases hjn : j < n
      · have hcj := cell_below hb (HC.out j hjn)
        have hjr := HLB.out hjn
        have hjn' : (j : Int) < (n : Int) := by omega
        have hjc : ¬ cap = j := by omega
        have hjr' : ¬ ((l.getD j 0 : Nat) : Int) < (r : Int) := by omega
        simp only [Nat.zero_add] at hcj
        have HNW : Hid (∀ w1, Below w.heap.size w w1 → ∀ q u, (toV (l.drop j))[q]? = some u → w1.cell? ((⟨g, j, none⟩ : Addr).add q) = some u) := fun w1 hb1 q u hu => by
          unfold toV at hu
          rw [List.getElem?_map, List.getElem?_drop] at hu
          obtain ⟨y, hy, rfl⟩ := Option.map_eq_some_iff.1 hu
          have hjq : j + q < n := by have := (List.getElem?_eq_some_iff.1 hy).1; have := HN.out; omega
          have h := cell_below hb1 (HC.out (j + q) hjq)
          rw [Addr.add_lit]
          rw [Nat.zero_add] at h
          rw [h]; simp [List.getD, hy]
        have HLD : Hid ((toV (l.drop j)).length = (n - j) * 1) := by unfold Hid toV; rw [List.length_map, List.length_drop, HN.out, Nat.mul_one]
        generalize l.getD j 0 = x at *
        go_wp2_with (first | (at_builtin; refine wpList_append_own _ rfl _ _ 23 rfl w.heap.size 3 i0 (.int .i64 0) 1 8 Tryd.underlying23 Hi.out Hz0.out Hz1.out Hz2.out rfl (by decide) _ _ _ rfl (HA.out.alloc _) ⟨wr.heap.size, 0, none⟩ 1 1 [.int .i64 (r : Nat)] rfl rfl (cell_one_new _ _ _) (fun x hx => by simp at hx; subst hx; rfl) (by unfold maxLen; omega) (by omega) (by simp; omega) ?_; intro v2 w2 hown2 hgrow2 hnil2; have HA2 := hide hown2; have HG2 := hide ((hb.alloc hbs (.cells #[.int .i64 (r : Nat)] 3)).grown hgrow2 (by simp; omega) (fun q hq => (HA.out.lt q hq).1)); clear hown2 hnil2 hgrow2) | (at_builtin; refine wpList_append_own _ rfl _ _ 23 rfl w.heap.size 3 i0 (.int .i64 0) 1 8 Tryd.underlying23 Hi.out Hz0.out Hz1.out Hz2.out rfl (by decide) _ _ _ rfl HA2.out ⟨g, j, none⟩ (n - j) (cap - j) (toV (l.drop j)) rfl HLD.out (HNW.out _ HG2.out) (toV_one _) (by unfold maxLen; omega) (by omega) HG2.out.size ?_; intro v3 w3 hown3 hgrow3 hnil3) | go_in)
        go_ret
        refine ⟨v3, rfl, own_lst (B := w.heap.size) ?_ (by rw [List.length_append, List.length_cons]; omega), HG2.out.grown hgrow3 HG2.out.size (fun q hq => (HA2.out.lt q hq).1), fun i hi => (hown3.lt i hi).1⟩
        have e1 : (A ++ r :: B).length = j + 1 + (n - j) := by have := HLN.out; have := HAL.out; simp; omega
        have e2 : ((A ++ r :: B).map fun r : Nat => Value.int .i64 (r : Nat)) = toV A ++ [.int .i64 (r : Nat)] ++ toV B := by simp [toV]
        rw [e1, e2, ← HD.out]
        exact hown3
      · obtain rfl : j = n := by omega
        have hB0 : B = [] := List.eq_nil_of_length_eq_zero (by have := HLN.out; omega)
        have HB0 := hide hB0
        clear hB0
        have hjj : ¬ (j : Int) < (j : Int) := by omega
        by_cases hjc : cap = j
        · subst hjc
          go_wp2_with (first | (at_builtin; refine wpList_append_own _ rfl _ _ 23 rfl w.heap.size 3 i0 (.int .i64 0) 1 8 Tryd.underlying23 Hi.out Hz0.out Hz1.out Hz2.out rfl (by decide) _ _ _ rfl (HA.out.alloc _) ⟨wr.heap.size, 0, none⟩ 1 1 [.int .i64 (r : Nat)] rfl rfl (cell_one_new _ _ _) (fun x hx => by simp at hx; subst hx; rfl) (by unfold maxLen; omega) (by omega) (by simp; omega) ?_; intro v2 w2 hown2 hgrow2 hnil2; have HA2 := hide hown2; have HG2 := hide ((hb.alloc hbs (.cells #[.int .i64 (r : Nat)] 3)).grown hgrow2 (by simp; omega) (fun q hq => (HA.out.lt q hq).1)); clear hown2 hnil2 hgrow2) | (at_builtin; refine wpList_append_own _ rfl _ _ 23 rfl w.heap.size 3 i0 (.int .i64 0) 1 8 Tryd.underlying23 Hi.out Hz0.out Hz1.out Hz2.out rfl (by decide) _ _ _ rfl HA2.out ⟨g, 0, none⟩ 0 0 [] rfl rfl (fun q u hu => by simp at hu) (fun x hx => by cases hx) (by unfold maxLen; omega) (by omega) HG2.out.size ?_; intro v3 w3 hown3 hgrow3 hnil3) | go_in)
          go_ret
          refine ⟨v3, rfl, own_lst (B := w.heap.size) ?_ (by rw [List.length_append, List.length_cons]; omega), HG2.out.grown hgrow3 HG2.out.size (fun q hq => (HA2.out.lt q hq).1), fun i hi => (hown3.lt i hi).1⟩
          have e1 : (A ++ r :: B).length = cap + 1 + 0 := by have := HLN.out; have := HAL.out; simp; omega
          have e2 : ((A ++ r :: B).map fun r : Nat => Value.int .i64 (r : Nat)) = toV A ++ [.int .i64 (r : Nat)] ++ toV B := by simp [toV]
          rw [e1, e2, HB0.out]
          exact hown3
        · go_wp2_with (first | (at_builtin; refine wpList_append_own _ rfl _ _ 23 rfl w.heap.size 3 i0 (.int .i64 0) 1 8 Tryd.underlying23 Hi.out Hz0.out Hz1.out Hz2.out rfl (by decide) _ _ _ rfl (HA.out.alloc _) ⟨wr.heap.size, 0, none⟩ 1 1 [.int .i64 (r : Nat)] rfl rfl (cell_one_new _ _ _) (fun x hx => by simp at hx; subst hx; rfl) (by unfold maxLen; omega) (by omega) (by simp; omega) ?_; intro v2 w2 hown2 hgrow2 hnil2; have HA2 := hide hown2; have HG2 := hide ((hb.alloc hbs (.cells #[.int .i64 (r : Nat)] 3)).grown hgrow2 (by simp; omega) (fun q hq => (HA.out.lt q hq).1)); clear hown2 hnil2 hgrow2) | (at_builtin; refine wpList_append_own _ rfl _ _ 23 rfl w.heap.size 3 i0 (.int .i64 0) 1 8 Tryd.underlying23 Hi.out Hz0.out Hz1.out Hz2.out rfl (by decide) _ _ _ rfl HA2.out ⟨g, j, none⟩ 0 (cap - j) [] rfl rfl (fun q u hu => by simp at hu) (fun x hx => by cases hx) (by unfold maxLen; omega) (by omega) HG2.out.size ?_; intro v3 w3 hown3 hgrow3 hnil3) | go_in)
          go_ret
          refine ⟨v3, rfl, own_lst (B := w.heap.size) ?_ (by rw [List.length_append, List.length_cons]; omega), HG2.out.grown hgrow3 HG2.out.size (fun q hq => (HA2.out.lt q hq).1), fun i hi => (hown3.lt i hi).1⟩
          have e1 : (A ++ r :: B).length = j + 1 + 0 := by have := HLN.out; have := HAL.out; simp; omega
          have e2 : ((A ++ r :: B).map fun r : Nat => Value.int .i64 (r : Nat)) = toV A ++ [.int .i64 (r : Nat)] ++ toV B := by simp [toV]
          rw [e1, e2, HB0.out]
          exact hown3

theorem rin_nil (v : Int) (w : World) : Calls Tryd.prog 16 #[.slice none 0 0, .int .i64 v] w fun e w' => e = .returned (.bool false) ∧ w = w' := by
  go_enter Tryd.func16, Tryd.ntmps16
  go_wp2
  go_loop [5] (fun i => i = .int .i64 0) (fun _ => 0)
  case atStart => rfl
  case round =>
    obtain rfl := hrel
    go_wp2
    go_ret
    exact ⟨rfl, rfl⟩

set_option maxHeartbeats 2000000 in
theorem rset_ok (k seed : Nat) (w : World) (hk : 1 ≤ k) (hk2 : k ≤ 16) (h1 : 1 ≤ seed) (h2 : seed ≤ 10000) :
    Calls Tryd.prog 30 #[.int .i64 k, .int .i64 seed] w fun e w' => ∃ v, e = .returned v ∧ Lst w' v (setL k seed) ∧ Below w.heap.size w w' := by
  by_cases hle : seed ≤ k
  · have HL := hide (setL_one hle)
    have hle' : (seed : Int) ≤ (k : Int) := by omega
    clear hle
    go_enter Tryd.func30, Tryd.ntmps30
    go_wp2
    go_ret
    refine ⟨_, rfl, ?_, (Below.refl _ _).alloc (Nat.le_refl _) _⟩
    rw [HL.out]
    refine ⟨_, _, rfl, Nat.le_refl _, by unfold maxLen; simp, fun i hi => ?_⟩
    obtain rfl : i = 0 := by simpa using hi
    have h9 := cell_one_new w (.int .i64 ((seed : Int) - 1)) 3 0 _ rfl
    have e9 : (((seed - 1 : Nat)) : Int) = (seed : Int) - 1 := by omega
    simp only [Addr.add, List.getD_cons_zero, e9] at h9 ⊢
    exact h9
  · have hle' : ¬ (seed : Int) ≤ (k : Int) := by omega
    have hx : Num (seed : Int) := ⟨by omega, by omega⟩
    have N := hide (rnxt seed w hx)
    obtain ⟨n, hn, hn2⟩ : ∃ n : Nat, nxt seed % 1000 = (n : Int) ∧ n < 1000 := ⟨(nxt seed % 1000).toNat, by omega, by omega⟩
    have HD : Hid (setD k seed = deg k n) := by unfold Hid setD; rw [hn, Int.toNat_natCast]
    have D : Hid (Calls Tryd.prog 51 #[.int .i64 k, .int .i64 (nxt seed % 1000)] w fun e w' => e = .returned (.int .i64 (deg k n)) ∧ w = w') := by
      rw [hn]; exact rdeg k n w hk hk2 hn2
    have hd1 := deg_le k n hk
    have hd0 := deg_ge k n
    have HS : Hid (∀ i, Stop k (nxt seed) (setD k seed) i → setL k seed = setAt k (nxt seed) i) := fun i hs => setL_stop hle hs
    have HX := hide hx.nxt
    obtain ⟨T, hT⟩ := setAt_all (k := k) hx.nxt hk (by omega)
    have HT := hide hT
    obtain ⟨hy1, hy2⟩ := hx.nxt
    clear hn hx hle hT
    generalize nxt (seed : Int) = y at *
    generalize deg k n = d at *
    go_enter Tryd.func30, Tryd.ntmps30
    go_wp2_with fail
    refine (N.out).mono ?_
    rintro e w1 ⟨rfl, rfl⟩
    go_wp2_with fail
    refine (D.out).mono ?_
    rintro e w1 ⟨rfl, rfl⟩
    clear N D
    go_wp2_with fail
    go_loopg [5, 7] T (fun g x v wr => ∃ (i : Nat) (a : Option Addr) (cap : Nat), x = .int .i64 (rowV y i) ∧ v = .slice a (setAt k y i).length cap ∧ i + g = T ∧ (∀ j, j < i → (setAt k y j).length < d) ∧ ((setAt k y i = [] ∧ v = .slice none 0 0) ∨ (0 < (setAt k y i).length ∧ Lst wr v (setAt k y i))) ∧ Below w.heap.size w wr)
    case atStart =>
      exact ⟨0, none, 0, rfl, by rw [setAt_zero]; rfl, by omega, fun j h => absurd h (Nat.not_lt_zero _), Or.inl ⟨setAt_zero k y, rfl⟩, Below.refl _ _⟩
    case round =>
      obtain ⟨i, a, cap, rfl, rfl, hig, hbef, hL, hb⟩ := hrel
      have HB := hide hbef
      have HL := hide hL
      have HBw := hide hb
      have hle := setAt_len k y i
      clear hbef hL hb
      obtain ⟨s, hs⟩ : ∃ s, s = (setAt k y i).length := ⟨_, rfl⟩
      have HSz := hide hs
      by_cases c : s < d
      · have hiT : i < T := by
          rcases Nat.lt_or_ge i T with h | h
          · exact h
          · have := HT.out i h; omega
        have N := hide (rnxt (rowV y i) wr (HX.out.rowV i))
        have hzz := HX.out.rowV (i + 1)
        obtain ⟨hz1, hz2⟩ := hzz
        have HDr := hide (draw_cast HX.out hk i)
        have hR := draw_lt (x := y) hk i
        have HBn : Hid (∀ j, j < i + 1 → (setAt k y j).length < d) := fun j hj => by
          by_cases c2 : j = i
          · subst c2; omega
          · exact HB.out j (by omega)
        rw [← hs] at hle ⊢
        clear hs
        have ez : nxt (rowV y i) = rowV y (i + 1) := rfl
        rw [ez] at N
        clear ez
        by_cases hmem : draw k y i ∈ setAt k y i
        · have HO := hide (setAt_old HX.out hk hmem)
          rcases HL.out with ⟨he, _⟩ | ⟨h0, g, cap', hv, hc1, hc2, hc⟩
          · rw [he] at hmem; cases hmem
          · injection hv with e1 e2 e3
            subst e1 e3
            have I : Hid (Calls Tryd.prog 16 #[.slice (some ⟨g, 0, none⟩) s cap, .int .i64 (rowV y (i + 1) % (k : Int))] wr fun e w' => e = .returned (.bool true) ∧ wr = w') := by
              obtain ⟨q, hq, he⟩ := List.getElem_of_mem hmem
              rw [HDr.out, HSz.out]
              exact rin_yes g 0 _ cap _ _ wr (by omega) hc q hq (by simp [List.getD, hq, he])
            have HLo := hide (show Lst wr (.slice (some ⟨g, 0, none⟩) s cap) (setAt k y i) from ⟨g, cap, by rw [HSz.out], hc1, hc2, hc⟩)
            unfold maxLen at hc2
            have hsc : s ≤ cap := by have := HSz.out; omega
            have H0 := hide h0
            clear hmem HL hc1 e2 HDr hc h0
            generalize rowV y i = x at *
            generalize hzq : rowV y (i + 1) = z at *
            have HZ := hide hzq
            clear hzq
            go_wp2_with fail
            refine (N.out).mono ?_
            rintro e w2 ⟨rfl, rfl⟩
            go_wp2_with fail
            refine (I.out).mono ?_
            rintro e w2 ⟨rfl, rfl⟩
            go_wp2
            go_roundg (gk - 1)
            case measure => omega
            case rel =>
              refine ⟨i + 1, some ⟨g, 0, none⟩, cap, by rw [HZ.out], by rw [HO.out, HSz.out], by omega, HBn.out, Or.inr ⟨?_, ?_⟩, HBw.out⟩
              · rw [HO.out]; exact H0.out
              · rw [HO.out]; exact HLo.out
        · obtain ⟨A, B, hAB, hAB2, hA, hB⟩ := setAt_new HX.out hk hmem
          have HN := hide hAB2
          have PI : Hid (∃ a' cap', (.slice a s cap : Value) = .slice a' s cap' ∧ Calls Tryd.prog 16 #[.slice a s cap, .int .i64 (rowV y (i + 1) % (k : Int))] wr (fun e w' => e = .returned (.bool false) ∧ wr = w')
              ∧ Calls Tryd.prog 32 #[.slice a s cap, .int .i64 (rowV y (i + 1) % (k : Int))] wr (fun e w' => ∃ v, e = .returned v ∧ Lst w' v (A ++ draw k y i :: B) ∧ Below wr.heap.size wr w') ∧ cap ≤ 9223372036854775807 ∧ s ≤ cap) := by
            refine ⟨a, cap, rfl, ?_⟩
            rw [HDr.out]
            rcases HL.out with ⟨he, hv⟩ | ⟨h0, g, cap', hv, hc1, hc2, hc⟩
            · have hs0 : s = 0 := by rw [HSz.out, he]; rfl
              rw [he] at hv
              injection hv with e1 e2 e3
              subst e1 e3 hs0
              have hAB0 : A = [] ∧ B = [] := List.append_eq_nil_iff.1 (by rw [← hAB]; exact he)
              obtain ⟨rfl, rfl⟩ := hAB0
              exact ⟨rin_nil _ wr, (rput_nil _ wr (by omega)).mono fun e w' ⟨v, he, hl, hb, _⟩ => ⟨v, he, hl, hb⟩, by omega, by omega⟩
            · injection hv with e1 e2 e3
              subst e1 e3
              have hsz9 := HSz.out
              rw [HSz.out]
              refine ⟨rin_no g 0 _ cap _ _ wr (by unfold maxLen at *; omega) hc (fun q hq he => hmem ?_), (rput_ok g cap _ A B _ wr hAB h0 (by omega) hc1 hc2 (by omega) hc hA hB).mono fun e w' ⟨v, he, hl, hb, _⟩ => ⟨v, he, hl, hb⟩, by unfold maxLen at hc2; omega, hc1⟩
              have e9 : (setAt k y i).getD q 0 = draw k y i := by omega
              rw [← e9]
              have e10 : (setAt k y i).getD q 0 = (setAt k y i)[q] := by simp [List.getD, hq]
              rw [e10]
              exact List.getElem_mem hq
          obtain ⟨_, _, _, hI, hP, hcap, hsc⟩ := PI.out
          have I := hide hI
          have Pu := hide hP
          clear PI hI hP hmem HL HDr hA hB hAB hAB2
          generalize rowV y i = x at *
          generalize hzq : rowV y (i + 1) = z at *
          have HZ := hide hzq
          clear hzq
          go_wp2_with fail
          refine (N.out).mono ?_
          rintro e w2 ⟨rfl, rfl⟩
          go_wp2_with fail
          refine (I.out).mono ?_
          rintro e w2 ⟨rfl, rfl⟩
          go_wp2_with fail
          refine (Pu.out).mono ?_
          rintro e w2 ⟨v2, rfl, hl2, hb2⟩
          rw [← HN.out] at hl2
          obtain ⟨g2, cap2, rfl, hd1', hd2', hd3'⟩ := id hl2
          have HL2 := hide hl2
          have HB2 := hide (below_two HBw.out hb2)
          clear hl2 hb2 hd1' hd2' hd3'
          go_wp2
          go_roundg (gk - 1)
          case measure => omega
          case rel => exact ⟨i + 1, _, _, by rw [HZ.out], rfl, by omega, HBn.out, Or.inr ⟨by rw [HN.out, List.length_append, List.length_cons]; omega, HL2.out⟩, HB2.out⟩
      · have hst := hide (stop_of HX.out hk (d := d) (i := i) (by omega) HB.out)
        have hLs : Hid (Lst wr (.slice a s cap) (setAt k y i) ∧ s ≤ cap ∧ cap ≤ 9223372036854775807) := by
          rcases HL.out with ⟨he, hv⟩ | ⟨h0, hl⟩
          · have := hst.out.1; rw [he] at this; simp at this; omega
          · obtain ⟨g, cap', hv, hc1, hc2, hc⟩ := id hl
            injection hv with e1 e2 e3
            subst e3
            rw [HSz.out]
            exact ⟨hl, hc1, by unfold maxLen at hc2; omega⟩
        have hsc := hLs.out.2.1
        have hcc := hLs.out.2.2
        rw [← hs] at hle ⊢
        clear hs
        generalize rowV y i = x at *
        go_wp2
        go_ret
        exact ⟨_, rfl, by rw [HS.out i (HD.out ▸ hst.out)]; exact hLs.out.1, HBw.out⟩
end Go.Proofs.YtopibfbpecjgbaaDoor

namespace Go.Proofs.YtopibfbpecjgbaaDoor
set_option linter.unusedVariables false
set_option maxRecDepth 100000

/-- A drop: its seed, its data. -/
abbrev Drp := Nat × ByteArray
/-- What a peeler knows, and what waits. -/
structure PS where
  known : Nat → Bool
  B : Nat → ByteArray
  L : List Drp
/-- Which of a drop's blocks are not known. -/
def lft (S : Nat → List Nat) (kn : Nat → Bool) (d : Drp) : List Nat := (S d.1).filter fun r => !kn r
theorem mem_lft {S : Nat → List Nat} {kn : Nat → Bool} {d : Drp} {r : Nat} : r ∈ lft S kn d ↔ r ∈ S d.1 ∧ kn r = false := by simp [lft]
/-- Those that wait, without those of which none is left. -/
def sift (S : Nat → List Nat) (kn : Nat → Bool) (L : List Drp) : List Drp := L.filter fun d => (lft S kn d).length != 0
/-- The first of which just one is left. -/
def oneOf (S : Nat → List Nat) (p : PS) : Option Drp := (sift S p.known p.L).find? fun d => (lft S p.known d).length == 1
def upd {α : Type} (f : Nat → α) (x : Nat) (v : α) : Nat → α := fun r => if r = x then v else f r
/-- Its data with those that are known taken out. -/
def outB (B : Nat → ByteArray) (x : Nat) (s : List Nat) (b : ByteArray) : ByteArray := s.foldl (fun b r => if r = x then b else xorB b (B r)) b
def after (S : Nat → List Nat) (p : PS) (d : Drp) (x : Nat) : PS := ⟨upd p.known x true, upd p.B x (outB p.B x (S d.1) d.2), sift S p.known p.L⟩
/-- Again and again, till there is none such. -/
inductive Peels (S : Nat → List Nat) : PS → PS → Prop
  | done {p : PS} : oneOf S p = none → Peels S p ⟨p.known, p.B, sift S p.known p.L⟩
  | step {p p' : PS} {d : Drp} {x : Nat} : oneOf S p = some d → lft S p.known d = [x] → Peels S (after S p d x) p' → Peels S p p'
theorem Peels.det {S : Nat → List Nat} {p a b : PS} (h : Peels S p a) (k : Peels S p b) : a = b := by
  induction h with
  | done h1 =>
    cases k with
    | done _ => rfl
    | step h2 _ _ => rw [h1] at h2; cases h2
  | step h1 h2 h3 ih =>
    cases k with
    | done h4 => rw [h1] at h4; cases h4
    | step h4 h5 h6 =>
      rw [h1] at h4
      cases h4
      rw [h2] at h5
      cases h5
      exact ih h6
/-- No more is left where more is known. -/
theorem lft_sub {S : Nat → List Nat} {kn kn' : Nat → Bool} (h : ∀ r, kn r = true → kn' r = true) {d : Drp} {r : Nat} (hr : r ∈ lft S kn' d) : r ∈ lft S kn d := by
  rw [mem_lft] at hr ⊢
  refine ⟨hr.1, ?_⟩
  cases e : kn r with
  | false => rfl
  | true => rw [h r e] at hr; exact absurd hr.2 (by simp)
theorem lft_none {S : Nat → List Nat} {kn kn' : Nat → Bool} (h : ∀ r, kn r = true → kn' r = true) {d : Drp} (h0 : lft S kn d = []) : lft S kn' d = [] :=
  List.eq_nil_iff_forall_not_mem.2 fun r hr => by
    have := lft_sub h hr
    rw [h0] at this; cases this
theorem mem_sift {S : Nat → List Nat} {kn : Nat → Bool} {L : List Drp} {d : Drp} : d ∈ sift S kn L ↔ d ∈ L ∧ lft S kn d ≠ [] := by
  unfold sift
  rw [List.mem_filter]
  cases lft S kn d <;> simp
theorem upd_grows {kn : Nat → Bool} (x : Nat) : ∀ r, kn r = true → upd kn x true r = true := fun r h => by unfold upd; split <;> simp [h]
theorem Peels.grows {S : Nat → List Nat} {p a : PS} (h : Peels S p a) : ∀ r, p.known r = true → a.known r = true := by
  induction h with
  | done _ => exact fun r h => h
  | step _ _ _ ih => exact fun r h => ih r (upd_grows _ r h)
/-- Not one of them just one is left of. -/
def Shut (S : Nat → List Nat) (kn : Nat → Bool) (T : List Drp) : Prop := ∀ d ∈ T, (lft S kn d).length ≠ 1
theorem oneOf_mem {S : Nat → List Nat} {p : PS} {d : Drp} (h : oneOf S p = some d) : d ∈ p.L := (mem_sift.1 (List.mem_of_find?_eq_some h)).1
/-- What is known by peeling lies in whatever is shut. -/
theorem Peels.least {S : Nat → List Nat} {p a : PS} (h : Peels S p a) (K : Nat → Bool) (hs : (∀ s, (S s).Nodup)) (hK : Shut S K p.L) (hp : ∀ r, p.known r = true → K r = true) : ∀ r, a.known r = true → K r = true := by
  induction h with
  | done _ => exact hp
  | @step p p' d x h1 h2 h3 ih =>
    refine ih (fun e he => hK e (mem_sift.1 he).1) fun r hr => ?_
    have hr' : (if r = x then true else p.known r) = true := hr
    by_cases c : r = x
    · subst c
      have hd := oneOf_mem h1
      cases e : K r with
      | true => rfl
      | false =>
        refine absurd ?_ (hK d hd)
        have hx : r ∈ lft S p.known d := by rw [h2]; simp
        have hall : ∀ q ∈ lft S K d, q = r := fun q hq => by
          have := lft_sub hp hq
          rw [h2] at this
          exact List.mem_singleton.1 this
        have hin : r ∈ lft S K d := mem_lft.2 ⟨(mem_lft.1 hx).1, e⟩
        have hnd : (lft S K d).Nodup := (hs d.1).filter _
        revert hall hin hnd
        generalize lft S K d = l
        intro hall hin hnd
        match l, hall, hin, hnd with
        | [], _, hin, _ => cases hin
        | [q], _, _, _ => rfl
        | q :: q2 :: t, hall, _, hnd =>
          have e1 := hall q (by simp)
          have e2 := hall q2 (by simp)
          rw [e1, e2] at hnd
          simp at hnd
    · rw [if_neg c] at hr'
      exact hp r hr'
theorem Peels.shut {S : Nat → List Nat} {p a : PS} (h : Peels S p a) : Shut S a.known p.L := by
  induction h with
  | @done p h1 =>
    intro d hd h2
    have hm : d ∈ sift S p.known p.L := mem_sift.2 ⟨hd, fun e => by rw [e] at h2; cases h2⟩
    have := List.find?_eq_none.1 h1 d hm
    simp [h2] at this
  | @step p p' d x h1 h2 h3 ih =>
    intro e he h4
    by_cases c : lft S p.known e = []
    · have := lft_none (kn' := p'.known) (fun r hr => h3.grows r (upd_grows x r hr)) c
      rw [this] at h4; cases h4
    · exact ih e (mem_sift.2 ⟨he, c⟩) h4
theorem sift_sift {S : Nat → List Nat} {kn kn' : Nat → Bool} (h : ∀ r, kn r = true → kn' r = true) (L : List Drp) : sift S kn' (sift S kn L) = sift S kn' L := by
  unfold sift
  rw [List.filter_filter]
  refine List.filter_congr fun d _ => ?_
  cases e : lft S kn d with
  | nil => rw [lft_none h e]; rfl
  | cons => simp
theorem Peels.waits {S : Nat → List Nat} {p a : PS} (h : Peels S p a) : a.L = sift S a.known p.L := by
  induction h with
  | done _ => rfl
  | @step p p' d x h1 h2 h3 ih => rw [ih]; exact sift_sift (fun r hr => h3.grows r (upd_grows x r hr)) p.L

/-- A peeler that has taken just the drops T. -/
structure Took (S : Nat → List Nat) (p : PS) (T : List Drp) : Prop where
  waits : p.L = sift S p.known T
  shut : Shut S p.known T
  least : ∀ K, Shut S K T → ∀ r, p.known r = true → K r = true
theorem took_none (S : Nat → List Nat) (B : Nat → ByteArray) : Took S ⟨fun _ => false, B, []⟩ [] := ⟨rfl, fun d h => absurd h (by simp), fun K _ r h => absurd h (by simp)⟩
theorem Took.take {S : Nat → List Nat} (hs : ∀ s, (S s).Nodup) {p a : PS} {T : List Drp} (h : Took S p T) (d : Drp) (k : Peels S ⟨p.known, p.B, p.L ++ [d]⟩ a) : Took S a (T ++ [d]) := by
  have hg := k.grows
  refine ⟨?_, fun e he h1 => ?_, fun K hK => ?_⟩
  · rw [k.waits]
    show sift S a.known (p.L ++ [d]) = _
    rw [h.waits]
    unfold sift
    rw [List.filter_append, List.filter_append]
    congr 1
    exact sift_sift hg T
  · rcases List.mem_append.1 he with he | he
    · by_cases c : lft S p.known e = []
      · rw [lft_none hg c] at h1; cases h1
      · exact k.shut e (List.mem_append_left _ (by rw [h.waits]; exact mem_sift.2 ⟨he, c⟩)) h1
    · exact k.shut e (List.mem_append_right _ he) h1
  · refine k.least K hs (fun e he => ?_) (h.least K fun e he => hK e (List.mem_append_left _ he))
    rcases List.mem_append.1 he with he | he
    · rw [h.waits] at he
      exact hK e (List.mem_append_left _ (mem_sift.1 he).1)
    · exact hK e (List.mem_append_right _ he)
/-- In whatever order it is the same. -/
theorem Took.same {S : Nat → List Nat} {p q : PS} {T T' : List Drp} (h : Took S p T) (k : Took S q T') (hm : ∀ d, d ∈ T ↔ d ∈ T') : p.known = q.known := by
  funext r
  have h1 := h.least q.known (fun d hd => k.shut d ((hm d).1 hd)) r
  have h2 := k.least p.known (fun d hd => h.shut d ((hm d).2 hd)) r
  cases e : p.known r with
  | true => exact (h1 e).symm
  | false =>
    cases e2 : q.known r with
    | false => rfl
    | true => rw [h2 e2] at e; cases e
theorem Took.many {S : Nat → List Nat} {p q : PS} {T : List Drp} (h : Took S p T) (k : Took S q T.reverse) : p.L.length = q.L.length := by
  rw [h.waits, k.waits, h.same k (fun d => by simp)]
  unfold sift
  rw [List.filter_reverse, List.length_reverse]

/-! What is known is so. -/
/-- The bytes at i of the blocks of a list, one over the other. -/
def xl (g : Nat → ByteArray) (i : Nat) (s : List Nat) : UInt8 := s.foldr (fun r a => atB (g r) i ^^^ a) 0
theorem xl_snoc (g : Nat → ByteArray) (i r : Nat) : ∀ s : List Nat, xl g i (s ++ [r]) = xl g i s ^^^ atB (g r) i
  | [] => by simp [xl]
  | q :: s => by
    show atB (g q) i ^^^ xl g i (s ++ [r]) = (atB (g q) i ^^^ xl g i s) ^^^ atB (g r) i
    rw [xl_snoc g i r s, UInt8.xor_assoc]
theorem xsum_xl (g : Nat → ByteArray) (s : List Nat) (i : Nat) : ∀ m, m ≤ s.length → xsum g (fun j => ((s.getD j 0 : Nat) : Int)) m i = xl g i (s.take m)
  | 0, _ => by simp [xsum, xl]
  | m + 1, h => by
    have hm : m < s.length := by omega
    have e : s.take (m + 1) = s.take m ++ [s.getD m 0] := by rw [List.take_add_one]; simp [List.getD, hm]
    rw [e, xl_snoc, ← xsum_xl g s i m (by omega)]
    show _ ^^^ atB (g (((s.getD m 0 : Nat) : Int)).toNat) i = _
    rw [Int.toNat_natCast]
theorem outB_size (B : Nat → ByteArray) (x : Nat) : ∀ (s : List Nat) (b : ByteArray), (outB B x s b).size = b.size
  | [], b => rfl
  | r :: s, b => by
    show (outB B x s (if r = x then b else xorB b (B r))).size = _
    rw [outB_size B x s]
    split
    · rfl
    · exact xorB_size _ _
theorem outB_at (B : Nat → ByteArray) (x i : Nat) : ∀ (s : List Nat) (b : ByteArray), i < b.size → atB (outB B x s b) i = atB b i ^^^ xl B i (s.filter fun r => decide (r ≠ x))
  | [], b, _ => by simp [outB, xl]
  | r :: s, b, hi => by
    show atB (outB B x s (if r = x then b else xorB b (B r))) i = _
    by_cases c : r = x
    · rw [if_pos c, outB_at B x i s b hi, List.filter_cons_of_neg (by simp [c])]
    · rw [if_neg c, outB_at B x i s _ (by rw [xorB_size]; exact hi), xorB_at _ _ _ hi, List.filter_cons_of_pos (by simp [c])]
      show _ = atB b i ^^^ (atB (B r) i ^^^ xl B i _)
      rw [UInt8.xor_assoc]
theorem xl_congr {g B : Nat → ByteArray} {i : Nat} : ∀ {s : List Nat}, (∀ r ∈ s, B r = g r) → xl B i s = xl g i s
  | [], _ => rfl
  | r :: s, h => by
    show atB (B r) i ^^^ xl B i s = atB (g r) i ^^^ xl g i s
    rw [h r (by simp), xl_congr (s := s) (fun q hq => h q (by simp [hq]))]
theorem filter_all {s : List Nat} {x : Nat} (h : x ∉ s) : (s.filter fun r => decide (r ≠ x)) = s := List.filter_eq_self.2 fun r hr => decide_eq_true fun e => h (e ▸ hr)
theorem xl_split (g : Nat → ByteArray) (i x : Nat) : ∀ s : List Nat, s.Nodup → x ∈ s → xl g i s = atB (g x) i ^^^ xl g i (s.filter fun r => decide (r ≠ x))
  | [], _, h => by cases h
  | r :: s, hn, h => by
    have hr := (List.nodup_cons.1 hn).1
    have hs := (List.nodup_cons.1 hn).2
    by_cases c : r = x
    · subst c
      rw [List.filter_cons_of_neg (by simp), filter_all hr]
      rfl
    · have hx : x ∈ s := by
        rcases List.mem_cons.1 h with e | e
        · exact absurd e.symm c
        · exact e
      rw [List.filter_cons_of_pos (by simp [c])]
      show atB (g r) i ^^^ xl g i s = atB (g x) i ^^^ (atB (g r) i ^^^ xl g i _)
      rw [xl_split g i x s hs hx, ← UInt8.xor_assoc, UInt8.xor_comm (atB (g r) i), UInt8.xor_assoc]
/-- With all others taken out it is the one that is left. -/
theorem outB_one {g B : Nat → ByteArray} {k seed x : Nat} (hx : x ∈ setL k seed) (hz : (g x).size = (g 0).size) (hB : ∀ r ∈ setL k seed, r ≠ x → B r = g r) : outB B x (setL k seed) (dropB g k seed) = g x := by
  have hn : (setL k seed).Nodup := (setL_rise k seed).imp (fun h => by omega)
  have hd : (dropB g k seed).size = (g 0).size := dropB_size _ _ _
  refine bytes_ext (by rw [outB_size, hd, hz]) fun i hi => ?_
  rw [outB_size] at hi
  rw [outB_at B x i _ _ hi]
  have e1 : atB (dropB g k seed) i = xl g i (setL k seed) := by
    unfold dropB
    rw [sumB_at _ _ _ _ (by omega), xsum_xl g (setL k seed) i _ (Nat.le_refl _), List.take_length]
  rw [e1, xl_split g i x _ hn hx, xl_congr (B := B) (g := g) (fun r hr => by
    have := List.mem_filter.1 hr
    exact hB r this.1 (of_decide_eq_true this.2)), UInt8.xor_assoc, UInt8.xor_self, UInt8.xor_zero]
theorem Peels.sound {g : Nat → ByteArray} {k : Nat} (hk : 1 ≤ k) (hz : ∀ r, r < k → (g r).size = (g 0).size) {p a : PS} (h : Peels (setL k) p a) (hB : ∀ r, p.known r = true → p.B r = g r) (hL : ∀ d ∈ p.L, 1 ≤ d.1 ∧ d.2 = dropB g k d.1) : ∀ r, a.known r = true → a.B r = g r := by
  induction h with
  | done _ => exact hB
  | @step p p' d x h1 h2 h3 ih =>
    refine ih (fun r hr => ?_) (fun e he => hL e (mem_sift.1 he).1)
    have hd := hL d (oneOf_mem h1)
    have hx : x ∈ lft (setL k) p.known d := by rw [h2]; simp
    by_cases c : r = x
    · subst c
      show (if r = r then _ else _) = _
      rw [if_pos rfl, hd.2]
      refine outB_one (mem_lft.1 hx).1 (hz _ (setL_lt hk hd.1 (mem_lft.1 hx).1)) fun q hq hne => hB q ?_
      cases e : p.known q with
      | true => rfl
      | false =>
        have : q ∈ lft (setL k) p.known d := mem_lft.2 ⟨hq, e⟩
        rw [h2] at this
        exact absurd (List.mem_singleton.1 this) hne
    · show (if r = x then _ else p.B r) = _
      rw [if_neg c]
      exact hB r (by have hr' : (if r = x then true else p.known r) = true := hr; rw [if_neg c] at hr'; exact hr')
/-- What is known by that are blocks. -/
theorem Peels.lt {k : Nat} (hk : 1 ≤ k) {p a : PS} (h : Peels (setL k) p a) (hL : ∀ d ∈ p.L, 1 ≤ d.1) (hp : ∀ r, p.known r = true → r < k) : ∀ r, a.known r = true → r < k := by
  induction h with
  | done _ => exact hp
  | @step p p' d x h1 h2 h3 ih =>
    refine ih (fun e he => hL e (mem_sift.1 he).1) fun r hr => ?_
    have hr' : (if r = x then true else p.known r) = true := hr
    by_cases c : r = x
    · have hx : x ∈ lft (setL k) p.known d := by rw [h2]; simp
      rw [c]; exact setL_lt hk (hL d (oneOf_mem h1)) (mem_lft.1 hx).1
    · rw [if_neg c] at hr'; exact hp r hr'
/-- The blocks, of k, that are known, rising. -/
def knows (k : Nat) (kn : Nat → Bool) : List Nat := (List.range k).filter kn
/-- Those that came to be known, rising. -/
def came (k : Nat) (kn kn' : Nat → Bool) : List Nat := (List.range k).filter fun r => kn' r && !kn r
theorem came_len (kn kn' : Nat → Bool) (h : ∀ r, kn r = true → kn' r = true) : ∀ k, (knows k kn').length = (knows k kn).length + (came k kn kn').length
  | 0 => rfl
  | k + 1 => by
    have ih := came_len kn kn' h k
    unfold knows came at *
    rw [List.range_succ, List.filter_append, List.filter_append, List.filter_append, List.length_append, List.length_append, List.length_append, ih]
    cases e : kn k with
    | true => simp [e, h k e]; omega
    | false => cases e2 : kn' k <;> simp [e, e2] <;> omega
/-- A drop of one block that is not known, where none waits: it is known, and none waits. -/
theorem peels_alone {S : Nat → List Nat} {kn : Nat → Bool} {B : Nat → ByteArray} {d : Drp} {r : Nat} (hS : S d.1 = [r]) (hr : kn r = false) : Peels S ⟨kn, B, [d]⟩ ⟨upd kn r true, upd B r d.2, []⟩ := by
  have h1 : lft S kn d = [r] := by simp [lft, hS, hr]
  have h2 : sift S kn [d] = [d] := by simp [sift, h1]
  have h3 : lft S (upd kn r true) d = [] := by simp [lft, hS, upd]
  have h4 : sift S (upd kn r true) [d] = [] := by simp [sift, h3]
  have h5 : oneOf S ⟨kn, B, [d]⟩ = some d := by
    show (sift S kn [d]).find? _ = _
    rw [h2]; simp [h1]
  refine Peels.step h5 h1 ?_
  have e : after S ⟨kn, B, [d]⟩ d r = ⟨upd kn r true, upd B r d.2, [d]⟩ := by
    unfold after
    show PS.mk _ (upd B r (outB B r (S d.1) d.2)) (sift S kn [d]) = _
    rw [h2, hS]
    simp [outB]
  rw [e]
  have h6 := Peels.done (S := S) (p := ⟨upd kn r true, upd B r d.2, [d]⟩) (by
    show (sift S (upd kn r true) [d]).find? _ = _
    rw [h4]; rfl)
  have h7 : (⟨upd kn r true, upd B r d.2, sift S (upd kn r true) [d]⟩ : PS) = ⟨upd kn r true, upd B r d.2, []⟩ := by rw [h4]
  rw [h7] at h6
  exact h6
/-- How many blocks, of k, are not known. -/
def unk (k : Nat) (kn : Nat → Bool) : Nat := ((List.range k).filter fun r => !kn r).length
theorem unk_upd {kn : Nat → Bool} {x : Nat} (hx : kn x = false) : ∀ k, unk k (upd kn x true) = if x < k then unk k kn - 1 else unk k kn
  | 0 => rfl
  | k + 1 => by
    have ih := unk_upd hx k
    unfold unk at *
    rw [List.range_succ, List.filter_append, List.filter_append, List.length_append, List.length_append, ih]
    by_cases c : x < k
    · have hk : upd kn x true k = kn k := by unfold upd; rw [if_neg (by omega)]
      have hin : x ∈ (List.range k).filter fun r => !kn r := by simp [c, hx]
      have := List.length_pos_of_mem hin
      rw [if_pos c, if_pos (show x < k + 1 by omega)]
      simp only [List.filter_cons, List.filter_nil, hk]
      omega
    · by_cases e : x = k
      · subst e
        rw [if_neg c, if_pos (show x < x + 1 by omega)]
        simp [upd, hx]
      · have hk : upd kn x true k = kn k := by unfold upd; rw [if_neg (by omega)]
        rw [if_neg c, if_neg (show ¬ x < k + 1 by omega)]
        simp only [List.filter_cons, List.filter_nil, hk]
theorem unk_less {kn : Nat → Bool} {x k : Nat} (hx : kn x = false) (hk : x < k) : unk k (upd kn x true) < unk k kn := by
  have hin : x ∈ (List.range k).filter fun r => !kn r := by simp [hk, hx]
  have h1 : 0 < unk k kn := List.length_pos_of_mem hin
  rw [unk_upd hx, if_pos hk]
  omega
end Go.Proofs.YtopibfbpecjgbaaDoor

namespace Go.Proofs.YtopibfbpecjgbaaDoor
open Go.RowKit
set_option linter.unusedVariables false
set_option maxRecDepth 100000

/-- F runs through the worlds that are w below its size. -/
structure Fam (w : World) {ι : Type} (F : ι → World) : Prop where
  above : ∀ i, Below w.heap.size w (F i)
  all : ∀ w', Below w.heap.size w w' → ∃ i, w' = F i
  ne : Nonempty ι
theorem fam_some (w : World) : ∃ (ι : Type) (F : ι → World), Fam w F := ⟨{ w' // Below w.heap.size w w' }, Subtype.val, fun i => i.2, fun w' h => ⟨⟨w', h⟩, rfl⟩, ⟨⟨w, Below.refl _ _⟩⟩⟩
theorem Fam.cell {w : World} {ι : Type} {F : ι → World} (h : Fam w F) {a : Addr} {v : Value} (hc : w.cell? a = some v) : ∀ i, (F i).cell? a = some v := fun i => cell_below (h.above i) hc
theorem Fam.call {P : Program} {w : World} {ι : Type} {F : ι → World} (h : Fam w F) {f : FuncId} {args : Array Value} {i : ι} {v : Value}
    (hC : Calls P f args (F i) fun e w' => e = .returned v ∧ Below (F i).heap.size (F i) w') : Calls P f args (F i) fun e w' => e = .returned v ∧ ∃ m, w' = F m :=
  hC.mono fun e w' ⟨he, hb⟩ => ⟨he, h.all w' (below_two (h.above i) hb)⟩
theorem Fam.region {P : Program} {w : World} {ι : Type} {F : ι → World} (hF : Fam w F) {id : Nat} {Q : Exit → Act → World → Prop} {a : Act} {l : List Oper} (hm : P.follows .mixedOrders = true) (hB : Region.lexB .any l.toArray = true)
    (h : wpQuiet P l.toArray (fun w' => ∃ i, w' = F i) (fun a' => ∀ w', (∃ i, w' = F i) → Q .normal a' w') l a) : (Code.region id l.toArray true).wp P Q a w :=
  wp_region_quiet (C := fun w' => ∃ i, w' = F i) hm hB (hF.all _ ⟨rfl, rfl, rfl, Nat.le_refl _, fun _ _ => rfl⟩) (by simpa using h)
end Go.Proofs.YtopibfbpecjgbaaDoor

namespace Go.Proofs.YtopibfbpecjgbaaDoor
open Go.RowKit Go.Extern.Stop Go.Stop Go.Extern
set_option linter.unusedVariables false
set_option maxRecDepth 100000

theorem as_valueOfP (t : Addr) (w : World) : (ReflectliteValue.unpack (.iface 98 (.pointer (some t)))).run Tryd.prog w
    = .ok (.agg #[.pointer (some ⟨1, 98, none⟩), .pointer (some ⟨w.heap.size, 0, none⟩), .int .u64 150]) (w.alloc (.cells #[.pointer (some t)] 98)) := by kernel_rfl
theorem as_typeP (a : Addr) (w : World) : (ReflectliteValue.methodAny (ReflectliteValue.valueError "reflectlite.Value.Type" 0) (fun t _ _ _ => ReflectliteType.toType t) #[.agg #[.pointer (some ⟨1, 98, none⟩), .pointer (some a), .int .u64 150]]).run Tryd.prog w
    = .ok (.iface 136 (.agg #[.pointer (some ⟨1, 98, none⟩)])) w := by kernel_rfl
theorem as_methodKind (h : Value) (w : World) : (Go.method 285 136 (.agg #[h]) "Kind").run Tryd.prog w = .ok (103, h) w := by kernel_rfl
theorem as_kindP (w : World) : ((ReflectliteType.abiMethod fun t => (fun a : Nat => Value.int IntKind.u8 (a : Int)) <$> Rtype.kind t) #[.pointer (some ⟨1, 98, none⟩)]).run Tryd.prog w = .ok (.int .u8 22) w := by kernel_rfl
theorem as_kindE (w : World) : ((ReflectliteType.abiMethod fun t => (fun a : Nat => Value.int IntKind.u8 (a : Int)) <$> Rtype.kind t) #[.pointer (some ⟨1, 54, none⟩)]).run Tryd.prog w = .ok (.int .u8 2) w := by kernel_rfl
theorem as_partsP (a : Addr) (w : World) : (ReflectliteValue.parts (.agg #[.pointer (some ⟨1, 98, none⟩), .pointer (some a), .int .u64 150])).run Tryd.prog w = .ok (some (98, a, 150)) w := by kernel_rfl
theorem as_isNilP (a p : Addr) (W : World) (ha : W.cell? a = some (.pointer (some p))) :
    (ReflectliteValue.method (ReflectliteValue.valueError "reflectlite.Value.IsNil" 0) ReflectliteValue.isNil #[.agg #[.pointer (some ⟨1, 98, none⟩), .pointer (some a), .int .u64 150]]).run Tryd.prog W = .ok (.bool false) W := by
  refine (congrArg (fun m => Sem.run Tryd.prog m W) (rfl : ReflectliteValue.method _ _ _ = ReflectliteValue.parts (.agg #[.pointer (some ⟨1, 98, none⟩), .pointer (some a), .int .u64 150]) >>= _)).trans ?_
  simp only [Sem.run_bind, as_partsP, Result.andThen]
  simp [ReflectliteValue.isNil, loadVar, isAgg, underlying, Tryd.underlying98, ha, Result.andThen]
theorem as_methodElem (h : Value) (w : World) : (Go.method 285 136 (.agg #[h]) "Elem").run Tryd.prog w = .ok (113, .agg #[h]) w := by kernel_rfl
theorem as_methodImplements (h : Value) (w : World) : (Go.method 285 136 (.agg #[h]) "Implements").run Tryd.prog w = .ok (114, .agg #[h]) w := by kernel_rfl
theorem as_methodAssignableTo (h : Value) (w : World) : (Go.method 285 136 (.agg #[h]) "AssignableTo").run Tryd.prog w = .ok (111, .agg #[h]) w := by kernel_rfl
theorem as_elemP (w : World) : (ReflectliteType.method ReflectliteType.elem #[.agg #[.pointer (some ⟨1, 98, none⟩)]]).run Tryd.prog w = .ok (.iface 136 (.agg #[.pointer (some ⟨1, 54, none⟩)])) w := by kernel_rfl
theorem as_implementsE (w : World) : (ReflectliteType.relation "Implements" ReflectliteType.implements_ #[.agg #[.pointer (some ⟨1, 54, none⟩)], .iface 136 (.agg #[.pointer (some ⟨1, 26, none⟩)])]).run Tryd.prog w = .ok (.bool true) w := by kernel_rfl
theorem as_typeOfE (v : Value) (w : World) : (ReflectliteType.typeOf #[.iface 54 v]).run Tryd.prog w = .ok (.iface 136 (.agg #[.pointer (some ⟨1, 54, none⟩)])) w := by kernel_rfl
theorem as_assignableE (w : World) : (ReflectliteType.relation "AssignableTo" ReflectliteType.assignableTo #[.agg #[.pointer (some ⟨1, 54, none⟩)], .iface 136 (.agg #[.pointer (some ⟨1, 54, none⟩)])]).run Tryd.prog w = .ok (.bool true) w := by kernel_rfl
theorem as_valueOfE (n : Int) (w : World) : (ReflectliteValue.unpack (.iface 54 (.int .i64 n))).run Tryd.prog w
    = .ok (.agg #[.pointer (some ⟨1, 54, none⟩), .pointer (some ⟨w.heap.size, 0, none⟩), .int .u64 130]) (w.alloc (.cells #[.int .i64 n] 54)) := by kernel_rfl
theorem as_elemOfP (w : World) : (Rtype.elem? 98).run Tryd.prog w = .ok (some 54) w := by kernel_rfl
theorem as_mkE (p : Addr) (w : World) : (ReflectliteValue.mk 54 p ReflectliteValue.flagAddr).run Tryd.prog w = .ok (.agg #[.pointer (some ⟨1, 54, none⟩), .pointer (some p), .int .u64 386]) w := by kernel_rfl
theorem as_elemVP (a p : Addr) (W : World) (ha : W.cell? a = some (.pointer (some p))) :
    (ReflectliteValue.method (ReflectliteValue.valueError "reflectlite.Value.Elem" 0) ReflectliteValue.elem #[.agg #[.pointer (some ⟨1, 98, none⟩), .pointer (some a), .int .u64 150]]).run Tryd.prog W
      = .ok (.agg #[.pointer (some ⟨1, 54, none⟩), .pointer (some p), .int .u64 386]) W := by
  refine (congrArg (fun m => Sem.run Tryd.prog m W) (rfl : ReflectliteValue.method _ _ _ = ReflectliteValue.parts (.agg #[.pointer (some ⟨1, 98, none⟩), .pointer (some a), .int .u64 150]) >>= _)).trans ?_
  simp only [Sem.run_bind, as_partsP, Result.andThen]
  simp [ReflectliteValue.elem, loadVar, isAgg, underlying, Tryd.underlying98, ha, Result.andThen, as_elemOfP, as_mkE]
theorem as_partsEa (a : Addr) (w : World) : (ReflectliteValue.parts (.agg #[.pointer (some ⟨1, 54, none⟩), .pointer (some a), .int .u64 386])).run Tryd.prog w = .ok (some (54, a, 386)) w := by kernel_rfl
theorem as_partsE (a : Addr) (w : World) : (ReflectliteValue.parts (.agg #[.pointer (some ⟨1, 54, none⟩), .pointer (some a), .int .u64 130])).run Tryd.prog w = .ok (some (54, a, 130)) w := by kernel_rfl
theorem as_directE (w : World) : (Rtype.directlyAssignable 54 54).run Tryd.prog w = .ok true w := by kernel_rfl
theorem as_setE (ta b : Addr) (n : Int) (old : Value) (W : World) (hb : W.cell? b = some (.int .i64 n)) (ht : W.cell? ta = some old) (hf : W.frozen? ta = false) :
    (ReflectliteValue.set #[.agg #[.pointer (some ⟨1, 54, none⟩), .pointer (some ta), .int .u64 386], .agg #[.pointer (some ⟨1, 54, none⟩), .pointer (some b), .int .u64 130]]).run Tryd.prog W
      = .ok (.tuple #[]) (W.setCell ta (.int .i64 n)) := by
  refine (congrArg (fun m => Sem.run Tryd.prog m W) (rfl : ReflectliteValue.set _ = ReflectliteValue.parts (.agg #[.pointer (some ⟨1, 54, none⟩), .pointer (some ta), .int .u64 386]) >>= fun _ => ReflectliteValue.parts (.agg #[.pointer (some ⟨1, 54, none⟩), .pointer (some b), .int .u64 130]) >>= _)).trans ?_
  simp only [Sem.run_bind, as_partsEa, as_partsE, Result.andThen]
  simp [ReflectliteValue.flagAddr, loadVar, isAgg, underlying, Tryd.underlying54, hb, Result.andThen, as_directE, storeVar, Value.cells, storeCells, Addr.add]
  rw [run_store Tryd.prog W ta _ _ (by rfl)]
  simp [ht, hf]

set_option maxHeartbeats 4000000 in
theorem as_hit (n : Int) (t : Addr) (old : Value) (w : World) (hg : w.cell? ⟨0, 0, none⟩ = some (.iface 136 (.agg #[.pointer (some ⟨1, 26, none⟩)]))) (ht0 : w.cell? t = some old) (hf0 : w.frozen? t = false) :
    Calls Tryd.prog 49 #[.iface 54 (.int .i64 n), .iface 98 (.pointer (some t))] w fun ev w' => ev = .returned (.bool true) ∧ w' = ((((w.alloc (.cells #[.pointer (some t)] 98)).alloc (.cells #[.pointer (some ⟨1, 98, none⟩), .pointer (some ⟨w.heap.size, 0, none⟩), .int .u64 150] 111)).alloc (.cells #[.pointer (some ⟨1, 98, none⟩), .pointer (some ⟨w.heap.size, 0, none⟩), .int .u64 150] 111)).alloc (.cells #[.int .i64 n] 54)).setCell t (.int .i64 n) := by
  have h6 := @run_callFunc_extern Tryd.prog 62 _ (fun args => ReflectliteValue.unpack (args.getD 0 (.tuple #[]))) Tryd.func62 (by kernel_rfl) (by kernel_rfl) (by kernel_rfl) (by kernel_rfl)
  have h7 := @run_callFunc_extern Tryd.prog 63 _ (ReflectliteValue.methodAny (ReflectliteValue.valueError "reflectlite.Value.Type" 0) (fun t _ _ _ => ReflectliteType.toType t)) Tryd.func63 (by kernel_rfl) (by kernel_rfl) (by kernel_rfl) (by kernel_rfl)
  have h8 := @run_callFunc_extern Tryd.prog 64 _ (ReflectliteValue.method (ReflectliteValue.valueError "reflectlite.Value.IsNil" 0) ReflectliteValue.isNil) Tryd.func64 (by kernel_rfl) (by kernel_rfl) (by kernel_rfl) (by kernel_rfl)
  have h27 := @run_callFunc_extern Tryd.prog 103 _ (ReflectliteType.abiMethod fun t => do pure (.int .u8 (← Rtype.kind t))) Tryd.func103 (by kernel_rfl) (by kernel_rfl) (by kernel_rfl) (by kernel_rfl)
  have h37 := @run_callFunc_extern Tryd.prog 113 _ (ReflectliteType.method ReflectliteType.elem) Tryd.func113 (by kernel_rfl) (by kernel_rfl) (by kernel_rfl) (by kernel_rfl)
  have h38 := @run_callFunc_extern Tryd.prog 114 _ (ReflectliteType.relation "Implements" ReflectliteType.implements_) Tryd.func114 (by kernel_rfl) (by kernel_rfl) (by kernel_rfl) (by kernel_rfl)
  have h10 := @run_callFunc_extern Tryd.prog 79 _ ReflectliteType.typeOf Tryd.func79 (by kernel_rfl) (by kernel_rfl) (by kernel_rfl) (by kernel_rfl)
  have h35 := @run_callFunc_extern Tryd.prog 111 _ (ReflectliteType.relation "AssignableTo" ReflectliteType.assignableTo) Tryd.func111 (by kernel_rfl) (by kernel_rfl) (by kernel_rfl) (by kernel_rfl)
  have h11 := @run_callFunc_extern Tryd.prog 80 _ (ReflectliteValue.method (ReflectliteValue.valueError "reflectlite.Value.Elem" 0) ReflectliteValue.elem) Tryd.func80 (by kernel_rfl) (by kernel_rfl) (by kernel_rfl) (by kernel_rfl)
  have h12 := @run_callFunc_extern Tryd.prog 81 _ ReflectliteValue.set Tryd.func81 (by kernel_rfl) (by kernel_rfl) (by kernel_rfl) (by kernel_rfl)
  have tO := as_typeOfE
  have mA := as_methodAssignableTo
  have a25 := as_assignableE
  have v25 := as_valueOfE
  have f6 := as_valueOfP
  have f7 := as_typeP
  have mK := as_methodKind
  have mE := as_methodElem
  have mI := as_methodImplements
  have k27 := as_kindP
  have k25 := as_kindE
  have e27 := as_elemP
  have i25 := as_implementsE
  have n8 := as_isNilP ⟨w.heap.size, 0, none⟩ t ((w.alloc (.cells #[.pointer (some t)] 98)).alloc (.cells #[.pointer (some ⟨1, 98, none⟩), .pointer (some ⟨w.heap.size, 0, none⟩), .int .u64 150] 111)) (by simp)
  have hlt : 0 < w.heap.size := by
    rcases Nat.lt_or_ge 0 w.heap.size with h | h
    · exact h
    · simp [World.cell?, Array.getElem?_eq_none h] at hg
  have hg2 : ((w.alloc (.cells #[.pointer (some t)] 98)).alloc (.cells #[.pointer (some ⟨1, 98, none⟩), .pointer (some ⟨w.heap.size, 0, none⟩), .int .u64 150] 111)).cell? ⟨0, 0, none⟩ = some (.iface 136 (.agg #[.pointer (some ⟨1, 26, none⟩)])) := by
    rw [World.cell?_alloc_lt _ _ ⟨0, 0, none⟩ (by simp <;> omega), World.cell?_alloc_lt _ _ ⟨0, 0, none⟩ hlt]; exact hg
  have htl : t.block < w.heap.size := by
    rcases Nat.lt_or_ge t.block w.heap.size with h | h
    · exact h
    · simp [World.cell?, Array.getElem?_eq_none h] at ht0
  have el := as_elemVP ⟨w.heap.size, 0, none⟩ t (((w.alloc (.cells #[.pointer (some t)] 98)).alloc (.cells #[.pointer (some ⟨1, 98, none⟩), .pointer (some ⟨w.heap.size, 0, none⟩), .int .u64 150] 111)).alloc (.cells #[.pointer (some ⟨1, 98, none⟩), .pointer (some ⟨w.heap.size, 0, none⟩), .int .u64 150] 111)) (by rw [World.cell?_alloc_lt _ _ ⟨w.heap.size, 0, none⟩ (by simp; omega)]; simp)
  have st := as_setE t ⟨w.heap.size + 1 + 1 + 1, 0, none⟩ n old ((((w.alloc (.cells #[.pointer (some t)] 98)).alloc (.cells #[.pointer (some ⟨1, 98, none⟩), .pointer (some ⟨w.heap.size, 0, none⟩), .int .u64 150] 111)).alloc (.cells #[.pointer (some ⟨1, 98, none⟩), .pointer (some ⟨w.heap.size, 0, none⟩), .int .u64 150] 111)).alloc (.cells #[.int .i64 n] 54))
    (by rw [World.cell?_alloc_at _ _ _ _ (by simp)]; rfl)
    (by rw [World.cell?_alloc_lt _ _ t (by simp; omega), World.cell?_alloc_lt _ _ t (by simp; omega), World.cell?_alloc_lt _ _ t (by simp; omega), World.cell?_alloc_lt _ _ t htl]; exact ht0)
    (by rw [World.frozen?_alloc_old _ _ t (by simp; omega), World.frozen?_alloc_old _ _ t (by simp; omega), World.frozen?_alloc_old _ _ t (by simp; omega), World.frozen?_alloc_old _ _ t (Nat.ne_of_lt htl)]; exact hf0)
  go_enter Tryd.func49, Tryd.ntmps49
  go_wp2
  refine wp_loop_rounds 1 ?_
  rw [rounds_succ]
  go_wp2
  go_ret
  exact ⟨rfl, rfl⟩
end Go.Proofs.YtopibfbpecjgbaaDoor

namespace Go.Proofs.YtopibfbpecjgbaaDoor
open Go.RowKit Go.Extern.Stop Go.Stop Go.Extern
set_option linter.unusedVariables false
set_option maxRecDepth 100000

/-- What the row's list of variables gives: the cell of errors.errorType. -/
def HasErr (w : World) : Prop := w.cell? ⟨0, 0, none⟩ = some (.iface 136 (.agg #[.pointer (some ⟨1, 26, none⟩)]))
theorem HasErr.lt {w : World} (h : HasErr w) : 0 < w.heap.size := by
  rcases Nat.lt_or_ge 0 w.heap.size with h' | h'
  · exact h'
  · simp [HasErr, World.cell?, Array.getElem?_eq_none h'] at h
theorem HasErr.below {w w' : World} (h : HasErr w) {B : Nat} (hB : 0 < B) (hb : Below B w w') : HasErr w' :=
  (hb.cell (p := ⟨0, 0, none⟩) hB).trans h

theorem told_nil (w : World) : Calls Tryd.prog 27 #[.nilIface] w fun e w' => e = .returned (.int .i64 0) ∧ w = w' := by
  go_enter Tryd.func27, Tryd.ntmps27
  go_wp2
  go_ret
  exact ⟨rfl, rfl⟩
set_option maxHeartbeats 1000000 in
theorem told_hit (n : Int) (w : World) (hg : HasErr w) : Calls Tryd.prog 27 #[.iface 54 (.int .i64 n)] w fun e w' => e = .returned (.int .i64 n) ∧ Below w.heap.size w w' := by
  have hA := as_hit n ⟨w.heap.size, 0, none⟩ (.int .i64 0) (w.alloc (.cells #[.int .i64 0] 54)) (by rw [World.cell?_alloc_lt _ _ ⟨0, 0, none⟩ hg.lt]; exact hg) (by simp) (by simp)
  have K := hide hA
  clear hA
  go_enter Tryd.func27, Tryd.ntmps27
  go_wp2_with fail
  refine (K.out).mono ?_
  rintro e w1 ⟨rfl, rfl⟩
  go_wp2
  go_ret
  refine ⟨rfl, ?_⟩
  repeat (first | exact Below.refl _ _ | refine Below.alloc ?_ (by simp <;> omega) _)
theorem error_nil (x : Int) (w : World) : Calls Tryd.prog 11 #[.nilIface, .int .i64 x] w fun e w' => e = .returned (.bool (0 == x)) ∧ w = w' := by
  go_enter Tryd.func11, Tryd.ntmps11
  go_wp2_with fail
  refine (told_nil _).mono ?_
  rintro e w1 ⟨rfl, rfl⟩
  go_wp2
  go_ret
  exact ⟨rfl, rfl⟩
theorem error_hit (n x : Int) (w : World) (hg : HasErr w) : Calls Tryd.prog 11 #[.iface 54 (.int .i64 n), .int .i64 x] w fun e w' => e = .returned (.bool (n == x)) ∧ Below w.heap.size w w' := by
  go_enter Tryd.func11, Tryd.ntmps11
  go_wp2_with fail
  refine (told_hit _ _ hg).mono ?_
  rintro e w1 ⟨rfl, hb⟩
  go_wp2
  go_ret
  exact ⟨rfl, hb⟩

/-! What the row's list gives a walk, and a world that meets it. -/
theorem errGlobal : Tryd.prog.globalNamed "errors.errorType" = some 0 := by kernel_rfl
theorem errRt : (Tryd.prog.cutTypes.find? (·.1 == "internal/reflectlite.rtype")).map (·.2) = some 136 := by kernel_rfl
theorem errOneRow : ((List.range 185).filter fun t => Tryd.prog.rowNamed t [101, 114, 114, 111, 114]) = [26] := by kernel_rfl
theorem errSize : Tryd.prog.types.size = 185 := by kernel_rfl
theorem hasErr_of_laid {W : World} (h : laidMetH Tryd.prog [("errors.errorType", Rows.laid_errors_errorType)] W) : HasErr W := by
  have h' : laidMet Tryd.prog [] W ∧ handlesMet Tryd.prog [("errors.errorType", Rows.laid_errors_errorType)] W := h
  obtain ⟨name, u, ty, e1, e2, e3, e4, e5⟩ := h'.2 _ (List.mem_singleton.2 rfl)
  have en : name = [101, 114, 114, 111, 114] := (Option.some.inj e1).symm
  subst en
  obtain rfl := Option.some.inj (errRt.symm.trans e2)
  have hm : ty ∈ (List.range 185).filter fun t => Tryd.prog.rowNamed t [101, 114, 114, 111, 114] := List.mem_filter.2 ⟨List.mem_range.2 (by rw [← errSize]; exact e3), e4⟩
  rw [errOneRow] at hm
  obtain rfl := List.mem_singleton.1 hm
  have hh : typeHandle Tryd.prog 26 = .pointer (some ⟨1, 26, none⟩) := by kernel_rfl
  rw [hh] at e5
  have := World.var?_cell errGlobal e5 0
  simpa [HasErr] using this
end Go.Proofs.YtopibfbpecjgbaaDoor

namespace Go.Proofs.YtopibfbpecjgbaaDoor
open Go.RowKit
set_option linter.unusedVariables false
set_option maxRecDepth 100000

/-- The error that stands for the number x: none for 0. -/
def ErrIs (x : Int) (err : Value) : Prop := (x = 0 ∧ err = .nilIface) ∨ err = .iface 54 (.int .i64 x)
theorem error_right (x : Int) (err : Value) (w : World) (hg : HasErr w) (h : ErrIs x err) :
    Calls Tryd.prog 11 #[err, .int .i64 x] w fun e w' => e = .returned (.bool true) ∧ Below w.heap.size w w' := by
  rcases h with ⟨rfl, rfl⟩ | rfl
  · exact (error_nil 0 w).mono fun e w' ⟨he, hw⟩ => ⟨he, hw ▸ Below.refl _ _⟩
  · exact (error_hit x x w hg).mono fun e w' ⟨he, hb⟩ => ⟨by rw [he]; simp, hb⟩
end Go.Proofs.YtopibfbpecjgbaaDoor

namespace Go.Proofs.YtopibfbpecjgbaaDoor
open Go.RowKit
set_option linter.unusedVariables false
set_option maxRecDepth 100000

/-- A slice that holds the numbers f 0, .., f (n-1). -/
def IntsIn (w : World) (v : Value) (n : Nat) (f : Nat → Int) : Prop :=
  (n = 0 ∧ ∃ a cap, v = .slice a 0 cap) ∨ (0 < n ∧ ∃ b o cap, v = .slice (some ⟨b, o, none⟩) n cap ∧ ∀ i, i < n → w.cell? ⟨b, o + i, none⟩ = some (.int .i64 (f i)))
theorem IntsIn.below {w w' : World} {v : Value} {n : Nat} {f : Nat → Int} (h : IntsIn w v n f) (hb : Below w.heap.size w w') : IntsIn w' v n f := by
  rcases h with h | ⟨h0, b, o, cap, rfl, hc⟩
  · exact Or.inl h
  · exact Or.inr ⟨h0, b, o, cap, rfl, fun i hi => cell_below hb (hc i hi)⟩
theorem IntsIn.congr {w : World} {v : Value} {n : Nat} {f g : Nat → Int} (h : IntsIn w v n f) (e : ∀ i, i < n → f i = g i) : IntsIn w v n g := by
  rcases h with h | ⟨h0, b, o, cap, rfl, hc⟩
  · exact Or.inl h
  · exact Or.inr ⟨h0, b, o, cap, rfl, fun i hi => by rw [← e i hi]; exact hc i hi⟩

set_option maxHeartbeats 1000000 in
theorem ints_rows (b o b2 o2 n c c2 : Nat) (f : Nat → Int) (w : World) (hn : n ≤ 1000000)
    (h1 : ∀ i, i < n → w.cell? ⟨b, o + i, none⟩ = some (.int .i64 (f i))) (h2 : ∀ i, i < n → w.cell? ⟨b2, o2 + i, none⟩ = some (.int .i64 (f i))) :
    Calls Tryd.prog 13 #[.slice (some ⟨b, o, none⟩) n c, .slice (some ⟨b2, o2, none⟩) n c2] w fun e w' => e = .returned (.bool true) ∧ Below w.heap.size w w' := by
  have H1 := hide h1
  have H2 := hide h2
  clear h1 h2
  go_enter Tryd.func13, Tryd.ntmps13
  go_wp2
  go_loopw [5] (fun i wr => ∃ j : Nat, j ≤ n ∧ i = .int .i64 j ∧ Below w.heap.size w wr) (fun i _ => n - (intOf i).toNat)
  case atStart => exact ⟨0, Nat.zero_le _, rfl, Below.refl _ _⟩
  case round =>
    obtain ⟨j, hj, rfl, hb⟩ := hrel
    by_cases hlt : j < n
    · have c1 := cell_below hb (H1.out j hlt)
      have c2 := cell_below hb (H2.out j hlt)
      generalize f j = y at *
      go_wp2_with fail
      go_quiet (fail)
      go_wp2
      go_roundw
      case rel => exact ⟨j + 1, by omega, by go_num, below_drewN hb _⟩
      case measure => simp [intOf]; omega
    · go_wp2
      go_ret
      exact ⟨rfl, hb⟩
theorem ints_none (a a2 : Option Addr) (c c2 : Nat) (w : World) :
    Calls Tryd.prog 13 #[.slice a 0 c, .slice a2 0 c2] w fun e w' => e = .returned (.bool true) ∧ Below w.heap.size w w' := by
  go_enter Tryd.func13, Tryd.ntmps13
  go_wp2
  go_loop [5] (fun i => i = .int .i64 0) (fun _ => 0)
  case atStart => rfl
  case round =>
    obtain rfl := hrel
    go_wp2
    go_ret
    exact ⟨rfl, Below.refl _ _⟩
theorem ints_same {v v2 : Value} {n : Nat} {f : Nat → Int} {w : World} (hn : n ≤ 1000000) (h : IntsIn w v n f) (h2 : IntsIn w v2 n f) :
    Calls Tryd.prog 13 #[v, v2] w fun e w' => e = .returned (.bool true) ∧ Below w.heap.size w w' := by
  rcases h with ⟨rfl, a, c, rfl⟩ | ⟨h0, b, o, c, rfl, hc⟩
  · rcases h2 with ⟨_, a2, c2, rfl⟩ | ⟨h0, _⟩
    · exact ints_none a a2 c c2 w
    · omega
  · rcases h2 with ⟨rfl, _⟩ | ⟨_, b2, o2, c2, rfl, hc2⟩
    · omega
    · exact ints_rows b o b2 o2 n c c2 f w hn hc hc2
end Go.Proofs.YtopibfbpecjgbaaDoor

namespace Go.Proofs.YtopibfbpecjgbaaDoor
open Go.RowKit
set_option linter.unusedVariables false
set_option maxRecDepth 100000

/-- Ints that the call owns, as a slice of numbers. -/
theorem own_in {w : World} {B : Nat} {v : Value} {n : Nat} {f : Nat → Int} (h : w.ownsRow B 3 1 v n ((List.range n).map fun k : Nat => .int .i64 (f k))) : IntsIn w v n f := by
  rcases Nat.eq_zero_or_pos n with rfl | h0
  · rcases h.2 with ⟨hv, _⟩ | ⟨g, cap, cur, hv, _⟩
    · exact Or.inl ⟨rfl, _, _, hv⟩
    · exact Or.inl ⟨rfl, _, _, hv⟩
  · obtain ⟨g, cap, hv, _, _, hc⟩ := own_ints h h0
    exact Or.inr ⟨h0, g, 0, cap, hv, hc⟩
end Go.Proofs.YtopibfbpecjgbaaDoor

namespace Go.Proofs.YtopibfbpecjgbaaDoor
open Go.RowKit Go.Maps
set_option linter.unusedVariables false
set_option maxRecDepth 100000

/-- What is wrong with a Drop: its number. -/
def OkD (k size seed : Int) : Prop := (1 ≤ k ∧ k ≤ 16) ∧ (1 ≤ size ∧ size ≤ 8) ∧ 1 ≤ seed ∧ seed ≤ 10000
instance (k size seed : Int) : Decidable (OkD k size seed) := inferInstanceAs (Decidable (_ ∧ _))
def fD (k size seed : Int) (n : Nat) : Int := if OkD k size seed then (if (n : Int) = size then 0 else 3) else 1

set_option maxHeartbeats 1000000 in
theorem rdrop_range (k size seed : Int) (s : ByteArray) (w : World) (h : ¬ OkD k size seed) :
    Calls Tryd.prog 15 #[.int .i64 k, .int .i64 size, dropV seed s] w fun e w' => e = .returned (.int .i64 1) ∧ Below w.heap.size w w' := by
  unfold dropV
  by_cases c0 : k < 1
  · clear h
    go_enter Tryd.func15, Tryd.ntmps15
    go_wp2
    go_ret
    exact ⟨rfl, (Below.refl _ _).alloc (Nat.le_refl _) _⟩
  · skip
    by_cases c1 : 16 < k
    · clear h
      go_enter Tryd.func15, Tryd.ntmps15
      go_wp2
      go_ret
      exact ⟨rfl, (Below.refl _ _).alloc (Nat.le_refl _) _⟩
    · skip
      by_cases c2 : size < 1
      · clear h
        go_enter Tryd.func15, Tryd.ntmps15
        go_wp2
        go_ret
        exact ⟨rfl, (Below.refl _ _).alloc (Nat.le_refl _) _⟩
      · skip
        by_cases c3 : 8 < size
        · clear h
          go_enter Tryd.func15, Tryd.ntmps15
          go_wp2
          go_ret
          exact ⟨rfl, (Below.refl _ _).alloc (Nat.le_refl _) _⟩
        · skip
          by_cases c4 : seed < 1
          · clear h
            go_enter Tryd.func15, Tryd.ntmps15
            go_wp2
            go_ret
            exact ⟨rfl, (Below.refl _ _).alloc (Nat.le_refl _) _⟩
          · skip
            by_cases c5 : 10000 < seed
            · clear h
              go_enter Tryd.func15, Tryd.ntmps15
              go_wp2
              go_ret
              exact ⟨rfl, (Below.refl _ _).alloc (Nat.le_refl _) _⟩
            · exact absurd (show OkD k size seed by unfold OkD; omega) h
set_option maxHeartbeats 1000000 in
theorem rdrop_size (k size seed : Int) (s : ByteArray) (w : World) (h : OkD k size seed) :
    Calls Tryd.prog 15 #[.int .i64 k, .int .i64 size, dropV seed s] w fun e w' => e = .returned (.int .i64 (if (s.size : Int) = size then 0 else 3)) ∧ Below w.heap.size w w' := by
  obtain ⟨⟨h1, h2⟩, ⟨h3, h4⟩, h5, h6⟩ := h
  unfold dropV
  have c0 : ¬ k < 1 := by omega
  have c1 : ¬ 16 < k := by omega
  have c2 : ¬ size < 1 := by omega
  have c3 : ¬ 8 < size := by omega
  have c4 : ¬ seed < 1 := by omega
  have c5 : ¬ 10000 < seed := by omega
  clear h1 h2 h3 h4 h5 h6
  by_cases c : (s.size : Int) = size
  · have hne : ((s.size : Int) == size) = true := by rw [beq_iff_eq]; exact c
    rw [if_pos c]
    clear c
    go_enter Tryd.func15, Tryd.ntmps15
    go_wp2
    go_ret
    exact ⟨rfl, (Below.refl _ _).alloc (Nat.le_refl _) _⟩
  · have hne : ((s.size : Int) == size) = false := by rw [beq_eq_false_iff_ne]; exact c
    rw [if_neg c]
    clear c
    go_enter Tryd.func15, Tryd.ntmps15
    go_wp2
    go_ret
    exact ⟨rfl, (Below.refl _ _).alloc (Nat.le_refl _) _⟩
theorem rdrop_any (k size seed : Int) (s : ByteArray) (w : World) :
    Calls Tryd.prog 15 #[.int .i64 k, .int .i64 size, dropV seed s] w fun e w' => e = .returned (.int .i64 (fD k size seed s.size)) ∧ Below w.heap.size w w' := by
  unfold fD
  by_cases h : OkD k size seed
  · rw [if_pos h]; exact rdrop_size k size seed s w h
  · rw [if_neg h]; exact rdrop_range k size seed s w h
theorem dcheck_any (k size seed : Int) (s : ByteArray) (w : World) :
    Calls Tryd.prog 19 #[.int .i64 k, .int .i64 size, dropV seed s] w fun e w' => ∃ err, e = .returned err ∧ ErrIs (fD k size seed s.size) err ∧ Below w.heap.size w w' := by
  unfold fD
  by_cases h : OkD k size seed
  · rw [if_pos h]
    by_cases c : (s.size : Int) = size
    · rw [if_pos c]; exact (dcheck_ok k size seed s w h.1 h.2.1 h.2.2 c).mono fun e w' ⟨he, hb⟩ => ⟨_, he, Or.inl ⟨rfl, rfl⟩, hb⟩
    · rw [if_neg c]; exact (dcheck_shape k size seed s w h.1 h.2.1 h.2.2 c).mono fun e w' ⟨he, hb⟩ => ⟨_, he, Or.inr rfl, hb⟩
  · rw [if_neg h]; exact (dcheck_range k size seed s w h).mono fun e w' ⟨he, hb⟩ => ⟨_, he, Or.inr rfl, hb⟩
end Go.Proofs.YtopibfbpecjgbaaDoor

namespace Go.Proofs.YtopibfbpecjgbaaDoor
open Go.RowKit Go.Maps
set_option linter.unusedVariables false
set_option maxRecDepth 100000

/-- A slice that holds just the numbers of the list l, or an empty one. -/
def Lsh (w : World) (v : Value) (l : List Nat) : Prop := ∃ a cap, v = .slice a l.length cap ∧ l.length ≤ cap ∧ cap ≤ maxLen ∧ (0 < l.length → Lst w v l)
theorem own_lsh {w : World} {B : Nat} {v : Value} {l : List Nat} (h : w.ownsRow B 3 1 v l.length (toV l)) : Lsh w v l := by
  rcases Nat.eq_zero_or_pos l.length with e | h0
  · rcases h.2 with ⟨hv, _⟩ | ⟨g, cap, cur, hv, _, _, h1, h2, _⟩
    · exact ⟨none, 0, by rw [e]; exact hv, by omega, by omega, fun h => by omega⟩
    · exact ⟨_, cap, hv, h1, h2, fun h => by omega⟩
  · obtain ⟨g, cap, hv, h1, h2, h3⟩ := own_lst h h0
    exact ⟨_, cap, hv, h1, h2, fun _ => ⟨g, cap, hv, h1, h2, h3⟩⟩
theorem Lsh.below {w w' : World} {v : Value} {l : List Nat} (h : Lsh w v l) (hb : Below w.heap.size w w') : Lsh w' v l := by
  obtain ⟨a, cap, hv, h1, h2, h3⟩ := h
  exact ⟨a, cap, hv, h1, h2, fun h0 => (h3 h0).below hb⟩

/-- A Peeler of dropref1's in block b: what it knows; its two slices. -/
structure RPb (w : World) (b k : Nat) (kn : Nat → Bool) (B : Nat → ByteArray) (vL vT : Value) : Prop where
  kk : w.cell? ⟨b, 0, none⟩ = some (.int .i64 k)
  known : ∀ r, r < 16 → w.cell? ⟨b, 1 + r, none⟩ = some (.bool (kn r)) ∧ w.frozen? ⟨b, 1 + r, none⟩ = false
  blocks : ∀ r, r < 16 → w.cell? ⟨b, 17 + r, none⟩ = some (.string (B r)) ∧ w.frozen? ⟨b, 17 + r, none⟩ = false
  waits : w.cell? ⟨b, 33, none⟩ = some vL ∧ w.frozen? ⟨b, 33, none⟩ = false
  taken : w.cell? ⟨b, 34, none⟩ = some vT ∧ w.frozen? ⟨b, 34, none⟩ = false
theorem RPb.lt {w : World} {b k : Nat} {kn : Nat → Bool} {B : Nat → ByteArray} {vL vT : Value} (h : RPb w b k kn B vL vT) : b < w.heap.size := cell_lt h.kk
theorem RPb.of_block {w w' : World} {b k : Nat} {kn : Nat → Bool} {B : Nat → ByteArray} {vL vT : Value} (h : RPb w b k kn B vL vT) (hb : w'.heap[b]? = w.heap[b]?) : RPb w' b k kn B vL vT := by
  have hc : ∀ i, w'.cell? ⟨b, i, none⟩ = w.cell? ⟨b, i, none⟩ := fun i => World.cell?_of_block (w := w) hb
  have hf : ∀ i, w'.frozen? ⟨b, i, none⟩ = w.frozen? ⟨b, i, none⟩ := fun i => World.frozen?_of_block (w := w) hb
  refine ⟨by rw [hc]; exact h.kk, fun r hr => ?_, fun r hr => ?_, ?_, ?_⟩
  · rw [hc, hf]; exact h.known r hr
  · rw [hc, hf]; exact h.blocks r hr
  · rw [hc, hf]; exact h.waits
  · rw [hc, hf]; exact h.taken
theorem RPb.below {w w' : World} {b k : Nat} {kn : Nat → Bool} {B : Nat → ByteArray} {vL vT : Value} (h : RPb w b k kn B vL vT) (hb : Below w.heap.size w w') : RPb w' b k kn B vL vT := h.of_block (hb.block b h.lt)

theorem filt_snoc {s : List Nat} {p : Nat → Bool} {j : Nat} (h : j < s.length) : (s.take (j + 1)).filter p = (s.take j).filter p ++ if p (s.getD j 0) then [s.getD j 0] else [] := by
  have e : s.take (j + 1) = s.take j ++ [s.getD j 0] := by rw [List.take_add_one]; simp [List.getD, h]
  rw [e, List.filter_append]
  generalize s.getD j 0 = x
  congr 1
  by_cases c : p x = true
  · rw [List.filter_cons_of_pos c, if_pos c]; rfl
  · rw [List.filter_cons_of_neg c, if_neg c]; rfl

set_option maxHeartbeats 2000000 in
theorem rleft_ok (b k seed : Nat) (kn : Nat → Bool) (B : Nat → ByteArray) (vL vT : Value) (data : ByteArray) (w : World) (hk : 1 ≤ k) (hk2 : k ≤ 16) (h1 : 1 ≤ seed) (h2 : seed ≤ 10000) (hp : RPb w b k kn B vL vT) :
    Calls Tryd.prog 29 #[.pointer (some ⟨b, 0, none⟩), dropV seed data] w fun e w' => ∃ v, e = .returned v ∧ Lsh w' v (lft (setL k) kn (seed, data)) ∧ Below w.heap.size w w' ∧ ∀ i, v.ownBlock = some i → w.heap.size ≤ i := by
  have HP := hide hp
  have hb0 : Below w.heap.size w (w.alloc (.cells #[.int .i64 seed, .string data] 32)) := (Below.refl _ _).alloc (Nat.le_refl _) _
  have ck := cell_below hb0 hp.kk
  have cs := (dropIn_new w seed data).1.1
  have HB0 := hide hb0
  have RS := hide (fun w1 => rset_ok k seed w1 hk hk2 h1 h2)
  have HSL : Hid (∀ r ∈ setL k seed, r < k) := fun r hr => setL_lt hk h1 hr
  have hsl := (setL_len hk hk2 h1 h2).2
  obtain ⟨i0, hi, hz0, hz1, hz2⟩ := info_parts Tryd.infoInt
  have Hi := hide hi
  have Hz0 := hide hz0
  have Hz1 := hide hz1
  have Hz2 := hide hz2
  clear hp hb0 hi hz0 hz1 hz2
  unfold dropV
  show Calls _ _ _ _ fun e w' => ∃ v, e = .returned v ∧ Lsh w' v ((setL k seed).filter fun r => !kn r) ∧ Below w.heap.size w w' ∧ ∀ i, v.ownBlock = some i → w.heap.size ≤ i
  generalize setL k seed = l at *
  go_enter Tryd.func29, Tryd.ntmps29
  go_wp2_with fail
  go_region_held3 (fun w' => w'.cell? ⟨b, 0, none⟩ = some (.int .i64 k) ∧ w'.cell? ⟨w.heap.size, 0, none⟩ = some (.int .i64 seed)) (first | go_keep | exact ⟨cell_below hb1 ck, cell_below hb1 cs⟩)
    (first | (go_at_call 30; refine (RS.out _).mono ?_; rintro e w1 ⟨vs, rfl, hl, hb1⟩))
  obtain ⟨g, cap, rfl, hc1, hc2, hc⟩ := hl
  have hb1' : Below w.heap.size w w1 := below_two HB0.out ⟨hb1.os, hb1.tape, hb1.output, hb1.size, hb1.block⟩
  have HB1 := hide hb1'
  have HC := hide hc
  unfold maxLen at hc2
  clear hb1 hb1' hc ck cs RS
  go_wp2_with fail
  go_loopw [5, 7] (fun v i wr => ∃ j : Nat, j ≤ l.length ∧ i = .int .i64 j ∧ wr.ownsRow w1.heap.size 3 1 v ((l.take j).filter fun r => !kn r).length (toV ((l.take j).filter fun r => !kn r)) ∧ Below w1.heap.size w1 wr) (fun _ i _ => l.length - (intOf i).toNat)
  case atStart => exact ⟨0, Nat.zero_le _, rfl, World.ownsRow_nil _ _ _ _, Below.refl _ _⟩
  case round =>
    obtain ⟨j, hj, rfl, hA, hb⟩ := hrel
    have hbs := hb.size
    have hlj : ((l.take j).filter fun r => !kn r).length ≤ j := Nat.le_trans (List.length_filter_le _ _) (by rw [List.length_take]; omega)
    by_cases hlt : j < l.length
    · have hcj := cell_below hb (HC.out j hlt)
      have hlr : l.getD j 0 < k := HSL.out _ (by rw [show l.getD j 0 = l[j] by simp [List.getD, hlt]]; exact List.getElem_mem hlt)
      have hkn := cell_below hb (cell_below HB1.out (HP.out.known (l.getD j 0) (by omega)).1)
      have HF := hide (filt_snoc (p := fun r => !kn r) hlt)
      have HA := hide hA
      have HBw := hide hb
      have hlen : l.length ≤ 16 := by omega
      simp only [Nat.zero_add] at hcj
      clear hA hb
      generalize l.getD j 0 = x at *
      generalize ((l.take j).filter fun r => !kn r) = F at *
      cases hx : kn x with
      | true =>
        rw [hx] at hkn
        have HX := hide hx
        clear hx
        go_wp2_with fail
        go_quiet (fail)
        go_wp2_with fail
        go_roundw
        case rel =>
          refine ⟨j + 1, by omega, by go_num, ?_, below_drewN HBw.out _⟩
          rw [HF.out, HX.out]
          simp only [Bool.not_true, Bool.false_eq_true, if_false, List.append_nil]
          exact HA.out
        case measure => simp [intOf]; omega
      | false =>
        rw [hx] at hkn
        have HX := hide hx
        clear hx
        go_wp2_with fail
        go_quiet (fail)
        have hA2 : (wr.drewN nq).ownsRow w1.heap.size 3 1 u5 F.length (toV F) := HA.out
        have hb2 := below_drewN HBw.out nq
        have hcj2 : (wr.drewN nq).cell? ⟨g, j, none⟩ = some (.int .i64 (x : Nat)) := hcj
        have hbs2 := hb2.size
        clear hcj hkn hbs
        generalize wr.drewN nq = w2 at *
        go_wp2_with (first | (at_builtin; refine wpList_append_own _ rfl _ _ 23 rfl w1.heap.size 3 i0 (.int .i64 0) 1 8 Tryd.underlying23 Hi.out Hz0.out Hz1.out Hz2.out rfl (by decide) _ _ _ rfl (hA2.alloc _) ⟨w2.heap.size, 0, none⟩ 1 1 [.int .i64 (x : Nat)] rfl rfl (cell_one_new _ _ _) (fun x hx => by simp at hx; subst hx; rfl) (by unfold maxLen; omega) (by omega) (by simp; omega) ?_; intro v3 w3 hown3 hgrow3 hnil3) | go_in)
        go_roundw
        case rel =>
          have R : j + 1 ≤ l.length ∧ Value.int .i64 ((j : Int) + 1) = .int .i64 ((j + 1 : Nat) : Int) ∧ w3.ownsRow w1.heap.size 3 1 v3 ((l.take (j + 1)).filter fun r => !kn r).length (toV ((l.take (j + 1)).filter fun r => !kn r)) ∧ Below w1.heap.size w1 w3 := by
            refine ⟨by omega, by simp, ?_, (hb2.alloc hbs2 _).grown hgrow3 (by simp; omega) (fun q hq => (hA2.lt q hq).1)⟩
            rw [HF.out, HX.out]
            simp only [Bool.not_false, if_true, List.length_append, List.length_singleton]
            rw [show toV (F ++ [x]) = toV F ++ [.int .i64 (x : Nat)] by simp [toV]]
            exact hown3
          first
            | exact ⟨j + 1, R⟩
            | ((repeat apply Exists.intro); exact ⟨⟨j + 1, R⟩, rfl⟩)
        case measure => simp [intOf]; omega
    · obtain rfl : j = l.length := by omega
      rw [List.take_length] at hA
      have HLs := hide (own_lsh hA)
      have HFr : Hid (∀ i, u5.ownBlock = some i → w.heap.size ≤ i) := fun i hi => Nat.le_trans HB1.out.size (hA.lt i hi).1
      have HBw := hide (below_two HB1.out hb)
      clear hA hb
      go_wp2
      go_ret
      exact ⟨_, rfl, HLs.out, HBw.out, HFr.out⟩
end Go.Proofs.YtopibfbpecjgbaaDoor

namespace Go.Proofs.YtopibfbpecjgbaaDoor
open Go.RowKit Go.Maps
set_option linter.unusedVariables false
set_option maxRecDepth 100000

/-- Drops as a slice holds them. -/
def dC (L : List Drp) : List Value := L.flatMap fun d => [.int .i64 (d.1 : Nat), .string d.2]
theorem dC_snoc (L : List Drp) (d : Drp) : dC (L ++ [d]) = dC L ++ [.int .i64 (d.1 : Nat), .string d.2] := by simp [dC]
theorem Tryd.infoDrop : (Tryd.prog.info? 32).map (fun i => (i.zero, i.size, i.bytes)) = some (some (.agg #[.int .i64 0, .string ⟨#[]⟩]), 2, 24) := by kernel_rfl

/-- What is below w's size is as it was, but for the blocks of M. -/
structure Kept (M : Nat → Prop) (w w' : World) : Prop where
  os : w'.os = w.os
  tape : w'.tape = w.tape
  output : w'.output = w.output
  size : w.heap.size ≤ w'.heap.size
  block : ∀ i, i < w.heap.size → ¬ M i → w'.heap[i]? = w.heap[i]?
theorem Kept.refl (M : Nat → Prop) (w : World) : Kept M w w := ⟨rfl, rfl, rfl, Nat.le_refl _, fun _ _ _ => rfl⟩
theorem Kept.below {M : Nat → Prop} {w0 w w' : World} (h : Kept M w0 w) (hb : Below w.heap.size w w') : Kept M w0 w' :=
  ⟨hb.os.trans h.os, hb.tape.trans h.tape, hb.output.trans h.output, Nat.le_trans h.size hb.size, fun i hi hm => (hb.block i (Nat.lt_of_lt_of_le hi h.size)).trans (h.block i hi hm)⟩
theorem Kept.grown {M : Nat → Prop} {w0 w w' : World} (h : Kept M w0 w) {row : Option Nat} (hg : w.grownBy w' row) (hr : ∀ i, row = some i → M i ∨ w0.heap.size ≤ i) : Kept M w0 w' := by
  have hb : Below 0 w w' := (Below.refl 0 w).grown hg (Nat.zero_le _) (fun _ _ => Nat.zero_le _)
  refine ⟨hb.os.trans h.os, hb.tape.trans h.tape, hb.output.trans h.output, Nat.le_trans h.size hb.size, fun i hi hm => ?_⟩
  refine (hg.block i (Nat.lt_of_lt_of_le hi h.size) (fun e => ?_)).trans (h.block i hi hm)
  rcases hr i e.symm with h1 | h1
  · exact hm h1
  · omega
theorem Kept.setCell {M : Nat → Prop} {w0 w : World} (h : Kept M w0 w) (a : Addr) (u : Value) (hr : M a.block ∨ w0.heap.size ≤ a.block) : Kept M w0 (w.setCell a u) := by
  have hb : Below 0 w (w.setCell a u) := (Below.refl 0 w).setCell (Nat.zero_le _) _
  refine ⟨hb.os.trans h.os, hb.tape.trans h.tape, hb.output.trans h.output, Nat.le_trans h.size hb.size, fun i hi hm => ?_⟩
  refine (Below.heap_setCell w a u i (fun e => ?_)).trans (h.block i hi hm)
  rcases hr with h1 | h1
  · exact hm (e ▸ h1)
  · omega

theorem own_under' {w w' : World} {B e size n : Nat} {v : Value} {xs : List Value} (h : w.ownsRow B e size v n xs) (hb : Below w.heap.size w w') : w'.ownsRow B e size v n xs := by
  refine ⟨h.1, ?_⟩
  rcases h.2 with hn | ⟨g, cap, cur, hv, h1, hgg, rest⟩
  · exact .inl hn
  · exact .inr ⟨g, cap, cur, hv, h1, (hb.block g (Array.getElem?_eq_some_iff.1 hgg).1).trans hgg, rest⟩
theorem off_ne {b i j : Nat} (h : i ≠ j) : (⟨b, i, none⟩ : Addr) ≠ ⟨b, j, none⟩ := fun e => h (by injection e)
theorem cell_set_off {w : World} {b i j : Nat} {u : Value} (h : i ≠ j) : (w.setCell ⟨b, i, none⟩ u).cell? ⟨b, j, none⟩ = w.cell? ⟨b, j, none⟩ := World.cell?_setCell_other _ _ _ _ (off_ne h)
theorem frozen_set {w : World} {a c : Addr} {u : Value} : (w.setCell a u).frozen? c = w.frozen? c := World.frozen?_setCell _ _ _ _
theorem RPb.setL {w : World} {b k : Nat} {kn : Nat → Bool} {B : Nat → ByteArray} {vL vT : Value} (h : RPb w b k kn B vL vT) (v : Value) : RPb (w.setCell ⟨b, 33, none⟩ v) b k kn B v vT := by
  refine ⟨by rw [cell_set_off (by decide)]; exact h.kk, fun r hr => ?_, fun r hr => ?_, ?_, ?_⟩
  · rw [cell_set_off (by omega), frozen_set]; exact h.known r hr
  · rw [cell_set_off (by omega), frozen_set]; exact h.blocks r hr
  · rw [frozen_set]; exact ⟨World.cell?_setCell_same _ _ _ h.waits.1, h.waits.2⟩
  · rw [cell_set_off (by decide), frozen_set]; exact h.taken
theorem RPb.setT {w : World} {b k : Nat} {kn : Nat → Bool} {B : Nat → ByteArray} {vL vT : Value} (h : RPb w b k kn B vL vT) (v : Value) : RPb (w.setCell ⟨b, 34, none⟩ v) b k kn B vL v := by
  refine ⟨by rw [cell_set_off (by decide)]; exact h.kk, fun r hr => ?_, fun r hr => ?_, ?_, ?_⟩
  · rw [cell_set_off (by omega), frozen_set]; exact h.known r hr
  · rw [cell_set_off (by omega), frozen_set]; exact h.blocks r hr
  · rw [cell_set_off (by decide), frozen_set]; exact h.waits
  · rw [frozen_set]; exact ⟨World.cell?_setCell_same _ _ _ h.taken.1, h.taken.2⟩
theorem RPb.setKnown {w : World} {b k : Nat} {kn : Nat → Bool} {B : Nat → ByteArray} {vL vT : Value} (h : RPb w b k kn B vL vT) {x : Nat} (hx : x < 16) : RPb (w.setCell ⟨b, 1 + x, none⟩ (.bool true)) b k (upd kn x true) B vL vT := by
  refine ⟨by rw [cell_set_off (by omega)]; exact h.kk, fun r hr => ?_, fun r hr => ?_, ?_, ?_⟩
  · rw [frozen_set]
    refine ⟨?_, (h.known r hr).2⟩
    by_cases c : r = x
    · subst c
      rw [World.cell?_setCell_same _ _ _ (h.known r hr).1]; simp [upd]
    · rw [cell_set_off (by omega), (h.known r hr).1]; simp [upd, c]
  · rw [cell_set_off (by omega), frozen_set]; exact h.blocks r hr
  · rw [cell_set_off (by omega), frozen_set]; exact h.waits
  · rw [cell_set_off (by omega), frozen_set]; exact h.taken
theorem RPb.setBlock {w : World} {b k : Nat} {kn : Nat → Bool} {B : Nat → ByteArray} {vL vT : Value} (h : RPb w b k kn B vL vT) {x : Nat} (hx : x < 16) (s : ByteArray) : RPb (w.setCell ⟨b, 17 + x, none⟩ (.string s)) b k kn (upd B x s) vL vT := by
  refine ⟨by rw [cell_set_off (by omega)]; exact h.kk, fun r hr => ?_, fun r hr => ?_, ?_, ?_⟩
  · rw [cell_set_off (by omega), frozen_set]; exact h.known r hr
  · rw [frozen_set]
    refine ⟨?_, (h.blocks r hr).2⟩
    by_cases c : r = x
    · subst c
      rw [World.cell?_setCell_same _ _ _ (h.blocks r hr).1]; simp [upd]
    · rw [cell_set_off (by omega), (h.blocks r hr).1]; simp [upd, c]
  · rw [cell_set_off (by omega), frozen_set]; exact h.waits
  · rw [cell_set_off (by omega), frozen_set]; exact h.taken
theorem own_set {w : World} {B e size n : Nat} {v u : Value} {xs : List Value} {a : Addr} (h : w.ownsRow B e size v n xs) (hne : v.ownBlock ≠ some a.block) : (w.setCell a u).ownsRow B e size v n xs := by
  refine ⟨h.1, ?_⟩
  rcases h.2 with hn | ⟨g, cap, cur, hv, h1, hgg, rest⟩
  · exact .inl hn
  · refine .inr ⟨g, cap, cur, hv, h1, ?_, rest⟩
    rw [Below.heap_setCell w a u g (fun e => hne (by rw [hv, ← e]; rfl))]
    exact hgg

theorem DropIn.of_block {w w' : World} {b : Nat} {seed : Int} {s : ByteArray} (h : DropIn w b seed s) (hb : w'.heap[b]? = w.heap[b]?) : DropIn w' b seed s := by
  have hc : ∀ i, w'.cell? ⟨b, i, none⟩ = w.cell? ⟨b, i, none⟩ := fun i => World.cell?_of_block (w := w) hb
  have hf : ∀ i, w'.frozen? ⟨b, i, none⟩ = w.frozen? ⟨b, i, none⟩ := fun i => World.frozen?_of_block (w := w) hb
  unfold DropIn
  rw [hc, hf, hc, hf]
  exact h

/-- dropref1's Peeler, its state, its two rows; and what of w0 has turned. -/
structure RSt (M : Nat → Prop) (w0 w : World) (base b k : Nat) (p : PS) (T : List Nat) (vL vT : Value) : Prop where
  blk : RPb w b k p.known p.B vL vT
  ownL : w.ownsRow base 32 2 vL p.L.length (dC p.L)
  ownT : w.ownsRow base 3 1 vT T.length (toV T)
  apL : vL.ownBlock ≠ some b
  apT : vT.ownBlock ≠ some b
  apLT : Apart vL vT
  inL : ∀ i, vL.ownBlock = some i → M i ∨ w0.heap.size ≤ i
  inT : ∀ i, vT.ownBlock = some i → M i ∨ w0.heap.size ≤ i
  inB : M b
  kept : Kept M w0 w
theorem RSt.below {M : Nat → Prop} {w0 w w' : World} {base b k : Nat} {p : PS} {T : List Nat} {vL vT : Value} (h : RSt M w0 w base b k p T vL vT) (hb : Below w.heap.size w w') : RSt M w0 w' base b k p T vL vT :=
  ⟨h.blk.below hb, own_under' h.ownL hb, own_under' h.ownT hb, h.apL, h.apT, h.apLT, h.inL, h.inT, h.inB, h.kept.below hb⟩
/-- A new row of waiting ones is stored. -/
theorem RSt.storeL {M : Nat → Prop} {w0 w w1 : World} {base b k : Nat} {p : PS} {T : List Nat} {vL vT : Value} (h : RSt M w0 w base b k p T vL vT) {row : Option Nat} (hg : w.grownBy w1 row) (hrow : row = none ∨ row = vL.ownBlock) {v : Value} {L : List Drp} (hv : w1.ownsRow base 32 2 v L.length (dC L))
    (hat : v.ownBlock = none ∨ v.ownBlock = vL.ownBlock ∨ ∃ i, v.ownBlock = some i ∧ w.heap.size ≤ i) : RSt M w0 (w1.setCell ⟨b, 33, none⟩ v) base b k ⟨p.known, p.B, L⟩ T v vT := by
  have hrb : row ≠ some b := by
    rcases hrow with e | e
    · rw [e]; simp
    · rw [e]; exact h.apL
  have hrT : vT.ownBlock = none ∨ vT.ownBlock ≠ row := by
    rcases hrow with e | e
    · rw [e]; cases vT.ownBlock with
      | none => exact Or.inl rfl
      | some _ => exact Or.inr (by simp)
    · rw [e]; exact h.apLT.kept
  have hbl : w1.heap[b]? = w.heap[b]? := hg.block b h.blk.lt (fun e => hrb e.symm)
  have hsz : w.heap.size ≤ w1.heap.size := hg.size
  have hnb : v.ownBlock ≠ some b := by
    rcases hat with e | e | ⟨i, e, hi⟩
    · rw [e]; simp
    · rw [e]; exact h.apL
    · rw [e]; intro e2; cases e2; have := h.blk.lt; omega
  have hT1 := h.ownT.kept hg hrT
  refine ⟨(h.blk.of_block hbl).setL v, own_set hv hnb, own_set hT1 h.apT, hnb, h.apT, ?_, ?_, h.inT, h.inB, ?_⟩
  · rcases hat with e | e | ⟨i, e, hi⟩
    · exact Or.inl e
    · unfold Apart; rw [e]; exact h.apLT
    · refine Or.inr (Or.inr fun e2 => ?_)
      rw [e] at e2
      have := (h.ownT.lt i e2.symm).2
      omega
  · intro j hj
    rcases hat with e | e | ⟨i, e, hi⟩
    · rw [e] at hj; cases hj
    · rw [e] at hj; exact h.inL j hj
    · rw [e] at hj; cases hj; exact Or.inr (Nat.le_trans h.kept.size hi)
  · refine (h.kept.grown hg fun i e => ?_).setCell _ _ (Or.inl h.inB)
    rcases hrow with e2 | e2
    · rw [e2] at e; cases e
    · rw [e2] at e; exact h.inL i e
theorem RSt.storeT {M : Nat → Prop} {w0 w w1 : World} {base b k : Nat} {p : PS} {T : List Nat} {vL vT : Value} (h : RSt M w0 w base b k p T vL vT) (hg : w.grownBy w1 vT.ownBlock) {v : Value} {T' : List Nat} (hv : w1.ownsRow base 3 1 v T'.length (toV T'))
    (hat : v.ownBlock = vT.ownBlock ∨ ∃ i, v.ownBlock = some i ∧ w.heap.size ≤ i) : RSt M w0 (w1.setCell ⟨b, 34, none⟩ v) base b k p T' vL v := by
  have hrL : vL.ownBlock = none ∨ vL.ownBlock ≠ vT.ownBlock := h.apLT.symm.kept
  have hbl : w1.heap[b]? = w.heap[b]? := hg.block b h.blk.lt (fun e => h.apT e.symm)
  have hnb : v.ownBlock ≠ some b := by
    rcases hat with e | ⟨i, e, hi⟩
    · rw [e]; exact h.apT
    · rw [e]; intro e2; cases e2; have := h.blk.lt; omega
  have hL1 := h.ownL.kept hg hrL
  refine ⟨(h.blk.of_block hbl).setT v, own_set hL1 h.apL, own_set hv hnb, h.apL, hnb, ?_, h.inL, ?_, h.inB, ?_⟩
  · rcases hat with e | ⟨i, e, hi⟩
    · unfold Apart; rw [e]; exact h.apLT
    · refine Or.inr (Or.inr fun e2 => ?_)
      rw [e] at e2
      have := (h.ownL.lt i e2).2
      omega
  · intro j hj
    rcases hat with e | ⟨i, e, hi⟩
    · rw [e] at hj; exact h.inT j hj
    · rw [e] at hj; cases hj; exact Or.inr (Nat.le_trans h.kept.size hi)
  · exact (h.kept.grown hg fun i e => h.inT i e).setCell _ _ (Or.inl h.inB)
/-- A block has come to be known. -/
theorem RSt.tell {M : Nat → Prop} {w0 w : World} {base b k : Nat} {p : PS} {T : List Nat} {vL vT : Value} (h : RSt M w0 w base b k p T vL vT) {x : Nat} (hx : x < 16) (s : ByteArray) :
    RSt M w0 ((w.setCell ⟨b, 1 + x, none⟩ (.bool true)).setCell ⟨b, 17 + x, none⟩ (.string s)) base b k ⟨upd p.known x true, upd p.B x s, p.L⟩ T vL vT :=
  ⟨(h.blk.setKnown hx).setBlock hx s, own_set (own_set h.ownL h.apL) h.apL, own_set (own_set h.ownT h.apT) h.apT, h.apL, h.apT, h.apLT, h.inL, h.inT, h.inB, (h.kept.setCell _ _ (Or.inl h.inB)).setCell _ _ (Or.inl h.inB)⟩

/-- The drop at j. -/
def dAt (L : List Drp) (j : Nat) : Drp := L.getD j (0, ⟨#[]⟩)
theorem dAt_mem {L : List Drp} {j : Nat} (h : j < L.length) : dAt L j ∈ L := by
  unfold dAt; rw [show L.getD j (0, ⟨#[]⟩) = L[j] by simp [List.getD, h]]; exact List.getElem_mem h
theorem take_dAt {L : List Drp} {j : Nat} (h : j < L.length) : L.take (j + 1) = L.take j ++ [dAt L j] := by rw [List.take_add_one]; simp [dAt, List.getD, h]
theorem dC_at : ∀ (L : List Drp) (j : Nat), j < L.length → (dC L)[j * 2]? = some (.int .i64 ((dAt L j).1 : Nat)) ∧ (dC L)[j * 2 + 1]? = some (.string (dAt L j).2)
  | [], j, h => absurd h (Nat.not_lt_zero _)
  | d :: L, 0, _ => by simp [dC, dAt]
  | d :: L, j + 1, h => by
    have ih := dC_at L j (by simpa using h)
    have e : dC (d :: L) = [.int .i64 (d.1 : Nat), .string d.2] ++ dC L := by simp [dC]
    have e2 : dAt (d :: L) (j + 1) = dAt L j := by simp [dAt]
    rw [e, e2, show (j + 1) * 2 = 2 + j * 2 by omega, show 2 + j * 2 + 1 = 2 + (j * 2 + 1) by omega]
    rw [List.getElem?_append_right (by simp), List.getElem?_append_right (by simp)]
    simp only [List.length_cons, List.length_nil]
    rw [show 2 + j * 2 - (0 + 1 + 1) = j * 2 by omega, show 2 + (j * 2 + 1) - (0 + 1 + 1) = j * 2 + 1 by omega]
    exact ih
/-- Drops that are owned, opened. -/
theorem own_drops {w : World} {B : Nat} {v : Value} {L : List Drp} (h : w.ownsRow B 32 2 v L.length (dC L)) :
    ∃ a cap, v = .slice a L.length cap ∧ L.length ≤ cap ∧ cap ≤ maxLen ∧ (0 < L.length → ∃ g, a = some ⟨g, 0, none⟩) ∧ ∀ g, a = some ⟨g, 0, none⟩ → ∀ j, j < L.length → w.cell? ⟨g, j * 2, none⟩ = some (.int .i64 ((dAt L j).1 : Nat)) ∧ w.cell? ⟨g, j * 2 + 1, none⟩ = some (.string (dAt L j).2) := by
  have h' := h
  rcases h.2 with ⟨hv, h0⟩ | ⟨g, cap, cur, hv, _, hg, h1, h2, hcs, hcur⟩
  · exact ⟨none, 0, by rw [h0]; exact hv, by omega, by unfold maxLen; omega, fun h => by omega, fun g e => by cases e⟩
  · refine ⟨_, cap, hv, h1, h2, fun _ => ⟨g, rfl⟩, fun g' e j hj => ?_⟩
    cases e
    rw [hv] at h'
    rw [h'.cellAt (j * 2) (by omega), h'.cellAt (j * 2 + 1) (by omega)]
    exact dC_at L j hj
theorem sift_snoc {S : Nat → List Nat} {kn : Nat → Bool} {L : List Drp} {j : Nat} (h : j < L.length) : sift S kn (L.take (j + 1)) = sift S kn (L.take j) ++ if (lft S kn (dAt L j)).length = 0 then [] else [dAt L j] := by
  unfold sift
  rw [take_dAt h, List.filter_append]
  congr 1
  by_cases c : (lft S kn (dAt L j)).length = 0
  · rw [if_pos c, List.filter_cons_of_neg (by simp [c])]; rfl
  · rw [if_neg c, List.filter_cons_of_pos (by simpa using c)]; rfl
theorem sift_len {S : Nat → List Nat} {kn : Nat → Bool} (L : List Drp) : (sift S kn L).length ≤ L.length := List.length_filter_le _ _
/-- All is right: seeds, sizes. -/
def Good (z : Nat) (p : PS) : Prop := (∀ d ∈ p.L, 1 ≤ d.1 ∧ d.1 ≤ 10000 ∧ d.2.size = z) ∧ ∀ r, p.known r = true → (p.B r).size = z
theorem own_mono {w : World} {B B' e size n : Nat} {v : Value} {xs : List Value} (h : w.ownsRow B e size v n xs) (hb : B' ≤ B) : w.ownsRow B' e size v n xs :=
  ⟨h.1, h.2.imp id fun ⟨g, cap, cur, h1, h2, h3⟩ => ⟨g, cap, cur, h1, Nat.le_trans hb h2, h3⟩⟩
theorem below_grown {w w' : World} (h : Below w.heap.size w w') : w.grownBy w' none := ⟨h.os, h.tape, h.output, h.size, fun i hi _ => h.block i hi⟩
theorem Lst.set_far {w : World} {v : Value} {l : List Nat} (h : Lst w v l) {a : Addr} (hne : v.ownBlock ≠ some a.block) (u : Value) : Lst (w.setCell a u) v l := by
  obtain ⟨g, cap, hv, h1, h2, h3⟩ := h
  refine ⟨g, cap, hv, h1, h2, fun i hi => ?_⟩
  rw [World.cell?_setCell_other _ _ _ _ (fun e => hne (by rw [hv, e]; rfl))]
  exact h3 i hi
theorem Lsh.set_far {w : World} {v : Value} {l : List Nat} (h : Lsh w v l) {a : Addr} (hne : v.ownBlock ≠ some a.block) (u : Value) : Lsh (w.setCell a u) v l := by
  obtain ⟨b, cap, hv, h1, h2, h3⟩ := h
  exact ⟨b, cap, hv, h1, h2, fun h0 => (h3 h0).set_far hne u⟩
theorem find_first {L : List Drp} {P : Drp → Bool} : ∀ {j : Nat}, j < L.length → (∀ i, i < j → P (dAt L i) = false) → P (dAt L j) = true → L.find? P = some (dAt L j) := fun {j} hj h1 h2 => by
  induction L generalizing j with
  | nil => exact absurd hj (Nat.not_lt_zero _)
  | cons d L ih =>
    cases j with
    | zero =>
      have e : dAt (d :: L) 0 = d := by simp [dAt]
      rw [e] at h2 ⊢
      simp [List.find?, h2]
    | succ j =>
      have e : ∀ i, dAt (d :: L) (i + 1) = dAt L i := fun i => by simp [dAt]
      have h0 := h1 0 (by omega)
      have e0 : dAt (d :: L) 0 = d := by simp [dAt]
      rw [e0] at h0
      rw [e] at h2 ⊢
      simp only [List.find?, h0]
      exact ih (by simpa using hj) (fun i hi => by have := h1 (i + 1) (by omega); rwa [e] at this) h2
theorem find_none {L : List Drp} {P : Drp → Bool} (h : ∀ i, i < L.length → P (dAt L i) = false) : L.find? P = none := List.find?_eq_none.2 fun d hd => by
  obtain ⟨i, hi, rfl⟩ := List.getElem_of_mem hd
  have := h i hi
  rw [show dAt L i = L[i] by simp [dAt, List.getD, hi]] at this
  simp [this]
/-- One more has come. -/
theorem came_ins {k x : Nat} {kn kn' : Nat → Bool} (hx : x < k) (h1 : kn x = false) (h2 : kn' x = false) : ∃ A B, came k kn kn' = A ++ B ∧ came k kn (upd kn' x true) = A ++ x :: B ∧ (∀ a ∈ A, a < x) ∧ ∀ b ∈ B, x < b := by
  obtain ⟨B, hb1, hb2, hb3⟩ := filter_ins (fun r => kn' r && !kn r) x (by simp [h2]) k hx
  refine ⟨_, B, hb1, ?_, fun a ha => List.mem_range.1 (List.mem_filter.1 ha).1, hb3⟩
  rw [← hb2]
  refine List.filter_congr fun r _ => ?_
  by_cases c : r = x
  · subst c; simp [upd, h1]
  · have c' : ¬ x = r := fun e => c e.symm
    simp [upd, c, c']
theorem outB_snoc (B : Nat → ByteArray) (x r : Nat) (s : List Nat) (b : ByteArray) : outB B x (s ++ [r]) b = if r = x then outB B x s b else xorB (outB B x s b) (B r) := by unfold outB; rw [List.foldl_append]; rfl
theorem came_len16 (k : Nat) (kn kn' : Nat → Bool) : (came k kn kn').length ≤ k := Nat.le_trans (List.length_filter_le _ _) (by simp)
/-- One more is put. -/
theorem rput_came {k x : Nat} {kn kn' : Nat → Bool} {vo : Value} {w : World} (hk2 : k ≤ 16) (hx : x < k) (h1 : kn x = false) (h2 : kn' x = false) (hl : Lsh w vo (came k kn kn')) (hn : came k kn kn' = [] → vo = .slice none 0 0) :
    Calls Tryd.prog 32 #[vo, .int .i64 (x : Nat)] w fun e w' => ∃ v, e = .returned v ∧ Lst w' v (came k kn (upd kn' x true)) ∧ Below w.heap.size w w' ∧ ∀ i, v.ownBlock = some i → w.heap.size ≤ i := by
  obtain ⟨A, B, hA1, hA2, hA3, hA4⟩ := came_ins hx h1 h2
  have hc16 := came_len16 k kn kn'
  rw [hA2]
  by_cases c0 : came k kn kn' = []
  · rw [hn c0]
    have hAB : A = [] ∧ B = [] := List.append_eq_nil_iff.1 (by rw [← hA1]; exact c0)
    obtain ⟨rfl, rfl⟩ := hAB
    exact rput_nil x w (by omega)
  · have hpos : 0 < (came k kn kn').length := List.length_pos_iff.2 c0
    obtain ⟨a9, c9, hv9, h91, h92, h93⟩ := hl
    obtain ⟨g9, c9', hv9', h94, h95, h96⟩ := h93 hpos
    rw [hv9']
    exact rput_ok g9 c9' _ A B x w hA1 hpos (by omega) h94 h95 (by omega) h96 hA3 hA4
theorem came_some {k x : Nat} {kn kn' : Nat → Bool} (hx : x < k) (h1 : kn x = false) (h2 : kn' x = false) : came k kn (upd kn' x true) ≠ [] := by
  obtain ⟨A, B, hA1, hA2, hA3, hA4⟩ := came_ins hx h1 h2
  rw [hA2]; simp
end Go.Proofs.YtopibfbpecjgbaaDoor

namespace Go.Proofs.YtopibfbpecjgbaaDoor
open Go.RowKit Go.Maps
set_option linter.unusedVariables false
set_option maxRecDepth 100000

theorem knows_succ (kn : Nat → Bool) (j : Nat) : knows (j + 1) kn = knows j kn ++ if kn j then [j] else [] := by
  unfold knows
  rw [List.range_succ, List.filter_append]
  congr 1
  by_cases c : kn j = true
  · rw [List.filter_cons_of_pos c, if_pos c]; rfl
  · rw [List.filter_cons_of_neg c, if_neg c]; rfl
theorem knows_len (k : Nat) (kn : Nat → Bool) : (knows k kn).length ≤ k := Nat.le_trans (List.length_filter_le _ _) (by simp)

set_option maxHeartbeats 2000000 in
theorem rknows_ok (b k : Nat) (kn : Nat → Bool) (B : Nat → ByteArray) (vL vT : Value) (w : World) (hk2 : k ≤ 16) (hp : RPb w b k kn B vL vT) :
    Calls Tryd.prog 18 #[.pointer (some ⟨b, 0, none⟩)] w fun e w' => ∃ v, e = .returned v ∧ Lsh w' v (knows k kn) ∧ Below w.heap.size w w' := by
  have HP := hide hp
  clear hp
  obtain ⟨i0, hi, hz0, hz1, hz2⟩ := info_parts Tryd.infoInt
  have Hi := hide hi
  have Hz0 := hide hz0
  have Hz1 := hide hz1
  have Hz2 := hide hz2
  clear hi hz0 hz1 hz2
  go_enter Tryd.func18, Tryd.ntmps18
  go_wp2
  go_loopw [3, 4] (fun v i wr => ∃ j : Nat, j ≤ k ∧ i = .int .i64 j ∧ wr.ownsRow w.heap.size 3 1 v (knows j kn).length (toV (knows j kn)) ∧ Below w.heap.size w wr) (fun _ i _ => k - (intOf i).toNat)
  case atStart => exact ⟨0, Nat.zero_le _, rfl, World.ownsRow_nil _ _ _ _, Below.refl _ _⟩
  case round =>
    obtain ⟨j, hj, rfl, hA, hb⟩ := hrel
    have HA := hide hA
    have hbs := hb.size
    have hl := knows_len j kn
    have ck := (HP.out.below hb).kk
    clear hA
    by_cases hlt : j < k
    · have ckn := ((HP.out.below hb).known j (by omega)).1
      have HK := hide (knows_succ kn j)
      have hj0 : (0 : Int) ≤ (j : Int) := by omega
      have hj1 : (j : Int) < 16 := by omega
      have hjk : (j : Int) < (k : Int) := by omega
      generalize knows j kn = F at *
      cases hx : kn j with
      | true =>
        rw [hx] at ckn
        rw [Hid, hx, if_pos rfl] at HK
        have HK' := hide HK
        clear hx HK
        go_wp2_with (first | (at_builtin; refine wpList_append_own _ rfl _ _ 23 rfl w.heap.size 3 i0 (.int .i64 0) 1 8 Tryd.underlying23 Hi.out Hz0.out Hz1.out Hz2.out rfl (by decide) _ _ _ rfl (HA.out.alloc _) ⟨wr.heap.size, 0, none⟩ 1 1 [.int .i64 (j : Nat)] rfl rfl (cell_one_new _ _ _) (fun x hx => by simp at hx; subst hx; rfl) (by unfold maxLen; omega) (by omega) (by simp; omega) ?_; intro v3 w3 hown3 hgrow3 hnil3) | go_in)
        go_roundw
        case rel =>
          have R : j + 1 ≤ k ∧ Value.int .i64 ((j : Int) + 1) = .int .i64 ((j + 1 : Nat) : Int) ∧ w3.ownsRow w.heap.size 3 1 v3 (knows (j + 1) kn).length (toV (knows (j + 1) kn)) ∧ Below w.heap.size w w3 := by
            refine ⟨by omega, by simp, ?_, (hb.alloc hbs _).grown hgrow3 (by simp; omega) (fun q hq => (HA.out.lt q hq).1)⟩
            rw [HK'.out, List.length_append, show toV (F ++ [j]) = toV F ++ [.int .i64 (j : Nat)] by simp [toV]]
            exact hown3
          first
            | exact ⟨j + 1, R⟩
            | ((repeat apply Exists.intro); exact ⟨⟨j + 1, R⟩, rfl⟩)
        case measure => simp [intOf]; omega
      | false =>
        rw [hx] at ckn
        rw [Hid, hx] at HK
        simp only [Bool.false_eq_true, if_false, List.append_nil] at HK
        have HK' := hide HK
        clear hx HK
        go_wp2_with go_in
        go_roundw
        case rel => exact ⟨j + 1, by omega, by go_num, by rw [HK'.out]; exact HA.out, hb⟩
        case measure => simp [intOf]; omega
    · obtain rfl : j = k := by omega
      have hjk : ¬ (j : Int) < (j : Int) := by omega
      have HLs := hide (own_lsh HA.out)
      go_wp2
      go_ret
      exact ⟨_, rfl, HLs.out, hb⟩
end Go.Proofs.YtopibfbpecjgbaaDoor
