/-
  Our own contracts of the document's answers for mix (dropref1.Xor, Sum, In) over this seat's translation. Lemmas for the laws above; no statement is proved here.
-/
import Derived.Test.YtmmlcomfkikomaaDoorXorN
import Derived.Test.YtmmlcomfkikomaaDoorU8
import Derived.Deep.AppendLies
import Derived.Laws.BytesArg
import Derived.Deep.OwnRows
namespace Go.Proofs.YtmmlcomfkikomaaDoor
open Go.RowKit
set_option linter.unusedVariables false
set_option maxRecDepth 100000

theorem bit_step (X Y k : Nat) : (X ^^^ Y) % 2 ^ (k + 1) = (X ^^^ Y) % 2 ^ k + if X / 2 ^ k % 2 = Y / 2 ^ k % 2 then 0 else 2 ^ k := by
  rw [Nat.mod_pow_succ, ← Nat.toNat_testBit, Nat.testBit_xor, Nat.testBit_eq_decide_div_mod_eq, Nat.testBit_eq_decide_div_mod_eq]
  have hx := Nat.mod_two_eq_zero_or_one (X / 2 ^ k)
  have hy := Nat.mod_two_eq_zero_or_one (Y / 2 ^ k)
  rcases hx with hx | hx <;> rcases hy with hy | hy <;> simp [hx, hy]

theorem own_bytes {w : World} {B : Nat} {v : Value} {n : Nat} {f : Nat → UInt8} (h : w.ownsRow B 5 1 v n ((List.range n).map fun k : Nat => .int .u8 ((f k).toNat : Int))) (hn : 0 < n) :
    ∃ g cap, v = .slice (some ⟨g, 0, none⟩) n cap ∧ BRow w g n f := by
  have h' := h
  rcases h.2 with ⟨_, h0⟩ | ⟨g, cap, cur, hv, _, hg, h1, h2, hcs, hcur⟩
  · omega
  · rw [hv] at h'
    refine ⟨g, cap, hv, fun k hk => ⟨?_, h'.frozenAt k⟩⟩
    rw [h'.cellAt k (by omega)]
    simp [hk]

set_option maxHeartbeats 2000000 in
theorem rxor_ok (a b : ByteArray) (w : World) (ha : a.size ≤ 120) (h : b.size = a.size) :
    Calls Tryd.prog 14 #[.string a, .string b] w fun e w' => e = .returned (.string (xorB a b)) ∧ Below w.heap.size w w' := by
  obtain ⟨i0, hi, hz0, hzs, hzb⟩ := info_parts Tryd.infoU8
  have Hi := hide hi
  have Hz0 := hide hz0
  have Hzs := hide hzs
  have Hzb := hide hzb
  have HB := hide h
  clear hi hz0 hzs hzb h
  go_enter Tryd.func14, Tryd.ntmps14
  go_wp2
  go_loopw [5, 6, 7, 8, 9, 10, 11] (fun v i x y n p k wr => ∃ (j : Nat) (ao : Option Addr) (cv : Nat), j ≤ a.size ∧ i = .int .i64 j ∧ v = .slice ao j cv ∧ wr.ownsRow w.heap.size 5 1 v j ((List.range j).map fun k : Nat => .int .u8 ((atB a k ^^^ atB b k).toNat : Int)) ∧ Below w.heap.size w wr) (fun _ i _ _ _ _ _ _ => a.size - (intOf i).toNat)
  case atStart => exact ⟨0, none, 0, Nat.zero_le _, rfl, rfl, World.ownsRow_nil _ _ _ _, Below.refl _ _⟩
  case round =>
    obtain ⟨j, ao, cv, hj, rfl, rfl, hown, hb⟩ := hrel
    by_cases hlt : j < a.size
    · have hlb : j < b.size := by rw [HB.out]; exact hlt
      have HOwn := hide hown
      clear hown
      have hX := (a[j]).toNat_lt
      have hY := (b[j]).toNat_lt
      have hxy : Hid ((((a[j]).toNat ^^^ (b[j]).toNat : Nat)) = (atB a j ^^^ atB b j).toNat) := by
        unfold Hid; rw [atB_eq a j hlt, atB_eq b j hlb, UInt8.toNat_xor]
      go_wp2
      generalize (a[j]).toNat = X at *
      generalize (b[j]).toNat = Y at *
      go_loop [7, 8, 9, 10, 11] (fun x y n p k => ∃ q : Nat, q ≤ 8 ∧ k = .int .i64 q ∧ x = .int .i64 (X / 2 ^ q : Nat) ∧ y = .int .i64 (Y / 2 ^ q : Nat) ∧ n = .int .i64 ((X ^^^ Y) % 2 ^ q : Nat) ∧ p = .int .i64 (2 ^ q : Nat)) (fun _ _ _ _ k => 8 - (intOf k).toNat)
      case atStart => exact ⟨0, by decide, rfl, by simp, by simp, by simp [Nat.mod_one], rfl⟩
      case round =>
        obtain ⟨q, hq, rfl, rfl, rfl, rfl, rfl⟩ := hrel
        by_cases hq8 : q < 8
        · have hs := bit_step X Y q
          have e1 : X / 2 ^ (q + 1) = X / 2 ^ q / 2 := by rw [Nat.pow_succ, Nat.div_div_eq_div_mul]
          have e2 : Y / 2 ^ (q + 1) = Y / 2 ^ q / 2 := by rw [Nat.pow_succ, Nat.div_div_eq_div_mul]
          have e3 : 2 ^ (q + 1) = 2 * 2 ^ q := by rw [Nat.pow_succ, Nat.mul_comm]
          have l1 : X / 2 ^ q ≤ 255 := Nat.le_trans (Nat.div_le_self _ _) (by omega)
          have l2 : Y / 2 ^ q ≤ 255 := Nat.le_trans (Nat.div_le_self _ _) (by omega)
          have l3 : 2 ^ q ≤ 128 := Nat.pow_le_pow_right (n := 2) (by decide) (show q ≤ 7 by omega)
          have l4 : (X ^^^ Y) % 2 ^ q ≤ 128 := by
            have := Nat.mod_lt (X ^^^ Y) (show 2 ^ q > 0 from Nat.pow_pos (by decide))
            omega
          have E1 := hide e1
          have E2 := hide e2
          have E3 := hide e3
          have HS := hide hs
          clear e1 e2 e3 hs
          generalize X / 2 ^ q = xq at *
          generalize Y / 2 ^ q = yq at *
          generalize (X ^^^ Y) % 2 ^ q = nq at *
          generalize 2 ^ q = pq at *
          by_cases hxq : xq % 2 = yq % 2
          · have hne : ((xq : Int) % 2 != (yq : Int) % 2) = false := by
              have : (xq : Int) % 2 = (yq : Int) % 2 := by omega
              rw [this]; simp
            have HXQ := hide hxq
            clear hxq
            go_wp2
            go_round
            case rel => exact ⟨q + 1, by omega, by go_num, by rw [E1.out]; simp, by rw [E2.out]; simp, by rw [HS.out, if_pos HXQ.out, Nat.add_zero], by rw [E3.out]; simp⟩
            case measure => simp [intOf]; omega
          · have hne : ((xq : Int) % 2 != (yq : Int) % 2) = true := by rw [bne_iff_ne]; omega
            have HXQ := hide hxq
            clear hxq
            go_wp2
            go_round
            case rel => exact ⟨q + 1, by omega, by go_num, by rw [E1.out]; simp, by rw [E2.out]; simp, by rw [HS.out, if_neg HXQ.out]; simp, by rw [E3.out]; simp⟩
            case measure => simp [intOf]; omega
        · obtain rfl : q = 8 := by omega
          have hn8 : (X ^^^ Y) % 2 ^ 8 = (atB a j ^^^ atB b j).toNat := by
            rw [Nat.mod_eq_of_lt (Nat.xor_lt_two_pow (by omega) (by omega)), hxy.out]
          rw [hn8]
          have hU := (atB a j ^^^ atB b j).toNat_lt
          clear hn8 hxy
          generalize hu : atB a j ^^^ atB b j = u at *
          have HU := hide hu
          clear hu
          have hbs := hb.size
          go_wp2_with (at_builtin; refine wpList_append_lies _ rfl _ _ 55 rfl w.heap.size 5 i0 (.int .u8 0) 1 1 Tryd.underlying55 Hi.out Hz0.out Hzs.out Hzb.out rfl (by decide) _ _ _ rfl (HOwn.out.alloc _) ⟨wr.heap.size, 0, none⟩ 1 1 [.int .u8 (u.toNat : Int)] rfl rfl (cell_one_new _ _ _) (fun x hx => by simp at hx; subst hx; rfl) (by decide) (by unfold maxLen; omega) (by omega) (by simp; omega) _ rfl ?_; intro g3 cap3 w3 hown3 hgrow3 hat3 hlt3)
          go_roundw
          case rel =>
            have R : j + 1 ≤ a.size ∧ Value.int .i64 ((j : Int) + 1) = .int .i64 ((j + 1 : Nat) : Int) ∧ Value.slice (some ⟨g3, 0, none⟩) (j + 1) cap3 = .slice (some ⟨g3, 0, none⟩) (j + 1) cap3 ∧ w3.ownsRow w.heap.size 5 1 (.slice (some ⟨g3, 0, none⟩) (j + 1) cap3) (j + 1) ((List.range (j + 1)).map fun k : Nat => .int .u8 ((atB a k ^^^ atB b k).toNat : Int)) ∧ Below w.heap.size w w3 :=
              ⟨by omega, by simp, rfl, by rw [List.range_succ, List.map_append, List.map_singleton, HU.out]; exact hown3, (hb.alloc hbs _).grown hgrow3 (by simp; omega) (fun q hq => (HOwn.out.lt q hq).1)⟩
            first
              | exact ⟨j + 1, some ⟨g3, 0, none⟩, cap3, R⟩
              | ((repeat apply Exists.intro); exact ⟨⟨j + 1, some ⟨g3, 0, none⟩, cap3, R⟩, rfl⟩)
          case measure => simp [intOf]; omega
    · obtain rfl : j = a.size := by omega
      by_cases h0 : a.size = 0
      · have hx0 : ∀ f : Nat → UInt8, bytesB a.size f = ⟨#[]⟩ := fun f => by rw [h0]; rfl
        have HX : Hid (xorB a b = ⟨#[]⟩) := hx0 _
        rcases hown.2 with ⟨hv, _⟩ | ⟨g, cap, _, hv, _⟩
        · injection hv with e1 e2 e3
          subst e1 e3
          have hbk := run_convert_bytes_nil (P := Tryd.prog) wr 55 5 Tryd.underlying55 Tryd.underlying5 a.size 0 9 Tryd.underlying9
          have hbk0 := run_convert_bytes_nil (P := Tryd.prog) wr 55 5 Tryd.underlying55 Tryd.underlying5 0 0 9 Tryd.underlying9
          clear hown e2 h0 hx0
          go_wp2
          go_ret
          exact ⟨by rw [HX.out]; rfl, hb⟩
        · injection hv with e1 e2 e3
          subst e1 e3
          have hbk := back_row (cap := cv) (show BRow wr g a.size (fun _ => 0) from fun i hi => by omega)
          rw [hx0] at hbk
          clear hown e2 h0 hx0
          go_wp2
          go_ret
          exact ⟨by rw [HX.out]; rfl, hb⟩
      · obtain ⟨g, cap, hv, hr⟩ := own_bytes hown (by omega)
        injection hv with e1 e2 e3
        subst e1 e3
        have hbk := back_row (cap := cv) hr
        have HX : Hid (bytesB a.size (fun k => atB a k ^^^ atB b k) = xorB a b) := rfl
        clear hown e2 hr h0
        go_wp2
        go_ret
        exact ⟨rfl, hb⟩
end Go.Proofs.YtmmlcomfkikomaaDoor
