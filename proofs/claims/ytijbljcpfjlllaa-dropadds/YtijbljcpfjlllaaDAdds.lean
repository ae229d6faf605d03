/-
  Proved: 'dropletmill/droplaw1.DropAdds' returns true whatever two slices of strings and number it is handed, and all read behind the call as they did. No other conditions.
-/
import Derived.Test.YtijbljcpfjlllaaDropX
import Derived.Test.YtijbljcpfjlllaaFam
import Derived.Test.YtijbljcpfjlllaaTop
namespace Go.Proofs.Ytijbljcpfjlllaa
open Go.ChangeShapes Go.WideShapes Go.ChangeAt Go.RowKit Go.Maps
set_option linter.unusedVariables false
set_option maxRecDepth 100000

set_option maxHeartbeats 1000000 in
theorem adds_err (v v2 : Value) (seed : Int) (w : World) (x : Int)
    (hM : ∀ w1, Below w.heap.size w w1 → Calls Try.prog 6 #[v, .int .i64 seed] w1 fun e w' => e = .returned (.tuple #[dropV 0 ⟨#[]⟩, .iface 38 (.int .i64 x)]) ∧ Below w1.heap.size w1 w') :
    Calls Try.prog 3 #[v, v2, .int .i64 seed] w fun e w' => e = .returned (.bool true) ∧ Below w.heap.size w w' := by
  have M := hide hM
  have S := hide (set_one 7 3 (by decide) (by decide) (by decide))
  clear hM
  go_enter Try.func3, Try.ntmps3
  go_wp2_with fail
  refine (S.out _).mono ?_
  rintro e w1 ⟨p, cap, rfl, hc, hp1, hp2, hb1⟩
  have M2 := hide (M.out _ hb1)
  have HB1 := hide hb1
  clear hb1 M
  unfold maxLen at hp2
  simp only [Nat.add_zero] at hc
  go_wp2_with fail
  refine (M2.out).mono ?_
  rintro e w2 ⟨rfl, hb2⟩
  have HB2 := hide (below_two HB1.out hb2)
  clear hb2
  unfold dropV
  go_wp2
  go_ret
  exact ⟨rfl, HB2.out.alloc HB2.out.size _⟩

set_option maxHeartbeats 4000000 in
theorem adds_ok (b o len cap n : Nat) (g : Nat → ByteArray) (v2 : Value) (len2 : Nat) (g2 : Nat → ByteArray) (w : World) (hlc : len ≤ cap) (hcm : cap ≤ maxLen) (hB : Blks w b o len g) (h1 : 1 ≤ n) (h2 : n ≤ 10000) (hv2 : StrsAt w v2 len2 g2) :
    Calls Try.prog 3 #[.slice (some ⟨b, o, none⟩) len cap, v2, .int .i64 n] w fun e w' => e = .returned (.bool true) ∧ Below w.heap.size w w' := by
  have S := hide (set_one 7 3 (by decide) (by decide) (by decide))
  have M : Hid (∀ w1, Below w.heap.size w w1 → _) := hide (fun w1 hb => make_ok b o len cap g n w1 hB.pos hB.most (hB.below hb).cells hB.one hB.eight hB.same h1 h2)
  have S2 := hide (fun w1 => set_ok len n w1 hB.pos hB.most h1 h2)
  have C : Hid (∀ w1, _) := hide (fun w1 => dcheck_ok len (g 0).size n (dropB g len n) w1 ⟨by have := hB.pos; omega, by have := hB.most; omega⟩ ⟨by have := hB.one; omega, by have := hB.eight; omega⟩ ⟨by omega, by omega⟩ (by rw [dropB_size]))
  have HBk := hide hB
  have HV2 := hide hv2
  have h16 := hB.most
  have h0 := hB.pos
  unfold maxLen at hcm
  have HL := hide (setL_len h0 h16 h1 h2)
  have HG := hide (setL_good (k := len) (seed := n) h0 h1)
  have HR := hide (setL_rise len n)
  clear hB hv2
  obtain ⟨z, hz⟩ : ∃ z, z = dropB g len n := ⟨_, rfl⟩
  rw [← hz] at M C
  have HZ := hide hz
  clear hz
  generalize setL len n = l at *
  go_enter Try.func3, Try.ntmps3
  go_wp2_with fail
  refine (S.out _).mono ?_
  rintro e w1 ⟨p, cap1, rfl, hc, hp1, hp2, hb1⟩
  have M2 := hide (M.out _ hb1)
  have HB1 := hide hb1
  clear hb1 M
  unfold maxLen at hp2
  simp only [Nat.add_zero] at hc
  go_wp2_with fail
  refine (M2.out).mono ?_
  rintro e w2 ⟨rfl, hb2⟩
  have HB2 := hide ((below_two HB1.out hb2).alloc (below_two HB1.out hb2).size (.cells #[.int .i64 n, .string z] 29))
  clear hb2
  unfold dropV
  go_wp2_with fail
  refine (S2.out _).mono ?_
  rintro e w3 ⟨vs, rfl, hl, hb3⟩
  obtain ⟨q, cap3, rfl, hq1, hq2, hq⟩ := hl
  have HB3 := hide (below_two HB2.out hb3)
  obtain ⟨⟨x0, _⟩, x1, _⟩ := (dropIn_new w2 n z).below hb3
  have HQ := hide hq
  clear hb3 hq
  unfold maxLen at hq2
  have ha0 := cell_below HB3.out (HBk.out.cells 0 h0)
  simp only [Nat.add_zero, Nat.zero_add] at ha0 x1
  obtain ⟨ι, F, hF⟩ := fam_some w3
  have hne := hF.ne
  have HF := hide hF
  have fa0 := hF.cell ha0
  have fx0 := hF.cell x0
  have fx1 := hF.cell x1
  have hll1 := HL.out.1
  have hll2 := HL.out.2
  have d1 : decide ((l.length : Int) < 1) = false := by simp; omega
  have d2 : decide ((len : Int) < (l.length : Int)) = false := by simp; omega
  have d3 : decide (len < l.length) = false := by simp; omega
  clear hF
  go_wp2_with fail
  refine HF.out.region (by kernel_rfl) (by kernel_rfl) ?_
  repeat (go_big_quiet_step (exact HF.out.call (C.out _)))
  refine wpQuiet_nil ?_
  intro wq hw'
  obtain ⟨i1, hw''⟩ := hw'
  subst hw''
  have hb4 := HF.out.above i1
  have HB4 := hide (below_two HB3.out hb4)
  have HX := hide (show (F i1).cell? ⟨w2.heap.size, 1, none⟩ = some (.string z) from fx1 i1)
  have HQ4 := hide (fun j (hj : j < l.length) => cell_below hb4 (HQ.out j hj))
  clear fa0 fx0 fx1 hb4 d1 d2 d3
  generalize F i1 = w4 at *
  go_wp2_with fail
  go_loopw [13] (fun i wr => ∃ j : Nat, j ≤ l.length ∧ i = .int .i64 j ∧ Below w4.heap.size w4 wr) (fun i _ => l.length - (intOf i).toNat)
  case atStart => exact ⟨0, Nat.zero_le _, rfl, Below.refl _ _⟩
  case round =>
    obtain ⟨j, hj, rfl, hb⟩ := hrel
    by_cases hlt : j < l.length
    · have hcj := cell_below hb (HQ4.out j hlt)
      have hg := HG.out j hlt
      obtain ⟨⟨_, hgl⟩, hgn⟩ := hg
      have HRj := hide (fun i (hi : i < j) => List.pairwise_iff_getElem.1 HR.out i j (by omega) hlt hi)
      have ej : l.getD j 0 = l[j] := by simp [List.getD, hlt]
      have hgl' : l[j] < len := by
        have : ((l.getD j 0 : Nat) : Int) < (len : Int) := hgl
        rw [ej] at this; omega
      rw [ej] at hcj
      clear hgl hgn ej
      have hl16 : l.length ≤ 16 := by omega
      have e1 : decide (((l[j] : Nat) : Int) < 0) = false := by simp
      have e2 : decide ((len : Int) ≤ ((l[j] : Nat) : Int)) = false := by simp; omega
      have e3 : decide (len ≤ l[j]) = false := by simp; omega
      simp only [Nat.zero_add] at hcj
      by_cases h0j : j = 0
      · subst h0j
        generalize l[0] = pj at *
        go_wp2_with fail
        go_quiet (fail)
        go_wp2_with fail
        go_roundw
        case rel => exact ⟨1, by omega, by go_num, below_drewN hb _⟩
        case measure => simp [intOf]; omega
      · have hcp := cell_below hb (HQ4.out (j - 1) (by omega))
        have ep : l.getD (j - 1) 0 = l[j - 1] := by simp [List.getD, show j - 1 < l.length by omega]
        rw [ep] at hcp
        have hlt2 := HRj.out (j - 1) (by omega)
        clear ep HRj
        generalize l[j] = pj at *
        generalize l[j - 1] = pp at *
        obtain ⟨m, rfl⟩ : ∃ m, j = m + 1 := ⟨j - 1, by omega⟩
        simp only [Nat.add_sub_cancel, Nat.zero_add] at hcp
        have e4 : decide ((0 : Int) < (m : Int) + 1) = true := decide_eq_true (by omega)
        have e5 : decide ((pj : Int) ≤ (pp : Int)) = false := by simp; omega
        have e6 : decide (pj ≤ pp) = false := by simp; omega
        clear h0j
        go_wp2_with fail
        go_quiet (fail)
        go_wp2_with fail
        go_roundw
        case rel => exact ⟨m + 2, by omega, by go_num, below_drewN hb _⟩
        case measure => simp [intOf]; omega
    · have hjl : j = l.length := by omega
      subst hjl
      have HBr := hide (below_two HB4.out hb)
      have HXr := hide (cell_below hb HX.out)
      have M2w := hide (make_ways HV2.out (n : Int))
      clear hb HX
      rcases M2w.out with ⟨x, hx⟩ | ⟨b2, o2, cap2, n2, hvv, hlc2, hcm2, hB2, hn2, _, _, hM2⟩
      · have M3 := hide (hx wr HBr.out)
        clear hx M2w
        go_wp2_with fail
        refine (M3.out).mono ?_
        rintro e w5 ⟨rfl, hb5⟩
        have HB5 := hide ((below_two HBr.out hb5).alloc (below_two HBr.out hb5).size (.cells #[.int .i64 0, .string ⟨#[]⟩] 29))
        clear hb5
        unfold dropV
        go_wp2_with fail
        go_quiet (fail)
        go_wp2
        go_ret
        exact ⟨rfl, below_drewN HB5.out _⟩
      · subst hvv
        obtain rfl : n2 = n := by omega
        have M3 := hide (hM2 wr HBr.out)
        have HB2k := hide (hB2.below HBr.out)
        clear hM2 M2w hn2 hB2
        obtain ⟨y, hy⟩ : ∃ y, y = dropB g2 len2 n2 := ⟨_, rfl⟩
        rw [← hy] at M3
        have HY := hide hy
        have hm2 := HB2k.out.most
        have hp2' := HB2k.out.pos
        clear hy
        unfold maxLen at hcm2
        go_wp2_with fail
        refine (M3.out).mono ?_
        rintro e w5 ⟨rfl, hb5⟩
        have hb6 : Below wr.heap.size wr (w5.alloc (.cells #[.int .i64 n2, .string y] 29)) := hb5.alloc hb5.size _
        have HB6 := hide (below_two HBr.out hb6)
        have HX6 := hide (cell_below hb6 HXr.out)
        have HY6 := hide ((dropIn_new w5 n2 y).2.1)
        have HBa := hide (HBk.out.below HB6.out)
        have HBb := hide (HB2k.out.below hb6)
        clear hb5 hb6 M3 HXr HBr HB2k
        unfold dropV
        have ca := HBa.out.cells 0 h0
        have cb := HBb.out.cells 0 hp2'
        simp only [Nat.add_zero] at ca cb
        have hs1 := HBa.out.eight
        have hs2 := HBb.out.eight
        by_cases c1 : len = len2
        · subst c1
          by_cases c2 : (g2 0).size = (g 0).size
          · have q2 : (((g 0).size : Int) == ((g2 0).size : Int)) = true := by rw [beq_iff_eq]; omega
            have q2b : (((g 0).size : Int) != ((g2 0).size : Int)) = false := by rw [bne_eq_false_iff_eq]; omega
            have C2 := hide c2
            clear c2
            go_wp2_with fail
            go_quiet (fail)
            generalize hw7 : (w5.alloc (.cells #[.int .i64 n2, .string y] 29)).drewN nq = w7
            have hb7 : Below (w5.alloc (.cells #[.int .i64 n2, .string y] 29)).heap.size (w5.alloc (.cells #[.int .i64 n2, .string y] 29)) w7 := by rw [← hw7]; exact below_drewN (Below.refl _ _) _
            have HX7 := hide (cell_below hb7 HX6.out)
            have HY7 := hide (cell_below hb7 HY6.out)
            have HB7 := hide (below_two HB6.out hb7)
            have HBa7 := hide (HBa.out.below hb7)
            have HBb7 := hide (HBb.out.below hb7)
            clear hw7 ca cb hb7 HX6 HY6 HB6 HBa HBb
            have hne2 : Hid (∀ j, j < len → (g2 j).size = (g j).size) := fun j hj => by rw [HBb7.out.same j hj, HBa7.out.same j hj]; exact C2.out
            have X : Hid (∀ j, j < len → ∀ w, Calls Try.prog 8 #[.string (g j), .string (g2 j)] w fun e w' => e = .returned (.tuple #[.string (xorB (g j) (g2 j)), .nilIface]) ∧ Below w.heap.size w w') :=
              fun j hj w => xor_ok (g j) (g2 j) w (by rw [HBa7.out.same j hj]; omega) (hne2.out j hj)
            have MC : Hid (∀ w1 p cap, (∀ k, k < len → w1.cell? ⟨p, 0 + k, none⟩ = some (.string (xorB (g k) (g2 k)))) → Calls Try.prog 6 #[.slice (some ⟨p, 0, none⟩) len cap, .int .i64 n2] w1 fun e w' => e = .returned (.tuple #[.agg #[.int .i64 n2, .string (xorB z y)], .nilIface]) ∧ Below w1.heap.size w1 w') := by
              intro w1 p cap hc
              have h := make_ok p 0 len cap (fun i => xorB (g i) (g2 i)) n2 w1 h0 h16 hc (by rw [xorB_size]; exact HBa7.out.one) (by rw [xorB_size]; exact HBa7.out.eight) (fun i hi => by rw [xorB_size, xorB_size]; exact HBa7.out.same i hi) h1 h2
              rw [dropB_xor h0 h1 HBa7.out.same C2.out, ← HZ.out, ← HY.out] at h
              exact h
            have XZ : Hid (∀ w, Calls Try.prog 8 #[.string z, .string y] w fun e w' => e = .returned (.tuple #[.string (xorB z y), .nilIface]) ∧ Below w.heap.size w w') :=
              fun w => xor_ok z y w (by rw [HZ.out, dropB_size]; omega) (by rw [HZ.out, HY.out, dropB_size, dropB_size]; exact C2.out)
            obtain ⟨i0, hi, hz0, hzs, hzb⟩ := info_parts Try.infoStrX
            have Hi := hide hi
            have Hz0 := hide hz0
            have Hzs := hide hzs
            have Hzb := hide hzb
            clear hi hz0 hzs hzb q2 q2b
            go_wp2_with fail
            go_loopw [15, 16] (fun v i wr => ∃ (j : Nat) (aA : Option Addr) (cA : Nat), j ≤ len ∧ i = .int .i64 j ∧ v = .slice aA j cA ∧ wr.ownsRow w7.heap.size 9 1 v j ((List.range j).map fun k : Nat => .string (xorB (g k) (g2 k))) ∧ Below w7.heap.size w7 wr) (fun _ i _ => len - (intOf i).toNat)
            case atStart => exact ⟨0, none, 0, Nat.zero_le _, rfl, rfl, World.ownsRow_nil _ _ _ _, Below.refl _ _⟩
            case round =>
              obtain ⟨j, aA, cA, hj, rfl, rfl, hA, hb⟩ := hrel
              by_cases hlt : j < len
              · obtain ⟨κ, G, hG⟩ := fam_some wr
                have HG2 := hide hG
                have hne2 := hG.ne
                have fa := hG.cell (cell_below hb (HBa7.out.cells j hlt))
                have fb := hG.cell (cell_below hb (HBb7.out.cells j hlt))
                have Xj := hide (X.out j hlt)
                have HA := hide hA
                have HBw := hide hb
                clear hG hA hb
                obtain ⟨xj, hxj⟩ : ∃ xj, xj = xorB (g j) (g2 j) := ⟨_, rfl⟩
                rw [← hxj] at Xj
                have HXJ := hide hxj
                clear hxj
                generalize g j = gj at fa Xj
                generalize g2 j = gj2 at fb Xj
                go_wp2_with fail
                refine HG2.out.region (by kernel_rfl) (by kernel_rfl) ?_
                repeat (go_big_quiet_step (exact HG2.out.call (Xj.out _)))
                refine wpQuiet_nil ?_
                intro wq hw'
                obtain ⟨i2, hw''⟩ := hw'
                subst hw''
                have hb8 := HG2.out.above i2
                clear fa fb
                generalize G i2 = w8 at *
                have hA8 := own_under HA.out hb8
                have hb78 := below_two HBw.out hb8
                have hs8 := hb78.size
                clear hb8 HA HBw
                go_wp2_with (at_builtin; refine wpList_append_lies _ rfl _ _ 22 rfl w7.heap.size 9 i0 (.string ⟨#[]⟩) 1 16 Try.underlying22 Hi.out Hz0.out Hzs.out Hzb.out rfl (by decide) _ _ _ rfl (hA8.alloc _) ⟨w8.heap.size, 0, none⟩ 1 1 [.string xj] rfl rfl (cell_one_new _ _ _) (fun x hx => by simp at hx; subst hx; rfl) (by decide) (by unfold maxLen; omega) (by omega) (by simp; omega) _ rfl ?_; intro g3 cap9 w9 hown9 hgrow9 hat9 hlt9)
                go_roundw
                case rel =>
                  have R : j + 1 ≤ len ∧ Value.int .i64 ((j : Int) + 1) = .int .i64 ((j + 1 : Nat) : Int) ∧ Value.slice (some ⟨g3, 0, none⟩) (j + 1) cap9 = .slice (some ⟨g3, 0, none⟩) (j + 1) cap9
                      ∧ w9.ownsRow w7.heap.size 9 1 (.slice (some ⟨g3, 0, none⟩) (j + 1) cap9) (j + 1) ((List.range (j + 1)).map fun k : Nat => .string (xorB (g k) (g2 k))) ∧ Below w7.heap.size w7 w9 :=
                    ⟨by omega, by simp, rfl, by rw [List.range_succ, List.map_append, List.map_singleton, ← HXJ.out]; exact hown9, (hb78.alloc hs8 _).grown hgrow9 (by simp; omega) (fun q hq => (hA8.lt q hq).1)⟩
                  first
                    | exact ⟨j + 1, some ⟨g3, 0, none⟩, cap9, R⟩
                    | ((repeat apply Exists.intro); exact ⟨⟨j + 1, some ⟨g3, 0, none⟩, cap9, R⟩, rfl⟩)
                case measure => simp [intOf]; omega
              · have hjl : j = len := by omega
                subst hjl
                obtain ⟨p9, cap9, hv9, hc1, hc2, hc9⟩ := own_strs (f := fun k => xorB (g k) (g2 k)) hA h0
                injection hv9 with e1 _ e3
                subst e1 e3
                have M9 := hide (MC.out wr p9 cA hc9)
                have HXr := hide (cell_below hb HX7.out)
                have HYr := hide (cell_below hb HY7.out)
                have HBz := hide (below_two HB7.out hb)
                clear hc9 hA hb
                go_wp2_with fail
                refine (M9.out).mono ?_
                rintro e w9 ⟨rfl, hb9⟩
                have hb10 : Below wr.heap.size wr (w9.alloc (.cells #[.int .i64 n2, .string (xorB z y)] 29)) := hb9.alloc hb9.size _
                have HB10 := hide (below_two HBz.out hb10)
                have cx := cell_below hb10 HXr.out
                have cy := cell_below hb10 HYr.out
                simp only [Nat.zero_add] at cx cy
                have HZ1 := hide ((dropIn_new w9 n2 (xorB z y)).2.1)
                clear hb9 hb10
                generalize xorB z y = zy at *
                go_wp2_with fail
                refine (XZ.out _).mono ?_
                rintro e w11 ⟨rfl, hb11⟩
                have HB11 := hide (below_two HB10.out hb11)
                have cz := cell_below hb11 HZ1.out
                clear hb11 cx cy
                simp only [Nat.zero_add] at cz
                go_wp2
                go_ret
                exact ⟨rfl, HB11.out⟩
          · have q2 : (((g 0).size : Int) == ((g2 0).size : Int)) = false := by rw [beq_eq_false_iff_ne]; omega
            go_wp2_with fail
            go_quiet (fail)
            go_wp2
            go_ret
            exact ⟨rfl, below_drewN HB6.out _⟩
        · have q1 : ((len : Int) == (len2 : Int)) = false := by rw [beq_eq_false_iff_ne]; omega
          have q1b : ((len : Int) != (len2 : Int)) = true := by rw [bne_iff_ne]; omega
          have q1c : (len == len2) = false := by rw [beq_eq_false_iff_ne]; exact c1
          have q1d : (len != len2) = true := by rw [bne_iff_ne]; exact c1
          have q1e : decide (len = len2) = false := decide_eq_false c1
          go_wp2_with fail
          go_quiet (fail)
          go_wp2
          go_ret
          exact ⟨rfl, below_drewN HB6.out _⟩

theorem adds_walk {w : World} (v : Value) (len : Nat) (g : Nat → ByteArray) (hv : StrsAt w v len g) (v2 : Value) (len2 : Nat) (g2 : Nat → ByteArray) (hv2 : StrsAt w v2 len2 g2) (seed : Int) :
    Calls Try.prog 3 #[v, v2, .int .i64 seed] w fun e w' => e = .returned (.bool true) ∧ Below w.heap.size w w' := by
  rcases make_ways hv seed with ⟨x, hx⟩ | ⟨b, o, cap, n, rfl, hlc, hcm, hB, rfl, h1, h2, hM⟩
  · exact adds_err v v2 seed w x hx
  · exact adds_ok b o len cap n g v2 len2 g2 w hlc hcm hB h1 h2 hv2

set_option maxRecDepth 100000 in
theorem dropAdds_contract (H : Type) (enc : TypeId × Value → H) (W : World) (base : Nat) (args : Array Value) (ds gs : List (DataW H)) (before : List MemPlace)
    (hval : ∀ (j : Nat) t v, Try.f3.params[j]? = some t → args[j]? = some v → Value.okWide Try.prog W .any base t v)
    (hW : DataW.Whole enc Try.prog Try.f3.params.toList Rows.dropAddsSpec.vars false W args.toList ds gs before) :
    Calls Try.prog 3 args W fun e W' => ∃ v, e = .returned v ∧ Rows.dropAddsSpec.post enc Try.prog Try.f3 false true false false W args v W' := by
  have hW' := hW
  have hlt0 := hW.lt
  obtain ⟨p, q, hA0, hV, rfl, hfz, hnd⟩ := hW
  have hA : DataW.TrodAll enc Try.prog W 0 (fun _ => true) true Try.f3.params.toList args.toList ds p := hA0
  rw [Try.params3] at hA hval
  have hAll := hA
  have hread : ∀ t ∈ [22, 22, 3], Try.prog.readableRec t = true ∧ t < Try.prog.types.size := by
    intro t ht
    simp only [List.mem_cons, List.not_mem_nil, or_false] at ht
    rcases ht with rfl | rfl | rfl <;> exact ⟨by kernel_rfl, of_decide_eq_true (by kernel_rfl)⟩
  obtain ⟨v0, vs0, d0, ds0, p0, q0, hargs, rfl, rfl, h0, r0⟩ := trodAll_cons hA
  obtain ⟨v1, vs1, d1, ds1, p1, q1, rfl, rfl, rfl, h1, r1⟩ := trodAll_cons r0
  obtain ⟨v2, vs2, d2, ds2, p2, q2, rfl, rfl, rfl, h2, r2⟩ := trodAll_cons r1
  obtain ⟨rfl, rfl, rfl⟩ := trodAll_nil r2
  obtain rfl : args = #[v0, v1, v2] := by cases args; simp_all
  obtain ⟨rfl, rfl⟩ := trodVars_none hV
  simp only [List.append_nil] at hW' hlt0
  have fin : ∀ W' : World, Below W.heap.size W W' → Rows.dropAddsSpec.post enc Try.prog Try.f3 false true false false W #[v0, v1, v2] (.bool true) W' := by
    intro W' hg
    refine ⟨_, _, _, [], (p0 ++ (p1 ++ (p2 ++ []))), [], hW', ?_, ?_, ?_, hg.frame _, fun h => by cases h⟩
    · exact trodAll_mk1 (shut_bool Try.underlying4 true)
    · exact trodAll_below hg _ _ _ _ hread hAll (by simpa using hlt0)
    · rfl
  obtain ⟨l0, f0, hs0⟩ := open_strsAt (hval 0 22 v0 rfl rfl) h0
  obtain ⟨l1, f1, hs1⟩ := open_strsAt (hval 1 22 v1 rfl rfl) h1
  obtain ⟨a2, rfl, rfl, rfl, w2⟩ := open_int Try.underlying3 (hval 2 3 v2 rfl rfl) h2
  refine (adds_walk v0 l0 f0 hs0 v1 l1 f1 hs1 a2 (w := W)).mono fun e W' ⟨he, hg⟩ => ?_
  subst he
  exact ⟨_, rfl, fin W' hg⟩

set_option maxRecDepth 100000 in
theorem dropAdds_lifted (os : Os) (started : os.Started) (H : Type) (enc : TypeId × Value → H) :
    ReturnsInHanded {} Try.checked os 3 .any (Rows.dropAddsSpec.pre6 enc Try.prog Try.f3 Rows.dropAddsRow.domain false) (Rows.dropAddsSpec.post enc Try.prog Try.f3 false true false false) := by
  refine returnsInHanded_of_change (C := Try.checked) own started (by kernel_rfl) Try.func3
    (ChangeSpec.witness6 (enc := enc) (C := Try.checked) false ⟨#[], #[.slice none 0 0, .slice none 0 0, .int .i64 0], []⟩ 8 (by kernel_rfl) (by kernel_rfl) (by kernel_rfl) (by kernel_rfl)) ?_
  intro W base args ds gs before hval hW _ _
  exact dropAdds_contract H enc W base args ds gs before hval hW

theorem dropAdds_holds : Rows.DropAddsSaid :=
  OpenClaim.holds_of_wide 3 Try.f3 rfl rfl rfl rfl rfl rfl rfl ⟨rfl, rfl, rfl, rfl, rfl⟩ rfl rfl rfl rfl rfl (by kernel_rfl) Try.func3 (by kernel_rfl)
    (of_decide_eq_true (by kernel_rfl)) (by unfold Func.isWrapper; first | (rw [if_pos (by decide +kernel)]; kernel_rfl) | (rw [if_neg (by decide +kernel)]; exact ⟨rfl, rfl⟩))
    (fun os started H enc _ => dropAdds_lifted os started H enc)
#print axioms dropAdds_holds
end Go.Proofs.Ytijbljcpfjlllaa
