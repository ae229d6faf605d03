/-
  'dropletmill/droplaw4.PeelAll' over any Peeler that keeps its contracts (PIm): the walk. Lemmas for the laws above; no statement is proved here.
-/
import Derived.Test.YtopibfbpecjgbaaDoorPKit
import Derived.Test.YtopibfbpecjgbaaDoorDropW
import Derived.Deep.DeepCutAuto
import Derived.Deep.CutRange
namespace Go.Proofs.YtopibfbpecjgbaaDoor
open Go.RowKit Go.Maps
set_option linter.unusedVariables false
set_option maxRecDepth 100000

set_option maxHeartbeats 1000000 in
theorem all_bad (I : PIm) (v : Value) (len : Nat) (from_ : Int) (w : World) (hg : HasErr w) (er : Value) (hC : Calls Tryd.prog 9 #[v] w fun e w' => e = .returned er ∧ Below w.heap.size w w')
    (h : (∃ x : Int, er = .iface 54 (.int .i64 x)) ∨ (er = .nilIface ∧ ∃ a cap, v = .slice a len cap ∧ len ≤ 16 ∧ (from_ < 0 ∨ (len : Int) ≤ from_))) :
    Calls Tryd.prog 4 #[v, .int .i64 from_] w fun e w' => e = .returned (.bool true) ∧ Below w.heap.size w w' := by
  have N := hide (fun w => I.new_range 0 1 w (by omega))
  have C := hide hC
  have HG := hide hg
  have HGL := hide hg.lt
  clear hg hC
  go_enter Tryd.func4, Tryd.ntmps4
  go_upto_region 1 with fail
  go_cut [27] (fun t wx => t = .bool true ∧ Below w.heap.size w wx)
  case first =>
    go_wp2_with fail
    refine (C.out).mono ?_
    rintro e w1 ⟨rfl, hb1⟩
    have HB1 := hide hb1
    clear hb1
    rcases h with ⟨x, rfl⟩ | ⟨rfl, a, cap, rfl, hl, h0 | h0⟩
    · go_wp2
      go_meet
      exact ⟨rfl, HB1.out⟩
    · go_wp2
      go_meet
      exact ⟨by first | rfl | simp <;> omega, HB1.out⟩
    · have h1 : ¬ from_ < 0 := by omega
      go_wp2
      go_meet
      exact ⟨by first | rfl | simp <;> omega, HB1.out⟩
  case rest =>
  obtain ⟨rfl, hb1⟩ := hcut
  have HB1 := hide hb1
  clear hb1 h C
  go_wp2_with fail
  refine (N.out _).mono ?_
  rintro e w2 ⟨v2, rfl, hb2⟩
  have HB2 := hide (below_two HB1.out hb2)
  have E := hide (error_right 1 _ w2 (HG.out.below HGL.out HB2.out) (Or.inr rfl))
  clear hb2 N
  go_wp2_with fail
  refine (E.out).mono ?_
  rintro e w3 ⟨rfl, hb3⟩
  have HB3 := hide (below_two HB2.out hb3)
  clear hb3
  go_wp2
  go_ret
  exact ⟨rfl, HB3.out⟩

/-- The seeds that were taken, i of them, from f on. -/
def TT (f len i : Nat) : List Nat := (List.range i).map fun j => (f + j) % len + 1
theorem mem_TT {f len i r : Nat} : r + 1 ∈ TT f len i ↔ ∃ j, j < i ∧ (f + j) % len = r := by
  unfold TT
  simp
theorem TT_succ (f len i : Nat) : TT f len (i + 1) = TT f len i ++ [(f + i) % len + 1] := by unfold TT; rw [List.range_succ, List.map_append]; rfl
theorem TT_len (f len i : Nat) : (TT f len i).length = i := by unfold TT; simp
theorem mod_apart {f len i j : Nat} (h1 : i < len) (h2 : j < i) : (f + j) % len ≠ (f + i) % len := fun e => by
  have h3 : (f + i - (f + j)) % len = 0 := Nat.sub_mod_eq_zero_of_mod_eq e.symm
  rw [show f + i - (f + j) = i - j by omega, Nat.mod_eq_of_lt (by omega)] at h3
  omega
theorem TT_new {f len i : Nat} (h1 : i < len) : (f + i) % len + 1 ∉ TT f len i := fun h => by
  obtain ⟨j, hj, e⟩ := mem_TT.1 h
  exact mod_apart h1 hj e
theorem TT_all {f len r : Nat} (h0 : f < len) (hr : r < len) : r + 1 ∈ TT f len len := by
  refine mem_TT.2 ⟨(r + len - f) % len, Nat.mod_lt _ (by omega), ?_⟩
  by_cases c : f ≤ r
  · have e : (r + len - f) % len = r - f := by
      rw [show r + len - f = r - f + len by omega, Nat.add_mod_right, Nat.mod_eq_of_lt (by omega)]
    rw [e, show f + (r - f) = r by omega, Nat.mod_eq_of_lt hr]
  · rw [Nat.mod_eq_of_lt (a := r + len - f) (by omega), show f + (r + len - f) = r + len by omega, Nat.add_mod_right, Nat.mod_eq_of_lt hr]
theorem came_one {k r : Nat} {kn : Nat → Bool} (hr : r < k) (h : kn r = false) : came k kn (upd kn r true) = [r] := by
  obtain ⟨A, B, e1, e2, _, _⟩ := came_ins hr h h
  rw [came_self] at e1
  have := List.append_eq_nil_iff.1 e1.symm
  rw [e2, this.1, this.2]; rfl
theorem knows_all {k : Nat} {kn : Nat → Bool} (h : ∀ r, r < k → kn r = true) : knows k kn = List.range k := List.filter_eq_self.2 fun r hr => h r (List.mem_range.1 hr)
/-- As it goes, drop by drop. -/
def AInv (I : PIm) (w0 : World) (vP : Value) (f len z i : Nat) (wr : World) : Prop :=
  ∃ p, I.St wr vP len z p (TT f len i) ∧ p.L = [] ∧ (∀ r, p.known r = true ↔ r + 1 ∈ TT f len i) ∧ (∀ j, I.foot wr vP j → w0.heap.size ≤ j) ∧ Below w0.heap.size w0 wr

set_option maxHeartbeats 2000000 in
theorem all_ok (I : PIm) (b o len cap f : Nat) (g : Nat → ByteArray) (w : World) (hlc : len ≤ cap) (hcm : cap ≤ maxLen) (hB : Blks w b o len g) (hf : f < len) :
    Calls Tryd.prog 4 #[.slice (some ⟨b, o, none⟩) len cap, .int .i64 (f : Nat)] w fun e w' => e = .returned (.bool true) ∧ Below w.heap.size w w' := by
  have h16 := hB.most
  have h1 := hB.one
  have h8 := hB.eight
  have C := hide (check_ok b o len cap g w hB.pos hB.most hB.cells hB.one hB.eight hB.same)
  have HBk := hide hB
  have N := hide (fun w => I.new_ok len (g 0).size w (by omega) h16 h1 h8)
  have M : Hid (∀ w1 kk, kk < len → Below w.heap.size w w1 → Calls Tryd.prog 10 #[.slice (some ⟨b, o, none⟩) len cap, .int .i64 ((kk : Int) + 1)] w1 fun e w' => e = .returned (.tuple #[.agg #[.int .i64 ((kk : Int) + 1), .string (g kk)], .nilIface]) ∧ Below w1.heap.size w1 w') := fun w1 kk hk hb => by
    have h9 := make_ok b o len cap g (kk + 1) w1 HBk.out.pos HBk.out.most (HBk.out.below hb).cells HBk.out.one HBk.out.eight HBk.out.same (by omega) (by omega)
    rw [dropB_one (by omega) (by omega) (by rw [Nat.add_sub_cancel]; exact HBk.out.same kk hk), Nat.add_sub_cancel] at h9
    unfold dropV at h9
    rw [show (((kk + 1 : Nat)) : Int) = (kk : Int) + 1 by omega] at h9
    exact h9
  have HSz : Hid (∀ kk, kk < len → (g kk).size = (g 0).size) := hB.same
  unfold maxLen at hcm
  have hc0 := hB.cells 0 hB.pos
  simp only [Nat.add_zero] at hc0
  have hf0 : ¬ (f : Int) < 0 := by omega
  have hf1 : ¬ (len : Int) ≤ (f : Int) := by omega
  clear hB
  go_enter Tryd.func4, Tryd.ntmps4
  go_wp2_with fail
  refine (C.out).mono ?_
  rintro e w1 ⟨rfl, hb1⟩
  have HB1 := hide hb1
  have hc1 := cell_below hb1 hc0
  clear hb1 C
  generalize hz0 : g 0 = g0 at *
  clear hz0 hc0
  generalize hz : g0.size = z at *
  have HZ := hide hz
  clear hz
  go_wp2_with fail
  have hz' := HZ.out
  rw [hz']
  clear hz'
  refine (N.out _).mono ?_
  rintro e w2 ⟨vP, rfl, hst2, hfo2, hb2⟩
  have HI2 : Hid (AInv I w vP f len z 0 w2) := ⟨p0, hst2, rfl, fun r => by simp [p0, TT], fun j hj => Nat.le_trans HB1.out.size (hfo2 j hj), below_two HB1.out hb2⟩
  clear hst2 hfo2 hb2 N
  go_wp2_with fail
  go_loopw [9] (fun t wr => ∃ i : Nat, i ≤ len ∧ t = .int .i64 i ∧ AInv I w vP f len z i wr) (fun t _ => len - (intOf t).toNat)
  case atStart => exact ⟨0, Nat.zero_le _, rfl, HI2.out⟩
  case round =>
    obtain ⟨i, hi, rfl, hA⟩ := hrel
    have HA := hide hA
    clear hA
    by_cases hlt : i < len
    · obtain ⟨p, hst, hL, hkn, hfo, hb⟩ := HA.out
      obtain ⟨kk, hkd⟩ : ∃ kk : Nat, kk = (f + i) % len := ⟨_, rfl⟩
      have hkl : kk < len := by rw [hkd]; exact Nat.mod_lt _ (by omega)
      have hke : ((f : Int) + (i : Int)) % (len : Int) = (kk : Int) := by rw [hkd]; simp
      have hilt : (i : Int) < (len : Int) := by omega
      have HKD := hide hkd
      have HNew : Hid (kk + 1 ∉ TT f len i) := by rw [HKD.out]; exact TT_new hlt
      have hkf : p.known kk = false := by
        cases e : p.known kk with
        | false => rfl
        | true => exact absurd ((hkn kk).1 e) HNew.out
      have HKF := hide hkf
      have HT0 : Hid (tF len z (TT f len i) ((kk + 1 : Nat) : Int) (g kk).size = 0) := by
        unfold Hid
        have hfd : fD len z ((kk + 1 : Nat) : Int) (g kk).size = 0 := by
          unfold fD
          rw [if_pos (by unfold OkD; omega), if_pos (by rw [HSz.out kk hkl])]
        exact tF_ok hfd HNew.out (by rw [TT_len]; omega)
      have MK := hide (M.out wr kk hkl hb)
      have HST := hide hst
      have HFO := hide hfo
      have HKN := hide hkn
      have HBr := hide hb
      have HL := hide hL
      clear hst hL hkn hfo hb HA hkd hkf
      go_wp2_with fail
      refine (MK.out).mono ?_
      rintro e w3 ⟨rfl, hb3⟩
      have hba : Below w3.heap.size w3 (w3.alloc (.cells #[.int .i64 ((kk : Int) + 1), .string (g kk)] 32)) := (Below.refl _ _).alloc (Nat.le_refl _) _
      have HB4 := hide (below_two hb3 hba)
      have hk4 := I.below HST.out HB4.out
      have TK := hide (I.take_ok hk4.1 (kk + 1) (g kk) HT0.out)
      have HFO4 : Hid (∀ j, I.foot (w3.alloc (.cells #[.int .i64 ((kk : Int) + 1), .string (g kk)] 32)) vP j → w.heap.size ≤ j) := fun j hj => HFO.out j (hk4.2 j hj)
      unfold dropV at TK
      rw [show (((kk + 1 : Nat)) : Int) = (kk : Int) + 1 by omega] at TK
      clear hb3 hba hk4 MK
      go_wp2_with fail
      refine (TK.out).mono ?_
      rintro e w5 ⟨vs, q, rfl, hp, hl, hs, hkp, hft⟩
      have hq : q = ⟨upd p.known kk true, upd p.B kk (g kk), []⟩ := by
        rw [HL.out] at hp
        have h9 := peels_alone (S := setL len) (kn := p.known) (B := p.B) (d := (kk + 1, g kk)) (r := kk) (by rw [setL_one (by omega)]; simp) HKF.out
        exact hp.det h9
      subst hq
      rw [came_one hkl HKF.out] at hl
      have HS5 := hide hs
      have HB5 := hide (kept_below (below_two HBr.out HB4.out) hkp HFO4.out)
      have HF5 : Hid (∀ j, I.foot w5 vP j → w.heap.size ≤ j) := fun j hj => (hft j hj).elim (HFO4.out j) (fun h => Nat.le_trans (below_two HBr.out HB4.out).size h)
      obtain ⟨a5, c5, rfl, hq5, hm5, hl5⟩ := hl
      obtain ⟨g5, c5', hv5, _, _, hcell5⟩ := hl5 (by simp)
      injection hv5 with ea5 _ ec5
      subst ea5 ec5
      have hx5 := hcell5 0 (by simp)
      simp only [Nat.zero_add, List.getD_cons_zero] at hx5
      unfold maxLen at hm5
      clear hp hs hkp hft hl5 hcell5 TK
      go_wp2
      go_roundw
      case rel =>
        refine ⟨i + 1, by omega, by go_num, ⟨upd p.known kk true, upd p.B kk (g kk), []⟩, ?_, rfl, fun r => ?_, HF5.out, HB5.out⟩
        · rw [TT_succ, ← HKD.out]; exact HS5.out
        · rw [TT_succ, ← HKD.out, List.mem_append, List.mem_singleton]
          show (if r = kk then true else p.known r) = true ↔ _
          by_cases c : r = kk
          · rw [if_pos c, c]; simp
          · rw [if_neg c, HKN.out r]
            exact ⟨Or.inl, fun h => h.resolve_right (by omega)⟩
      case measure => simp [intOf]; omega
    · obtain rfl : i = len := by omega
      obtain ⟨p, hst, hL, hkn, hfo, hb⟩ := HA.out
      have hall : knows i p.known = List.range i := knows_all fun r hr => (hkn r).2 (TT_all hf hr)
      have K := hide (I.knows_ok hst)
      rw [hall] at K
      have HW := hide (fun w' (hb' : Below wr.heap.size wr w') => I.waits_ok (I.below hst hb').1)
      rw [hL] at HW
      have HBr := hide hb
      clear hst hL hkn hfo hb HA hall
      have hlt' : ¬ (i : Int) < (i : Int) := by omega
      go_wp2_with fail
      refine (K.out).mono ?_
      rintro e w3 ⟨vs, rfl, ⟨a5, c5, rfl, hq5, hm5, _⟩, hb3⟩
      have W3 := hide (HW.out w3 hb3)
      have HB3 := hide (below_two HBr.out hb3)
      unfold maxLen at hm5
      simp only [List.length_range] at hq5 ⊢
      clear hb3 K HW
      go_wp2_with fail
      refine (W3.out).mono ?_
      rintro e w4 ⟨rfl, hb4⟩
      have HB4 := hide (below_two HB3.out hb4)
      clear hb4
      go_wp2
      go_ret
      exact ⟨ret_bool (by simp), HB4.out⟩

/-- Whatever it is handed. -/
theorem all_walk (I : PIm) {w : World} (v : Value) (len : Nat) (g : Nat → ByteArray) (hv : StrsAt w v len g) (from_ : Int) (hg : HasErr w) :
    Calls Tryd.prog 4 #[v, .int .i64 from_] w fun e w' => e = .returned (.bool true) ∧ Below w.heap.size w w' := by
  rcases check_ways hv with ⟨x, hx⟩ | ⟨b, o, cap, rfl, hlc, hcm, hB⟩
  · exact all_bad I v len from_ w hg _ (hx w (Below.refl _ _)) (Or.inl ⟨x, rfl⟩)
  · by_cases h : from_ < 0 ∨ (len : Int) ≤ from_
    · exact all_bad I _ len from_ w hg _ (check_ok b o len cap g w hB.pos hB.most hB.cells hB.one hB.eight hB.same) (Or.inr ⟨rfl, _, _, rfl, hB.most, h⟩)
    · obtain ⟨f, rfl⟩ := Int.eq_ofNat_of_zero_le (show 0 ≤ from_ by omega)
      exact all_ok I b o len cap f g w hlc hcm hB (by omega)
end Go.Proofs.YtopibfbpecjgbaaDoor
