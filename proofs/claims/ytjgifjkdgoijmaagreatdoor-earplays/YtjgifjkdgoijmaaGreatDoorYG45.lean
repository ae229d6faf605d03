/-
  Lemmas for the law above, joined into one text (Told, ErrIs, SInts, InOwn, EarPl). No statement is proved here.
-/
import Derived.Test.YtjgifjkdgoijmaaGreatDoorYAs
import Derived.Test.YtjgifjkdgoijmaaGreatDoorYG5
import Derived.Test.YtjgifjkdgoijmaaGreatDoorYG0
import Derived.Deep.QuietTactic
import Derived.BigQuiet
import Derived.Test.YtjgifjkdgoijmaaGreatDoorYG43
import Derived.Test.YtjgifjkdgoijmaaGreatDoorYG10
namespace Go.Proofs.YtjgifjkdgoijmaaGreatDoor
open Go.RowKit Go.Extern.Stop Go.Stop Go.Extern
set_option linter.unusedVariables false
set_option maxRecDepth 100000

/-- What the row's list of variables gives: the cell of errors.errorType. -/
def HasErr (w : World) : Prop := w.cell? ⟨0, 0, none⟩ = some (.iface 204 (.agg #[.pointer (some ⟨2, 25, none⟩)]))
theorem HasErr.lt {w : World} (h : HasErr w) : 0 < w.heap.size := by
  rcases Nat.lt_or_ge 0 w.heap.size with h' | h'
  · exact h'
  · simp [HasErr, World.cell?, Array.getElem?_eq_none h'] at h
theorem HasErr.below {w w' : World} (h : HasErr w) {B : Nat} (hB : 0 < B) (hb : Below B w w') : HasErr w' :=
  (hb.cell (p := ⟨0, 0, none⟩) hB).trans h

theorem told_nil (w : World) : Calls Tryz.prog 38 #[.nilIface] w fun e w' => e = .returned (.int .i64 0) ∧ w = w' := by
  go_enter Tryz.func38, Tryz.ntmps38
  go_wp2
  go_ret
  exact ⟨rfl, rfl⟩
set_option maxHeartbeats 1000000 in
theorem told_hit (n : Int) (w : World) (hg : HasErr w) : Calls Tryz.prog 38 #[.iface 64 (.int .i64 n)] w fun e w' => e = .returned (.int .i64 n) ∧ Below w.heap.size w w' := by
  have hA := as_hit n ⟨w.heap.size, 0, none⟩ (.int .i64 0) (w.alloc (.cells #[.int .i64 0] 64)) (by rw [World.cell?_alloc_lt _ _ ⟨0, 0, none⟩ hg.lt]; exact hg) (by simp) (by simp)
  have K := hide hA
  clear hA
  go_enter Tryz.func38, Tryz.ntmps38
  go_wp2_with fail
  refine (K.out).mono ?_
  rintro e w1 ⟨rfl, rfl⟩
  go_wp2
  go_ret
  refine ⟨rfl, ?_⟩
  repeat (first | exact Below.refl _ _ | refine Below.alloc ?_ (by simp <;> omega) _)
theorem error_nil (x : Int) (w : World) : Calls Tryz.prog 12 #[.nilIface, .int .i64 x] w fun e w' => e = .returned (.bool (0 == x)) ∧ w = w' := by
  go_enter Tryz.func12, Tryz.ntmps12
  go_wp2_with fail
  refine (told_nil _).mono ?_
  rintro e w1 ⟨rfl, rfl⟩
  go_wp2
  go_ret
  exact ⟨rfl, rfl⟩
theorem error_hit (n x : Int) (w : World) (hg : HasErr w) : Calls Tryz.prog 12 #[.iface 64 (.int .i64 n), .int .i64 x] w fun e w' => e = .returned (.bool (n == x)) ∧ Below w.heap.size w w' := by
  go_enter Tryz.func12, Tryz.ntmps12
  go_wp2_with fail
  refine (told_hit _ _ hg).mono ?_
  rintro e w1 ⟨rfl, hb⟩
  go_wp2
  go_ret
  exact ⟨rfl, hb⟩

/-! What the row's list gives a walk, and a world that meets it. -/
theorem errGlobal : Tryz.prog.globalNamed "errors.errorType" = some 0 := by kernel_rfl
theorem errRt : (Tryz.prog.cutTypes.find? (·.1 == "internal/reflectlite.rtype")).map (·.2) = some 204 := by kernel_rfl
theorem errOneRow : ((List.range 268).filter fun t => Tryz.prog.rowNamed t [101, 114, 114, 111, 114]) = [25] := by kernel_rfl
theorem errSize : Tryz.prog.types.size = 268 := by kernel_rfl
theorem hasErr_of_laid {W : World} (h : laidMetH Tryz.prog [("errors.errorType", Rows.laid_errors_errorType)] W) : HasErr W := by
  have h' : laidMet Tryz.prog [] W ∧ handlesMet Tryz.prog [("errors.errorType", Rows.laid_errors_errorType)] W := h
  obtain ⟨name, u, ty, e1, e2, e3, e4, e5⟩ := h'.2 _ (List.mem_singleton.2 rfl)
  have en : name = [101, 114, 114, 111, 114] := (Option.some.inj e1).symm
  subst en
  obtain rfl := Option.some.inj (errRt.symm.trans e2)
  have hm : ty ∈ (List.range 268).filter fun t => Tryz.prog.rowNamed t [101, 114, 114, 111, 114] := List.mem_filter.2 ⟨List.mem_range.2 (by rw [← errSize]; exact e3), e4⟩
  rw [errOneRow] at hm
  obtain rfl := List.mem_singleton.1 hm
  have hh : typeHandle Tryz.prog 25 = .pointer (some ⟨2, 25, none⟩) := by kernel_rfl
  rw [hh] at e5
  have := World.var?_cell errGlobal e5 0
  simpa [HasErr] using this
end Go.Proofs.YtjgifjkdgoijmaaGreatDoor

namespace Go.Proofs.YtjgifjkdgoijmaaGreatDoor
open Go.RowKit
set_option linter.unusedVariables false
set_option maxRecDepth 100000

theorem error_right (x : Int) (err : Value) (w : World) (hg : HasErr w) (h : ErrIs x err) :
    Calls Tryz.prog 12 #[err, .int .i64 x] w fun e w' => e = .returned (.bool true) ∧ Below w.heap.size w w' := by
  rcases h with ⟨rfl, rfl⟩ | rfl
  · exact (error_nil 0 w).mono fun e w' ⟨he, hw⟩ => ⟨he, hw ▸ Below.refl _ _⟩
  · exact (error_hit x x w hg).mono fun e w' ⟨he, hb⟩ => ⟨by rw [he]; simp, hb⟩
end Go.Proofs.YtjgifjkdgoijmaaGreatDoor

namespace Go.Proofs.YtjgifjkdgoijmaaGreatDoor
open Go.RowKit
set_option linter.unusedVariables false
set_option maxRecDepth 100000

/-- A slice that holds the numbers f 0, .., f (n-1). -/
def IntsIn (w : World) (v : Value) (n : Nat) (f : Nat → Int) : Prop :=
  (n = 0 ∧ ∃ a cap, v = .slice a 0 cap) ∨ (0 < n ∧ ∃ b o cap, v = .slice (some ⟨b, o, none⟩) n cap ∧ ∀ i, i < n → w.cell? ⟨b, o + i, none⟩ = some (.int .i64 (f i)))
theorem IntsIn.below {w w' : World} {v : Value} {n : Nat} {f : Nat → Int} (h : IntsIn w v n f) (hb : Below w.heap.size w w') : IntsIn w' v n f := by
  rcases h with h | ⟨h0, b, o, cap, rfl, hc⟩
  · exact Or.inl h
  · exact Or.inr ⟨h0, b, o, cap, rfl, fun i hi => cell_below hb (hc i hi)⟩
theorem IntsIn.congr {w : World} {v : Value} {n : Nat} {f g : Nat → Int} (h : IntsIn w v n f) (e : ∀ i, i < n → f i = g i) : IntsIn w v n g := by
  rcases h with h | ⟨h0, b, o, cap, rfl, hc⟩
  · exact Or.inl h
  · exact Or.inr ⟨h0, b, o, cap, rfl, fun i hi => by rw [← e i hi]; exact hc i hi⟩

set_option maxHeartbeats 1000000 in
theorem ints_rows (b o b2 o2 n c c2 : Nat) (f : Nat → Int) (w : World) (hn : n ≤ 1000000)
    (h1 : ∀ i, i < n → w.cell? ⟨b, o + i, none⟩ = some (.int .i64 (f i))) (h2 : ∀ i, i < n → w.cell? ⟨b2, o2 + i, none⟩ = some (.int .i64 (f i))) :
    Calls Tryz.prog 21 #[.slice (some ⟨b, o, none⟩) n c, .slice (some ⟨b2, o2, none⟩) n c2] w fun e w' => e = .returned (.bool true) ∧ Below w.heap.size w w' := by
  have H1 := hide h1
  have H2 := hide h2
  clear h1 h2
  go_enter Tryz.func21, Tryz.ntmps21
  go_wp2
  go_loopw [5] (fun i wr => ∃ j : Nat, j ≤ n ∧ i = .int .i64 j ∧ Below w.heap.size w wr) (fun i _ => n - (intOf i).toNat)
  case atStart => exact ⟨0, Nat.zero_le _, rfl, Below.refl _ _⟩
  case round =>
    obtain ⟨j, hj, rfl, hb⟩ := hrel
    by_cases hlt : j < n
    · have c1 := cell_below hb (H1.out j hlt)
      have c2 := cell_below hb (H2.out j hlt)
      generalize f j = y at *
      go_wp2_with fail
      go_quiet (fail)
      go_wp2
      go_roundw
      case rel => exact ⟨j + 1, by omega, by go_num, below_drewN hb _⟩
      case measure => simp [intOf]; omega
    · go_wp2
      go_ret
      exact ⟨rfl, hb⟩
theorem ints_none (a a2 : Option Addr) (c c2 : Nat) (w : World) :
    Calls Tryz.prog 21 #[.slice a 0 c, .slice a2 0 c2] w fun e w' => e = .returned (.bool true) ∧ Below w.heap.size w w' := by
  go_enter Tryz.func21, Tryz.ntmps21
  go_wp2
  go_loop [5] (fun i => i = .int .i64 0) (fun _ => 0)
  case atStart => rfl
  case round =>
    obtain rfl := hrel
    go_wp2
    go_ret
    exact ⟨rfl, Below.refl _ _⟩
theorem ints_same {v v2 : Value} {n : Nat} {f : Nat → Int} {w : World} (hn : n ≤ 1000000) (h : IntsIn w v n f) (h2 : IntsIn w v2 n f) :
    Calls Tryz.prog 21 #[v, v2] w fun e w' => e = .returned (.bool true) ∧ Below w.heap.size w w' := by
  rcases h with ⟨rfl, a, c, rfl⟩ | ⟨h0, b, o, c, rfl, hc⟩
  · rcases h2 with ⟨_, a2, c2, rfl⟩ | ⟨h0, _⟩
    · exact ints_none a a2 c c2 w
    · omega
  · rcases h2 with ⟨rfl, _⟩ | ⟨_, b2, o2, c2, rfl, hc2⟩
    · omega
    · exact ints_rows b o b2 o2 n c c2 f w hn hc hc2
end Go.Proofs.YtjgifjkdgoijmaaGreatDoor

namespace Go.Proofs.YtjgifjkdgoijmaaGreatDoor
open Go.RowKit
set_option linter.unusedVariables false
set_option maxRecDepth 100000

/-- Ints that the call owns, as a slice of numbers. -/
theorem own_in {w : World} {B : Nat} {v : Value} {n : Nat} {f : Nat → Int} (h : w.ownsRow B 3 1 v n ((List.range n).map fun k : Nat => .int .i64 (f k))) : IntsIn w v n f := by
  rcases Nat.eq_zero_or_pos n with rfl | h0
  · rcases h.2 with ⟨hv, _⟩ | ⟨g, cap, cur, hv, _⟩
    · exact Or.inl ⟨rfl, _, _, hv⟩
    · exact Or.inl ⟨rfl, _, _, hv⟩
  · obtain ⟨g, cap, hv, _, _, hc⟩ := own_ints h h0
    exact Or.inr ⟨h0, g, 0, cap, hv, hc⟩
end Go.Proofs.YtjgifjkdgoijmaaGreatDoor

namespace Go.Proofs.YtjgifjkdgoijmaaGreatDoor
open Go.RowKit Go.Maps
set_option linter.unusedVariables false
set_option maxRecDepth 100000

set_option maxHeartbeats 2000000 in
theorem plays_refused {w : World} (k z n : Int) (v : Value) (hg : HasErr w) (h : ¬ EMk k z n) :
    Calls Tryz.prog 4 #[.int .i64 k, .int .i64 z, .int .i64 n, v] w fun e w' => e = .returned (.bool true) ∧ Below w.heap.size w w' := by
  have R := hide (rnew_bad k z n w h)
  have N := hide (fun W => enew_bad k z n W h)
  have HG := hide hg
  have HGL := hide hg.lt
  clear h hg
  go_enter Tryz.func4, Tryz.ntmps4
  go_wp2_with fail
  refine (R.out).mono ?_
  rintro e w1 ⟨rfl, hb1⟩
  have HB1 := hide hb1
  clear hb1
  go_wp2_with fail
  refine (N.out w1).mono ?_
  rintro e w2 ⟨rfl, hb2⟩
  have HB2 := hide (below_two HB1.out hb2)
  have ER := hide (error_right 1 (.iface 64 (.int .i64 1)) w2 (HG.out.below HGL.out HB2.out) (Or.inr rfl))
  clear hb2 N R
  go_wp2_with fail
  refine (ER.out).mono ?_
  rintro e w3 ⟨rfl, hb3⟩
  have HB3 := hide (below_two HB2.out hb3)
  clear hb3
  go_wp2
  go_ret
  exact ⟨rfl, HB3.out⟩
set_option maxHeartbeats 8000000 in
theorem plays_core {w : World} (k z n : Nat) (v : Value) (len : Nat) (s : Nat → Int) (d : Nat → ByteArray) (hv : DropsAt w v len s d) (hg : HasErr w) (hk : (1 ≤ k ∧ k ≤ 16) ∧ 1 ≤ z ∧ z ≤ 8) (hn : n ≤ 120) (hc : cntN n z = k) :
    Calls Tryz.prog 4 #[.int .i64 k, .int .i64 z, .int .i64 n, v] w fun e w' => e = .returned (.bool true) ∧ Below w.heap.size w w' := by
  have R := hide (rnew_ok k z n w hk hn hc)
  have N := hide (fun W => enew_ok k z n W hk hn hc)
  have HG := hide hg
  have HGL := hide hg.lt
  have HK := hide hk
  obtain ⟨av, capv, rfl, hv0⟩ := hv.open
  have HV0 := hide hv0
  clear hv hg hv0 hk hc
  go_enter Tryz.func4, Tryz.ntmps4
  go_wp2_with fail
  refine (R.out).mono ?_
  rintro e w1 ⟨v1, M1, rfl, hR, hM1, hb1⟩
  obtain ⟨a1, rfl⟩ := hR.ptr
  have HR1 := hide hR
  have HM1 := hide hM1
  have HB1 := hide hb1
  clear hR hM1 hb1 R
  go_wp2_with fail
  refine (N.out w1).mono ?_
  rintro e w2 ⟨v2, M2, rfl, hE, hM2, hb2⟩
  obtain ⟨a2, rfl⟩ : ∃ a, v2 = .pointer a := by
    obtain ⟨b, _, _, _, rfl, _⟩ := hE
    exact ⟨_, rfl⟩
  have HP : Hid (Pl w w2 k z n a1 a2 0 0 [] [] M1 M2) := ⟨HR1.out.below hb2, hE, HM1.out, fun i hi => Nat.le_trans HB1.out.size (hM2 i hi), fun i h1 h2 => by
    have := HR1.out.lt i h1
    have := hM2 i h2
    omega, below_two HB1.out hb2⟩
  have ER := hide (error_right 0 .nilIface w2 (HG.out.below HGL.out HP.out.below) (Or.inl ⟨rfl, rfl⟩))
  clear hE hM2 hb2 N HR1 HM1 HB1
  go_wp2_with fail
  refine (ER.out).mono ?_
  rintro e w3 ⟨rfl, hb3⟩
  have HP3 := hide (HP.out.grow hb3)
  clear hb3 HP ER
  go_wp2_with fail
  go_loopw [14] (fun i wr => ∃ j : Nat, j ≤ len ∧ j ≤ 70 ∧ i = .int .i64 j ∧ ∃ (dr : Int) (F : List Drp) (M1 M2 : Nat → Prop), Pl w wr k z n a1 a2 dr dr F F M1 M2 ∧ 0 ≤ dr ∧ dr ≤ j) (fun i _ => len - (intOf i).toNat)
  case atStart => exact ⟨0, Nat.zero_le _, by omega, rfl, 0, [], M1, M2, HP3.out, by omega, by omega⟩
  case round =>
    obtain ⟨j, hj, hj70, rfl, dr, F, M1, M2, hP, hd0, hd1⟩ := hrel
    have HPr := hide hP
    clear hP HP3
    by_cases hin : j < len ∧ j < 70
    · obtain ⟨hlt, hlt70⟩ := hin
      obtain ⟨bs, os, rfl, hcs1, hcs2, hcs3⟩ := HV0.out (by omega)
      obtain ⟨hc1, hc2, hc3, hc4⟩ := hcs3 j hlt
      have HC1 := hide hc1
      have HC2 := hide hc2
      have hcr1 := cell_below HPr.out.below hc1
      have hcr2 := cell_below HPr.out.below hc2
      unfold maxLen at hcs2 hc3
      by_cases hf : eF k z F (s j) (d j).size = 0
      · have hok := fD_ok (eF_ok hf).1
        obtain ⟨sd, hsd⟩ : ∃ q : Nat, s j = (q : Int) := ⟨(s j).toNat, by have := hok.1; unfold OkD at this; omega⟩
        rw [hsd] at hf hcr1 HC1
        have RH := hide (HPr.out.rhear sd (d j) hf ⟨hd0, by omega⟩)
        have HF := hide hf
        clear hcs3 hc1 hc2 hc4 hok hsd hf
        generalize d j = dd at *
        go_wp2_with fail
        refine (RH.out).mono ?_
        rintro e w7 ⟨q, M1', hT, rfl, hP7⟩
        clear RH hcr1 hcr2
        generalize hF2 : eAdd F sd dd = F2 at *
        generalize hkn : (knows k q.known).length = kn at *
        have HT := hide hT
        have HKn := hide hkn
        have HF2 := hide hF2
        have HP8 := hide (hP7.grow ((Below.refl _ w7).alloc (Nat.le_refl _) (.cells #[.int .i64 (dr + 1), .int .i64 F2.length, .int .i64 kn] 29)))
        have hx1 := cell_below HP8.out.below HC1.out
        have hx2 := cell_below HP8.out.below HC2.out
        have XH := hide (HP8.out.xhear sd dd HF.out ⟨hd0, by omega⟩)
        rw [hF2] at XH
        have p0 : (w7.alloc (.cells #[.int .i64 (dr + 1), .int .i64 F2.length, .int .i64 kn] 29)).cell? ⟨w7.heap.size, 0, none⟩ = some (.int .i64 (dr + 1)) := by simp
        have p1 : (w7.alloc (.cells #[.int .i64 (dr + 1), .int .i64 F2.length, .int .i64 kn] 29)).cell? ⟨w7.heap.size, 1, none⟩ = some (.int .i64 F2.length) := by simp
        have p2 : (w7.alloc (.cells #[.int .i64 (dr + 1), .int .i64 F2.length, .int .i64 kn] 29)).cell? ⟨w7.heap.size, 2, none⟩ = some (.int .i64 kn) := by simp
        have hq7 := cell_lt p0
        have hsz7 : Hid (¬ M2 w7.heap.size) := fun hi => by have := hP7.es.lt _ hi; omega
        clear hP7 hT hkn hF2
        go_wp2_with fail
        generalize hw8 : w7.alloc (.cells #[.int .i64 (dr + 1), .int .i64 F2.length, .int .i64 kn] 29) = w8 at *
        clear hw8
        refine (XH.out).mono ?_
        rintro e w9 ⟨q2, M2', hT2, rfl, hP9, hk9⟩
        have hkk : (knows k q2.known).length = kn := by rw [← HKn.out]; exact took_count hT2 HT.out
        rw [hkk]
        have pc : ∀ i, w9.cell? ⟨w7.heap.size, i, none⟩ = w8.cell? ⟨w7.heap.size, i, none⟩ := fun i => World.cell?_of_block (w := w8) (hk9.block _ hq7 hsz7.out)
        have hba : Below w9.heap.size w9 (w9.alloc (.cells #[.int .i64 (dr + 1), .int .i64 F2.length, .int .i64 kn] 29)) := (Below.refl _ w9).alloc (Nat.le_refl _) _
        have HP10 := hide (hP9.grow hba)
        have p0' := cell_below hba ((pc 0).trans p0)
        have p1' := cell_below hba ((pc 1).trans p1)
        have p2' := cell_below hba ((pc 2).trans p2)
        have q0 : (w9.alloc (.cells #[.int .i64 (dr + 1), .int .i64 F2.length, .int .i64 kn] 29)).cell? ⟨w9.heap.size, 0, none⟩ = some (.int .i64 (dr + 1)) := by simp
        have q1 : (w9.alloc (.cells #[.int .i64 (dr + 1), .int .i64 F2.length, .int .i64 kn] 29)).cell? ⟨w9.heap.size, 1, none⟩ = some (.int .i64 F2.length) := by simp
        have q2' : (w9.alloc (.cells #[.int .i64 (dr + 1), .int .i64 F2.length, .int .i64 kn] 29)).cell? ⟨w9.heap.size, 2, none⟩ = some (.int .i64 kn) := by simp
        have ER := hide (error_right 0 .nilIface _ (HG.out.below HGL.out HP10.out.below) (Or.inl ⟨rfl, rfl⟩))
        clear hP9 hk9 hT2 hkk pc hba p0 p1 p2 XH hx1 hx2 HP8 hq7
        go_wp2_with fail
        generalize w9.alloc (.cells #[.int .i64 (dr + 1), .int .i64 F2.length, .int .i64 kn] 29) = w10 at *
        refine (ER.out).mono ?_
        rintro e w11 ⟨rfl, hb11⟩
        have HP11 := hide (HP10.out.grow hb11)
        have r0 := cell_below hb11 p0'
        have r1 := cell_below hb11 p1'
        have r2 := cell_below hb11 p2'
        have s0 := cell_below hb11 q0
        have s1 := cell_below hb11 q1
        have s2 := cell_below hb11 q2'
        clear hb11 p0' p1' p2' q0 q1 q2' ER HP10
        have DN := hide (fun W (hb : Below w11.heap.size w11 W) => done_ok (HP11.out.es.below hb))
        have SD := hide (fun W (hb : Below w11.heap.size w11 W) => rseeds_st (HP11.out.re.below hb))
        have RK := hide (fun v1 W hv => rrank_st (w := W) (v := v1) HP11.out.re.ok hv)
        obtain ⟨rk, hrk⟩ : ∃ rk, rkL (mS k (sds F2)) = rk := ⟨_, rfl⟩
        rw [hrk] at DN RK
        obtain ⟨rb, hrb⟩ : ∃ rb, decide (rk = k) = rb := ⟨_, rfl⟩
        rw [hrb] at DN
        have hqb : ((rk : Int) == (k : Int)) = rb := by
          rw [← hrb]
          by_cases e : rk = k
          · rw [decide_eq_true e, e]; simp
          · rw [decide_eq_false e, beq_eq_false_iff_ne]; omega
        have hrr : (rb != rb) = false := by simp
        clear hrk hrb
        go_wp2_with fail
        refine (DN.out w11 (Below.refl _ _)).mono ?_
        rintro e w12 ⟨rfl, hb12⟩
        have SD12 := hide (SD.out w12 hb12)
        have HB12 := hide hb12
        clear hb12 DN SD
        go_wp2_with fail
        refine (SD12.out).mono ?_
        rintro e w13 ⟨v13, rfl, hv13, hb13⟩
        have RK13 := hide (RK.out v13 w13 hv13)
        have HB13 := hide (below_two HB12.out hb13)
        clear hv13 hb13 SD12 RK
        go_wp2_with fail
        refine (RK13.out).mono ?_
        rintro e w14 ⟨rfl, hb14⟩
        have HP14 := hide (HP11.out.grow (below_two HB13.out hb14))
        clear hb14 RK13 HB12 HB13 HP11
        cases rb with
        | true =>
          go_wp2
          go_roundw
          case rel => exact ⟨j + 1, by omega, by omega, by go_num, dr + 1, F2, M1', M2', HP14.out, by omega, by omega⟩
          case measure => simp [intOf]; omega
        | false =>
          go_wp2
          go_roundw
          case rel => exact ⟨j + 1, by omega, by omega, by go_num, dr + 1, F2, M1', M2', HP14.out, by omega, by omega⟩
          case measure => simp [intOf]; omega
      · have RH := hide (rhear_bad HPr.out.re (s j) (d j) hf)
        have XH := hide (fun W (hb : Below wr.heap.size wr W) => hear_bad (HPr.out.es.below hb) (s j) (d j) hf)
        unfold dropV heardV at RH XH
        clear hcs3 hc1 hc2
        generalize hex : eF k z F (s j) (d j).size = ex at *
        clear hex
        generalize s j = sj at *
        generalize d j = dd at *
        go_wp2_with fail
        refine (RH.out).mono ?_
        rintro e w7 ⟨rfl, hb7⟩
        have hba : Below w7.heap.size w7 (w7.alloc (.cells #[.int .i64 0, .int .i64 0, .int .i64 0] 29)) := (Below.refl _ w7).alloc (Nat.le_refl _) _
        have hb8 := below_two hb7 hba
        have HP8 := hide (HPr.out.grow hb8)
        have hx1 := cell_below HP8.out.below HC1.out
        have hx2 := cell_below HP8.out.below HC2.out
        have XH8 := hide (XH.out _ hb8)
        have p0 : (w7.alloc (.cells #[.int .i64 0, .int .i64 0, .int .i64 0] 29)).cell? ⟨w7.heap.size, 0, none⟩ = some (.int .i64 0) := by simp
        have p1 : (w7.alloc (.cells #[.int .i64 0, .int .i64 0, .int .i64 0] 29)).cell? ⟨w7.heap.size, 1, none⟩ = some (.int .i64 0) := by simp
        have p2 : (w7.alloc (.cells #[.int .i64 0, .int .i64 0, .int .i64 0] 29)).cell? ⟨w7.heap.size, 2, none⟩ = some (.int .i64 0) := by simp
        clear hb7 hba hb8 RH XH hcr1 hcr2
        go_wp2_with fail
        generalize w7.alloc (.cells #[.int .i64 0, .int .i64 0, .int .i64 0] 29) = w8 at *
        refine (XH8.out).mono ?_
        rintro e w9 ⟨rfl, hb9⟩
        have hba : Below w9.heap.size w9 (w9.alloc (.cells #[.int .i64 0, .int .i64 0, .int .i64 0] 29)) := (Below.refl _ w9).alloc (Nat.le_refl _) _
        have hb10 := below_two hb9 hba
        have HP10 := hide (HP8.out.grow hb10)
        have p0' := cell_below hb10 p0
        have p1' := cell_below hb10 p1
        have p2' := cell_below hb10 p2
        have q0 : (w9.alloc (.cells #[.int .i64 0, .int .i64 0, .int .i64 0] 29)).cell? ⟨w9.heap.size, 0, none⟩ = some (.int .i64 0) := by simp
        have q1 : (w9.alloc (.cells #[.int .i64 0, .int .i64 0, .int .i64 0] 29)).cell? ⟨w9.heap.size, 1, none⟩ = some (.int .i64 0) := by simp
        have q2' : (w9.alloc (.cells #[.int .i64 0, .int .i64 0, .int .i64 0] 29)).cell? ⟨w9.heap.size, 2, none⟩ = some (.int .i64 0) := by simp
        have ER := hide (error_right ex (.iface 64 (.int .i64 ex)) _ (HG.out.below HGL.out HP10.out.below) (Or.inr rfl))
        clear hb9 hba hb10 p0 p1 p2 XH8 hx1 hx2 HP8
        go_wp2_with fail
        generalize w9.alloc (.cells #[.int .i64 0, .int .i64 0, .int .i64 0] 29) = w10 at *
        refine (ER.out).mono ?_
        rintro e w11 ⟨rfl, hb11⟩
        have HP11 := hide (HP10.out.grow hb11)
        have r0 := cell_below hb11 p0'
        have r1 := cell_below hb11 p1'
        have r2 := cell_below hb11 p2'
        have s0 := cell_below hb11 q0
        have s1 := cell_below hb11 q1
        have s2 := cell_below hb11 q2'
        clear hb11 p0' p1' p2' q0 q1 q2' ER HP10
        have DN := hide (fun W (hb : Below w11.heap.size w11 W) => done_ok (HP11.out.es.below hb))
        have SD := hide (fun W (hb : Below w11.heap.size w11 W) => rseeds_st (HP11.out.re.below hb))
        have RK := hide (fun v1 W hv => rrank_st (w := W) (v := v1) HP11.out.re.ok hv)
        obtain ⟨rk, hrk⟩ : ∃ rk, rkL (mS k (sds F)) = rk := ⟨_, rfl⟩
        rw [hrk] at DN RK
        obtain ⟨rb, hrb⟩ : ∃ rb, decide (rk = k) = rb := ⟨_, rfl⟩
        rw [hrb] at DN
        have hqb : ((rk : Int) == (k : Int)) = rb := by
          rw [← hrb]
          by_cases e : rk = k
          · rw [decide_eq_true e, e]; simp
          · rw [decide_eq_false e, beq_eq_false_iff_ne]; omega
        have hrr : (rb != rb) = false := by simp
        clear hrk hrb
        go_wp2_with fail
        refine (DN.out w11 (Below.refl _ _)).mono ?_
        rintro e w12 ⟨rfl, hb12⟩
        have SD12 := hide (SD.out w12 hb12)
        have HB12 := hide hb12
        clear hb12 DN SD
        go_wp2_with fail
        refine (SD12.out).mono ?_
        rintro e w13 ⟨v13, rfl, hv13, hb13⟩
        have RK13 := hide (RK.out v13 w13 hv13)
        have HB13 := hide (below_two HB12.out hb13)
        clear hv13 hb13 SD12 RK
        go_wp2_with fail
        refine (RK13.out).mono ?_
        rintro e w14 ⟨rfl, hb14⟩
        have HP14 := hide (HP11.out.grow (below_two HB13.out hb14))
        clear hb14 RK13 HB12 HB13 HP11
        cases rb with
        | true =>
          go_wp2
          go_roundw
          case rel => exact ⟨j + 1, by omega, by omega, by go_num, dr, F, M1, M2, HP14.out, by omega, by omega⟩
          case measure => simp [intOf]; omega
        | false =>
          go_wp2
          go_roundw
          case rel => exact ⟨j + 1, by omega, by omega, by go_num, dr, F, M1, M2, HP14.out, by omega, by omega⟩
          case measure => simp [intOf]; omega
    · go_upto_region 7 with fail
      go_cut [53] (fun t wx => t = .bool false ∧ wr = wx)
      case first =>
        by_cases hlt : j < len
        · have hA : ¬ j < 70 := fun h => hin ⟨hlt, h⟩
          clear hin
          go_wp2
          go_meet
          exact ⟨by first | rfl | (simp; omega), rfl⟩
        · obtain rfl : j = len := by omega
          clear hin
          go_wp2
          go_meet
          exact ⟨by first | rfl | simp, rfl⟩
      case rest =>
      obtain ⟨ht1, hw1⟩ := hcut
      subst ht1 hw1
      clear hin
      have RD := hide (rdata_ok HPr.out.re)
      go_wp2_with fail
      refine (RD.out).mono ?_
      rintro e w7 ⟨x, sx, rfl, hx, hb7⟩
      have HP7 := hide (HPr.out.grow hb7)
      have XD := hide (data_ok HP7.out.es)
      have HX := hide hx
      clear hb7 hx RD HPr
      go_wp2_with fail
      refine (XD.out).mono ?_
      rintro e w8 ⟨y, sy, rfl, hy, hb8⟩
      obtain ⟨hxy, hss⟩ := HX.out.det hy
      subst hxy hss
      have HP8 := hide (HP7.out.grow hb8)
      have ER := hide (error_right x (Tell x) w8 (HG.out.below HGL.out HP8.out.below) (tell_is x))
      have hq : (sx.toList == sx.toList) = true := by simp
      have htl : ∃ te, Tell x = te := ⟨_, rfl⟩
      clear hb8 hy XD HP7
      go_wp2_with fail
      refine (ER.out).mono ?_
      rintro e w9 ⟨rfl, hb9⟩
      have HP9 := hide (HP8.out.grow hb9)
      have SD := hide (rseeds_st HP9.out.re)
      clear hb9 ER HP8
      go_wp2_with fail
      refine (SD.out).mono ?_
      rintro e w10 ⟨v10, rfl, hv10, hb10⟩
      have HP10 := hide (HP9.out.grow hb10)
      have RL := hide (rlacks_st HP10.out.re.ok hv10)
      clear hb10 hv10 SD HP9
      go_wp2_with fail
      refine (RL.out).mono ?_
      rintro e w11 ⟨vR, rfl, hoR, hb11⟩
      have HP11 := hide (HP10.out.grow hb11)
      have LK := hide (elacks_ok HP11.out.es)
      have hUk := upL_le (mS k (sds F)) unit k
      generalize upL (mS k (sds F)) unit k = U at *
      have HOR := hide hoR
      clear hb11 hoR RL HP10
      go_wp2_with fail
      refine (LK.out).mono ?_
      rintro e w12 ⟨vX, rfl, hoX, hb12⟩
      have hUi : iV U = (List.range U.length).map fun r : Nat => .int .i64 ((U.getD r 0 : Nat) : Int) := by
        unfold iV
        apply List.ext_getElem
        · simp
        · intro i h1 h2
          simp at h1
          simp [h1]
      have hkk := HK.out.1.2
      have IS := hide (ints_same (n := U.length) (f := fun i => ((U.getD i 0 : Nat) : Int)) (w := w12) (by omega) (own_in (by rw [← hUi]; exact hoX)) ((own_in (by rw [← hUi]; exact HOR.out)).below hb12))
      have HP12 := hide (HP11.out.grow hb12)
      clear hoX hb12 hUi LK HP11
      go_wp2_with fail
      refine (IS.out).mono ?_
      rintro e w13 ⟨rfl, hb13⟩
      have HB13 := hide (below_two HP12.out.below hb13)
      clear hb13
      go_wp2
      go_ret
      exact ⟨rfl, HB13.out⟩
theorem earplays_walk {w : World} (k z n : Int) (v : Value) (len : Nat) (s : Nat → Int) (d : Nat → ByteArray) (hv : DropsAt w v len s d) (hg : HasErr w) :
    Calls Tryz.prog 4 #[.int .i64 k, .int .i64 z, .int .i64 n, v] w fun e w' => e = .returned (.bool true) ∧ Below w.heap.size w w' := by
  by_cases h : EMk k z n
  · obtain ⟨⟨⟨h1, h2⟩, h3, h4⟩, ⟨h5, h6⟩, h7⟩ := h
    obtain ⟨z, rfl⟩ : ∃ q : Nat, z = (q : Nat) := ⟨z.toNat, by omega⟩
    obtain ⟨n, rfl⟩ : ∃ q : Nat, n = (q : Nat) := ⟨n.toNat, by omega⟩
    obtain ⟨k, rfl⟩ : ∃ q : Nat, k = (q : Nat) := ⟨k.toNat, by omega⟩
    have h8 : ((cntN n z : Nat) : Int) = (k : Int) := by simpa using h7
    exact plays_core k z n v len s d hv hg ⟨⟨by omega, by omega⟩, by omega, by omega⟩ (by omega) (by omega)
  · exact plays_refused k z n v hg h
end Go.Proofs.YtjgifjkdgoijmaaGreatDoor
