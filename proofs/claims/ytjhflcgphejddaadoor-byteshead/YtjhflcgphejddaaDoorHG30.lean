/-
  Lemmas for the law above, joined into one text (Told, ErrIs, Top, ByTlW). No statement is proved here.
-/
import Derived.Test.YtjhflcgphejddaaDoorHAs
import Derived.Test.YtjhflcgphejddaaDoorHG28
import Derived.Test.YtjhflcgphejddaaDoorHG0
import Derived.ProofKit
import Derived.OpenShut
import Derived.ShutString
import Derived.Test.YtjhflcgphejddaaDoorHG26
import Derived.Test.YtjhflcgphejddaaDoorHG27
import Derived.Deep.DeepCutAuto
namespace Go.Proofs.YtjhflcgphejddaaDoor
open Go.RowKit Go.Extern.Stop Go.Stop Go.Extern
set_option linter.unusedVariables false
set_option maxRecDepth 100000

/-- What the row's list of variables gives: the cell of errors.errorType. -/
def HasErr (w : World) : Prop := w.cell? ⟨0, 0, none⟩ = some (.iface 136 (.agg #[.pointer (some ⟨1, 26, none⟩)]))
theorem HasErr.lt {w : World} (h : HasErr w) : 0 < w.heap.size := by
  rcases Nat.lt_or_ge 0 w.heap.size with h' | h'
  · exact h'
  · simp [HasErr, World.cell?, Array.getElem?_eq_none h'] at h
theorem HasErr.below {w w' : World} (h : HasErr w) {B : Nat} (hB : 0 < B) (hb : Below B w w') : HasErr w' :=
  (hb.cell (p := ⟨0, 0, none⟩) hB).trans h

theorem told_nil (w : World) : Calls Tryd.prog 20 #[.nilIface] w fun e w' => e = .returned (.int .i64 0) ∧ w = w' := by
  go_enter Tryd.func20, Tryd.ntmps20
  go_wp2
  go_ret
  exact ⟨rfl, rfl⟩
set_option maxHeartbeats 1000000 in
theorem told_hit (n : Int) (w : World) (hg : HasErr w) : Calls Tryd.prog 20 #[.iface 60 (.int .i64 n)] w fun e w' => e = .returned (.int .i64 n) ∧ Below w.heap.size w w' := by
  have hA := as_hit n ⟨w.heap.size, 0, none⟩ (.int .i64 0) (w.alloc (.cells #[.int .i64 0] 60)) (by rw [World.cell?_alloc_lt _ _ ⟨0, 0, none⟩ hg.lt]; exact hg) (by simp) (by simp)
  have K := hide hA
  clear hA
  go_enter Tryd.func20, Tryd.ntmps20
  go_wp2_with fail
  refine (K.out).mono ?_
  rintro e w1 ⟨rfl, rfl⟩
  go_wp2
  go_ret
  refine ⟨rfl, ?_⟩
  repeat (first | exact Below.refl _ _ | refine Below.alloc ?_ (by simp <;> omega) _)
theorem error_nil (x : Int) (w : World) : Calls Tryd.prog 8 #[.nilIface, .int .i64 x] w fun e w' => e = .returned (.bool (0 == x)) ∧ w = w' := by
  go_enter Tryd.func8, Tryd.ntmps8
  go_wp2_with fail
  refine (told_nil _).mono ?_
  rintro e w1 ⟨rfl, rfl⟩
  go_wp2
  go_ret
  exact ⟨rfl, rfl⟩
theorem error_hit (n x : Int) (w : World) (hg : HasErr w) : Calls Tryd.prog 8 #[.iface 60 (.int .i64 n), .int .i64 x] w fun e w' => e = .returned (.bool (n == x)) ∧ Below w.heap.size w w' := by
  go_enter Tryd.func8, Tryd.ntmps8
  go_wp2_with fail
  refine (told_hit _ _ hg).mono ?_
  rintro e w1 ⟨rfl, hb⟩
  go_wp2
  go_ret
  exact ⟨rfl, hb⟩

/-! What the row's list gives a walk, and a world that meets it. -/
theorem errGlobal : Tryd.prog.globalNamed "errors.errorType" = some 0 := by kernel_rfl
theorem errRt : (Tryd.prog.cutTypes.find? (·.1 == "internal/reflectlite.rtype")).map (·.2) = some 136 := by kernel_rfl
theorem errOneRow : ((List.range 183).filter fun t => Tryd.prog.rowNamed t [101, 114, 114, 111, 114]) = [26] := by kernel_rfl
theorem errSize : Tryd.prog.types.size = 183 := by kernel_rfl
theorem hasErr_of_laid {W : World} (h : laidMetH Tryd.prog [("errors.errorType", Rows.laid_errors_errorType)] W) : HasErr W := by
  have h' : laidMet Tryd.prog [] W ∧ handlesMet Tryd.prog [("errors.errorType", Rows.laid_errors_errorType)] W := h
  obtain ⟨name, u, ty, e1, e2, e3, e4, e5⟩ := h'.2 _ (List.mem_singleton.2 rfl)
  have en : name = [101, 114, 114, 111, 114] := (Option.some.inj e1).symm
  subst en
  obtain rfl := Option.some.inj (errRt.symm.trans e2)
  have hm : ty ∈ (List.range 183).filter fun t => Tryd.prog.rowNamed t [101, 114, 114, 111, 114] := List.mem_filter.2 ⟨List.mem_range.2 (by rw [← errSize]; exact e3), e4⟩
  rw [errOneRow] at hm
  obtain rfl := List.mem_singleton.1 hm
  have hh : typeHandle Tryd.prog 26 = .pointer (some ⟨1, 26, none⟩) := by kernel_rfl
  rw [hh] at e5
  have := World.var?_cell errGlobal e5 0
  simpa [HasErr] using this
end Go.Proofs.YtjhflcgphejddaaDoor

namespace Go.Proofs.YtjhflcgphejddaaDoor
open Go.RowKit
set_option linter.unusedVariables false
set_option maxRecDepth 100000

theorem error_right (x : Int) (err : Value) (w : World) (hg : HasErr w) (h : ErrIs x err) :
    Calls Tryd.prog 8 #[err, .int .i64 x] w fun e w' => e = .returned (.bool true) ∧ Below w.heap.size w w' := by
  rcases h with ⟨rfl, rfl⟩ | rfl
  · exact (error_nil 0 w).mono fun e w' ⟨he, hw⟩ => ⟨he, hw ▸ Below.refl _ _⟩
  · exact (error_hit x x w hg).mono fun e w' ⟨he, hb⟩ => ⟨by rw [he]; simp, hb⟩
end Go.Proofs.YtjhflcgphejddaaDoor

namespace Go.Proofs.YtjhflcgphejddaaDoor
open Go.ChangeShapes Go.WideShapes Go.ChangeAt Go.RowKit
open Go.ChangeMaps (open_string shut_string)
set_option linter.unusedVariables false
set_option maxRecDepth 100000

theorem own : ownKnob Tryd.prog.godebug = none := by kernel_rfl
theorem laidOut : laidOutB Tryd.prog = true := by kernel_rfl

theorem trodAll_below {H : Type} {enc : TypeId × Value → H} {W W' : World} (hb : Below W.heap.size W W') : ∀ (ts : List TypeId) (vs : List Value) (ds : List (DataW H)) (p : List MemPlace),
    (∀ t ∈ ts, Tryd.prog.readableRec t = true ∧ t < Tryd.prog.types.size) → DataW.TrodAll enc Tryd.prog W 0 (fun _ => true) true ts vs ds p → (∀ x ∈ p, x.block < W.heap.size) →
    DataW.TrodAll enc Tryd.prog W' 0 (fun b => decide (b < W.heap.size)) true ts vs ds p
  | [], _, _, _, _, h, _ => by
    obtain ⟨rfl, rfl, rfl⟩ := trodAll_nil h
    exact trodAll_mk0
  | t :: ts, _, _, _, ht, h, hlt => by
    obtain ⟨v, vs, d, ds, p, q, rfl, rfl, rfl, h1, h2⟩ := trodAll_cons h
    have hx := ht t (by simp)
    exact trodAll_cons_mk (Below.trod laidOut hx.1 hx.2 h1 hb (fun x hx => hlt x (by simp [hx]))) (trodAll_below hb ts vs ds q (fun t' h' => ht t' (by simp [h'])) h2 (fun x hx => hlt x (by simp [hx])))
end Go.Proofs.YtjhflcgphejddaaDoor

namespace Go.Proofs.YtjhflcgphejddaaDoor
open Go.ChangeShapes Go.WideShapes Go.ChangeAt Go.RowKit Go.Maps
set_option linter.unusedVariables false
set_option maxRecDepth 100000

set_option maxHeartbeats 4000000 in
theorem bytell_walk {w : World} (a b st : Int) {v : Value} (N : Nat) (C : Nat → Cd) (h : CodsIn w v N C) (t : ByteArray) {P : Prop} (_ : P) (hg : HasErr w) :
    Calls Tryd.prog 3 #[.int .i64 a, .int .i64 b, .int .i64 st, v, .string t] w fun e w' => e = .returned (.bool true) ∧ Below w.heap.size w w' := by
  have K1 := hide (rbytes_any a b st h)
  have KP := hide (fun (W : World) (hW : Below w.heap.size w W) => pack_any a b st (h.below hW))
  have EK := hide (fun (W : World) (hb : Below w.heap.size w W) (k : Nat) => error_right (k : Int) (errN k) W (hg.below hg.lt hb) (errIs_N k))
  obtain ⟨S, hS⟩ : ∃ S, S = bytS a b st N C := ⟨_, rfl⟩
  obtain ⟨F, hF⟩ : ∃ F, F = bytF a b st N C := ⟨_, rfl⟩
  rw [← hS, ← hF] at K1 KP
  have hq1 : (S.toList == S.toList) = true := beq_self_eq_true _
  obtain ⟨ad, cap, rfl, _, _, _⟩ := h
  clear hS hF hg
  go_enter Tryd.func3, Tryd.ntmps3
  go_wp2_with fail
  refine (K1.out).mono ?_
  rintro e w1 ⟨rfl, hb1⟩
  have B1 := hide hb1
  clear hb1
  go_wp2_with fail
  refine (KP.out w1 B1.out).mono ?_
  rintro e w2 ⟨rfl, hb2⟩
  have B2 := hide (below_two B1.out hb2)
  clear hb2 KP K1
  go_wp2_with fail
  refine (EK.out w2 B2.out F).mono ?_
  rintro e w3 ⟨rfl, hb3⟩
  have B3 := hide (below_two B2.out hb3)
  clear hb3
  go_wp2_with fail
  refine (rread_any t).mono ?_
  intro e w4 hrb
  obtain ⟨a4, b4, s4, u4, x4, N4, C4, rfl, HC4, HF4, hb4⟩ := rb_fate hrb
  have B4 := hide (below_two B3.out hb4.out)
  clear hrb hb4
  go_wp2_with fail
  refine (unpack_any t).mono ?_
  intro e w5 hub
  obtain ⟨a5, b5, s5, u5, x5, N5, C5, rfl, HC5, HF5, hb5⟩ := ub_fate hub
  have B5 := hide (below_two B4.out hb5.out)
  have HC4' := hide (HC4.out.below hb5.out)
  obtain ⟨rfl, rfl, rfl, rfl, rfl, hN6, hn36, hsame⟩ := fate_one HF4.out HF5.out
  have HS := hide (cods_same HC4'.out hsame)
  have KF := hide (fun (W : World) (hW : Below w5.heap.size w5 W) => films_same (show N4 ≤ 1000 by omega) (fun i hi => by have h1 := hn36 i hi; have h2 := (hsame i hi).2.2.2.1; omega) (HC5.out.below hW) (HS.out.below hW))
  obtain ⟨ad4, cap4, hu4⟩ : ∃ ad cp, u4 = .slice ad N4 cp := by obtain ⟨ad, cp, e, _⟩ := HC4.out; exact ⟨_, _, e⟩
  obtain ⟨ad5, cap5, hu5⟩ : ∃ ad cp, u5 = .slice ad N4 cp := by obtain ⟨ad, cp, e, _⟩ := HC5.out; exact ⟨_, _, e⟩
  clear hub hb5 HC4 HC4' HC5 HS HF4 HF5 hn36 hsame
  subst hu4 hu5
  go_wp2_with fail
  refine (EK.out w5 B5.out x4).mono ?_
  rintro e w6 ⟨rfl, hb6⟩
  have B6 := hide (below_two B5.out hb6)
  have KF6 := hide (KF.out w6 hb6)
  clear hb6
  have ha4 : (a4 == a4) = true := beq_self_eq_true _
  have hb4 : (b4 == b4) = true := beq_self_eq_true _
  have hs4 : (s4 == s4) = true := beq_self_eq_true _
  go_wp2_with fail
  refine (KF6.out).mono ?_
  rintro e w7 ⟨rfl, hb7⟩
  have B7 := hide (below_two B6.out hb7)
  go_wp2
  go_ret
  exact ⟨rfl, B7.out⟩
end Go.Proofs.YtjhflcgphejddaaDoor
