/-
  Lemmas for the law above, joined into one text (RegK, RkReg, RReg). No statement is proved here.
-/
import Derived.Test.YtakaeikobahaoaaDoorTG1
import Derived.RegionTactic
import Derived.OrdersHeld
import Derived.Deep.MidRow
import Derived.Test.YtakaeikobahaoaaDoorTG4
namespace Go.Proofs.YtakaeikobahaoaaDoor
open Go.RowKit
set_option linter.unusedVariables false
set_option maxRecDepth 100000

theorem Act.size_put (a : Act) (d : Tmp) (v : Value) : (a.put (some d) v).tmps.size = a.tmps.size := by simp [Act.put]
theorem Act.sz {a : Act} {d : Tmp} {v : Value} {n : Nat} (hs : a.tmps.size = n) : (a.put (some d) v).tmps.size = n := (Act.size_put a d v).trans hs
theorem Act.ev_put (a : Act) (d t : Tmp) (v : Value) (h : d < a.tmps.size) : (a.put (some d) v).eval (.tmp t) = if t = d then v else a.eval (.tmp t) := by
  simp only [Act.put, Act.eval, Array.getD_eq_getD_getElem?, Array.getElem?_setIfInBounds]
  by_cases e : d = t
  · subst e; simp [h]
  · rw [if_neg e, if_neg (fun h => e h.symm)]
theorem Act.ev_eq {a : Act} {d : Tmp} {v : Value} {n : Nat} (hs : a.tmps.size = n) (h : d < n) : (a.put (some d) v).eval (.tmp d) = v := by rw [Act.ev_put a d d v (hs ▸ h), if_pos rfl]
theorem Act.ev_ne {a : Act} {d t : Tmp} {v u : Value} (h : t ≠ d) (hu : a.eval (.tmp t) = u) : (a.put (some d) v).eval (.tmp t) = u := by
  rw [← hu]
  simp only [Act.put, Act.eval, Array.getD_eq_getD_getElem?, Array.getElem?_setIfInBounds]
  rw [if_neg (fun e => h e.symm)]
theorem Act.put_swap (a : Act) {d e : Tmp} (u v : Value) (h : d ≠ e) : (a.put (some d) u).put (some e) v = (a.put (some e) v).put (some d) u := by
  simp only [Act.put]
  rw [Array.setIfInBounds_comm _ _ h]
theorem run_move {P : Program} {r : Operand → Value} {o : Oper} {x : Operand} {v : Value} (h : o.op = .move x) (hx : r x = v) (w : World) : (execOp r o).run P w = .ok (.value v) w := by
  rw [← hx]; unfold execOp; simp only [h]; rfl
theorem run_index {P : Program} {r : Operand → Value} {o : Oper} {t : TypeId} {x y : Operand} {v ux uy : Value} {w : World} (h : o.op = .indexAddr t x y) (hx : r x = ux) (hy : r y = uy) (hr : (Instr.indexAt t ux uy).run P w = .ok v w) : (execOp r o).run P w = .ok (.value v) w := by
  unfold execOp; simp only [h, hx, hy, Sem.run_bind, hr, Result.andThen_ok, Sem.run_pure]
theorem wp_value {P : Program} {o : Oper} {a : Act} {w : World} {K : Act → World → Prop} {Q : Exit → Act → World → Prop} {v : Value} (h : (execOp a.eval o).run P w = .ok (.value v) w) (hk : K (a.put o.dst v) w) : o.wp P a w K Q := by
  unfold Oper.wp; rw [h]; exact hk
theorem run_load {P : Program} {r : Operand → Value} {o : Oper} {t : TypeId} {x : Operand} {v ux : Value} {w : World} (h : o.op = .load t x) (hx : r x = ux) (hr : (Instr.loadAt t ux).run P w = .ok v w) : (execOp r o).run P w = .ok (.value v) w := by
  unfold execOp; simp only [h, hx, Sem.run_bind, hr, Result.andThen_ok, Sem.run_pure]
/-- A statement, shut: nothing looks into it. -/
structure Shut (p : Prop) : Prop where
  out : p
theorem any_take {P : Program} {ops : Array Oper} {Q : Exit → Act → World → Prop} {md : Region.Mode} {i : Nat} {oi : Oper} {v : Value} {d : Tmp} {fuel : Nat} {listed : Array Bool} {a : Act} {w : World} (hi : ops[i]? = some oi) (hd : oi.dst = some d)
    (hs : Region.noSelect ops = true) (hf : Region.free md ops listed i = true) (hr : (Region.ready md ops listed).contains i = true) (hw : oi.guard = none)
    (hQ : ∀ c a (d : Tmp) v w, Q (.panic c) (Act.put a (some d) v) w → Q (.panic c) a w) (hy : ∀ w, (execOp a.eval oi).run P w = .ok (.value v) w)
    (h : wpAny P md ops Q fuel (listed.setIfInBounds i true) (a.put (some d) v) w) : wpAny P md ops Q (fuel + 1) listed a w :=
  wpAny_take hi hs hf hr (fun c a w h => hQ c a d v w (by rw [hd] at h; exact h)) (Or.inl ⟨by unfold Region.wanted; rw [hw], hy⟩) (by rw [hd]; exact h)
theorem any_one {P : Program} {ops : Array Oper} {Q : Exit → Act → World → Prop} {md : Region.Mode} {fuel : Nat} {listed : Array Bool} {a : Act} {w : World} {i : Nat} {o : Oper} (hr : Region.ready md ops listed = [i]) (ho : ops[i]? = some o) (hw : o.guard = none)
    (h : ∀ K' : Act → World → Prop, (∀ a w, wpAny P md ops Q fuel (listed.setIfInBounds i true) a w → K' a w) → Shut (Oper.wp P o a w K' Q)) : wpAny P md ops Q (fuel + 1) listed a w :=
  wpAny_ready hr (by simp) (AllReady.cons ho (fun K hK => by rw [if_pos (by unfold Region.wanted; rw [hw])]; exact (h K hK).out) AllReady.nil)
theorem any_two {P : Program} {ops : Array Oper} {Q : Exit → Act → World → Prop} {md : Region.Mode} {fuel : Nat} {listed : Array Bool} {a : Act} {w : World} {i j : Nat} {o o' : Oper} (hr : Region.ready md ops listed = [i, j]) (ho : ops[i]? = some o) (hw : o.guard = none) (ho' : ops[j]? = some o') (hw' : o'.guard = none)
    (h : ∀ K' : Act → World → Prop, (∀ a w, wpAny P md ops Q fuel (listed.setIfInBounds i true) a w → K' a w) → Shut (Oper.wp P o a w K' Q))
    (h' : ∀ K' : Act → World → Prop, (∀ a w, wpAny P md ops Q fuel (listed.setIfInBounds j true) a w → K' a w) → Shut (Oper.wp P o' a w K' Q)) : wpAny P md ops Q (fuel + 1) listed a w :=
  wpAny_ready hr (by simp) (AllReady.cons ho (fun K hK => by rw [if_pos (by unfold Region.wanted; rw [hw])]; exact (h K hK).out) (AllReady.cons ho' (fun K hK => by rw [if_pos (by unfold Region.wanted; rw [hw'])]; exact (h' K hK).out) AllReady.nil))
theorem wp_value_at {P : Program} {o : Oper} {a : Act} {w : World} {K : Act → World → Prop} {Q : Exit → Act → World → Prop} {v : Value} {d : Tmp} (hd : o.dst = some d) (h : (execOp a.eval o).run P w = .ok (.value v) w) (hk : K (a.put (some d) v) w) : Shut (o.wp P a w K Q) := by
  refine ⟨?_⟩
  unfold Oper.wp; rw [h, Oper.upon_value, hd]; exact hk
theorem wp_call_at {P : Program} {o : Oper} {a : Act} {w : World} {K : Act → World → Prop} {Q : Exit → Act → World → Prop} {d : Tmp} {R : Value → World → Prop} {f : FuncId} {args : Array Operand} {tys : Array TypeId} (vs : Array Value) (hd : o.dst = some d) (ho : o.op = .call ⟨.value (.func f), args, tys⟩) (hv : args.map a.eval = vs)
    (hr : (invoke (.fn (.func f) #[]) vs).run P w = .ok (.enter f vs) w) (h : Calls P f vs w fun e w' => ∃ v, e = .returned v ∧ R v w') (hk : ∀ v w', R v w' → K (a.put (some d) v) w') : Shut (o.wp P a w K Q) := by
  refine ⟨?_⟩
  have e : (execOp a.eval o).run P w = .ok (.enter f vs) w := by
    unfold execOp
    simp only [ho, resolve, hv, Sem.run_bind]
    rw [show a.eval (.func f) = .func (.func f) #[] #[] from rfl]
    simp only [Deferred.ofValue, Sem.run_pure, Result.andThen_ok, Array.empty_append]
    exact hr
  unfold Oper.wp
  rw [e, Oper.upon_enter, hd]
  exact h.mono fun e w' ⟨v, he, hR⟩ => by subst he; exact hk v w' hR
theorem wp_store_at {P : Program} {op : Oper} {a : Act} {w : World} {K : Act → World → Prop} {Q : Exit → Act → World → Prop} (ty : TypeId) (x y : Operand) (ho : op.op = .store ty x y) (hd : op.dst = none)
    (b o : Nat) (cells : Array Value) (hx : a.eval x = .pointer (some ⟨b, o, none⟩)) (hy : a.eval y = .agg cells)
    (ht : w.there b o cells.size) (hi : (P.info? ty).map (·.size) = some cells.size) (h1 : cells.all (·.oneCell') = true)
    (h : K a (w.setCells b o cells.toList)) : Shut (op.wp P a w K Q) := ⟨wp_store_mid ty x y ho b o cells hx hy ht hi h1 (by rw [hd]; exact h)⟩
theorem wp_value_to {P : Program} {o : Oper} {a : Act} {w w' : World} {K : Act → World → Prop} {Q : Exit → Act → World → Prop} {v : Value} {d : Tmp} (hd : o.dst = some d) (h : (execOp a.eval o).run P w = .ok (.value v) w') (hk : K (a.put (some d) v) w') : Shut (o.wp P a w K Q) := by
  refine ⟨?_⟩
  unfold Oper.wp; rw [h, Oper.upon_value, hd]; exact hk
theorem run_field {P : Program} {r : Operand → Value} {o : Oper} {t : TypeId} {x : Operand} {n : Nat} {v ux : Value} {w : World} (h : o.op = .fieldAddr t x n) (hx : r x = ux) (hr : (Instr.fieldAt t ux n).run P w = .ok v w) : (execOp r o).run P w = .ok (.value v) w := by
  unfold execOp; simp only [h, hx, Sem.run_bind, hr, Result.andThen_ok, Sem.run_pure]

theorem map_one {f : Operand → Value} {x : Operand} {u : Value} (hx : f x = u) : #[x].map f = #[u] := by simp [hx]
theorem map_two {f : Operand → Value} {x y : Operand} {u v : Value} (hx : f x = u) (hy : f y = v) : #[x, y].map f = #[u, v] := by simp [hx, hy]

/-! The same where what is read may be taken first, in every world that meets S. -/
theorem anyH_take {P : Program} {ops : Array Oper} {Q : Exit → Act → World → Prop} {S : World → Prop} {md : Region.Mode} {i : Nat} {oi : Oper} {v : Value} {d : Tmp} {fuel : Nat} {listed : Array Bool} {a : Act} {w : World} (hi : ops[i]? = some oi) (hd : oi.dst = some d)
    (hs : Region.noSelect ops = true) (hf : Region.free md ops listed i = true) (hr : (Region.ready md ops listed).contains i = true) (hw : oi.guard = none)
    (hQ : ∀ c a (d : Tmp) v w, Q (.panic c) (Act.put a (some d) v) w → Q (.panic c) a w) (hS : S w) (hy : ∀ w, S w → (execOp a.eval oi).run P w = .ok (.value v) w)
    (h : wpAnyH P md ops Q S fuel (listed.setIfInBounds i true) (a.put (some d) v) w) : wpAnyH P md ops Q S (fuel + 1) listed a w :=
  wpAnyH_take hi hs hf hr (fun c a w h => hQ c a d v w (by rw [hd] at h; exact h)) (Or.inl ⟨by unfold Region.wanted; rw [hw], hy⟩) hS (by rw [hd]; exact h)
theorem anyH_one {P : Program} {ops : Array Oper} {Q : Exit → Act → World → Prop} {S : World → Prop} {md : Region.Mode} {fuel : Nat} {listed : Array Bool} {a : Act} {w : World} {i : Nat} {o : Oper} (hr : Region.ready md ops listed = [i]) (ho : ops[i]? = some o) (hw : o.guard = none)
    (h : ∀ K' : Act → World → Prop, (∀ a w, S w → wpAnyH P md ops Q S fuel (listed.setIfInBounds i true) a w → K' a w) → Shut (Oper.wp P o a w K' Q)) : wpAnyH P md ops Q S (fuel + 1) listed a w :=
  wpAnyH_all hr (by simp) fun j hj => by
    obtain rfl : j = i := by simpa using hj
    exact wpOp_step ho fun K hK => by rw [if_pos (by unfold Region.wanted; rw [hw])]; exact (h K fun a w h1 h2 => hK a w ⟨h1, h2⟩).out
theorem anyH_two {P : Program} {ops : Array Oper} {Q : Exit → Act → World → Prop} {S : World → Prop} {md : Region.Mode} {fuel : Nat} {listed : Array Bool} {a : Act} {w : World} {i j : Nat} {o o' : Oper} (hr : Region.ready md ops listed = [i, j]) (ho : ops[i]? = some o) (hw : o.guard = none) (ho' : ops[j]? = some o') (hw' : o'.guard = none)
    (h : ∀ K' : Act → World → Prop, (∀ a w, S w → wpAnyH P md ops Q S fuel (listed.setIfInBounds i true) a w → K' a w) → Shut (Oper.wp P o a w K' Q))
    (h' : ∀ K' : Act → World → Prop, (∀ a w, S w → wpAnyH P md ops Q S fuel (listed.setIfInBounds j true) a w → K' a w) → Shut (Oper.wp P o' a w K' Q)) : wpAnyH P md ops Q S (fuel + 1) listed a w :=
  wpAnyH_all hr (by simp) fun q hq => by
    rcases (by simpa using hq : q = i ∨ q = j) with rfl | rfl
    · exact wpOp_step ho fun K hK => by rw [if_pos (by unfold Region.wanted; rw [hw])]; exact (h K fun a w h1 h2 => hK a w ⟨h1, h2⟩).out
    · exact wpOp_step ho' fun K hK => by rw [if_pos (by unfold Region.wanted; rw [hw'])]; exact (h' K fun a w h1 h2 => hK a w ⟨h1, h2⟩).out
end Go.Proofs.YtakaeikobahaoaaDoor

namespace Go.Proofs.YtakaeikobahaoaaDoor
open Go.RowKit
set_option linter.unusedVariables false
set_option maxRecDepth 100000

theorem idx_rowM (g N cap i : Nat) (w : World) (hi : i < N) (hN : N ≤ 1000) : (Instr.indexAt 35 (.slice (some ⟨g, 0, none⟩) N cap) (.int .i64 i)).run Tryd.prog w = .ok (.pointer (some ⟨g, i * 17, none⟩)) w := by
  have h1 : (i : Int) < (N : Int) := by omega
  go_simp
def opR21x0 : Oper := { dst := some 71, op := Op.move (Operand.tmp 5), type := 35, pos := "base.go:406", after := #[], guard := none }
def opR21x1 : Oper := { dst := some 72, op := Op.move (Operand.tmp 11), type := 3, pos := "base.go:406", after := #[], guard := none }
def opR21x2 : Oper := { dst := some 73, op := Op.move (Operand.tmp 5), type := 35, pos := "base.go:406", after := #[], guard := none }
def opR21x3 : Oper := { dst := some 74, op := Op.move (Operand.tmp 11), type := 3, pos := "base.go:406", after := #[], guard := none }
def opR21x4 : Oper := { dst := some 75, op := Op.indexAddr 35 (Operand.tmp 73) (Operand.tmp 74), type := 0, pos := "base.go:406", after := #[{ on := 2, ground := Ground.data }, { on := 3, ground := Ground.data }], guard := none }
def opR21x5 : Oper := { dst := some 76, op := Op.load 38 (Operand.tmp 75), type := 38, pos := "base.go:406", after := #[{ on := 4, ground := Ground.data }], guard := none }
def opR21x6 : Oper := { dst := some 77, op := Op.load 38 (Operand.tmp 10), type := 38, pos := "base.go:406", after := #[], guard := none }
def opR21x7 : Oper := { dst := some 78, op := Op.call { callee := Callee.value (Operand.func 24), args := #[Operand.tmp 76, Operand.tmp 77], argTypes := #[38, 38] }, type := 38, pos := "base.go:406", after := #[{ on := 5, ground := Ground.data }, { on := 6, ground := Ground.data }], guard := none }
def opR21x8 : Oper := { dst := some 79, op := Op.indexAddr 35 (Operand.tmp 71) (Operand.tmp 72), type := 0, pos := "base.go:406", after := #[{ on := 0, ground := Ground.data }, { on := 1, ground := Ground.data }, { on := 0, ground := Ground.phase }, { on := 1, ground := Ground.phase }, { on := 2, ground := Ground.phase }, { on := 3, ground := Ground.phase }, { on := 4, ground := Ground.phase }, { on := 5, ground := Ground.phase }, { on := 6, ground := Ground.phase }, { on := 7, ground := Ground.phase }], guard := none }
def opR21x9 : Oper := { dst := none, op := Op.store 38 (Operand.tmp 79) (Operand.tmp 78), type := 0, pos := "base.go:406", after := #[{ on := 8, ground := Ground.data }, { on := 7, ground := Ground.data }, { on := 7, ground := Ground.chain }, { on := 0, ground := Ground.phase }, { on := 1, ground := Ground.phase }, { on := 2, ground := Ground.phase }, { on := 3, ground := Ground.phase }, { on := 4, ground := Ground.phase }, { on := 5, ground := Ground.phase }, { on := 6, ground := Ground.phase }, { on := 7, ground := Ground.phase }], guard := none }
def opR21 : Array Oper := #[opR21x0, opR21x1, opR21x2, opR21x3, opR21x4, opR21x5, opR21x6, opR21x7, opR21x8, opR21x9]
theorem atopR21x0 : opR21[0]? = some opR21x0 := rfl
theorem atopR21x1 : opR21[1]? = some opR21x1 := rfl
theorem atopR21x2 : opR21[2]? = some opR21x2 := rfl
theorem atopR21x3 : opR21[3]? = some opR21x3 := rfl
theorem atopR21x4 : opR21[4]? = some opR21x4 := rfl
theorem atopR21x5 : opR21[5]? = some opR21x5 := rfl
theorem atopR21x6 : opR21[6]? = some opR21x6 := rfl
theorem atopR21x7 : opR21[7]? = some opR21x7 := rfl
theorem atopR21x8 : opR21[8]? = some opR21x8 := rfl
theorem atopR21x9 : opR21[9]? = some opR21x9 := rfl

set_option maxHeartbeats 1000000 in
theorem tailR21 {Q : Exit → Act → World → Prop} {a : Act} {w w0 : World} {listed : Array Bool} (g N cap i : Nat) (ci cx cc : Array Value) (hs : a.tmps.size = 83) (hb0 : Below w.heap.size w w0)
    (h71 : a.eval (.tmp 71) = .slice (some ⟨g, 0, none⟩) N cap) (h72 : a.eval (.tmp 72) = .int .i64 i) (h76 : a.eval (.tmp 76) = .agg ci) (h77 : a.eval (.tmp 77) = .agg cx) (hi : i < N) (hN : N ≤ 1000) (hth : ∀ W, Below w.heap.size w W → W.there g (i * 17) cc.size) (hcs : cc.size = 17) (hc1 : cc.all (·.oneCell') = true)
    (OV : ∀ W, Calls Tryd.prog 24 #[.agg ci, .agg cx] W fun e w' => e = .returned (.agg cc) ∧ Below W.heap.size W w')
    (r7 : Region.ready .any opR21 listed = [7]) (r8 : Region.ready .any opR21 (listed.setIfInBounds 7 true) = [8]) (r9 : Region.ready .any opR21 ((listed.setIfInBounds 7 true).setIfInBounds 8 true) = [9]) (r10 : Region.ready .any opR21 (((listed.setIfInBounds 7 true).setIfInBounds 8 true).setIfInBounds 9 true) = [])
    (hend : ∀ W, Below w.heap.size w W → Q .normal ((a.put (some 78) (.agg cc)).put (some 79) (.pointer (some ⟨g, i * 17, none⟩))) (W.setCells g (i * 17) cc.toList)) :
    wpAny Tryd.prog .any opR21 Q 3 listed a w0 := by
  refine any_one r7 atopR21x7 rfl (fun K hK => ?_)
  refine wp_call_at (R := fun v w' => v = .agg cc ∧ Below w0.heap.size w0 w') #[.agg ci, .agg cx] (d := 78) rfl rfl (by simp [h76, h77]) (by go_simp) ((OV w0).mono fun e w' h => ⟨_, h.1, rfl, h.2⟩) (fun v w' hv => hK _ _ ?_)
  obtain ⟨rfl, hb1⟩ := hv
  clear hK K OV
  have hbW := below_two hb0 hb1
  refine any_one r8 atopR21x8 rfl (fun K hK => ?_)
  refine wp_value_at (d := 79) (v := .pointer (some ⟨g, i * 17, none⟩)) rfl (run_index rfl (Act.ev_ne (by decide) h71) (Act.ev_ne (by decide) h72) (idx_rowM g N cap i w' hi hN)) (hK _ _ ?_)
  clear hK K
  refine any_one r9 atopR21x9 rfl (fun K hK => ?_)
  refine wp_store_at 38 _ _ rfl rfl g (i * 17) cc (Act.ev_eq (Act.sz hs) (by decide)) (Act.ev_ne (by decide) (Act.ev_eq hs (by decide))) (hth _ hbW) (by rw [hcs]; exact Tryd.sizeLine) hc1 (hK _ _ ?_)
  clear hK K
  exact wpAny_done r10 (hend _ hbW) _

set_option maxHeartbeats 1000000 in
theorem regionR21 {Q : Exit → Act → World → Prop} {a : Act} {w : World} (g gx N cap i : Nat) (ci cx cc : Array Value) (hs : a.tmps.size = 83)
    (h5 : a.eval (.tmp 5) = .slice (some ⟨g, 0, none⟩) N cap) (h11 : a.eval (.tmp 11) = .int .i64 i) (h10 : a.eval (.tmp 10) = .pointer (some ⟨gx, 0, none⟩))
    (hi : i < N) (hN : N ≤ 1000) (hRi : w.rangeAt g (i * 17) ci.toList) (hRx : w.rangeAt gx 0 cx.toList) (hci : ci.size = 17) (hcx : cx.size = 17)
    (hth : ∀ W, Below w.heap.size w W → W.there g (i * 17) cc.size) (hcs : cc.size = 17) (hc1 : cc.all (·.oneCell') = true)
    (OV : ∀ W, Calls Tryd.prog 24 #[.agg ci, .agg cx] W fun e w' => e = .returned (.agg cc) ∧ Below W.heap.size W w')
    (hQ : ∀ c a (d : Tmp) v w, Q (.panic c) (Act.put a (some d) v) w → Q (.panic c) a w)
    (hend : ∀ W, Below w.heap.size w W → Q .normal (((((((((a.put (some 71) (.slice (some ⟨g, 0, none⟩) N cap)).put (some 72) (.int .i64 i)).put (some 73) (.slice (some ⟨g, 0, none⟩) N cap)).put (some 74) (.int .i64 i)).put (some 75) (.pointer (some ⟨g, i * 17, none⟩))).put (some 76) (.agg ci)).put (some 77) (.agg cx)).put (some 78) (.agg cc)).put (some 79) (.pointer (some ⟨g, i * 17, none⟩))) (W.setCells g (i * 17) cc.toList)) :
    (Code.region 21 opR21 true).wp Tryd.prog Q a w := by
  refine wp_region_any (by kernel_rfl) ?_
  show wpAny _ _ _ _ 10 (Array.replicate 10 false) a w.drew
  have hRi' := (World.rangeAt_drew w g (i * 17) ci.toList).2 hRi
  have hRx' := (World.rangeAt_drew w gx 0 cx.toList).2 hRx
  have hb0 : Below w.heap.size w w.drew := (Below.refl _ _).drew
  generalize w.drew = w0 at *
  have ldI : (Instr.loadAt 38 (.pointer (some ⟨g, i * 17, none⟩))).run Tryd.prog w0 = .ok (.agg ci) w0 := by
    have h := run_loadAt_mid (P := Tryd.prog) w0 g (i * 17) 38 ci.toList _ hRi' Tryd.underlying38 rfl (by rw [Array.length_toList, hci]; exact Tryd.sizeLine)
    rw [Array.toArray_toList] at h; exact h
  have ldX : (Instr.loadAt 38 (.pointer (some ⟨gx, 0, none⟩))).run Tryd.prog w0 = .ok (.agg cx) w0 := by
    have h := run_loadAt_mid (P := Tryd.prog) w0 gx 0 38 cx.toList _ hRx' Tryd.underlying38 rfl (by rw [Array.length_toList, hcx]; exact Tryd.sizeLine)
    rw [Array.toArray_toList] at h; exact h
  refine any_take (i := 0) (d := 71) (v := (.slice (some ⟨g, 0, none⟩) N cap)) atopR21x0 rfl (by kernel_rfl) (by kernel_rfl) (by kernel_rfl) rfl hQ (fun w => (run_move rfl h5 w)) ?_
  refine any_take (i := 1) (d := 72) (v := (.int .i64 i)) atopR21x1 rfl (by kernel_rfl) (by kernel_rfl) (by kernel_rfl) rfl hQ (fun w => (run_move rfl (Act.ev_ne (by decide) h11) w)) ?_
  refine any_take (i := 2) (d := 73) (v := (.slice (some ⟨g, 0, none⟩) N cap)) atopR21x2 rfl (by kernel_rfl) (by kernel_rfl) (by kernel_rfl) rfl hQ (fun w => (run_move rfl (Act.ev_ne (by decide) (Act.ev_ne (by decide) h5)) w)) ?_
  refine any_take (i := 3) (d := 74) (v := (.int .i64 i)) atopR21x3 rfl (by kernel_rfl) (by kernel_rfl) (by kernel_rfl) rfl hQ (fun w => (run_move rfl (Act.ev_ne (by decide) (Act.ev_ne (by decide) (Act.ev_ne (by decide) h11))) w)) ?_
  refine any_take (i := 4) (d := 75) (v := (.pointer (some ⟨g, i * 17, none⟩))) atopR21x4 rfl (by kernel_rfl) (by kernel_rfl) (by kernel_rfl) rfl hQ (fun w => (run_index rfl (Act.ev_ne (by decide) (Act.ev_eq (Act.sz (Act.sz hs)) (by decide))) (Act.ev_eq (Act.sz (Act.sz (Act.sz hs))) (by decide)) (idx_rowM g N cap i w hi hN))) ?_
  refine any_two (i := 5) (j := 6) (by kernel_rfl) atopR21x5 rfl atopR21x6 rfl (fun K hK => ?_) (fun K hK => ?_)
  · refine wp_value_at (d := 76) (v := (.agg ci)) rfl (run_load rfl (Act.ev_eq (Act.sz (Act.sz (Act.sz (Act.sz hs)))) (by decide)) ldI) (hK _ _ ?_)
    clear hK K
    refine any_one (i := 6) (by kernel_rfl) atopR21x6 rfl (fun K hK => ?_)
    refine wp_value_at (d := 77) (v := (.agg cx)) rfl (run_load rfl (Act.ev_ne (by decide) (Act.ev_ne (by decide) (Act.ev_ne (by decide) (Act.ev_ne (by decide) (Act.ev_ne (by decide) (Act.ev_ne (by decide) h10)))))) ldX) (hK _ _ ?_)
    clear hK K
    refine tailR21 g N cap i ci cx cc (Act.sz (Act.sz (Act.sz (Act.sz (Act.sz (Act.sz (Act.sz hs))))))) hb0 (Act.ev_ne (by decide) (Act.ev_ne (by decide) (Act.ev_ne (by decide) (Act.ev_ne (by decide) (Act.ev_ne (by decide) (Act.ev_ne (by decide) (Act.ev_eq hs (by decide)))))))) (Act.ev_ne (by decide) (Act.ev_ne (by decide) (Act.ev_ne (by decide) (Act.ev_ne (by decide) (Act.ev_ne (by decide) (Act.ev_eq (Act.sz hs) (by decide))))))) (Act.ev_ne (by decide) (Act.ev_eq (Act.sz (Act.sz (Act.sz (Act.sz (Act.sz hs))))) (by decide))) (Act.ev_eq (Act.sz (Act.sz (Act.sz (Act.sz (Act.sz (Act.sz hs)))))) (by decide)) hi hN hth hcs hc1 OV (by kernel_rfl) (by kernel_rfl) (by kernel_rfl) (by kernel_rfl) ?_
    exact hend
  · refine wp_value_at (d := 77) (v := (.agg cx)) rfl (run_load rfl (Act.ev_ne (by decide) (Act.ev_ne (by decide) (Act.ev_ne (by decide) (Act.ev_ne (by decide) (Act.ev_ne (by decide) h10))))) ldX) (hK _ _ ?_)
    clear hK K
    refine any_one (i := 5) (by kernel_rfl) atopR21x5 rfl (fun K hK => ?_)
    refine wp_value_at (d := 76) (v := (.agg ci)) rfl (run_load rfl (Act.ev_ne (by decide) (Act.ev_eq (Act.sz (Act.sz (Act.sz (Act.sz hs)))) (by decide))) ldI) (hK _ _ ?_)
    clear hK K
    refine tailR21 g N cap i ci cx cc (Act.sz (Act.sz (Act.sz (Act.sz (Act.sz (Act.sz (Act.sz hs))))))) hb0 (Act.ev_ne (by decide) (Act.ev_ne (by decide) (Act.ev_ne (by decide) (Act.ev_ne (by decide) (Act.ev_ne (by decide) (Act.ev_ne (by decide) (Act.ev_eq hs (by decide)))))))) (Act.ev_ne (by decide) (Act.ev_ne (by decide) (Act.ev_ne (by decide) (Act.ev_ne (by decide) (Act.ev_ne (by decide) (Act.ev_eq (Act.sz hs) (by decide))))))) (Act.ev_eq (Act.sz (Act.sz (Act.sz (Act.sz (Act.sz (Act.sz hs)))))) (by decide)) (Act.ev_ne (by decide) (Act.ev_eq (Act.sz (Act.sz (Act.sz (Act.sz (Act.sz hs))))) (by decide))) hi hN hth hcs hc1 OV (by kernel_rfl) (by kernel_rfl) (by kernel_rfl) (by kernel_rfl) ?_
    rw [Act.put_swap _ (.agg cx) (.agg ci) (show (77 : Nat) ≠ 76 by decide)]
    exact hend
end Go.Proofs.YtakaeikobahaoaaDoor

namespace Go.Proofs.YtakaeikobahaoaaDoor
open Go.RowKit
set_option linter.unusedVariables false
set_option maxRecDepth 100000

theorem idx_row (g N cap i : Nat) (w : World) (hi : i < N) (hN : N ≤ 60) : (Instr.indexAt 35 (.slice (some ⟨g, 0, none⟩) N cap) (.int .i64 i)).run Tryd.prog w = .ok (.pointer (some ⟨g, i * 17, none⟩)) w := by
  have h1 : (i : Int) < (N : Int) := by omega
  go_simp
theorem idx_arr (g b : Nat) (w : World) (hb : b < 16) : (Instr.indexAt 41 (.pointer (some ⟨g, 0, none⟩)) (.int .i64 b)).run Tryd.prog w = .ok (.pointer (some ⟨g, b, none⟩)) w := by
  have h1 : (b : Int) < 16 := by omega
  go_simp
theorem load_int (g b : Nat) (x : Int) (w : World) (h : w.cell? ⟨g, b, none⟩ = some (.int .i64 x)) : (Instr.loadAt 3 (.pointer (some ⟨g, b, none⟩))).run Tryd.prog w = .ok (.int .i64 x) w := by
  go_simp

def op22x0 : Oper := { dst := some 87, op := .move (.tmp 9), type := 35, pos := "base.go:281", after := #[], guard := none }
def op22x1 : Oper := { dst := some 88, op := .move (.tmp 12), type := 3, pos := "base.go:281", after := #[], guard := none }
def op22x2 : Oper := { dst := some 89, op := .move (.tmp 9), type := 35, pos := "base.go:281", after := #[], guard := none }
def op22x3 : Oper := { dst := some 90, op := .move (.tmp 12), type := 3, pos := "base.go:281", after := #[], guard := none }
def op22x4 : Oper := { dst := some 91, op := .indexAddr 35 (.tmp 89) (.tmp 90), type := 0, pos := "base.go:281", after := #[{ on := 2, ground := .data }, { on := 3, ground := .data }], guard := none }
def op22x5 : Oper := { dst := some 92, op := .load 38 (.tmp 91), type := 38, pos := "base.go:281", after := #[{ on := 4, ground := .data }], guard := none }
def op22x6 : Oper := { dst := some 93, op := .move (.tmp 9), type := 35, pos := "base.go:281", after := #[], guard := none }
def op22x7 : Oper := { dst := some 94, op := .move (.tmp 10), type := 3, pos := "base.go:281", after := #[], guard := none }
def op22x8 : Oper := { dst := some 95, op := .indexAddr 41 (.tmp 6) (.tmp 94), type := 0, pos := "base.go:281", after := #[{ on := 7, ground := .data }], guard := none }
def op22x9 : Oper := { dst := some 96, op := .load 3 (.tmp 95), type := 3, pos := "base.go:281", after := #[{ on := 8, ground := .data }], guard := none }
def op22x10 : Oper := { dst := some 97, op := .indexAddr 35 (.tmp 93) (.tmp 96), type := 0, pos := "base.go:281", after := #[{ on := 6, ground := .data }, { on := 9, ground := .data }], guard := none }
def op22x11 : Oper := { dst := some 98, op := .load 38 (.tmp 97), type := 38, pos := "base.go:281", after := #[{ on := 10, ground := .data }], guard := none }
def op22x12 : Oper := { dst := some 99, op := .call { callee := .value (.func 24), args := #[.tmp 92, .tmp 98], argTypes := #[38, 38] }, type := 38, pos := "base.go:281", after := #[{ on := 5, ground := .data }, { on := 11, ground := .data }], guard := none }
def op22x13 : Oper := { dst := some 100, op := .indexAddr 35 (.tmp 87) (.tmp 88), type := 0, pos := "base.go:281", after := #[{ on := 0, ground := .data }, { on := 1, ground := .data }, { on := 0, ground := .phase }, { on := 1, ground := .phase }, { on := 2, ground := .phase }, { on := 3, ground := .phase }, { on := 4, ground := .phase }, { on := 5, ground := .phase }, { on := 6, ground := .phase }, { on := 7, ground := .phase }, { on := 8, ground := .phase }, { on := 9, ground := .phase }, { on := 10, ground := .phase }, { on := 11, ground := .phase }, { on := 12, ground := .phase }], guard := none }
def op22x14 : Oper := { dst := none, op := .store 38 (.tmp 100) (.tmp 99), type := 0, pos := "base.go:281", after := #[{ on := 13, ground := .data }, { on := 12, ground := .data }, { on := 12, ground := .chain }, { on := 0, ground := .phase }, { on := 1, ground := .phase }, { on := 2, ground := .phase }, { on := 3, ground := .phase }, { on := 4, ground := .phase }, { on := 5, ground := .phase }, { on := 6, ground := .phase }, { on := 7, ground := .phase }, { on := 8, ground := .phase }, { on := 9, ground := .phase }, { on := 10, ground := .phase }, { on := 11, ground := .phase }, { on := 12, ground := .phase }], guard := none }
def ops22 : Array Oper := #[op22x0, op22x1, op22x2, op22x3, op22x4, op22x5, op22x6, op22x7, op22x8, op22x9, op22x10, op22x11, op22x12, op22x13, op22x14]
theorem at22x0 : ops22[0]? = some op22x0 := rfl
theorem at22x1 : ops22[1]? = some op22x1 := rfl
theorem at22x2 : ops22[2]? = some op22x2 := rfl
theorem at22x3 : ops22[3]? = some op22x3 := rfl
theorem at22x4 : ops22[4]? = some op22x4 := rfl
theorem at22x5 : ops22[5]? = some op22x5 := rfl
theorem at22x6 : ops22[6]? = some op22x6 := rfl
theorem at22x7 : ops22[7]? = some op22x7 := rfl
theorem at22x8 : ops22[8]? = some op22x8 := rfl
theorem at22x9 : ops22[9]? = some op22x9 := rfl
theorem at22x10 : ops22[10]? = some op22x10 := rfl
theorem at22x11 : ops22[11]? = some op22x11 := rfl
theorem at22x12 : ops22[12]? = some op22x12 := rfl
theorem at22x13 : ops22[13]? = some op22x13 := rfl
theorem at22x14 : ops22[14]? = some op22x14 := rfl
set_option maxHeartbeats 1000000 in
theorem tail22 {Q : Exit → Act → World → Prop} {a : Act} {w w0 : World} {listed : Array Bool} (g N cap i : Nat) (ci cp cc : Array Value) (hs : a.tmps.size = 103) (hb0 : Below w.heap.size w w0)
    (h87 : a.eval (.tmp 87) = .slice (some ⟨g, 0, none⟩) N cap) (h88 : a.eval (.tmp 88) = .int .i64 i) (h92 : a.eval (.tmp 92) = .agg ci) (h98 : a.eval (.tmp 98) = .agg cp) (hi : i < N) (hN : N ≤ 60) (hth : ∀ W, Below w.heap.size w W → W.there g (i * 17) cc.size) (hcs : cc.size = 17) (hc1 : cc.all (·.oneCell') = true)
    (OV : ∀ W, Calls Tryd.prog 24 #[.agg ci, .agg cp] W fun e w' => e = .returned (.agg cc) ∧ Below W.heap.size W w')
    (r12 : Region.ready .any ops22 listed = [12]) (r13 : Region.ready .any ops22 (listed.setIfInBounds 12 true) = [13]) (r14 : Region.ready .any ops22 ((listed.setIfInBounds 12 true).setIfInBounds 13 true) = [14]) (r15 : Region.ready .any ops22 (((listed.setIfInBounds 12 true).setIfInBounds 13 true).setIfInBounds 14 true) = [])
    (hend : ∀ W, Below w.heap.size w W → Q .normal ((a.put (some 99) (.agg cc)).put (some 100) (.pointer (some ⟨g, i * 17, none⟩))) (W.setCells g (i * 17) cc.toList)) :
    wpAny Tryd.prog .any ops22 Q 3 listed a w0 := by
  refine any_one r12 at22x12 rfl (fun K hK => ?_)
  refine wp_call_at (R := fun v w' => v = .agg cc ∧ Below w0.heap.size w0 w') #[.agg ci, .agg cp] (d := 99) rfl rfl (by simp [h92, h98]) (by go_simp) ((OV w0).mono fun e w' h => ⟨_, h.1, rfl, h.2⟩) (fun v w' hv => hK _ _ ?_)
  obtain ⟨rfl, hb1⟩ := hv
  clear hK K OV
  have hbW := below_two hb0 hb1
  refine any_one r13 at22x13 rfl (fun K hK => ?_)
  refine wp_value_at (d := 100) (v := .pointer (some ⟨g, i * 17, none⟩)) rfl (run_index rfl (Act.ev_ne (by decide) h87) (Act.ev_ne (by decide) h88) (idx_row g N cap i w' hi hN)) (hK _ _ ?_)
  clear hK K
  refine any_one r14 at22x14 rfl (fun K hK => ?_)
  refine wp_store_at 38 _ _ rfl rfl g (i * 17) cc (Act.ev_eq (Act.sz hs) (by decide)) (Act.ev_ne (by decide) (Act.ev_eq hs (by decide))) (hth _ hbW) (by rw [hcs]; exact Tryd.sizeLine) hc1 (hK _ _ ?_)
  clear hK K
  exact wpAny_done r15 (hend _ hbW) _

set_option maxHeartbeats 1000000 in
theorem region22 {Q : Exit → Act → World → Prop} {a : Act} {w : World} (g ga N cap i b p : Nat) (ci cp cc : Array Value) (hs : a.tmps.size = 103)
    (h9 : a.eval (.tmp 9) = .slice (some ⟨g, 0, none⟩) N cap) (h12 : a.eval (.tmp 12) = .int .i64 i) (h10 : a.eval (.tmp 10) = .int .i64 b) (h6 : a.eval (.tmp 6) = .pointer (some ⟨ga, 0, none⟩))
    (hi : i < N) (hp : p < N) (hN : N ≤ 60) (hb : b < 16) (hat : w.cell? ⟨ga, b, none⟩ = some (.int .i64 p)) (hRi : w.rangeAt g (i * 17) ci.toList) (hRp : w.rangeAt g (p * 17) cp.toList) (hci : ci.size = 17) (hcp : cp.size = 17)
    (hth : ∀ W, Below w.heap.size w W → W.there g (i * 17) cc.size) (hcs : cc.size = 17) (hc1 : cc.all (·.oneCell') = true)
    (OV : ∀ W, Calls Tryd.prog 24 #[.agg ci, .agg cp] W fun e w' => e = .returned (.agg cc) ∧ Below W.heap.size W w')
    (hQ : ∀ c a (d : Tmp) v w, Q (.panic c) (Act.put a (some d) v) w → Q (.panic c) a w)
    (hend : ∀ W, Below w.heap.size w W → Q .normal ((((((((((((((a.put (some 87) (.slice (some ⟨g, 0, none⟩) N cap)).put (some 88) (.int .i64 i)).put (some 89) (.slice (some ⟨g, 0, none⟩) N cap)).put (some 90) (.int .i64 i)).put (some 91) (.pointer (some ⟨g, i * 17, none⟩))).put (some 93) (.slice (some ⟨g, 0, none⟩) N cap)).put (some 94) (.int .i64 b)).put (some 95) (.pointer (some ⟨ga, b, none⟩))).put (some 92) (.agg ci)).put (some 96) (.int .i64 p)).put (some 97) (.pointer (some ⟨g, p * 17, none⟩))).put (some 98) (.agg cp)).put (some 99) (.agg cc)).put (some 100) (.pointer (some ⟨g, i * 17, none⟩))) (W.setCells g (i * 17) cc.toList)) :
    (Code.region 22 ops22 true).wp Tryd.prog Q a w := by
  refine wp_region_any (by kernel_rfl) ?_
  show wpAny _ _ _ _ 15 (Array.replicate 15 false) a w.drew
  have hRi' := (World.rangeAt_drew w g (i * 17) ci.toList).2 hRi
  have hRp' := (World.rangeAt_drew w g (p * 17) cp.toList).2 hRp
  have hat' : w.drew.cell? ⟨ga, b, none⟩ = some (.int .i64 p) := hat
  have hb0 : Below w.heap.size w w.drew := (Below.refl _ _).drew
  generalize w.drew = w0 at *
  have ldI : (Instr.loadAt 38 (.pointer (some ⟨g, i * 17, none⟩))).run Tryd.prog w0 = .ok (.agg ci) w0 := by
    have h := run_loadAt_mid (P := Tryd.prog) w0 g (i * 17) 38 ci.toList _ hRi' Tryd.underlying38 rfl (by rw [Array.length_toList, hci]; exact Tryd.sizeLine)
    rw [Array.toArray_toList] at h; exact h
  have ldP : (Instr.loadAt 38 (.pointer (some ⟨g, p * 17, none⟩))).run Tryd.prog w0 = .ok (.agg cp) w0 := by
    have h := run_loadAt_mid (P := Tryd.prog) w0 g (p * 17) 38 cp.toList _ hRp' Tryd.underlying38 rfl (by rw [Array.length_toList, hcp]; exact Tryd.sizeLine)
    rw [Array.toArray_toList] at h; exact h
  have ldA := load_int ga b p w0 hat'
  refine any_take (i := 0) (d := 87) (v := (.slice (some ⟨g, 0, none⟩) N cap)) at22x0 rfl (by kernel_rfl) (by kernel_rfl) (by kernel_rfl) rfl hQ (fun w => (run_move rfl h9 w)) ?_
  refine any_take (i := 1) (d := 88) (v := (.int .i64 i)) at22x1 rfl (by kernel_rfl) (by kernel_rfl) (by kernel_rfl) rfl hQ (fun w => (run_move rfl (Act.ev_ne (by decide) h12) w)) ?_
  refine any_take (i := 2) (d := 89) (v := (.slice (some ⟨g, 0, none⟩) N cap)) at22x2 rfl (by kernel_rfl) (by kernel_rfl) (by kernel_rfl) rfl hQ (fun w => (run_move rfl (Act.ev_ne (by decide) (Act.ev_ne (by decide) h9)) w)) ?_
  refine any_take (i := 3) (d := 90) (v := (.int .i64 i)) at22x3 rfl (by kernel_rfl) (by kernel_rfl) (by kernel_rfl) rfl hQ (fun w => (run_move rfl (Act.ev_ne (by decide) (Act.ev_ne (by decide) (Act.ev_ne (by decide) h12))) w)) ?_
  refine any_take (i := 4) (d := 91) (v := (.pointer (some ⟨g, i * 17, none⟩))) at22x4 rfl (by kernel_rfl) (by kernel_rfl) (by kernel_rfl) rfl hQ (fun w => (run_index rfl (Act.ev_ne (by decide) (Act.ev_eq (Act.sz (Act.sz hs)) (by decide))) (Act.ev_eq (Act.sz (Act.sz (Act.sz hs))) (by decide)) (idx_row g N cap i w hi hN))) ?_
  refine any_take (i := 6) (d := 93) (v := (.slice (some ⟨g, 0, none⟩) N cap)) at22x6 rfl (by kernel_rfl) (by kernel_rfl) (by kernel_rfl) rfl hQ (fun w => (run_move rfl (Act.ev_ne (by decide) (Act.ev_ne (by decide) (Act.ev_ne (by decide) (Act.ev_ne (by decide) (Act.ev_ne (by decide) h9))))) w)) ?_
  refine any_take (i := 7) (d := 94) (v := (.int .i64 b)) at22x7 rfl (by kernel_rfl) (by kernel_rfl) (by kernel_rfl) rfl hQ (fun w => (run_move rfl (Act.ev_ne (by decide) (Act.ev_ne (by decide) (Act.ev_ne (by decide) (Act.ev_ne (by decide) (Act.ev_ne (by decide) (Act.ev_ne (by decide) h10)))))) w)) ?_
  refine any_take (i := 8) (d := 95) (v := (.pointer (some ⟨ga, b, none⟩))) at22x8 rfl (by kernel_rfl) (by kernel_rfl) (by kernel_rfl) rfl hQ (fun w => (run_index rfl (Act.ev_ne (by decide) (Act.ev_ne (by decide) (Act.ev_ne (by decide) (Act.ev_ne (by decide) (Act.ev_ne (by decide) (Act.ev_ne (by decide) (Act.ev_ne (by decide) h6))))))) (Act.ev_eq (Act.sz (Act.sz (Act.sz (Act.sz (Act.sz (Act.sz hs)))))) (by decide)) (idx_arr ga b w hb))) ?_
  refine any_two (i := 5) (j := 9) (by kernel_rfl) at22x5 rfl at22x9 rfl (fun K hK => ?_) (fun K hK => ?_)
  · refine wp_value_at (d := 92) (v := (.agg ci)) rfl (run_load rfl (Act.ev_ne (by decide) (Act.ev_ne (by decide) (Act.ev_ne (by decide) (Act.ev_eq (Act.sz (Act.sz (Act.sz (Act.sz hs)))) (by decide))))) ldI) (hK _ _ ?_)
    clear hK K
    refine any_one (i := 9) (by kernel_rfl) at22x9 rfl (fun K hK => ?_)
    refine wp_value_at (d := 96) (v := (.int .i64 p)) rfl (run_load rfl (Act.ev_ne (by decide) (Act.ev_eq (Act.sz (Act.sz (Act.sz (Act.sz (Act.sz (Act.sz (Act.sz hs))))))) (by decide))) ldA) (hK _ _ ?_)
    clear hK K
    refine any_take (i := 10) (d := 97) (v := (.pointer (some ⟨g, p * 17, none⟩))) at22x10 rfl (by kernel_rfl) (by kernel_rfl) (by kernel_rfl) rfl hQ (fun w => (run_index rfl (Act.ev_ne (by decide) (Act.ev_ne (by decide) (Act.ev_ne (by decide) (Act.ev_ne (by decide) (Act.ev_eq (Act.sz (Act.sz (Act.sz (Act.sz (Act.sz hs))))) (by decide)))))) (Act.ev_eq (Act.sz (Act.sz (Act.sz (Act.sz (Act.sz (Act.sz (Act.sz (Act.sz (Act.sz hs))))))))) (by decide)) (idx_row g N cap p w hp hN))) ?_
    refine any_one (i := 11) (by kernel_rfl) at22x11 rfl (fun K hK => ?_)
    refine wp_value_at (d := 98) (v := (.agg cp)) rfl (run_load rfl (Act.ev_eq (Act.sz (Act.sz (Act.sz (Act.sz (Act.sz (Act.sz (Act.sz (Act.sz (Act.sz (Act.sz hs)))))))))) (by decide)) ldP) (hK _ _ ?_)
    clear hK K
    refine tail22 g N cap i ci cp cc (Act.sz (Act.sz (Act.sz (Act.sz (Act.sz (Act.sz (Act.sz (Act.sz (Act.sz (Act.sz (Act.sz (Act.sz hs)))))))))))) hb0 (Act.ev_ne (by decide) (Act.ev_ne (by decide) (Act.ev_ne (by decide) (Act.ev_ne (by decide) (Act.ev_ne (by decide) (Act.ev_ne (by decide) (Act.ev_ne (by decide) (Act.ev_ne (by decide) (Act.ev_ne (by decide) (Act.ev_ne (by decide) (Act.ev_ne (by decide) (Act.ev_eq hs (by decide))))))))))))) (Act.ev_ne (by decide) (Act.ev_ne (by decide) (Act.ev_ne (by decide) (Act.ev_ne (by decide) (Act.ev_ne (by decide) (Act.ev_ne (by decide) (Act.ev_ne (by decide) (Act.ev_ne (by decide) (Act.ev_ne (by decide) (Act.ev_ne (by decide) (Act.ev_eq (Act.sz hs) (by decide)))))))))))) (Act.ev_ne (by decide) (Act.ev_ne (by decide) (Act.ev_ne (by decide) (Act.ev_eq (Act.sz (Act.sz (Act.sz (Act.sz (Act.sz (Act.sz (Act.sz (Act.sz hs)))))))) (by decide))))) (Act.ev_eq (Act.sz (Act.sz (Act.sz (Act.sz (Act.sz (Act.sz (Act.sz (Act.sz (Act.sz (Act.sz (Act.sz hs))))))))))) (by decide)) hi hN hth hcs hc1 OV (by kernel_rfl) (by kernel_rfl) (by kernel_rfl) (by kernel_rfl) ?_
    exact hend
  · refine wp_value_at (d := 96) (v := (.int .i64 p)) rfl (run_load rfl (Act.ev_eq (Act.sz (Act.sz (Act.sz (Act.sz (Act.sz (Act.sz (Act.sz hs))))))) (by decide)) ldA) (hK _ _ ?_)
    clear hK K
    refine any_take (i := 10) (d := 97) (v := (.pointer (some ⟨g, p * 17, none⟩))) at22x10 rfl (by kernel_rfl) (by kernel_rfl) (by kernel_rfl) rfl hQ (fun w => (run_index rfl (Act.ev_ne (by decide) (Act.ev_ne (by decide) (Act.ev_ne (by decide) (Act.ev_eq (Act.sz (Act.sz (Act.sz (Act.sz (Act.sz hs))))) (by decide))))) (Act.ev_eq (Act.sz (Act.sz (Act.sz (Act.sz (Act.sz (Act.sz (Act.sz (Act.sz hs)))))))) (by decide)) (idx_row g N cap p w hp hN))) ?_
    refine any_two (i := 5) (j := 11) (by kernel_rfl) at22x5 rfl at22x11 rfl (fun K hK => ?_) (fun K hK => ?_)
    · refine wp_value_at (d := 92) (v := (.agg ci)) rfl (run_load rfl (Act.ev_ne (by decide) (Act.ev_ne (by decide) (Act.ev_ne (by decide) (Act.ev_ne (by decide) (Act.ev_ne (by decide) (Act.ev_eq (Act.sz (Act.sz (Act.sz (Act.sz hs)))) (by decide))))))) ldI) (hK _ _ ?_)
      clear hK K
      refine any_one (i := 11) (by kernel_rfl) at22x11 rfl (fun K hK => ?_)
      refine wp_value_at (d := 98) (v := (.agg cp)) rfl (run_load rfl (Act.ev_ne (by decide) (Act.ev_eq (Act.sz (Act.sz (Act.sz (Act.sz (Act.sz (Act.sz (Act.sz (Act.sz (Act.sz hs))))))))) (by decide))) ldP) (hK _ _ ?_)
      clear hK K
      refine tail22 g N cap i ci cp cc (Act.sz (Act.sz (Act.sz (Act.sz (Act.sz (Act.sz (Act.sz (Act.sz (Act.sz (Act.sz (Act.sz (Act.sz hs)))))))))))) hb0 (Act.ev_ne (by decide) (Act.ev_ne (by decide) (Act.ev_ne (by decide) (Act.ev_ne (by decide) (Act.ev_ne (by decide) (Act.ev_ne (by decide) (Act.ev_ne (by decide) (Act.ev_ne (by decide) (Act.ev_ne (by decide) (Act.ev_ne (by decide) (Act.ev_ne (by decide) (Act.ev_eq hs (by decide))))))))))))) (Act.ev_ne (by decide) (Act.ev_ne (by decide) (Act.ev_ne (by decide) (Act.ev_ne (by decide) (Act.ev_ne (by decide) (Act.ev_ne (by decide) (Act.ev_ne (by decide) (Act.ev_ne (by decide) (Act.ev_ne (by decide) (Act.ev_ne (by decide) (Act.ev_eq (Act.sz hs) (by decide)))))))))))) (Act.ev_ne (by decide) (Act.ev_eq (Act.sz (Act.sz (Act.sz (Act.sz (Act.sz (Act.sz (Act.sz (Act.sz (Act.sz (Act.sz hs)))))))))) (by decide))) (Act.ev_eq (Act.sz (Act.sz (Act.sz (Act.sz (Act.sz (Act.sz (Act.sz (Act.sz (Act.sz (Act.sz (Act.sz hs))))))))))) (by decide)) hi hN hth hcs hc1 OV (by kernel_rfl) (by kernel_rfl) (by kernel_rfl) (by kernel_rfl) ?_
      rw [Act.put_swap _ (.pointer (some ⟨g, p * 17, none⟩)) (.agg ci) (show (97 : Nat) ≠ 92 by decide)]
      rw [Act.put_swap _ (.int .i64 p) (.agg ci) (show (96 : Nat) ≠ 92 by decide)]
      exact hend
    · refine wp_value_at (d := 98) (v := (.agg cp)) rfl (run_load rfl (Act.ev_eq (Act.sz (Act.sz (Act.sz (Act.sz (Act.sz (Act.sz (Act.sz (Act.sz (Act.sz hs))))))))) (by decide)) ldP) (hK _ _ ?_)
      clear hK K
      refine any_one (i := 5) (by kernel_rfl) at22x5 rfl (fun K hK => ?_)
      refine wp_value_at (d := 92) (v := (.agg ci)) rfl (run_load rfl (Act.ev_ne (by decide) (Act.ev_ne (by decide) (Act.ev_ne (by decide) (Act.ev_ne (by decide) (Act.ev_ne (by decide) (Act.ev_ne (by decide) (Act.ev_eq (Act.sz (Act.sz (Act.sz (Act.sz hs)))) (by decide)))))))) ldI) (hK _ _ ?_)
      clear hK K
      refine tail22 g N cap i ci cp cc (Act.sz (Act.sz (Act.sz (Act.sz (Act.sz (Act.sz (Act.sz (Act.sz (Act.sz (Act.sz (Act.sz (Act.sz hs)))))))))))) hb0 (Act.ev_ne (by decide) (Act.ev_ne (by decide) (Act.ev_ne (by decide) (Act.ev_ne (by decide) (Act.ev_ne (by decide) (Act.ev_ne (by decide) (Act.ev_ne (by decide) (Act.ev_ne (by decide) (Act.ev_ne (by decide) (Act.ev_ne (by decide) (Act.ev_ne (by decide) (Act.ev_eq hs (by decide))))))))))))) (Act.ev_ne (by decide) (Act.ev_ne (by decide) (Act.ev_ne (by decide) (Act.ev_ne (by decide) (Act.ev_ne (by decide) (Act.ev_ne (by decide) (Act.ev_ne (by decide) (Act.ev_ne (by decide) (Act.ev_ne (by decide) (Act.ev_ne (by decide) (Act.ev_eq (Act.sz hs) (by decide)))))))))))) (Act.ev_eq (Act.sz (Act.sz (Act.sz (Act.sz (Act.sz (Act.sz (Act.sz (Act.sz (Act.sz (Act.sz (Act.sz hs))))))))))) (by decide)) (Act.ev_ne (by decide) (Act.ev_eq (Act.sz (Act.sz (Act.sz (Act.sz (Act.sz (Act.sz (Act.sz (Act.sz (Act.sz (Act.sz hs)))))))))) (by decide))) hi hN hth hcs hc1 OV (by kernel_rfl) (by kernel_rfl) (by kernel_rfl) (by kernel_rfl) ?_
      rw [Act.put_swap _ (.agg cp) (.agg ci) (show (98 : Nat) ≠ 92 by decide)]
      rw [Act.put_swap _ (.pointer (some ⟨g, p * 17, none⟩)) (.agg ci) (show (97 : Nat) ≠ 92 by decide)]
      rw [Act.put_swap _ (.int .i64 p) (.agg ci) (show (96 : Nat) ≠ 92 by decide)]
      exact hend
end Go.Proofs.YtakaeikobahaoaaDoor
