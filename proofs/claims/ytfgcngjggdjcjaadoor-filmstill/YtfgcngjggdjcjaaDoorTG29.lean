/-
  Lemmas for the law above, joined into one text (RegK, FlI). No statement is proved here.
-/
import Derived.Test.YtfgcngjggdjcjaaDoorTG0
import Derived.RegionTactic
import Derived.OrdersHeld
import Derived.Deep.MidRow
namespace Go.Proofs.YtfgcngjggdjcjaaDoor
open Go.RowKit
set_option linter.unusedVariables false
set_option maxRecDepth 100000

theorem Act.size_put (a : Act) (d : Tmp) (v : Value) : (a.put (some d) v).tmps.size = a.tmps.size := by simp [Act.put]
theorem Act.sz {a : Act} {d : Tmp} {v : Value} {n : Nat} (hs : a.tmps.size = n) : (a.put (some d) v).tmps.size = n := (Act.size_put a d v).trans hs
theorem Act.ev_put (a : Act) (d t : Tmp) (v : Value) (h : d < a.tmps.size) : (a.put (some d) v).eval (.tmp t) = if t = d then v else a.eval (.tmp t) := by
  simp only [Act.put, Act.eval, Array.getD_eq_getD_getElem?, Array.getElem?_setIfInBounds]
  by_cases e : d = t
  · subst e; simp [h]
  · rw [if_neg e, if_neg (fun h => e h.symm)]
theorem Act.ev_eq {a : Act} {d : Tmp} {v : Value} {n : Nat} (hs : a.tmps.size = n) (h : d < n) : (a.put (some d) v).eval (.tmp d) = v := by rw [Act.ev_put a d d v (hs ▸ h), if_pos rfl]
theorem Act.ev_ne {a : Act} {d t : Tmp} {v u : Value} (h : t ≠ d) (hu : a.eval (.tmp t) = u) : (a.put (some d) v).eval (.tmp t) = u := by
  rw [← hu]
  simp only [Act.put, Act.eval, Array.getD_eq_getD_getElem?, Array.getElem?_setIfInBounds]
  rw [if_neg (fun e => h e.symm)]
theorem Act.put_swap (a : Act) {d e : Tmp} (u v : Value) (h : d ≠ e) : (a.put (some d) u).put (some e) v = (a.put (some e) v).put (some d) u := by
  simp only [Act.put]
  rw [Array.setIfInBounds_comm _ _ h]
theorem run_move {P : Program} {r : Operand → Value} {o : Oper} {x : Operand} {v : Value} (h : o.op = .move x) (hx : r x = v) (w : World) : (execOp r o).run P w = .ok (.value v) w := by
  rw [← hx]; unfold execOp; simp only [h]; rfl
theorem run_index {P : Program} {r : Operand → Value} {o : Oper} {t : TypeId} {x y : Operand} {v ux uy : Value} {w : World} (h : o.op = .indexAddr t x y) (hx : r x = ux) (hy : r y = uy) (hr : (Instr.indexAt t ux uy).run P w = .ok v w) : (execOp r o).run P w = .ok (.value v) w := by
  unfold execOp; simp only [h, hx, hy, Sem.run_bind, hr, Result.andThen_ok, Sem.run_pure]
theorem wp_value {P : Program} {o : Oper} {a : Act} {w : World} {K : Act → World → Prop} {Q : Exit → Act → World → Prop} {v : Value} (h : (execOp a.eval o).run P w = .ok (.value v) w) (hk : K (a.put o.dst v) w) : o.wp P a w K Q := by
  unfold Oper.wp; rw [h]; exact hk
theorem run_load {P : Program} {r : Operand → Value} {o : Oper} {t : TypeId} {x : Operand} {v ux : Value} {w : World} (h : o.op = .load t x) (hx : r x = ux) (hr : (Instr.loadAt t ux).run P w = .ok v w) : (execOp r o).run P w = .ok (.value v) w := by
  unfold execOp; simp only [h, hx, Sem.run_bind, hr, Result.andThen_ok, Sem.run_pure]
/-- A statement, shut: nothing looks into it. -/
structure ShutG (p : Prop) : Prop where
  out : p
theorem any_take {P : Program} {ops : Array Oper} {Q : Exit → Act → World → Prop} {md : Region.Mode} {i : Nat} {oi : Oper} {v : Value} {d : Tmp} {fuel : Nat} {listed : Array Bool} {a : Act} {w : World} (hi : ops[i]? = some oi) (hd : oi.dst = some d)
    (hs : Region.noSelect ops = true) (hf : Region.free md ops listed i = true) (hr : (Region.ready md ops listed).contains i = true) (hw : oi.guard = none)
    (hQ : ∀ c a (d : Tmp) v w, Q (.panic c) (Act.put a (some d) v) w → Q (.panic c) a w) (hy : ∀ w, (execOp a.eval oi).run P w = .ok (.value v) w)
    (h : wpAny P md ops Q fuel (listed.setIfInBounds i true) (a.put (some d) v) w) : wpAny P md ops Q (fuel + 1) listed a w :=
  wpAny_take hi hs hf hr (fun c a w h => hQ c a d v w (by rw [hd] at h; exact h)) (Or.inl ⟨by unfold Region.wanted; rw [hw], hy⟩) (by rw [hd]; exact h)
theorem any_one {P : Program} {ops : Array Oper} {Q : Exit → Act → World → Prop} {md : Region.Mode} {fuel : Nat} {listed : Array Bool} {a : Act} {w : World} {i : Nat} {o : Oper} (hr : Region.ready md ops listed = [i]) (ho : ops[i]? = some o) (hw : o.guard = none)
    (h : ∀ K' : Act → World → Prop, (∀ a w, wpAny P md ops Q fuel (listed.setIfInBounds i true) a w → K' a w) → ShutG (Oper.wp P o a w K' Q)) : wpAny P md ops Q (fuel + 1) listed a w :=
  wpAny_ready hr (by simp) (AllReady.cons ho (fun K hK => by rw [if_pos (by unfold Region.wanted; rw [hw])]; exact (h K hK).out) AllReady.nil)
theorem any_two {P : Program} {ops : Array Oper} {Q : Exit → Act → World → Prop} {md : Region.Mode} {fuel : Nat} {listed : Array Bool} {a : Act} {w : World} {i j : Nat} {o o' : Oper} (hr : Region.ready md ops listed = [i, j]) (ho : ops[i]? = some o) (hw : o.guard = none) (ho' : ops[j]? = some o') (hw' : o'.guard = none)
    (h : ∀ K' : Act → World → Prop, (∀ a w, wpAny P md ops Q fuel (listed.setIfInBounds i true) a w → K' a w) → ShutG (Oper.wp P o a w K' Q))
    (h' : ∀ K' : Act → World → Prop, (∀ a w, wpAny P md ops Q fuel (listed.setIfInBounds j true) a w → K' a w) → ShutG (Oper.wp P o' a w K' Q)) : wpAny P md ops Q (fuel + 1) listed a w :=
  wpAny_ready hr (by simp) (AllReady.cons ho (fun K hK => by rw [if_pos (by unfold Region.wanted; rw [hw])]; exact (h K hK).out) (AllReady.cons ho' (fun K hK => by rw [if_pos (by unfold Region.wanted; rw [hw'])]; exact (h' K hK).out) AllReady.nil))
theorem wp_value_at {P : Program} {o : Oper} {a : Act} {w : World} {K : Act → World → Prop} {Q : Exit → Act → World → Prop} {v : Value} {d : Tmp} (hd : o.dst = some d) (h : (execOp a.eval o).run P w = .ok (.value v) w) (hk : K (a.put (some d) v) w) : ShutG (o.wp P a w K Q) := by
  refine ⟨?_⟩
  unfold Oper.wp; rw [h, Oper.upon_value, hd]; exact hk
theorem wp_call_at {P : Program} {o : Oper} {a : Act} {w : World} {K : Act → World → Prop} {Q : Exit → Act → World → Prop} {d : Tmp} {R : Value → World → Prop} {f : FuncId} {args : Array Operand} {tys : Array TypeId} (vs : Array Value) (hd : o.dst = some d) (ho : o.op = .call ⟨.value (.func f), args, tys⟩) (hv : args.map a.eval = vs)
    (hr : (invoke (.fn (.func f) #[]) vs).run P w = .ok (.enter f vs) w) (h : Calls P f vs w fun e w' => ∃ v, e = .returned v ∧ R v w') (hk : ∀ v w', R v w' → K (a.put (some d) v) w') : ShutG (o.wp P a w K Q) := by
  refine ⟨?_⟩
  have e : (execOp a.eval o).run P w = .ok (.enter f vs) w := by
    unfold execOp
    simp only [ho, resolve, hv, Sem.run_bind]
    rw [show a.eval (.func f) = .func (.func f) #[] #[] from rfl]
    simp only [Deferred.ofValue, Sem.run_pure, Result.andThen_ok, Array.empty_append]
    exact hr
  unfold Oper.wp
  rw [e, Oper.upon_enter, hd]
  exact h.mono fun e w' ⟨v, he, hR⟩ => by subst he; exact hk v w' hR
theorem wp_store_at {P : Program} {op : Oper} {a : Act} {w : World} {K : Act → World → Prop} {Q : Exit → Act → World → Prop} (ty : TypeId) (x y : Operand) (ho : op.op = .store ty x y) (hd : op.dst = none)
    (b o : Nat) (cells : Array Value) (hx : a.eval x = .pointer (some ⟨b, o, none⟩)) (hy : a.eval y = .agg cells)
    (ht : w.there b o cells.size) (hi : (P.info? ty).map (·.size) = some cells.size) (h1 : cells.all (·.oneCell') = true)
    (h : K a (w.setCells b o cells.toList)) : ShutG (op.wp P a w K Q) := ⟨wp_store_mid ty x y ho b o cells hx hy ht hi h1 (by rw [hd]; exact h)⟩
theorem wp_value_to {P : Program} {o : Oper} {a : Act} {w w' : World} {K : Act → World → Prop} {Q : Exit → Act → World → Prop} {v : Value} {d : Tmp} (hd : o.dst = some d) (h : (execOp a.eval o).run P w = .ok (.value v) w') (hk : K (a.put (some d) v) w') : ShutG (o.wp P a w K Q) := by
  refine ⟨?_⟩
  unfold Oper.wp; rw [h, Oper.upon_value, hd]; exact hk
theorem run_field {P : Program} {r : Operand → Value} {o : Oper} {t : TypeId} {x : Operand} {n : Nat} {v ux : Value} {w : World} (h : o.op = .fieldAddr t x n) (hx : r x = ux) (hr : (Instr.fieldAt t ux n).run P w = .ok v w) : (execOp r o).run P w = .ok (.value v) w := by
  unfold execOp; simp only [h, hx, Sem.run_bind, hr, Result.andThen_ok, Sem.run_pure]

theorem map_one {f : Operand → Value} {x : Operand} {u : Value} (hx : f x = u) : #[x].map f = #[u] := by simp [hx]
theorem map_two {f : Operand → Value} {x y : Operand} {u v : Value} (hx : f x = u) (hy : f y = v) : #[x, y].map f = #[u, v] := by simp [hx, hy]

/-! The same where what is read may be taken first, in every world that meets S. -/
theorem anyH_take {P : Program} {ops : Array Oper} {Q : Exit → Act → World → Prop} {S : World → Prop} {md : Region.Mode} {i : Nat} {oi : Oper} {v : Value} {d : Tmp} {fuel : Nat} {listed : Array Bool} {a : Act} {w : World} (hi : ops[i]? = some oi) (hd : oi.dst = some d)
    (hs : Region.noSelect ops = true) (hf : Region.free md ops listed i = true) (hr : (Region.ready md ops listed).contains i = true) (hw : oi.guard = none)
    (hQ : ∀ c a (d : Tmp) v w, Q (.panic c) (Act.put a (some d) v) w → Q (.panic c) a w) (hS : S w) (hy : ∀ w, S w → (execOp a.eval oi).run P w = .ok (.value v) w)
    (h : wpAnyH P md ops Q S fuel (listed.setIfInBounds i true) (a.put (some d) v) w) : wpAnyH P md ops Q S (fuel + 1) listed a w :=
  wpAnyH_take hi hs hf hr (fun c a w h => hQ c a d v w (by rw [hd] at h; exact h)) (Or.inl ⟨by unfold Region.wanted; rw [hw], hy⟩) hS (by rw [hd]; exact h)
theorem anyH_one {P : Program} {ops : Array Oper} {Q : Exit → Act → World → Prop} {S : World → Prop} {md : Region.Mode} {fuel : Nat} {listed : Array Bool} {a : Act} {w : World} {i : Nat} {o : Oper} (hr : Region.ready md ops listed = [i]) (ho : ops[i]? = some o) (hw : o.guard = none)
    (h : ∀ K' : Act → World → Prop, (∀ a w, S w → wpAnyH P md ops Q S fuel (listed.setIfInBounds i true) a w → K' a w) → ShutG (Oper.wp P o a w K' Q)) : wpAnyH P md ops Q S (fuel + 1) listed a w :=
  wpAnyH_all hr (by simp) fun j hj => by
    obtain rfl : j = i := by simpa using hj
    exact wpOp_step ho fun K hK => by rw [if_pos (by unfold Region.wanted; rw [hw])]; exact (h K fun a w h1 h2 => hK a w ⟨h1, h2⟩).out
theorem anyH_two {P : Program} {ops : Array Oper} {Q : Exit → Act → World → Prop} {S : World → Prop} {md : Region.Mode} {fuel : Nat} {listed : Array Bool} {a : Act} {w : World} {i j : Nat} {o o' : Oper} (hr : Region.ready md ops listed = [i, j]) (ho : ops[i]? = some o) (hw : o.guard = none) (ho' : ops[j]? = some o') (hw' : o'.guard = none)
    (h : ∀ K' : Act → World → Prop, (∀ a w, S w → wpAnyH P md ops Q S fuel (listed.setIfInBounds i true) a w → K' a w) → ShutG (Oper.wp P o a w K' Q))
    (h' : ∀ K' : Act → World → Prop, (∀ a w, S w → wpAnyH P md ops Q S fuel (listed.setIfInBounds j true) a w → K' a w) → ShutG (Oper.wp P o' a w K' Q)) : wpAnyH P md ops Q S (fuel + 1) listed a w :=
  wpAnyH_all hr (by simp) fun q hq => by
    rcases (by simpa using hq : q = i ∨ q = j) with rfl | rfl
    · exact wpOp_step ho fun K hK => by rw [if_pos (by unfold Region.wanted; rw [hw])]; exact (h K fun a w h1 h2 => hK a w ⟨h1, h2⟩).out
    · exact wpOp_step ho' fun K hK => by rw [if_pos (by unfold Region.wanted; rw [hw'])]; exact (h' K fun a w h1 h2 => hK a w ⟨h1, h2⟩).out
end Go.Proofs.YtfgcngjggdjcjaaDoor

namespace Go.Proofs.YtfgcngjggdjcjaaDoor
open Go.RowKit
set_option linter.unusedVariables false
set_option maxRecDepth 100000

theorem Tryd.infoPic : (Tryd.prog.info? 40).map (fun i => (i.zero, i.size, i.bytes)) = some (some (.agg #[.int .i64 0, .int .i64 0, .slice none 0 0]), 3, 40) := by kernel_rfl
theorem Tryd.infoCod : (Tryd.prog.info? 45).map (fun i => (i.zero, i.size, i.bytes)) = some (some (.agg #[.bool false, .int .i64 0, .int .i64 0, .slice none 0 0]), 4, 48) := by kernel_rfl
end Go.Proofs.YtfgcngjggdjcjaaDoor
