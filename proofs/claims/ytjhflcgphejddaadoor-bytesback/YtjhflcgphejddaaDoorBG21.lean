/-
  Lemmas for the law above, joined into one text (RegK, FlI, FlL). No statement is proved here.
-/
import Derived.Test.YtjhflcgphejddaaDoorBG0
import Derived.RegionTactic
import Derived.OrdersHeld
import Derived.Deep.MidRow
import Derived.Test.YtjhflcgphejddaaDoorBG8
namespace Go.Proofs.YtjhflcgphejddaaDoor
open Go.RowKit
set_option linter.unusedVariables false
set_option maxRecDepth 100000

theorem Act.size_put (a : Act) (d : Tmp) (v : Value) : (a.put (some d) v).tmps.size = a.tmps.size := by simp [Act.put]
theorem Act.sz {a : Act} {d : Tmp} {v : Value} {n : Nat} (hs : a.tmps.size = n) : (a.put (some d) v).tmps.size = n := (Act.size_put a d v).trans hs
theorem Act.ev_put (a : Act) (d t : Tmp) (v : Value) (h : d < a.tmps.size) : (a.put (some d) v).eval (.tmp t) = if t = d then v else a.eval (.tmp t) := by
  simp only [Act.put, Act.eval, Array.getD_eq_getD_getElem?, Array.getElem?_setIfInBounds]
  by_cases e : d = t
  · subst e; simp [h]
  · rw [if_neg e, if_neg (fun h => e h.symm)]
theorem Act.ev_eq {a : Act} {d : Tmp} {v : Value} {n : Nat} (hs : a.tmps.size = n) (h : d < n) : (a.put (some d) v).eval (.tmp d) = v := by rw [Act.ev_put a d d v (hs ▸ h), if_pos rfl]
theorem Act.ev_ne {a : Act} {d t : Tmp} {v u : Value} (h : t ≠ d) (hu : a.eval (.tmp t) = u) : (a.put (some d) v).eval (.tmp t) = u := by
  rw [← hu]
  simp only [Act.put, Act.eval, Array.getD_eq_getD_getElem?, Array.getElem?_setIfInBounds]
  rw [if_neg (fun e => h e.symm)]
theorem Act.put_swap (a : Act) {d e : Tmp} (u v : Value) (h : d ≠ e) : (a.put (some d) u).put (some e) v = (a.put (some e) v).put (some d) u := by
  simp only [Act.put]
  rw [Array.setIfInBounds_comm _ _ h]
theorem run_move {P : Program} {r : Operand → Value} {o : Oper} {x : Operand} {v : Value} (h : o.op = .move x) (hx : r x = v) (w : World) : (execOp r o).run P w = .ok (.value v) w := by
  rw [← hx]; unfold execOp; simp only [h]; rfl
theorem run_index {P : Program} {r : Operand → Value} {o : Oper} {t : TypeId} {x y : Operand} {v ux uy : Value} {w : World} (h : o.op = .indexAddr t x y) (hx : r x = ux) (hy : r y = uy) (hr : (Instr.indexAt t ux uy).run P w = .ok v w) : (execOp r o).run P w = .ok (.value v) w := by
  unfold execOp; simp only [h, hx, hy, Sem.run_bind, hr, Result.andThen_ok, Sem.run_pure]
theorem wp_value {P : Program} {o : Oper} {a : Act} {w : World} {K : Act → World → Prop} {Q : Exit → Act → World → Prop} {v : Value} (h : (execOp a.eval o).run P w = .ok (.value v) w) (hk : K (a.put o.dst v) w) : o.wp P a w K Q := by
  unfold Oper.wp; rw [h]; exact hk
theorem run_load {P : Program} {r : Operand → Value} {o : Oper} {t : TypeId} {x : Operand} {v ux : Value} {w : World} (h : o.op = .load t x) (hx : r x = ux) (hr : (Instr.loadAt t ux).run P w = .ok v w) : (execOp r o).run P w = .ok (.value v) w := by
  unfold execOp; simp only [h, hx, Sem.run_bind, hr, Result.andThen_ok, Sem.run_pure]
/-- A statement, shut: nothing looks into it. -/
structure ShutG (p : Prop) : Prop where
  out : p
theorem any_take {P : Program} {ops : Array Oper} {Q : Exit → Act → World → Prop} {md : Region.Mode} {i : Nat} {oi : Oper} {v : Value} {d : Tmp} {fuel : Nat} {listed : Array Bool} {a : Act} {w : World} (hi : ops[i]? = some oi) (hd : oi.dst = some d)
    (hs : Region.noSelect ops = true) (hf : Region.free md ops listed i = true) (hr : (Region.ready md ops listed).contains i = true) (hw : oi.guard = none)
    (hQ : ∀ c a (d : Tmp) v w, Q (.panic c) (Act.put a (some d) v) w → Q (.panic c) a w) (hy : ∀ w, (execOp a.eval oi).run P w = .ok (.value v) w)
    (h : wpAny P md ops Q fuel (listed.setIfInBounds i true) (a.put (some d) v) w) : wpAny P md ops Q (fuel + 1) listed a w :=
  wpAny_take hi hs hf hr (fun c a w h => hQ c a d v w (by rw [hd] at h; exact h)) (Or.inl ⟨by unfold Region.wanted; rw [hw], hy⟩) (by rw [hd]; exact h)
theorem any_one {P : Program} {ops : Array Oper} {Q : Exit → Act → World → Prop} {md : Region.Mode} {fuel : Nat} {listed : Array Bool} {a : Act} {w : World} {i : Nat} {o : Oper} (hr : Region.ready md ops listed = [i]) (ho : ops[i]? = some o) (hw : o.guard = none)
    (h : ∀ K' : Act → World → Prop, (∀ a w, wpAny P md ops Q fuel (listed.setIfInBounds i true) a w → K' a w) → ShutG (Oper.wp P o a w K' Q)) : wpAny P md ops Q (fuel + 1) listed a w :=
  wpAny_ready hr (by simp) (AllReady.cons ho (fun K hK => by rw [if_pos (by unfold Region.wanted; rw [hw])]; exact (h K hK).out) AllReady.nil)
theorem any_two {P : Program} {ops : Array Oper} {Q : Exit → Act → World → Prop} {md : Region.Mode} {fuel : Nat} {listed : Array Bool} {a : Act} {w : World} {i j : Nat} {o o' : Oper} (hr : Region.ready md ops listed = [i, j]) (ho : ops[i]? = some o) (hw : o.guard = none) (ho' : ops[j]? = some o') (hw' : o'.guard = none)
    (h : ∀ K' : Act → World → Prop, (∀ a w, wpAny P md ops Q fuel (listed.setIfInBounds i true) a w → K' a w) → ShutG (Oper.wp P o a w K' Q))
    (h' : ∀ K' : Act → World → Prop, (∀ a w, wpAny P md ops Q fuel (listed.setIfInBounds j true) a w → K' a w) → ShutG (Oper.wp P o' a w K' Q)) : wpAny P md ops Q (fuel + 1) listed a w :=
  wpAny_ready hr (by simp) (AllReady.cons ho (fun K hK => by rw [if_pos (by unfold Region.wanted; rw [hw])]; exact (h K hK).out) (AllReady.cons ho' (fun K hK => by rw [if_pos (by unfold Region.wanted; rw [hw'])]; exact (h' K hK).out) AllReady.nil))
theorem wp_value_at {P : Program} {o : Oper} {a : Act} {w : World} {K : Act → World → Prop} {Q : Exit → Act → World → Prop} {v : Value} {d : Tmp} (hd : o.dst = some d) (h : (execOp a.eval o).run P w = .ok (.value v) w) (hk : K (a.put (some d) v) w) : ShutG (o.wp P a w K Q) := by
  refine ⟨?_⟩
  unfold Oper.wp; rw [h, Oper.upon_value, hd]; exact hk
theorem wp_call_at {P : Program} {o : Oper} {a : Act} {w : World} {K : Act → World → Prop} {Q : Exit → Act → World → Prop} {d : Tmp} {R : Value → World → Prop} {f : FuncId} {args : Array Operand} {tys : Array TypeId} (vs : Array Value) (hd : o.dst = some d) (ho : o.op = .call ⟨.value (.func f), args, tys⟩) (hv : args.map a.eval = vs)
    (hr : (invoke (.fn (.func f) #[]) vs).run P w = .ok (.enter f vs) w) (h : Calls P f vs w fun e w' => ∃ v, e = .returned v ∧ R v w') (hk : ∀ v w', R v w' → K (a.put (some d) v) w') : ShutG (o.wp P a w K Q) := by
  refine ⟨?_⟩
  have e : (execOp a.eval o).run P w = .ok (.enter f vs) w := by
    unfold execOp
    simp only [ho, resolve, hv, Sem.run_bind]
    rw [show a.eval (.func f) = .func (.func f) #[] #[] from rfl]
    simp only [Deferred.ofValue, Sem.run_pure, Result.andThen_ok, Array.empty_append]
    exact hr
  unfold Oper.wp
  rw [e, Oper.upon_enter, hd]
  exact h.mono fun e w' ⟨v, he, hR⟩ => by subst he; exact hk v w' hR
theorem wp_store_at {P : Program} {op : Oper} {a : Act} {w : World} {K : Act → World → Prop} {Q : Exit → Act → World → Prop} (ty : TypeId) (x y : Operand) (ho : op.op = .store ty x y) (hd : op.dst = none)
    (b o : Nat) (cells : Array Value) (hx : a.eval x = .pointer (some ⟨b, o, none⟩)) (hy : a.eval y = .agg cells)
    (ht : w.there b o cells.size) (hi : (P.info? ty).map (·.size) = some cells.size) (h1 : cells.all (·.oneCell') = true)
    (h : K a (w.setCells b o cells.toList)) : ShutG (op.wp P a w K Q) := ⟨wp_store_mid ty x y ho b o cells hx hy ht hi h1 (by rw [hd]; exact h)⟩
theorem wp_value_to {P : Program} {o : Oper} {a : Act} {w w' : World} {K : Act → World → Prop} {Q : Exit → Act → World → Prop} {v : Value} {d : Tmp} (hd : o.dst = some d) (h : (execOp a.eval o).run P w = .ok (.value v) w') (hk : K (a.put (some d) v) w') : ShutG (o.wp P a w K Q) := by
  refine ⟨?_⟩
  unfold Oper.wp; rw [h, Oper.upon_value, hd]; exact hk
theorem run_field {P : Program} {r : Operand → Value} {o : Oper} {t : TypeId} {x : Operand} {n : Nat} {v ux : Value} {w : World} (h : o.op = .fieldAddr t x n) (hx : r x = ux) (hr : (Instr.fieldAt t ux n).run P w = .ok v w) : (execOp r o).run P w = .ok (.value v) w := by
  unfold execOp; simp only [h, hx, Sem.run_bind, hr, Result.andThen_ok, Sem.run_pure]

theorem map_one {f : Operand → Value} {x : Operand} {u : Value} (hx : f x = u) : #[x].map f = #[u] := by simp [hx]
theorem map_two {f : Operand → Value} {x y : Operand} {u v : Value} (hx : f x = u) (hy : f y = v) : #[x, y].map f = #[u, v] := by simp [hx, hy]

/-! The same where what is read may be taken first, in every world that meets S. -/
theorem anyH_take {P : Program} {ops : Array Oper} {Q : Exit → Act → World → Prop} {S : World → Prop} {md : Region.Mode} {i : Nat} {oi : Oper} {v : Value} {d : Tmp} {fuel : Nat} {listed : Array Bool} {a : Act} {w : World} (hi : ops[i]? = some oi) (hd : oi.dst = some d)
    (hs : Region.noSelect ops = true) (hf : Region.free md ops listed i = true) (hr : (Region.ready md ops listed).contains i = true) (hw : oi.guard = none)
    (hQ : ∀ c a (d : Tmp) v w, Q (.panic c) (Act.put a (some d) v) w → Q (.panic c) a w) (hS : S w) (hy : ∀ w, S w → (execOp a.eval oi).run P w = .ok (.value v) w)
    (h : wpAnyH P md ops Q S fuel (listed.setIfInBounds i true) (a.put (some d) v) w) : wpAnyH P md ops Q S (fuel + 1) listed a w :=
  wpAnyH_take hi hs hf hr (fun c a w h => hQ c a d v w (by rw [hd] at h; exact h)) (Or.inl ⟨by unfold Region.wanted; rw [hw], hy⟩) hS (by rw [hd]; exact h)
theorem anyH_one {P : Program} {ops : Array Oper} {Q : Exit → Act → World → Prop} {S : World → Prop} {md : Region.Mode} {fuel : Nat} {listed : Array Bool} {a : Act} {w : World} {i : Nat} {o : Oper} (hr : Region.ready md ops listed = [i]) (ho : ops[i]? = some o) (hw : o.guard = none)
    (h : ∀ K' : Act → World → Prop, (∀ a w, S w → wpAnyH P md ops Q S fuel (listed.setIfInBounds i true) a w → K' a w) → ShutG (Oper.wp P o a w K' Q)) : wpAnyH P md ops Q S (fuel + 1) listed a w :=
  wpAnyH_all hr (by simp) fun j hj => by
    obtain rfl : j = i := by simpa using hj
    exact wpOp_step ho fun K hK => by rw [if_pos (by unfold Region.wanted; rw [hw])]; exact (h K fun a w h1 h2 => hK a w ⟨h1, h2⟩).out
theorem anyH_two {P : Program} {ops : Array Oper} {Q : Exit → Act → World → Prop} {S : World → Prop} {md : Region.Mode} {fuel : Nat} {listed : Array Bool} {a : Act} {w : World} {i j : Nat} {o o' : Oper} (hr : Region.ready md ops listed = [i, j]) (ho : ops[i]? = some o) (hw : o.guard = none) (ho' : ops[j]? = some o') (hw' : o'.guard = none)
    (h : ∀ K' : Act → World → Prop, (∀ a w, S w → wpAnyH P md ops Q S fuel (listed.setIfInBounds i true) a w → K' a w) → ShutG (Oper.wp P o a w K' Q))
    (h' : ∀ K' : Act → World → Prop, (∀ a w, S w → wpAnyH P md ops Q S fuel (listed.setIfInBounds j true) a w → K' a w) → ShutG (Oper.wp P o' a w K' Q)) : wpAnyH P md ops Q S (fuel + 1) listed a w :=
  wpAnyH_all hr (by simp) fun q hq => by
    rcases (by simpa using hq : q = i ∨ q = j) with rfl | rfl
    · exact wpOp_step ho fun K hK => by rw [if_pos (by unfold Region.wanted; rw [hw])]; exact (h K fun a w h1 h2 => hK a w ⟨h1, h2⟩).out
    · exact wpOp_step ho' fun K hK => by rw [if_pos (by unfold Region.wanted; rw [hw'])]; exact (h' K fun a w h1 h2 => hK a w ⟨h1, h2⟩).out
end Go.Proofs.YtjhflcgphejddaaDoor

namespace Go.Proofs.YtjhflcgphejddaaDoor
open Go.RowKit
set_option linter.unusedVariables false
set_option maxRecDepth 100000

theorem Tryd.infoPic : (Tryd.prog.info? 46).map (fun i => (i.zero, i.size, i.bytes)) = some (some (.agg #[.int .i64 0, .int .i64 0, .slice none 0 0]), 3, 40) := by kernel_rfl
theorem Tryd.infoCod : (Tryd.prog.info? 40).map (fun i => (i.zero, i.size, i.bytes)) = some (some (.agg #[.bool false, .int .i64 0, .int .i64 0, .slice none 0 0]), 4, 48) := by kernel_rfl
end Go.Proofs.YtjhflcgphejddaaDoor

namespace Go.Proofs.YtjhflcgphejddaaDoor
open Go.RowKit
set_option linter.unusedVariables false
set_option maxRecDepth 100000

theorem sets_belowF {B g : Nat} {a : World} (hb : B ≤ g) : ∀ (vs : List Value) (o : Nat) (w : World), Below B a w → Below B a (w.setCells g o vs)
  | [], _, _, h => h
  | v :: vs, o, w, h => sets_belowF hb vs (o + 1) _ (h.setCell (show B ≤ g from hb) v)
theorem range_below {w w' : World} {b o : Nat} {cs : List Value} (h : w.rangeAt b o cs) (hb : Below w.heap.size w w') : w'.rangeAt b o cs := fun j v hj => cell_below hb (h j v hj)
theorem there_new (w : World) (cs : Array Value) (t : TypeId) : (w.alloc (.cells cs t)).there w.heap.size 0 cs.size := fun j hj => by
  have hh := (MapKept.heap_alloc w (.cells cs t)).1
  rw [Nat.zero_add]
  refine ⟨?_, by simp only [World.frozen?, hh]; simp⟩
  rw [cell_of_row _ _ j _ t (0, 0) hh]
  simp [hj]
theorem there_below {w w' : World} {b o n : Nat} (h : w.there b o n) (hb : Below w.heap.size w w') : w'.there b o n := fun j hj => by
  obtain ⟨h1, h2⟩ := h j hj
  obtain ⟨u, hu⟩ := Option.isSome_iff_exists.1 h1
  exact ⟨by rw [cell_below hb hu]; rfl, (hb.frozen (cell_lt hu)).trans h2⟩
theorem run_assign {P : Program} {r : Operand → Value} {o : Oper} {x : Operand} {v : Value} (h : o.op = .assign x) (hx : r x = v) (w : World) : (execOp r o).run P w = .ok (.value v) w := by
  rw [← hx]; unfold execOp; simp only [h]; rfl
theorem run_extract {P : Program} {r : Operand → Value} {o : Oper} {x : Operand} {n : Nat} {ux v : Value} {w : World} (h : o.op = .extract x n) (hx : r x = ux) (hr : (Instr.extract ux n).run P w = .ok v w) : (execOp r o).run P w = .ok (.value v) w := by
  unfold execOp; simp only [h, hx, Sem.run_bind, hr, Result.andThen_ok, Sem.run_pure]
theorem run_alloc {P : Program} {r : Operand → Value} {o : Oper} {t : TypeId} {v : Value} {w w' : World} (h : o.op = .alloc t) (hr : (Instr.alloc t true (.tuple #[])).run P w = .ok v w') : (execOp r o).run P w = .ok (.value v) w' := by
  unfold execOp; simp only [h, Sem.run_bind, hr, Result.andThen_ok, Sem.run_pure]
theorem map_three {f : Operand → Value} {x y z : Operand} {u v t : Value} (hx : f x = u) (hy : f y = v) (hz : f z = t) : #[x, y, z].map f = #[u, v, t] := by simp [hx, hy, hz]
theorem map_four {f : Operand → Value} {x y z q : Operand} {u v t s : Value} (hx : f x = u) (hy : f y = v) (hz : f z = t) (hq : f q = s) : #[x, y, z, q].map f = #[u, v, t, s] := by simp [hx, hy, hz, hq]
theorem ext_fst (x y : Value) (P : Program) (w : World) : (Instr.extract (.tuple #[x, y]) 0).run P w = .ok x w := by go_simp
theorem ext_snd (x y : Value) (P : Program) (w : World) : (Instr.extract (.tuple #[x, y]) 1).run P w = .ok y w := by go_simp

theorem Tryd.sizePic : (Tryd.prog.info? 46).map (·.size) = some 3 := by kernel_rfl
theorem Tryd.sizeCod : (Tryd.prog.info? 40).map (·.size) = some 4 := by kernel_rfl
theorem idx_pic (bb o len cap j : Nat) (w : World) (hj : j < len) (hl : len ≤ 6) : (Instr.indexAt 41 (.slice (some ⟨bb, o, none⟩) len cap) (.int .i64 j)).run Tryd.prog w = .ok (.pointer (some ⟨bb, o + j * 3, none⟩)) w := by
  have h1 : (j : Int) < (len : Int) := by omega
  go_simp
theorem idx_pic0 (bb o len cap : Nat) (w : World) (hj : 0 < len) (hl : len ≤ 6) : (Instr.indexAt 41 (.slice (some ⟨bb, o, none⟩) len cap) (.int .i64 0)).run Tryd.prog w = .ok (.pointer (some ⟨bb, o, none⟩)) w := by
  have h1 : (0 : Int) < (len : Int) := by omega
  go_simp
theorem idx_cod (bb o len cap j : Nat) (w : World) (hj : j < len) (hl : len ≤ 6) : (Instr.indexAt 22 (.slice (some ⟨bb, o, none⟩) len cap) (.int .i64 j)).run Tryd.prog w = .ok (.pointer (some ⟨bb, o + j * 4, none⟩)) w := by
  have h1 : (j : Int) < (len : Int) := by omega
  go_simp
theorem fld_pic0 (bb o : Nat) (w : World) : (Instr.fieldAt 46 (.pointer (some ⟨bb, o, none⟩)) 0).run Tryd.prog w = .ok (.pointer (some ⟨bb, o, none⟩)) w := by
  go_simp
theorem fld_pic1 (bb o : Nat) (w : World) : (Instr.fieldAt 46 (.pointer (some ⟨bb, o, none⟩)) 1).run Tryd.prog w = .ok (.pointer (some ⟨bb, o + 1, none⟩)) w := by
  go_simp
theorem load_intF (g b : Nat) (x : Int) (w : World) (h : w.cell? ⟨g, b, none⟩ = some (.int .i64 x)) : (Instr.loadAt 3 (.pointer (some ⟨g, b, none⟩))).run Tryd.prog w = .ok (.int .i64 x) w := by
  go_simp
theorem load_pic (g b : Nat) (cs : Array Value) (w : World) (hcs : cs.size = 3) (h : w.rangeAt g b cs.toList) : (Instr.loadAt 46 (.pointer (some ⟨g, b, none⟩))).run Tryd.prog w = .ok (.agg cs) w := by
  have h9 := run_loadAt_mid (P := Tryd.prog) w g b 46 cs.toList _ h Tryd.underlying46 rfl (by rw [Array.length_toList, hcs]; exact Tryd.sizePic)
  rw [Array.toArray_toList] at h9
  exact h9
theorem load_cod (g b : Nat) (cs : Array Value) (w : World) (hcs : cs.size = 4) (h : w.rangeAt g b cs.toList) : (Instr.loadAt 40 (.pointer (some ⟨g, b, none⟩))).run Tryd.prog w = .ok (.agg cs) w := by
  have h9 := run_loadAt_mid (P := Tryd.prog) w g b 40 cs.toList _ h Tryd.underlying40 rfl (by rw [Array.length_toList, hcs]; exact Tryd.sizeCod)
  rw [Array.toArray_toList] at h9
  exact h9
theorem alloc_pic (w : World) : (Instr.alloc 46 true (.tuple #[])).run Tryd.prog w = .ok (.pointer (some ⟨w.heap.size, 0, none⟩)) (w.alloc (.cells #[.int .i64 0, .int .i64 0, .slice none 0 0] 46)) := by
  go_simp
theorem alloc_cod (w : World) : (Instr.alloc 40 true (.tuple #[])).run Tryd.prog w = .ok (.pointer (some ⟨w.heap.size, 0, none⟩)) (w.alloc (.cells #[.bool false, .int .i64 0, .int .i64 0, .slice none 0 0] 40)) := by
  go_simp

theorem agg_pic {w : World} {b o : Nat} {x y : Int} {s : Value} (h0 : w.cell? ⟨b, o, none⟩ = some (.int .i64 x)) (h1 : w.cell? ⟨b, o + 1, none⟩ = some (.int .i64 y)) (h2 : w.cell? ⟨b, o + 2, none⟩ = some s) : w.rangeAt b o (#[.int .i64 x, .int .i64 y, s] : Array Value).toList := fun j v hj => by
  match j, hj with
  | 0, hj => cases hj; exact h0
  | 1, hj => cases hj; exact h1
  | 2, hj => cases hj; exact h2
theorem agg_cod {w : World} {b o : Nat} {al : Bool} {x y : Int} {s : Value} (h0 : w.cell? ⟨b, o, none⟩ = some (.bool al)) (h1 : w.cell? ⟨b, o + 1, none⟩ = some (.int .i64 x)) (h2 : w.cell? ⟨b, o + 2, none⟩ = some (.int .i64 y)) (h3 : w.cell? ⟨b, o + 3, none⟩ = some s) : w.rangeAt b o (#[.bool al, .int .i64 x, .int .i64 y, s] : Array Value).toList := fun j v hj => by
  match j, hj with
  | 0, hj => cases hj; exact h0
  | 1, hj => cases hj; exact h1
  | 2, hj => cases hj; exact h2
  | 3, hj => cases hj; exact h3
theorem pic_agg {w : World} {b : Nat} {x y : Int} {s : Value} (h : w.rangeAt b 0 (#[.int .i64 x, .int .i64 y, s] : Array Value).toList) (ht : w.there b 0 3) : PicIn w b x y s :=
  ⟨⟨by simpa using h 0 _ rfl, by simpa using (ht 0 (by decide)).2⟩, ⟨by simpa using h 1 _ rfl, by simpa using (ht 1 (by decide)).2⟩, by simpa using h 2 _ rfl, by simpa using (ht 2 (by decide)).2⟩
theorem ints_sets {w : World} {x : Nat} {v : Value} {n : Nat} {f : Nat → Int} (hv : ∀ k, v.ownBlock = some k → k ≠ x) : ∀ (cs : List Value) (o : Nat) (w : World), IntsIn w v n f → IntsIn (w.setCells x o cs) v n f
  | [], _, _, h => h
  | c :: cs, o, w, h => by
    refine ints_sets (w := w) hv cs (o + 1) _ ?_
    rcases h with h | ⟨h0, g, og, c', rfl, hc⟩
    · exact Or.inl h
    · refine Or.inr ⟨h0, g, og, c', rfl, fun i hi => ?_⟩
      rw [World.cell?_setCell_other _ _ _ _ (fun e => hv g rfl (congrArg Addr.block e).symm)]
      exact hc i hi
end Go.Proofs.YtjhflcgphejddaaDoor
