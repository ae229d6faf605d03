/-
  Lemmas for the law above, joined into one text (RRank, RegK, RReg, RSvR, Zero). No statement is proved here.
-/
import Derived.Test.YtjgifjkdgoijmaaGreatDoorYG35
import Derived.Test.YtjgifjkdgoijmaaGreatDoorYG31
import Derived.Test.YtjgifjkdgoijmaaGreatDoorYG7
import Derived.Test.YtjgifjkdgoijmaaGreatDoorYG0
import Derived.RegionTactic
import Derived.OrdersHeld
import Derived.Deep.MidRow
import Derived.Test.YtjgifjkdgoijmaaGreatDoorYG8
import Derived.Laws.Concat
import Derived.Lib.Strings
namespace Go.Proofs.YtjgifjkdgoijmaaGreatDoor
open Go.RowKit
set_option linter.unusedVariables false
set_option maxRecDepth 100000

theorem setL16 {k seed : Nat} (hk : 1 ≤ k) (hk2 : k ≤ 16) (h1 : 1 ≤ seed) : ∀ p ∈ setL k seed, p < 16 := fun p hp => Nat.lt_of_lt_of_le (setL_lt hk h1 hp) hk2
theorem fill_lin (f : Nat → Bool) (d : ByteArray) : Array.foldl (fun (cs : Array Value) (x : Value × Nat) => cs.setIfInBounds x.snd x.fst) #[.bool false, .bool false, .bool false, .bool false, .bool false, .bool false, .bool false, .bool false, .bool false, .bool false, .bool false, .bool false, .bool false, .bool false, .bool false, .bool false, .string ⟨#[]⟩] (linC f d).zipIdx 0 (linC f d).size = linC f d := by kernel_rfl
theorem ArrI.stored {w : World} {b : Nat} {f : Nat → Int} (h : ArrI w b f) (f' : Nat → Int) : ArrI (w.setCells b 0 (arrC f').toList) b f' := fun j hj => by
  refine ⟨?_, by rw [World.frozen?_setCells]; exact (h j hj).2⟩
  have h9 := h.put f' j _ (by rw [Array.getElem?_toList]; exact arrC_at f' hj)
  rw [Nat.zero_add] at h9; exact h9
theorem atN_has (at_ : Nat → Option Nat) (b : Nat) : (0 ≤ atN at_ b ↔ (at_ b).isSome = true) := by
  unfold atN
  cases at_ b with
  | none => simp
  | some i => simp
set_option maxHeartbeats 4000000 in
theorem rrank_ok (CL : ClearOk) (k : Nat) (v : Value) (len : Nat) (s : Nat → Nat) (w : World) (hv : IntsAt w v len (fun i => (s i : Int))) (h : len ≤ 60) (hk : 1 ≤ k) (hk2 : k ≤ 16) (hs : ∀ j, j < len → 1 ≤ s j ∧ s j ≤ 10000) :
    Calls Tryz.prog 17 #[.int .i64 k, v] w fun e w' => ∃ r : Nat, e = .returned (.int .i64 (r : Nat)) ∧ Dim (Sp XN (masksD k s len)) r ∧ Below w.heap.size w w' := by
  have CLR := hide CL
  obtain ⟨a, cap, rfl, h0⟩ := hv.open
  have H0 := hide h0
  have HS := hide hs
  obtain ⟨i0, hi0, hz0, hz1, hz2⟩ := info_parts Tryz.infoLine
  have Hi := hide hi0
  have Hz0 := hide hz0
  have Hz1 := hide hz1
  have Hz2 := hide hz2
  clear hs hv h0 hi0 hz0 hz1 hz2 CL
  go_enter Tryz.func17, Tryz.ntmps17
  go_wp2_with fail
  go_loopw [5, 6] (fun vo i wr => ∃ (j : Nat) (ao : Option Addr) (co : Nat), j ≤ len ∧ i = .int .i64 j ∧ vo = .slice ao j co ∧ (j = 0 → vo = .slice none 0 0) ∧ wr.ownsRow w.heap.size 101 17 vo j (lcells (fun i => maskL (setL k (s i))) (fun _ => ⟨#[]⟩) j) ∧ Below w.heap.size w wr) (fun _ i _ => len - (intOf i).toNat)
  case atStart => exact ⟨0, none, 0, Nat.zero_le _, rfl, rfl, fun _ => rfl, World.ownsRow_nil _ _ _ _, Below.refl _ _⟩
  case round =>
    obtain ⟨j, ao, co, hj, rfl, rfl, hnil, hrow, hb⟩ := hrel
    have HRow := hide hrow
    have HNil := hide hnil
    have HB := hide hb
    clear hrow hnil hb
    by_cases hlt : j < len
    · obtain ⟨bb, o, ha, hc1, hc2, hc⟩ := H0.out (by omega)
      subst ha
      have hcj : wr.cell? ⟨bb, o + j, none⟩ = some (.int .i64 (s j : Nat)) := cell_below HB.out (hc j hlt)
      have hsj := HS.out j hlt
      have RS := hide (fun W => rset_ok k (s j) W hk hk2 hsj.1 hsj.2)
      have RO : Hid (∀ W v, Lst W v (setL k (s j)) → Calls Tryz.prog 48 #[v, .string ⟨#[]⟩] W fun e w' => e = .returned (.agg (linC (maskL (setL k (s j))).testBit ⟨#[]⟩)) ∧ Below W.heap.size W w') := fun W v hv => rof_ok _ v _ W hv (setL16 hk hk2 hsj.1) (setL_few hk hk2 hsj.1 hsj.2)
      have HNext : Hid (lcells (fun i => maskL (setL k (s i))) (fun _ => ⟨#[]⟩) (j + 1) = lcells (fun i => maskL (setL k (s i))) (fun _ => ⟨#[]⟩) j ++ (linC (maskL (setL k (s j))).testBit ⟨#[]⟩).toList) := lcells_succ _ _ _
      unfold maxLen at hc2
      clear hc
      generalize hxs : s j = x at *
      generalize hcc : linC (maskL (setL k x)).testBit ⟨#[]⟩ = cc at *
      have HC1 : Hid (cc.size = 17) := by rw [Hid, ← hcc]; rfl
      have HC2 : Hid (cc.all (·.oneCell') = true) := by rw [Hid, ← hcc]; exact linC_one _ _
      have HCC := hide hcc
      have hfill : Array.foldl (fun (cs : Array Value) (x : Value × Nat) => cs.setIfInBounds x.snd x.fst) #[.bool false, .bool false, .bool false, .bool false, .bool false, .bool false, .bool false, .bool false, .bool false, .bool false, .bool false, .bool false, .bool false, .bool false, .bool false, .bool false, .string ⟨#[]⟩] cc.zipIdx 0 17 = cc := by rw [← hcc]; exact fill_lin _ _
      have hcs : cc.size = 17 := HC1.out
      clear hxs hcc
      go_wp2_with fail
      refine (RS.out _).mono ?_
      rintro e w1 ⟨vs, rfl, hl1, hb1⟩
      have RO1 := hide (RO.out w1 vs hl1)
      have HB1 := hide (below_two HB.out hb1)
      have HRow1 := hide (ownU HRow.out hb1)
      clear hl1 hb1 RS RO hcj
      go_wp2_with fail
      refine (RO1.out).mono ?_
      rintro e w2 ⟨rfl, hb2⟩
      have HB2 := hide (below_two HB1.out hb2)
      have HRow2 := hide (ownU HRow1.out hb2)
      clear hb2 RO1
      have hL0 := linF_new w2 (fun _ => false) ⟨#[]⟩ 101
      have HTh := hide hL0.there
      have HPut : Hid ((((w2.alloc (.cells (linC (fun _ => false) ⟨#[]⟩) 101)).setCells w2.heap.size 0 cc.toList)).rangeAt w2.heap.size 0 cc.toList) := World.rangeAt_setCells_same _ _ _ _ (by rw [Array.length_toList, HC1.out]; exact HTh.out)
      have HBa := hide (below_two HB2.out ((Below.refl w2.heap.size w2).alloc (Nat.le_refl _) (.cells (linC (fun _ => false) ⟨#[]⟩) 101)))
      have HBs : Hid (Below w2.heap.size w2 ((w2.alloc (.cells (linC (fun _ => false) ⟨#[]⟩) 101)).setCells w2.heap.size 0 cc.toList)) := sets_below (Nat.le_refl _) _ _ _ ((Below.refl w2.heap.size w2).alloc (Nat.le_refl _) _)
      have HRow3 := hide (ownU HRow2.out HBs.out)
      have HB3 := hide (below_two HB2.out HBs.out)
      obtain ⟨W3, hW3⟩ : ∃ W3, W3 = (w2.alloc (.cells (linC (fun _ => false) ⟨#[]⟩) 101)).setCells w2.heap.size 0 cc.toList := ⟨_, rfl⟩
      rw [← hW3] at HRow3 HB3 HPut
      have hsz3 : w.heap.size ≤ W3.heap.size := HB3.out.size
      have HW3 := hide hW3
      clear hW3 hL0
      go_wp2_with (first
        | (refine wpList_store_mid rfl 101 _ _ rfl w2.heap.size 0 cc rfl rfl (by rw [HC1.out]; exact HTh.out) (by rw [HC1.out]; exact Tryz.sizeLine) HC2.out ?_; have hgen := HW3.out; unfold linC at hgen; rw [← hgen]; clear hgen)
        | (refine wpList_load_mid rfl 101 _ rfl w2.heap.size 0 rfl cc.toList _ HPut.out Tryz.underlying101 rfl (by rw [Array.length_toList, HC1.out]; exact Tryz.sizeLine) ?_)
        | (at_builtin; refine wpList_append_lies _ rfl _ _ 99 rfl w.heap.size 101 i0 (.agg (linC (fun _ => false) ⟨#[]⟩)) 17 32 Tryz.underlying99 Hi.out Hz0.out Hz1.out Hz2.out rfl (by decide) _ _ _ rfl (HRow3.out.alloc _) ⟨W3.heap.size, 0, none⟩ 1 1 cc.toList rfl (by rw [Array.length_toList, HC1.out]) (World.news_of_block (cs := cc) (t := 101) (fr := (0, 0)) (heap_alloc_new W3 _)) (fun u hu => (Array.all_eq_true_iff_forall_mem.1 HC2.out) u (by simpa using hu)) (by decide) (by unfold maxLen; omega) (by omega) (by simp; omega) _ rfl ?_; intro g4 cap4 w4 hown4 hgrow4 hat4 hlt4))
      refine ⟨⟨j + 1, some ⟨g4, 0, none⟩, cap4, by omega, by simp, rfl, fun h => by omega, ?_, ?_⟩, by simp [intOf]; omega⟩
      · rw [HNext.out]; exact hown4
      · exact (below_two HB3.out ((Below.refl _ _).alloc (Nat.le_refl _) _)).grown hgrow4 (by simp; omega) (fun q hq => (HRow.out.lt q hq).1)
    · obtain rfl : j = len := by omega
      have hln := own_lnsAt HRow.out HNil.out
      have C1 := hide (CLR.out k 0 j (.slice ao j co) _ _ wr hk hk2 (by omega) (by omega) hln (fun i hi => setL_mask hk (HS.out i hi).1) (fun _ _ => rfl))
      clear hln HRow HNil CLR
      go_wp2_with fail
      refine (C1.out).mono ?_
      rintro e w3 ⟨a3, c3, m, d, at_, us, rfl, hClr, hno, hsz, hln3, hb3⟩
      have HB3 := hide (below_two HB.out hb3)
      have HDim : Hid (Dim (Sp XN (masksD k s j)) (cntB (fun b => (at_ b).isSome) k)) := by
        have h9 := hClr.cleared.dim
        have e9 : ((List.range j).map fun i => rv (maskL (setL k (s i))) (⟨#[]⟩ : ByteArray)).map Prod.fst = masksD k s j := by unfold masksD; rw [List.map_map]; rfl
        rw [e9] at h9
        exact h9
      clear hClr hno hsz hln3 hb3 C1
      have hA0 := arrI_new w3 0 104
      have HTh := hide hA0.there
      have HA1 := hide (hA0.stored (atN at_))
      have HB4 : Hid (Below w.heap.size w ((w3.alloc (.cells (Array.replicate 16 (.int .i64 0)) 104)).setCells w3.heap.size 0 (arrC (atN at_)).toList)) := sets_below HB3.out.size _ _ _ (below_two HB3.out ((Below.refl w3.heap.size w3).alloc (Nat.le_refl _) _))
      generalize hW4 : (w3.alloc (.cells (Array.replicate 16 (.int .i64 0)) 104)).setCells w3.heap.size 0 (arrC (atN at_)).toList = W4 at *
      have HW4 := hide hW4
      clear hA0 hW4
      go_wp2_with (refine wpList_store_mid rfl 104 _ _ rfl w3.heap.size 0 (arrC (atN at_)) rfl rfl HTh.out Tryz.sizeArr (arrC_one _) ?_; (show wpList _ _ _ _ _ ((w3.alloc (.cells (Array.replicate 16 (.int .i64 0)) 104)).setCells w3.heap.size 0 (arrC (atN at_)).toList)); rw [HW4.out])
      go_loopw [10, 11] (fun t i wr => ∃ b : Nat, b ≤ k ∧ i = .int .i64 b ∧ t = .int .i64 (cntB (fun b => (at_ b).isSome) b : Nat) ∧ W4 = wr) (fun _ i _ => k - (intOf i).toNat)
      case atStart => exact ⟨0, Nat.zero_le _, rfl, rfl, rfl⟩
      case round =>
        obtain ⟨b, hb, rfl, rfl, hw⟩ := hrel
        subst hw
        have hle := cntB_le (fun b => (at_ b).isSome) b
        by_cases hlt : b < k
        · have cb := (HA1.out b (by omega)).1
          have HSu := hide (cntB_succ (fun b => (at_ b).isSome) b)
          have HAt := hide (atN_has at_ b)
          generalize cntB (fun b => (at_ b).isSome) b = q at *
          generalize atN at_ b = x at *
          by_cases hx : 0 ≤ x
          · have HEq : Hid (cntB (fun b => (at_ b).isSome) (b + 1) = q + 1) := by rw [Hid, HSu.out, if_pos (HAt.out.1 hx)]
            go_wp2
            go_roundw
            case rel => exact ⟨b + 1, by omega, by go_num, by rw [HEq.out]; simp, by first | rfl | trivial⟩
            case measure => simp [intOf]; omega
          · have HEq : Hid (cntB (fun b => (at_ b).isSome) (b + 1) = q) := by rw [Hid, HSu.out, if_neg (fun h => hx (HAt.out.2 h))]; rfl
            go_wp2
            go_roundw
            case rel => exact ⟨b + 1, by omega, by go_num, by rw [HEq.out], by first | rfl | trivial⟩
            case measure => simp [intOf]; omega
        · obtain rfl : b = k := by omega
          go_wp2
          go_ret
          exact ⟨_, rfl, HDim.out, HB4.out⟩
end Go.Proofs.YtjgifjkdgoijmaaGreatDoor

namespace Go.Proofs.YtjgifjkdgoijmaaGreatDoor
open Go.RowKit
set_option linter.unusedVariables false
set_option maxRecDepth 100000

theorem Act.size_put (a : Act) (d : Tmp) (v : Value) : (a.put (some d) v).tmps.size = a.tmps.size := by simp [Act.put]
theorem Act.sz {a : Act} {d : Tmp} {v : Value} {n : Nat} (hs : a.tmps.size = n) : (a.put (some d) v).tmps.size = n := (Act.size_put a d v).trans hs
theorem Act.ev_put (a : Act) (d t : Tmp) (v : Value) (h : d < a.tmps.size) : (a.put (some d) v).eval (.tmp t) = if t = d then v else a.eval (.tmp t) := by
  simp only [Act.put, Act.eval, Array.getD_eq_getD_getElem?, Array.getElem?_setIfInBounds]
  by_cases e : d = t
  · subst e; simp [h]
  · rw [if_neg e, if_neg (fun h => e h.symm)]
theorem Act.ev_eq {a : Act} {d : Tmp} {v : Value} {n : Nat} (hs : a.tmps.size = n) (h : d < n) : (a.put (some d) v).eval (.tmp d) = v := by rw [Act.ev_put a d d v (hs ▸ h), if_pos rfl]
theorem Act.ev_ne {a : Act} {d t : Tmp} {v u : Value} (h : t ≠ d) (hu : a.eval (.tmp t) = u) : (a.put (some d) v).eval (.tmp t) = u := by
  rw [← hu]
  simp only [Act.put, Act.eval, Array.getD_eq_getD_getElem?, Array.getElem?_setIfInBounds]
  rw [if_neg (fun e => h e.symm)]
theorem Act.put_swap (a : Act) {d e : Tmp} (u v : Value) (h : d ≠ e) : (a.put (some d) u).put (some e) v = (a.put (some e) v).put (some d) u := by
  simp only [Act.put]
  rw [Array.setIfInBounds_comm _ _ h]
theorem run_move {P : Program} {r : Operand → Value} {o : Oper} {x : Operand} {v : Value} (h : o.op = .move x) (hx : r x = v) (w : World) : (execOp r o).run P w = .ok (.value v) w := by
  rw [← hx]; unfold execOp; simp only [h]; rfl
theorem run_index {P : Program} {r : Operand → Value} {o : Oper} {t : TypeId} {x y : Operand} {v ux uy : Value} {w : World} (h : o.op = .indexAddr t x y) (hx : r x = ux) (hy : r y = uy) (hr : (Instr.indexAt t ux uy).run P w = .ok v w) : (execOp r o).run P w = .ok (.value v) w := by
  unfold execOp; simp only [h, hx, hy, Sem.run_bind, hr, Result.andThen_ok, Sem.run_pure]
theorem wp_value {P : Program} {o : Oper} {a : Act} {w : World} {K : Act → World → Prop} {Q : Exit → Act → World → Prop} {v : Value} (h : (execOp a.eval o).run P w = .ok (.value v) w) (hk : K (a.put o.dst v) w) : o.wp P a w K Q := by
  unfold Oper.wp; rw [h]; exact hk
theorem run_load {P : Program} {r : Operand → Value} {o : Oper} {t : TypeId} {x : Operand} {v ux : Value} {w : World} (h : o.op = .load t x) (hx : r x = ux) (hr : (Instr.loadAt t ux).run P w = .ok v w) : (execOp r o).run P w = .ok (.value v) w := by
  unfold execOp; simp only [h, hx, Sem.run_bind, hr, Result.andThen_ok, Sem.run_pure]
/-- A statement, shut: nothing looks into it. -/
structure ShutG (p : Prop) : Prop where
  out : p
theorem any_take {P : Program} {ops : Array Oper} {Q : Exit → Act → World → Prop} {md : Region.Mode} {i : Nat} {oi : Oper} {v : Value} {d : Tmp} {fuel : Nat} {listed : Array Bool} {a : Act} {w : World} (hi : ops[i]? = some oi) (hd : oi.dst = some d)
    (hs : Region.noSelect ops = true) (hf : Region.free md ops listed i = true) (hr : (Region.ready md ops listed).contains i = true) (hw : oi.guard = none)
    (hQ : ∀ c a (d : Tmp) v w, Q (.panic c) (Act.put a (some d) v) w → Q (.panic c) a w) (hy : ∀ w, (execOp a.eval oi).run P w = .ok (.value v) w)
    (h : wpAny P md ops Q fuel (listed.setIfInBounds i true) (a.put (some d) v) w) : wpAny P md ops Q (fuel + 1) listed a w :=
  wpAny_take hi hs hf hr (fun c a w h => hQ c a d v w (by rw [hd] at h; exact h)) (Or.inl ⟨by unfold Region.wanted; rw [hw], hy⟩) (by rw [hd]; exact h)
theorem any_one {P : Program} {ops : Array Oper} {Q : Exit → Act → World → Prop} {md : Region.Mode} {fuel : Nat} {listed : Array Bool} {a : Act} {w : World} {i : Nat} {o : Oper} (hr : Region.ready md ops listed = [i]) (ho : ops[i]? = some o) (hw : o.guard = none)
    (h : ∀ K' : Act → World → Prop, (∀ a w, wpAny P md ops Q fuel (listed.setIfInBounds i true) a w → K' a w) → ShutG (Oper.wp P o a w K' Q)) : wpAny P md ops Q (fuel + 1) listed a w :=
  wpAny_ready hr (by simp) (AllReady.cons ho (fun K hK => by rw [if_pos (by unfold Region.wanted; rw [hw])]; exact (h K hK).out) AllReady.nil)
theorem any_two {P : Program} {ops : Array Oper} {Q : Exit → Act → World → Prop} {md : Region.Mode} {fuel : Nat} {listed : Array Bool} {a : Act} {w : World} {i j : Nat} {o o' : Oper} (hr : Region.ready md ops listed = [i, j]) (ho : ops[i]? = some o) (hw : o.guard = none) (ho' : ops[j]? = some o') (hw' : o'.guard = none)
    (h : ∀ K' : Act → World → Prop, (∀ a w, wpAny P md ops Q fuel (listed.setIfInBounds i true) a w → K' a w) → ShutG (Oper.wp P o a w K' Q))
    (h' : ∀ K' : Act → World → Prop, (∀ a w, wpAny P md ops Q fuel (listed.setIfInBounds j true) a w → K' a w) → ShutG (Oper.wp P o' a w K' Q)) : wpAny P md ops Q (fuel + 1) listed a w :=
  wpAny_ready hr (by simp) (AllReady.cons ho (fun K hK => by rw [if_pos (by unfold Region.wanted; rw [hw])]; exact (h K hK).out) (AllReady.cons ho' (fun K hK => by rw [if_pos (by unfold Region.wanted; rw [hw'])]; exact (h' K hK).out) AllReady.nil))
theorem wp_value_at {P : Program} {o : Oper} {a : Act} {w : World} {K : Act → World → Prop} {Q : Exit → Act → World → Prop} {v : Value} {d : Tmp} (hd : o.dst = some d) (h : (execOp a.eval o).run P w = .ok (.value v) w) (hk : K (a.put (some d) v) w) : ShutG (o.wp P a w K Q) := by
  refine ⟨?_⟩
  unfold Oper.wp; rw [h, Oper.upon_value, hd]; exact hk
theorem wp_call_at {P : Program} {o : Oper} {a : Act} {w : World} {K : Act → World → Prop} {Q : Exit → Act → World → Prop} {d : Tmp} {R : Value → World → Prop} {f : FuncId} {args : Array Operand} {tys : Array TypeId} (vs : Array Value) (hd : o.dst = some d) (ho : o.op = .call ⟨.value (.func f), args, tys⟩) (hv : args.map a.eval = vs)
    (hr : (invoke (.fn (.func f) #[]) vs).run P w = .ok (.enter f vs) w) (h : Calls P f vs w fun e w' => ∃ v, e = .returned v ∧ R v w') (hk : ∀ v w', R v w' → K (a.put (some d) v) w') : ShutG (o.wp P a w K Q) := by
  refine ⟨?_⟩
  have e : (execOp a.eval o).run P w = .ok (.enter f vs) w := by
    unfold execOp
    simp only [ho, resolve, hv, Sem.run_bind]
    rw [show a.eval (.func f) = .func (.func f) #[] #[] from rfl]
    simp only [Deferred.ofValue, Sem.run_pure, Result.andThen_ok, Array.empty_append]
    exact hr
  unfold Oper.wp
  rw [e, Oper.upon_enter, hd]
  exact h.mono fun e w' ⟨v, he, hR⟩ => by subst he; exact hk v w' hR
theorem wp_store_at {P : Program} {op : Oper} {a : Act} {w : World} {K : Act → World → Prop} {Q : Exit → Act → World → Prop} (ty : TypeId) (x y : Operand) (ho : op.op = .store ty x y) (hd : op.dst = none)
    (b o : Nat) (cells : Array Value) (hx : a.eval x = .pointer (some ⟨b, o, none⟩)) (hy : a.eval y = .agg cells)
    (ht : w.there b o cells.size) (hi : (P.info? ty).map (·.size) = some cells.size) (h1 : cells.all (·.oneCell') = true)
    (h : K a (w.setCells b o cells.toList)) : ShutG (op.wp P a w K Q) := ⟨wp_store_mid ty x y ho b o cells hx hy ht hi h1 (by rw [hd]; exact h)⟩
theorem wp_value_to {P : Program} {o : Oper} {a : Act} {w w' : World} {K : Act → World → Prop} {Q : Exit → Act → World → Prop} {v : Value} {d : Tmp} (hd : o.dst = some d) (h : (execOp a.eval o).run P w = .ok (.value v) w') (hk : K (a.put (some d) v) w') : ShutG (o.wp P a w K Q) := by
  refine ⟨?_⟩
  unfold Oper.wp; rw [h, Oper.upon_value, hd]; exact hk
theorem run_field {P : Program} {r : Operand → Value} {o : Oper} {t : TypeId} {x : Operand} {n : Nat} {v ux : Value} {w : World} (h : o.op = .fieldAddr t x n) (hx : r x = ux) (hr : (Instr.fieldAt t ux n).run P w = .ok v w) : (execOp r o).run P w = .ok (.value v) w := by
  unfold execOp; simp only [h, hx, Sem.run_bind, hr, Result.andThen_ok, Sem.run_pure]

theorem map_one {f : Operand → Value} {x : Operand} {u : Value} (hx : f x = u) : #[x].map f = #[u] := by simp [hx]
theorem map_two {f : Operand → Value} {x y : Operand} {u v : Value} (hx : f x = u) (hy : f y = v) : #[x, y].map f = #[u, v] := by simp [hx, hy]

/-! The same where what is read may be taken first, in every world that meets S. -/
theorem anyH_take {P : Program} {ops : Array Oper} {Q : Exit → Act → World → Prop} {S : World → Prop} {md : Region.Mode} {i : Nat} {oi : Oper} {v : Value} {d : Tmp} {fuel : Nat} {listed : Array Bool} {a : Act} {w : World} (hi : ops[i]? = some oi) (hd : oi.dst = some d)
    (hs : Region.noSelect ops = true) (hf : Region.free md ops listed i = true) (hr : (Region.ready md ops listed).contains i = true) (hw : oi.guard = none)
    (hQ : ∀ c a (d : Tmp) v w, Q (.panic c) (Act.put a (some d) v) w → Q (.panic c) a w) (hS : S w) (hy : ∀ w, S w → (execOp a.eval oi).run P w = .ok (.value v) w)
    (h : wpAnyH P md ops Q S fuel (listed.setIfInBounds i true) (a.put (some d) v) w) : wpAnyH P md ops Q S (fuel + 1) listed a w :=
  wpAnyH_take hi hs hf hr (fun c a w h => hQ c a d v w (by rw [hd] at h; exact h)) (Or.inl ⟨by unfold Region.wanted; rw [hw], hy⟩) hS (by rw [hd]; exact h)
theorem anyH_one {P : Program} {ops : Array Oper} {Q : Exit → Act → World → Prop} {S : World → Prop} {md : Region.Mode} {fuel : Nat} {listed : Array Bool} {a : Act} {w : World} {i : Nat} {o : Oper} (hr : Region.ready md ops listed = [i]) (ho : ops[i]? = some o) (hw : o.guard = none)
    (h : ∀ K' : Act → World → Prop, (∀ a w, S w → wpAnyH P md ops Q S fuel (listed.setIfInBounds i true) a w → K' a w) → ShutG (Oper.wp P o a w K' Q)) : wpAnyH P md ops Q S (fuel + 1) listed a w :=
  wpAnyH_all hr (by simp) fun j hj => by
    obtain rfl : j = i := by simpa using hj
    exact wpOp_step ho fun K hK => by rw [if_pos (by unfold Region.wanted; rw [hw])]; exact (h K fun a w h1 h2 => hK a w ⟨h1, h2⟩).out
theorem anyH_two {P : Program} {ops : Array Oper} {Q : Exit → Act → World → Prop} {S : World → Prop} {md : Region.Mode} {fuel : Nat} {listed : Array Bool} {a : Act} {w : World} {i j : Nat} {o o' : Oper} (hr : Region.ready md ops listed = [i, j]) (ho : ops[i]? = some o) (hw : o.guard = none) (ho' : ops[j]? = some o') (hw' : o'.guard = none)
    (h : ∀ K' : Act → World → Prop, (∀ a w, S w → wpAnyH P md ops Q S fuel (listed.setIfInBounds i true) a w → K' a w) → ShutG (Oper.wp P o a w K' Q))
    (h' : ∀ K' : Act → World → Prop, (∀ a w, S w → wpAnyH P md ops Q S fuel (listed.setIfInBounds j true) a w → K' a w) → ShutG (Oper.wp P o' a w K' Q)) : wpAnyH P md ops Q S (fuel + 1) listed a w :=
  wpAnyH_all hr (by simp) fun q hq => by
    rcases (by simpa using hq : q = i ∨ q = j) with rfl | rfl
    · exact wpOp_step ho fun K hK => by rw [if_pos (by unfold Region.wanted; rw [hw])]; exact (h K fun a w h1 h2 => hK a w ⟨h1, h2⟩).out
    · exact wpOp_step ho' fun K hK => by rw [if_pos (by unfold Region.wanted; rw [hw'])]; exact (h' K fun a w h1 h2 => hK a w ⟨h1, h2⟩).out
end Go.Proofs.YtjgifjkdgoijmaaGreatDoor

namespace Go.Proofs.YtjgifjkdgoijmaaGreatDoor
open Go.RowKit
set_option linter.unusedVariables false
set_option maxRecDepth 100000

theorem idx_row (g N cap i : Nat) (w : World) (hi : i < N) (hN : N ≤ 60) : (Instr.indexAt 99 (.slice (some ⟨g, 0, none⟩) N cap) (.int .i64 i)).run Tryz.prog w = .ok (.pointer (some ⟨g, i * 17, none⟩)) w := by
  have h1 : (i : Int) < (N : Int) := by omega
  go_simp
theorem idx_arr (g b : Nat) (w : World) (hb : b < 16) : (Instr.indexAt 104 (.pointer (some ⟨g, 0, none⟩)) (.int .i64 b)).run Tryz.prog w = .ok (.pointer (some ⟨g, b, none⟩)) w := by
  have h1 : (b : Int) < 16 := by omega
  go_simp
theorem load_int (g b : Nat) (x : Int) (w : World) (h : w.cell? ⟨g, b, none⟩ = some (.int .i64 x)) : (Instr.loadAt 3 (.pointer (some ⟨g, b, none⟩))).run Tryz.prog w = .ok (.int .i64 x) w := by
  go_simp

def op22x0 : Oper := { dst := some 87, op := .move (.tmp 9), type := 99, pos := "base.go:281", after := #[], guard := none }
def op22x1 : Oper := { dst := some 88, op := .move (.tmp 12), type := 3, pos := "base.go:281", after := #[], guard := none }
def op22x2 : Oper := { dst := some 89, op := .move (.tmp 9), type := 99, pos := "base.go:281", after := #[], guard := none }
def op22x3 : Oper := { dst := some 90, op := .move (.tmp 12), type := 3, pos := "base.go:281", after := #[], guard := none }
def op22x4 : Oper := { dst := some 91, op := .indexAddr 99 (.tmp 89) (.tmp 90), type := 0, pos := "base.go:281", after := #[{ on := 2, ground := .data }, { on := 3, ground := .data }], guard := none }
def op22x5 : Oper := { dst := some 92, op := .load 101 (.tmp 91), type := 101, pos := "base.go:281", after := #[{ on := 4, ground := .data }], guard := none }
def op22x6 : Oper := { dst := some 93, op := .move (.tmp 9), type := 99, pos := "base.go:281", after := #[], guard := none }
def op22x7 : Oper := { dst := some 94, op := .move (.tmp 10), type := 3, pos := "base.go:281", after := #[], guard := none }
def op22x8 : Oper := { dst := some 95, op := .indexAddr 104 (.tmp 6) (.tmp 94), type := 0, pos := "base.go:281", after := #[{ on := 7, ground := .data }], guard := none }
def op22x9 : Oper := { dst := some 96, op := .load 3 (.tmp 95), type := 3, pos := "base.go:281", after := #[{ on := 8, ground := .data }], guard := none }
def op22x10 : Oper := { dst := some 97, op := .indexAddr 99 (.tmp 93) (.tmp 96), type := 0, pos := "base.go:281", after := #[{ on := 6, ground := .data }, { on := 9, ground := .data }], guard := none }
def op22x11 : Oper := { dst := some 98, op := .load 101 (.tmp 97), type := 101, pos := "base.go:281", after := #[{ on := 10, ground := .data }], guard := none }
def op22x12 : Oper := { dst := some 99, op := .call { callee := .value (.func 85), args := #[.tmp 92, .tmp 98], argTypes := #[101, 101] }, type := 101, pos := "base.go:281", after := #[{ on := 5, ground := .data }, { on := 11, ground := .data }], guard := none }
def op22x13 : Oper := { dst := some 100, op := .indexAddr 99 (.tmp 87) (.tmp 88), type := 0, pos := "base.go:281", after := #[{ on := 0, ground := .data }, { on := 1, ground := .data }, { on := 0, ground := .phase }, { on := 1, ground := .phase }, { on := 2, ground := .phase }, { on := 3, ground := .phase }, { on := 4, ground := .phase }, { on := 5, ground := .phase }, { on := 6, ground := .phase }, { on := 7, ground := .phase }, { on := 8, ground := .phase }, { on := 9, ground := .phase }, { on := 10, ground := .phase }, { on := 11, ground := .phase }, { on := 12, ground := .phase }], guard := none }
def op22x14 : Oper := { dst := none, op := .store 101 (.tmp 100) (.tmp 99), type := 0, pos := "base.go:281", after := #[{ on := 13, ground := .data }, { on := 12, ground := .data }, { on := 12, ground := .chain }, { on := 0, ground := .phase }, { on := 1, ground := .phase }, { on := 2, ground := .phase }, { on := 3, ground := .phase }, { on := 4, ground := .phase }, { on := 5, ground := .phase }, { on := 6, ground := .phase }, { on := 7, ground := .phase }, { on := 8, ground := .phase }, { on := 9, ground := .phase }, { on := 10, ground := .phase }, { on := 11, ground := .phase }, { on := 12, ground := .phase }], guard := none }
def ops22 : Array Oper := #[op22x0, op22x1, op22x2, op22x3, op22x4, op22x5, op22x6, op22x7, op22x8, op22x9, op22x10, op22x11, op22x12, op22x13, op22x14]
theorem at22x0 : ops22[0]? = some op22x0 := rfl
theorem at22x1 : ops22[1]? = some op22x1 := rfl
theorem at22x2 : ops22[2]? = some op22x2 := rfl
theorem at22x3 : ops22[3]? = some op22x3 := rfl
theorem at22x4 : ops22[4]? = some op22x4 := rfl
theorem at22x5 : ops22[5]? = some op22x5 := rfl
theorem at22x6 : ops22[6]? = some op22x6 := rfl
theorem at22x7 : ops22[7]? = some op22x7 := rfl
theorem at22x8 : ops22[8]? = some op22x8 := rfl
theorem at22x9 : ops22[9]? = some op22x9 := rfl
theorem at22x10 : ops22[10]? = some op22x10 := rfl
theorem at22x11 : ops22[11]? = some op22x11 := rfl
theorem at22x12 : ops22[12]? = some op22x12 := rfl
theorem at22x13 : ops22[13]? = some op22x13 := rfl
theorem at22x14 : ops22[14]? = some op22x14 := rfl
set_option maxHeartbeats 1000000 in
theorem tail22 {Q : Exit → Act → World → Prop} {a : Act} {w w0 : World} {listed : Array Bool} (g N cap i : Nat) (ci cp cc : Array Value) (hs : a.tmps.size = 103) (hb0 : Below w.heap.size w w0)
    (h87 : a.eval (.tmp 87) = .slice (some ⟨g, 0, none⟩) N cap) (h88 : a.eval (.tmp 88) = .int .i64 i) (h92 : a.eval (.tmp 92) = .agg ci) (h98 : a.eval (.tmp 98) = .agg cp) (hi : i < N) (hN : N ≤ 60) (hth : ∀ W, Below w.heap.size w W → W.there g (i * 17) cc.size) (hcs : cc.size = 17) (hc1 : cc.all (·.oneCell') = true)
    (OV : ∀ W, Calls Tryz.prog 85 #[.agg ci, .agg cp] W fun e w' => e = .returned (.agg cc) ∧ Below W.heap.size W w')
    (r12 : Region.ready .any ops22 listed = [12]) (r13 : Region.ready .any ops22 (listed.setIfInBounds 12 true) = [13]) (r14 : Region.ready .any ops22 ((listed.setIfInBounds 12 true).setIfInBounds 13 true) = [14]) (r15 : Region.ready .any ops22 (((listed.setIfInBounds 12 true).setIfInBounds 13 true).setIfInBounds 14 true) = [])
    (hend : ∀ W, Below w.heap.size w W → Q .normal ((a.put (some 99) (.agg cc)).put (some 100) (.pointer (some ⟨g, i * 17, none⟩))) (W.setCells g (i * 17) cc.toList)) :
    wpAny Tryz.prog .any ops22 Q 3 listed a w0 := by
  refine any_one r12 at22x12 rfl (fun K hK => ?_)
  refine wp_call_at (R := fun v w' => v = .agg cc ∧ Below w0.heap.size w0 w') #[.agg ci, .agg cp] (d := 99) rfl rfl (by simp [h92, h98]) (by go_simp) ((OV w0).mono fun e w' h => ⟨_, h.1, rfl, h.2⟩) (fun v w' hv => hK _ _ ?_)
  obtain ⟨rfl, hb1⟩ := hv
  clear hK K OV
  have hbW := below_two hb0 hb1
  refine any_one r13 at22x13 rfl (fun K hK => ?_)
  refine wp_value_at (d := 100) (v := .pointer (some ⟨g, i * 17, none⟩)) rfl (run_index rfl (Act.ev_ne (by decide) h87) (Act.ev_ne (by decide) h88) (idx_row g N cap i w' hi hN)) (hK _ _ ?_)
  clear hK K
  refine any_one r14 at22x14 rfl (fun K hK => ?_)
  refine wp_store_at 101 _ _ rfl rfl g (i * 17) cc (Act.ev_eq (Act.sz hs) (by decide)) (Act.ev_ne (by decide) (Act.ev_eq hs (by decide))) (hth _ hbW) (by rw [hcs]; exact Tryz.sizeLine) hc1 (hK _ _ ?_)
  clear hK K
  exact wpAny_done r15 (hend _ hbW) _

set_option maxHeartbeats 1000000 in
theorem region22 {Q : Exit → Act → World → Prop} {a : Act} {w : World} (g ga N cap i b p : Nat) (ci cp cc : Array Value) (hs : a.tmps.size = 103)
    (h9 : a.eval (.tmp 9) = .slice (some ⟨g, 0, none⟩) N cap) (h12 : a.eval (.tmp 12) = .int .i64 i) (h10 : a.eval (.tmp 10) = .int .i64 b) (h6 : a.eval (.tmp 6) = .pointer (some ⟨ga, 0, none⟩))
    (hi : i < N) (hp : p < N) (hN : N ≤ 60) (hb : b < 16) (hat : w.cell? ⟨ga, b, none⟩ = some (.int .i64 p)) (hRi : w.rangeAt g (i * 17) ci.toList) (hRp : w.rangeAt g (p * 17) cp.toList) (hci : ci.size = 17) (hcp : cp.size = 17)
    (hth : ∀ W, Below w.heap.size w W → W.there g (i * 17) cc.size) (hcs : cc.size = 17) (hc1 : cc.all (·.oneCell') = true)
    (OV : ∀ W, Calls Tryz.prog 85 #[.agg ci, .agg cp] W fun e w' => e = .returned (.agg cc) ∧ Below W.heap.size W w')
    (hQ : ∀ c a (d : Tmp) v w, Q (.panic c) (Act.put a (some d) v) w → Q (.panic c) a w)
    (hend : ∀ W, Below w.heap.size w W → Q .normal ((((((((((((((a.put (some 87) (.slice (some ⟨g, 0, none⟩) N cap)).put (some 88) (.int .i64 i)).put (some 89) (.slice (some ⟨g, 0, none⟩) N cap)).put (some 90) (.int .i64 i)).put (some 91) (.pointer (some ⟨g, i * 17, none⟩))).put (some 93) (.slice (some ⟨g, 0, none⟩) N cap)).put (some 94) (.int .i64 b)).put (some 95) (.pointer (some ⟨ga, b, none⟩))).put (some 92) (.agg ci)).put (some 96) (.int .i64 p)).put (some 97) (.pointer (some ⟨g, p * 17, none⟩))).put (some 98) (.agg cp)).put (some 99) (.agg cc)).put (some 100) (.pointer (some ⟨g, i * 17, none⟩))) (W.setCells g (i * 17) cc.toList)) :
    (Code.region 22 ops22 true).wp Tryz.prog Q a w := by
  refine wp_region_any (by kernel_rfl) ?_
  show wpAny _ _ _ _ 15 (Array.replicate 15 false) a w.drew
  have hRi' := (World.rangeAt_drew w g (i * 17) ci.toList).2 hRi
  have hRp' := (World.rangeAt_drew w g (p * 17) cp.toList).2 hRp
  have hat' : w.drew.cell? ⟨ga, b, none⟩ = some (.int .i64 p) := hat
  have hb0 : Below w.heap.size w w.drew := (Below.refl _ _).drew
  generalize w.drew = w0 at *
  have ldI : (Instr.loadAt 101 (.pointer (some ⟨g, i * 17, none⟩))).run Tryz.prog w0 = .ok (.agg ci) w0 := by
    have h := run_loadAt_mid (P := Tryz.prog) w0 g (i * 17) 101 ci.toList _ hRi' Tryz.underlying101 rfl (by rw [Array.length_toList, hci]; exact Tryz.sizeLine)
    rw [Array.toArray_toList] at h; exact h
  have ldP : (Instr.loadAt 101 (.pointer (some ⟨g, p * 17, none⟩))).run Tryz.prog w0 = .ok (.agg cp) w0 := by
    have h := run_loadAt_mid (P := Tryz.prog) w0 g (p * 17) 101 cp.toList _ hRp' Tryz.underlying101 rfl (by rw [Array.length_toList, hcp]; exact Tryz.sizeLine)
    rw [Array.toArray_toList] at h; exact h
  have ldA := load_int ga b p w0 hat'
  refine any_take (i := 0) (d := 87) (v := (.slice (some ⟨g, 0, none⟩) N cap)) at22x0 rfl (by kernel_rfl) (by kernel_rfl) (by kernel_rfl) rfl hQ (fun w => (run_move rfl h9 w)) ?_
  refine any_take (i := 1) (d := 88) (v := (.int .i64 i)) at22x1 rfl (by kernel_rfl) (by kernel_rfl) (by kernel_rfl) rfl hQ (fun w => (run_move rfl (Act.ev_ne (by decide) h12) w)) ?_
  refine any_take (i := 2) (d := 89) (v := (.slice (some ⟨g, 0, none⟩) N cap)) at22x2 rfl (by kernel_rfl) (by kernel_rfl) (by kernel_rfl) rfl hQ (fun w => (run_move rfl (Act.ev_ne (by decide) (Act.ev_ne (by decide) h9)) w)) ?_
  refine any_take (i := 3) (d := 90) (v := (.int .i64 i)) at22x3 rfl (by kernel_rfl) (by kernel_rfl) (by kernel_rfl) rfl hQ (fun w => (run_move rfl (Act.ev_ne (by decide) (Act.ev_ne (by decide) (Act.ev_ne (by decide) h12))) w)) ?_
  refine any_take (i := 4) (d := 91) (v := (.pointer (some ⟨g, i * 17, none⟩))) at22x4 rfl (by kernel_rfl) (by kernel_rfl) (by kernel_rfl) rfl hQ (fun w => (run_index rfl (Act.ev_ne (by decide) (Act.ev_eq (Act.sz (Act.sz hs)) (by decide))) (Act.ev_eq (Act.sz (Act.sz (Act.sz hs))) (by decide)) (idx_row g N cap i w hi hN))) ?_
  refine any_take (i := 6) (d := 93) (v := (.slice (some ⟨g, 0, none⟩) N cap)) at22x6 rfl (by kernel_rfl) (by kernel_rfl) (by kernel_rfl) rfl hQ (fun w => (run_move rfl (Act.ev_ne (by decide) (Act.ev_ne (by decide) (Act.ev_ne (by decide) (Act.ev_ne (by decide) (Act.ev_ne (by decide) h9))))) w)) ?_
  refine any_take (i := 7) (d := 94) (v := (.int .i64 b)) at22x7 rfl (by kernel_rfl) (by kernel_rfl) (by kernel_rfl) rfl hQ (fun w => (run_move rfl (Act.ev_ne (by decide) (Act.ev_ne (by decide) (Act.ev_ne (by decide) (Act.ev_ne (by decide) (Act.ev_ne (by decide) (Act.ev_ne (by decide) h10)))))) w)) ?_
  refine any_take (i := 8) (d := 95) (v := (.pointer (some ⟨ga, b, none⟩))) at22x8 rfl (by kernel_rfl) (by kernel_rfl) (by kernel_rfl) rfl hQ (fun w => (run_index rfl (Act.ev_ne (by decide) (Act.ev_ne (by decide) (Act.ev_ne (by decide) (Act.ev_ne (by decide) (Act.ev_ne (by decide) (Act.ev_ne (by decide) (Act.ev_ne (by decide) h6))))))) (Act.ev_eq (Act.sz (Act.sz (Act.sz (Act.sz (Act.sz (Act.sz hs)))))) (by decide)) (idx_arr ga b w hb))) ?_
  refine any_two (i := 5) (j := 9) (by kernel_rfl) at22x5 rfl at22x9 rfl (fun K hK => ?_) (fun K hK => ?_)
  · refine wp_value_at (d := 92) (v := (.agg ci)) rfl (run_load rfl (Act.ev_ne (by decide) (Act.ev_ne (by decide) (Act.ev_ne (by decide) (Act.ev_eq (Act.sz (Act.sz (Act.sz (Act.sz hs)))) (by decide))))) ldI) (hK _ _ ?_)
    clear hK K
    refine any_one (i := 9) (by kernel_rfl) at22x9 rfl (fun K hK => ?_)
    refine wp_value_at (d := 96) (v := (.int .i64 p)) rfl (run_load rfl (Act.ev_ne (by decide) (Act.ev_eq (Act.sz (Act.sz (Act.sz (Act.sz (Act.sz (Act.sz (Act.sz hs))))))) (by decide))) ldA) (hK _ _ ?_)
    clear hK K
    refine any_take (i := 10) (d := 97) (v := (.pointer (some ⟨g, p * 17, none⟩))) at22x10 rfl (by kernel_rfl) (by kernel_rfl) (by kernel_rfl) rfl hQ (fun w => (run_index rfl (Act.ev_ne (by decide) (Act.ev_ne (by decide) (Act.ev_ne (by decide) (Act.ev_ne (by decide) (Act.ev_eq (Act.sz (Act.sz (Act.sz (Act.sz (Act.sz hs))))) (by decide)))))) (Act.ev_eq (Act.sz (Act.sz (Act.sz (Act.sz (Act.sz (Act.sz (Act.sz (Act.sz (Act.sz hs))))))))) (by decide)) (idx_row g N cap p w hp hN))) ?_
    refine any_one (i := 11) (by kernel_rfl) at22x11 rfl (fun K hK => ?_)
    refine wp_value_at (d := 98) (v := (.agg cp)) rfl (run_load rfl (Act.ev_eq (Act.sz (Act.sz (Act.sz (Act.sz (Act.sz (Act.sz (Act.sz (Act.sz (Act.sz (Act.sz hs)))))))))) (by decide)) ldP) (hK _ _ ?_)
    clear hK K
    refine tail22 g N cap i ci cp cc (Act.sz (Act.sz (Act.sz (Act.sz (Act.sz (Act.sz (Act.sz (Act.sz (Act.sz (Act.sz (Act.sz (Act.sz hs)))))))))))) hb0 (Act.ev_ne (by decide) (Act.ev_ne (by decide) (Act.ev_ne (by decide) (Act.ev_ne (by decide) (Act.ev_ne (by decide) (Act.ev_ne (by decide) (Act.ev_ne (by decide) (Act.ev_ne (by decide) (Act.ev_ne (by decide) (Act.ev_ne (by decide) (Act.ev_ne (by decide) (Act.ev_eq hs (by decide))))))))))))) (Act.ev_ne (by decide) (Act.ev_ne (by decide) (Act.ev_ne (by decide) (Act.ev_ne (by decide) (Act.ev_ne (by decide) (Act.ev_ne (by decide) (Act.ev_ne (by decide) (Act.ev_ne (by decide) (Act.ev_ne (by decide) (Act.ev_ne (by decide) (Act.ev_eq (Act.sz hs) (by decide)))))))))))) (Act.ev_ne (by decide) (Act.ev_ne (by decide) (Act.ev_ne (by decide) (Act.ev_eq (Act.sz (Act.sz (Act.sz (Act.sz (Act.sz (Act.sz (Act.sz (Act.sz hs)))))))) (by decide))))) (Act.ev_eq (Act.sz (Act.sz (Act.sz (Act.sz (Act.sz (Act.sz (Act.sz (Act.sz (Act.sz (Act.sz (Act.sz hs))))))))))) (by decide)) hi hN hth hcs hc1 OV (by kernel_rfl) (by kernel_rfl) (by kernel_rfl) (by kernel_rfl) ?_
    exact hend
  · refine wp_value_at (d := 96) (v := (.int .i64 p)) rfl (run_load rfl (Act.ev_eq (Act.sz (Act.sz (Act.sz (Act.sz (Act.sz (Act.sz (Act.sz hs))))))) (by decide)) ldA) (hK _ _ ?_)
    clear hK K
    refine any_take (i := 10) (d := 97) (v := (.pointer (some ⟨g, p * 17, none⟩))) at22x10 rfl (by kernel_rfl) (by kernel_rfl) (by kernel_rfl) rfl hQ (fun w => (run_index rfl (Act.ev_ne (by decide) (Act.ev_ne (by decide) (Act.ev_ne (by decide) (Act.ev_eq (Act.sz (Act.sz (Act.sz (Act.sz (Act.sz hs))))) (by decide))))) (Act.ev_eq (Act.sz (Act.sz (Act.sz (Act.sz (Act.sz (Act.sz (Act.sz (Act.sz hs)))))))) (by decide)) (idx_row g N cap p w hp hN))) ?_
    refine any_two (i := 5) (j := 11) (by kernel_rfl) at22x5 rfl at22x11 rfl (fun K hK => ?_) (fun K hK => ?_)
    · refine wp_value_at (d := 92) (v := (.agg ci)) rfl (run_load rfl (Act.ev_ne (by decide) (Act.ev_ne (by decide) (Act.ev_ne (by decide) (Act.ev_ne (by decide) (Act.ev_ne (by decide) (Act.ev_eq (Act.sz (Act.sz (Act.sz (Act.sz hs)))) (by decide))))))) ldI) (hK _ _ ?_)
      clear hK K
      refine any_one (i := 11) (by kernel_rfl) at22x11 rfl (fun K hK => ?_)
      refine wp_value_at (d := 98) (v := (.agg cp)) rfl (run_load rfl (Act.ev_ne (by decide) (Act.ev_eq (Act.sz (Act.sz (Act.sz (Act.sz (Act.sz (Act.sz (Act.sz (Act.sz (Act.sz hs))))))))) (by decide))) ldP) (hK _ _ ?_)
      clear hK K
      refine tail22 g N cap i ci cp cc (Act.sz (Act.sz (Act.sz (Act.sz (Act.sz (Act.sz (Act.sz (Act.sz (Act.sz (Act.sz (Act.sz (Act.sz hs)))))))))))) hb0 (Act.ev_ne (by decide) (Act.ev_ne (by decide) (Act.ev_ne (by decide) (Act.ev_ne (by decide) (Act.ev_ne (by decide) (Act.ev_ne (by decide) (Act.ev_ne (by decide) (Act.ev_ne (by decide) (Act.ev_ne (by decide) (Act.ev_ne (by decide) (Act.ev_ne (by decide) (Act.ev_eq hs (by decide))))))))))))) (Act.ev_ne (by decide) (Act.ev_ne (by decide) (Act.ev_ne (by decide) (Act.ev_ne (by decide) (Act.ev_ne (by decide) (Act.ev_ne (by decide) (Act.ev_ne (by decide) (Act.ev_ne (by decide) (Act.ev_ne (by decide) (Act.ev_ne (by decide) (Act.ev_eq (Act.sz hs) (by decide)))))))))))) (Act.ev_ne (by decide) (Act.ev_eq (Act.sz (Act.sz (Act.sz (Act.sz (Act.sz (Act.sz (Act.sz (Act.sz (Act.sz (Act.sz hs)))))))))) (by decide))) (Act.ev_eq (Act.sz (Act.sz (Act.sz (Act.sz (Act.sz (Act.sz (Act.sz (Act.sz (Act.sz (Act.sz (Act.sz hs))))))))))) (by decide)) hi hN hth hcs hc1 OV (by kernel_rfl) (by kernel_rfl) (by kernel_rfl) (by kernel_rfl) ?_
      rw [Act.put_swap _ (.pointer (some ⟨g, p * 17, none⟩)) (.agg ci) (show (97 : Nat) ≠ 92 by decide)]
      rw [Act.put_swap _ (.int .i64 p) (.agg ci) (show (96 : Nat) ≠ 92 by decide)]
      exact hend
    · refine wp_value_at (d := 98) (v := (.agg cp)) rfl (run_load rfl (Act.ev_eq (Act.sz (Act.sz (Act.sz (Act.sz (Act.sz (Act.sz (Act.sz (Act.sz (Act.sz hs))))))))) (by decide)) ldP) (hK _ _ ?_)
      clear hK K
      refine any_one (i := 5) (by kernel_rfl) at22x5 rfl (fun K hK => ?_)
      refine wp_value_at (d := 92) (v := (.agg ci)) rfl (run_load rfl (Act.ev_ne (by decide) (Act.ev_ne (by decide) (Act.ev_ne (by decide) (Act.ev_ne (by decide) (Act.ev_ne (by decide) (Act.ev_ne (by decide) (Act.ev_eq (Act.sz (Act.sz (Act.sz (Act.sz hs)))) (by decide)))))))) ldI) (hK _ _ ?_)
      clear hK K
      refine tail22 g N cap i ci cp cc (Act.sz (Act.sz (Act.sz (Act.sz (Act.sz (Act.sz (Act.sz (Act.sz (Act.sz (Act.sz (Act.sz (Act.sz hs)))))))))))) hb0 (Act.ev_ne (by decide) (Act.ev_ne (by decide) (Act.ev_ne (by decide) (Act.ev_ne (by decide) (Act.ev_ne (by decide) (Act.ev_ne (by decide) (Act.ev_ne (by decide) (Act.ev_ne (by decide) (Act.ev_ne (by decide) (Act.ev_ne (by decide) (Act.ev_ne (by decide) (Act.ev_eq hs (by decide))))))))))))) (Act.ev_ne (by decide) (Act.ev_ne (by decide) (Act.ev_ne (by decide) (Act.ev_ne (by decide) (Act.ev_ne (by decide) (Act.ev_ne (by decide) (Act.ev_ne (by decide) (Act.ev_ne (by decide) (Act.ev_ne (by decide) (Act.ev_ne (by decide) (Act.ev_eq (Act.sz hs) (by decide)))))))))))) (Act.ev_eq (Act.sz (Act.sz (Act.sz (Act.sz (Act.sz (Act.sz (Act.sz (Act.sz (Act.sz (Act.sz (Act.sz hs))))))))))) (by decide)) (Act.ev_ne (by decide) (Act.ev_eq (Act.sz (Act.sz (Act.sz (Act.sz (Act.sz (Act.sz (Act.sz (Act.sz (Act.sz (Act.sz hs)))))))))) (by decide))) hi hN hth hcs hc1 OV (by kernel_rfl) (by kernel_rfl) (by kernel_rfl) (by kernel_rfl) ?_
      rw [Act.put_swap _ (.agg cp) (.agg ci) (show (98 : Nat) ≠ 92 by decide)]
      rw [Act.put_swap _ (.pointer (some ⟨g, p * 17, none⟩)) (.agg ci) (show (97 : Nat) ≠ 92 by decide)]
      rw [Act.put_swap _ (.int .i64 p) (.agg ci) (show (96 : Nat) ≠ 92 by decide)]
      exact hend
end Go.Proofs.YtjgifjkdgoijmaaGreatDoor

namespace Go.Proofs.YtjgifjkdgoijmaaGreatDoor
open Go.RowKit
set_option linter.unusedVariables false
set_option maxRecDepth 100000

def opsSx0 : Oper := { dst := some 60, op := Op.move (Operand.tmp 0), type := 3, pos := "base.go:337", after := #[], guard := none }
def opsSx1 : Oper := { dst := some 61, op := Op.move (Operand.tmp 2), type := 48, pos := "base.go:337", after := #[], guard := none }
def opsSx2 : Oper := { dst := some 62, op := Op.move (Operand.tmp 11), type := 3, pos := "base.go:337", after := #[], guard := none }
def opsSx3 : Oper := { dst := some 63, op := Op.indexAddr 48 (Operand.tmp 61) (Operand.tmp 62), type := 0, pos := "base.go:337", after := #[{ on := 1, ground := Ground.data }, { on := 2, ground := Ground.data }], guard := none }
def opsSx4 : Oper := { dst := some 64, op := Op.fieldAddr 33 (Operand.tmp 63) 0, type := 0, pos := "base.go:337", after := #[{ on := 3, ground := Ground.data }], guard := none }
def opsSx5 : Oper := { dst := some 65, op := Op.load 3 (Operand.tmp 64), type := 3, pos := "base.go:337", after := #[{ on := 4, ground := Ground.data }], guard := none }
def opsSx6 : Oper := { dst := some 66, op := Op.call { callee := Callee.value (Operand.func 49), args := #[Operand.tmp 60, Operand.tmp 65], argTypes := #[3, 3] }, type := 22, pos := "base.go:337", after := #[{ on := 0, ground := Ground.data }, { on := 5, ground := Ground.data }], guard := none }
def opsSx7 : Oper := { dst := some 67, op := Op.move (Operand.tmp 2), type := 48, pos := "base.go:337", after := #[], guard := none }
def opsSx8 : Oper := { dst := some 68, op := Op.move (Operand.tmp 11), type := 3, pos := "base.go:337", after := #[], guard := none }
def opsSx9 : Oper := { dst := some 69, op := Op.indexAddr 48 (Operand.tmp 67) (Operand.tmp 68), type := 0, pos := "base.go:337", after := #[{ on := 7, ground := Ground.data }, { on := 8, ground := Ground.data }], guard := none }
def opsSx10 : Oper := { dst := some 70, op := Op.fieldAddr 33 (Operand.tmp 69) 1, type := 0, pos := "base.go:337", after := #[{ on := 9, ground := Ground.data }], guard := none }
def opsSx11 : Oper := { dst := some 71, op := Op.load 9 (Operand.tmp 70), type := 9, pos := "base.go:337", after := #[{ on := 10, ground := Ground.data }], guard := none }
def opsSx12 : Oper := { dst := some 72, op := Op.call { callee := Callee.value (Operand.func 48), args := #[Operand.tmp 66, Operand.tmp 71], argTypes := #[22, 9] }, type := 101, pos := "base.go:337", after := #[{ on := 6, ground := Ground.data }, { on := 11, ground := Ground.data }, { on := 6, ground := Ground.chain }], guard := none }
def opsSx13 : Oper := { dst := some 12, op := Op.alloc 101, type := 0, pos := "base.go:337", after := #[], guard := none }
def opsSx14 : Oper := { dst := none, op := Op.store 101 (Operand.tmp 12) (Operand.tmp 72), type := 0, pos := "base.go:337", after := #[{ on := 13, ground := Ground.data }, { on := 12, ground := Ground.data }, { on := 12, ground := Ground.chain }, { on := 0, ground := Ground.phase }, { on := 1, ground := Ground.phase }, { on := 2, ground := Ground.phase }, { on := 3, ground := Ground.phase }, { on := 4, ground := Ground.phase }, { on := 5, ground := Ground.phase }, { on := 6, ground := Ground.phase }, { on := 7, ground := Ground.phase }, { on := 8, ground := Ground.phase }, { on := 9, ground := Ground.phase }, { on := 10, ground := Ground.phase }, { on := 11, ground := Ground.phase }, { on := 12, ground := Ground.phase }, { on := 13, ground := Ground.phase }], guard := none }
def opsS : Array Oper := #[opsSx0, opsSx1, opsSx2, opsSx3, opsSx4, opsSx5, opsSx6, opsSx7, opsSx8, opsSx9, opsSx10, opsSx11, opsSx12, opsSx13, opsSx14]
theorem atopsSx0 : opsS[0]? = some opsSx0 := rfl
theorem atopsSx1 : opsS[1]? = some opsSx1 := rfl
theorem atopsSx2 : opsS[2]? = some opsSx2 := rfl
theorem atopsSx3 : opsS[3]? = some opsSx3 := rfl
theorem atopsSx4 : opsS[4]? = some opsSx4 := rfl
theorem atopsSx5 : opsS[5]? = some opsSx5 := rfl
theorem atopsSx6 : opsS[6]? = some opsSx6 := rfl
theorem atopsSx7 : opsS[7]? = some opsSx7 := rfl
theorem atopsSx8 : opsS[8]? = some opsSx8 := rfl
theorem atopsSx9 : opsS[9]? = some opsSx9 := rfl
theorem atopsSx10 : opsS[10]? = some opsSx10 := rfl
theorem atopsSx11 : opsS[11]? = some opsSx11 := rfl
theorem atopsSx12 : opsS[12]? = some opsSx12 := rfl
theorem atopsSx13 : opsS[13]? = some opsSx13 := rfl
theorem atopsSx14 : opsS[14]? = some opsSx14 := rfl

theorem idx_drop (bb o len cap j : Nat) (w : World) (hj : j < len) (hl : len ≤ 60) : (Instr.indexAt 48 (.slice (some ⟨bb, o, none⟩) len cap) (.int .i64 j)).run Tryz.prog w = .ok (.pointer (some ⟨bb, o + j * 2, none⟩)) w := by
  have h1 : (j : Int) < (len : Int) := by omega
  go_simp
theorem fld_drop0 (bb o : Nat) (w : World) : (Instr.fieldAt 33 (.pointer (some ⟨bb, o, none⟩)) 0).run Tryz.prog w = .ok (.pointer (some ⟨bb, o, none⟩)) w := by
  go_simp
theorem fld_drop1 (bb o : Nat) (w : World) : (Instr.fieldAt 33 (.pointer (some ⟨bb, o, none⟩)) 1).run Tryz.prog w = .ok (.pointer (some ⟨bb, o + 1, none⟩)) w := by
  go_simp
theorem load_str (g b : Nat) (x : ByteArray) (w : World) (h : w.cell? ⟨g, b, none⟩ = some (.string x)) : (Instr.loadAt 9 (.pointer (some ⟨g, b, none⟩))).run Tryz.prog w = .ok (.string x) w := by
  go_simp
theorem run_allocS (r : Operand → Value) (w : World) : (execOp r opsSx13).run Tryz.prog w = .ok (.value (.pointer (some ⟨w.heap.size, 0, none⟩))) (w.alloc (.cells (linC (fun _ => false) ⟨#[]⟩) 101)) := by
  unfold execOp opsSx13 linC
  go_simp

/-- The store, once all else has come up. -/
theorem storeS {Q : Exit → Act → World → Prop} {a : Act} {w W : World} {listed : Array Bool} {x : Nat} {cc : Array Value} (h12 : a.eval (.tmp 12) = .pointer (some ⟨x, 0, none⟩)) (h72 : a.eval (.tmp 72) = .agg cc) (hcs : cc.size = 17) (hone : cc.all (·.oneCell') = true) (hb : Below w.heap.size w W) (hx : w.heap.size ≤ x) (hL : LinF W x 0 (fun _ => false) ⟨#[]⟩)
    (r14 : Region.ready .any opsS listed = [14]) (r15 : Region.ready .any opsS (listed.setIfInBounds 14 true) = [])
    (hend : ∀ W, Below w.heap.size w W → x < W.heap.size → W.rangeAt x 0 cc.toList → Q .normal a W) : wpAnyH Tryz.prog .any opsS Q (fun W => Below w.heap.size w W) 1 listed a W := by
  have hbW : Below w.heap.size w (W.setCells x 0 cc.toList) := sets_below hx _ _ _ hb
  have hrg : (W.setCells x 0 cc.toList).rangeAt x 0 cc.toList := World.rangeAt_setCells_same W x 0 _ (by rw [Array.length_toList, hcs]; exact hL.there)
  have hlt : x < (W.setCells x 0 cc.toList).heap.size := cell_lt (by
    have h9 := hrg 0 (cc.toList[0]'(by rw [Array.length_toList, hcs]; decide)) (List.getElem?_eq_getElem _)
    exact h9)
  refine anyH_one r14 atopsSx14 rfl (fun K hK => ?_)
  refine wp_store_at 101 _ _ rfl rfl x 0 cc h12 h72 (by rw [hcs]; exact hL.there) (by rw [hcs]; exact Tryz.sizeLine) hone (hK _ _ hbW ?_)
  exact wpAnyH_done r15 (hend _ hbW hlt hrg) _

set_option maxHeartbeats 1000000 in
theorem regionS {Q : Exit → Act → World → Prop} {a : Act} {w : World} (bb o len cap j k : Nat) (sj : Nat) (dj : ByteArray) (cc : Array Value) (R : World → Value → Prop) (hs : a.tmps.size = 137)
    (h0 : a.eval (.tmp 0) = .int .i64 k) (h2 : a.eval (.tmp 2) = .slice (some ⟨bb, o, none⟩) len cap) (h11 : a.eval (.tmp 11) = .int .i64 j)
    (hj : j < len) (hl : len ≤ 60) (hc0 : w.cell? ⟨bb, o + j * 2, none⟩ = some (.int .i64 sj)) (hc1 : w.cell? ⟨bb, o + j * 2 + 1, none⟩ = some (.string dj)) (hcs : cc.size = 17) (hone : cc.all (·.oneCell') = true)
    (hR : ∀ W W' v, R W v → Below W.heap.size W W' → R W' v)
    (RS : ∀ W, Calls Tryz.prog 49 #[.int .i64 k, .int .i64 sj] W fun e w' => ∃ v, e = .returned v ∧ R w' v ∧ Below W.heap.size W w')
    (RO : ∀ W v, R W v → Calls Tryz.prog 48 #[v, .string dj] W fun e w' => e = .returned (.agg cc) ∧ Below W.heap.size W w')
    (hQ : ∀ c a (d : Tmp) v w, Q (.panic c) (Act.put a (some d) v) w → Q (.panic c) a w)
    (hend : ∀ W vs x, Below w.heap.size w W → w.heap.size ≤ x → x < W.heap.size → W.rangeAt x 0 cc.toList → Q .normal ((((((((((((((a.put (some 60) (.int .i64 k)).put (some 61) (.slice (some ⟨bb, o, none⟩) len cap)).put (some 62) (.int .i64 j)).put (some 63) (.pointer (some ⟨bb, o + j * 2, none⟩))).put (some 64) (.pointer (some ⟨bb, o + j * 2, none⟩))).put (some 67) (.slice (some ⟨bb, o, none⟩) len cap)).put (some 68) (.int .i64 j)).put (some 69) (.pointer (some ⟨bb, o + j * 2, none⟩))).put (some 70) (.pointer (some ⟨bb, o + j * 2 + 1, none⟩))).put (some 65) (.int .i64 sj)).put (some 71) (.string dj)).put (some 66) vs).put (some 72) (.agg cc)).put (some 12) (.pointer (some ⟨x, 0, none⟩))) W) : (Code.region 15 opsS true).wp Tryz.prog Q a w := by
  refine wp_region_held (S := fun W => Below w.heap.size w W) (by kernel_rfl) ?_
  show wpAnyH _ _ _ _ _ 15 (Array.replicate 15 false) a w.drew
  have hb0 : Below w.heap.size w w.drew := (Below.refl _ _).drew
  generalize w.drew = w0 at *
  refine anyH_take (i := 0) (d := 60) (v := (.int .i64 k)) atopsSx0 rfl (by kernel_rfl) (by kernel_rfl) (by kernel_rfl) rfl hQ hb0 (fun W hW => (run_move rfl h0 W)) ?_
  refine anyH_take (i := 1) (d := 61) (v := (.slice (some ⟨bb, o, none⟩) len cap)) atopsSx1 rfl (by kernel_rfl) (by kernel_rfl) (by kernel_rfl) rfl hQ hb0 (fun W hW => (run_move rfl (Act.ev_ne (by decide) h2) W)) ?_
  refine anyH_take (i := 2) (d := 62) (v := (.int .i64 j)) atopsSx2 rfl (by kernel_rfl) (by kernel_rfl) (by kernel_rfl) rfl hQ hb0 (fun W hW => (run_move rfl (Act.ev_ne (by decide) (Act.ev_ne (by decide) h11)) W)) ?_
  refine anyH_take (i := 3) (d := 63) (v := (.pointer (some ⟨bb, o + j * 2, none⟩))) atopsSx3 rfl (by kernel_rfl) (by kernel_rfl) (by kernel_rfl) rfl hQ hb0 (fun W hW => (run_index rfl (Act.ev_ne (by decide) (Act.ev_eq (Act.sz hs) (by decide))) (Act.ev_eq (Act.sz (Act.sz hs)) (by decide)) (idx_drop bb o len cap j W hj hl))) ?_
  refine anyH_take (i := 4) (d := 64) (v := (.pointer (some ⟨bb, o + j * 2, none⟩))) atopsSx4 rfl (by kernel_rfl) (by kernel_rfl) (by kernel_rfl) rfl hQ hb0 (fun W hW => (run_field rfl (Act.ev_eq (Act.sz (Act.sz (Act.sz hs))) (by decide)) (fld_drop0 bb (o + j * 2) W))) ?_
  refine anyH_take (i := 7) (d := 67) (v := (.slice (some ⟨bb, o, none⟩) len cap)) atopsSx7 rfl (by kernel_rfl) (by kernel_rfl) (by kernel_rfl) rfl hQ hb0 (fun W hW => (run_move rfl (Act.ev_ne (by decide) (Act.ev_ne (by decide) (Act.ev_ne (by decide) (Act.ev_ne (by decide) (Act.ev_ne (by decide) h2))))) W)) ?_
  refine anyH_take (i := 8) (d := 68) (v := (.int .i64 j)) atopsSx8 rfl (by kernel_rfl) (by kernel_rfl) (by kernel_rfl) rfl hQ hb0 (fun W hW => (run_move rfl (Act.ev_ne (by decide) (Act.ev_ne (by decide) (Act.ev_ne (by decide) (Act.ev_ne (by decide) (Act.ev_ne (by decide) (Act.ev_ne (by decide) h11)))))) W)) ?_
  refine anyH_take (i := 9) (d := 69) (v := (.pointer (some ⟨bb, o + j * 2, none⟩))) atopsSx9 rfl (by kernel_rfl) (by kernel_rfl) (by kernel_rfl) rfl hQ hb0 (fun W hW => (run_index rfl (Act.ev_ne (by decide) (Act.ev_eq (Act.sz (Act.sz (Act.sz (Act.sz (Act.sz hs))))) (by decide))) (Act.ev_eq (Act.sz (Act.sz (Act.sz (Act.sz (Act.sz (Act.sz hs)))))) (by decide)) (idx_drop bb o len cap j W hj hl))) ?_
  refine anyH_take (i := 10) (d := 70) (v := (.pointer (some ⟨bb, o + j * 2 + 1, none⟩))) atopsSx10 rfl (by kernel_rfl) (by kernel_rfl) (by kernel_rfl) rfl hQ hb0 (fun W hW => (run_field rfl (Act.ev_eq (Act.sz (Act.sz (Act.sz (Act.sz (Act.sz (Act.sz (Act.sz hs))))))) (by decide)) (fld_drop1 bb (o + j * 2) W))) ?_
  refine anyH_take (i := 5) (d := 65) (v := (.int .i64 sj)) atopsSx5 rfl (by kernel_rfl) (by kernel_rfl) (by kernel_rfl) rfl hQ hb0 (fun W hW => (run_load rfl (Act.ev_ne (by decide) (Act.ev_ne (by decide) (Act.ev_ne (by decide) (Act.ev_ne (by decide) (Act.ev_eq (Act.sz (Act.sz (Act.sz (Act.sz hs)))) (by decide)))))) (load_int bb (o + j * 2) sj W (cell_below hW hc0)))) ?_
  refine anyH_take (i := 11) (d := 71) (v := (.string dj)) atopsSx11 rfl (by kernel_rfl) (by kernel_rfl) (by kernel_rfl) rfl hQ hb0 (fun W hW => (run_load rfl (Act.ev_ne (by decide) (Act.ev_eq (Act.sz (Act.sz (Act.sz (Act.sz (Act.sz (Act.sz (Act.sz (Act.sz hs)))))))) (by decide))) (load_str bb (o + j * 2 + 1) dj W (cell_below hW hc1)))) ?_
  refine anyH_two (i := 6) (j := 13) (by kernel_rfl) atopsSx6 rfl atopsSx13 rfl (fun K hK => ?_) (fun K hK => ?_)
  · refine wp_call_at (R := fun v w' => R w' v ∧ Below w0.heap.size w0 w') #[.int .i64 k, .int .i64 sj] (d := 66) rfl rfl (map_two (Act.ev_ne (by decide) (Act.ev_ne (by decide) (Act.ev_ne (by decide) (Act.ev_ne (by decide) (Act.ev_ne (by decide) (Act.ev_ne (by decide) (Act.ev_ne (by decide) (Act.ev_ne (by decide) (Act.ev_ne (by decide) (Act.ev_ne (by decide) (Act.ev_eq hs (by decide)))))))))))) (Act.ev_ne (by decide) (Act.ev_eq (Act.sz (Act.sz (Act.sz (Act.sz (Act.sz (Act.sz (Act.sz (Act.sz (Act.sz hs))))))))) (by decide)))) (by go_simp) ((RS w0).mono fun e w' h => by obtain ⟨v, he, hr, hb⟩ := h; exact ⟨v, he, hr, hb⟩) (fun vs w1 hv => ?_)
    obtain ⟨hr1, hb1⟩ := hv
    have hbw1 := below_two hb0 hb1
    refine hK _ _ hbw1 ?_
    clear hK K
    refine anyH_two (i := 12) (j := 13) (by kernel_rfl) atopsSx12 rfl atopsSx13 rfl (fun K hK => ?_) (fun K hK => ?_)
    · refine wp_call_at (R := fun v w' => v = .agg cc ∧ Below w1.heap.size w1 w') #[vs, .string dj] (d := 72) rfl rfl (map_two (Act.ev_eq (Act.sz (Act.sz (Act.sz (Act.sz (Act.sz (Act.sz (Act.sz (Act.sz (Act.sz (Act.sz (Act.sz hs))))))))))) (by decide)) (Act.ev_ne (by decide) (Act.ev_eq (Act.sz (Act.sz (Act.sz (Act.sz (Act.sz (Act.sz (Act.sz (Act.sz (Act.sz (Act.sz hs)))))))))) (by decide)))) (by go_simp) ((RO w1 vs hr1).mono fun e w' h => ⟨_, h.1, rfl, h.2⟩) (fun v w2 hv => ?_)
      obtain ⟨rfl, hb2⟩ := hv
      have hbw2 := below_two hbw1 hb2
      refine hK _ _ hbw2 ?_
      clear hK K
      refine anyH_one (i := 13) (by kernel_rfl) atopsSx13 rfl (fun K hK => ?_)
      have hbw3 := below_two hbw2 ((Below.refl w2.heap.size w2).alloc (Nat.le_refl _) (.cells (linC (fun _ => false) ⟨#[]⟩) 101))
      refine wp_value_to (d := 12) rfl (run_allocS _ w2) (hK _ _ hbw3 ?_)
      clear hK K
      exact storeS (Act.ev_eq (Act.sz (Act.sz (Act.sz (Act.sz (Act.sz (Act.sz (Act.sz (Act.sz (Act.sz (Act.sz (Act.sz (Act.sz (Act.sz hs))))))))))))) (by decide)) (Act.ev_ne (by decide) (Act.ev_eq (Act.sz (Act.sz (Act.sz (Act.sz (Act.sz (Act.sz (Act.sz (Act.sz (Act.sz (Act.sz (Act.sz (Act.sz hs)))))))))))) (by decide))) hcs hone hbw3 hbw2.size (linF_new w2 _ _ _) (by kernel_rfl) (by kernel_rfl) (fun W h1 h2 h3 => hend W vs w2.heap.size h1 hbw2.size h2 h3)
    · have hba := (Below.refl w1.heap.size w1).alloc (Nat.le_refl _) (.cells (linC (fun _ => false) ⟨#[]⟩) 101)
      have hL := linF_new w1 (fun _ => false) ⟨#[]⟩ 101
      have hbw2 := below_two hbw1 hba
      refine wp_value_to (d := 12) rfl (run_allocS _ w1) (hK _ _ hbw2 ?_)
      clear hK K
      have hr2 := hR _ _ _ hr1 hba
      have hx := hbw1.size
      generalize w1.heap.size = x at *
      generalize w1.alloc (.cells (linC (fun _ => false) ⟨#[]⟩) 101) = w2 at *
      refine anyH_one (i := 12) (by kernel_rfl) atopsSx12 rfl (fun K hK => ?_)
      refine wp_call_at (R := fun v w' => v = .agg cc ∧ Below w2.heap.size w2 w') #[vs, .string dj] (d := 72) rfl rfl (map_two (Act.ev_ne (by decide) (Act.ev_eq (Act.sz (Act.sz (Act.sz (Act.sz (Act.sz (Act.sz (Act.sz (Act.sz (Act.sz (Act.sz (Act.sz hs))))))))))) (by decide))) (Act.ev_ne (by decide) (Act.ev_ne (by decide) (Act.ev_eq (Act.sz (Act.sz (Act.sz (Act.sz (Act.sz (Act.sz (Act.sz (Act.sz (Act.sz (Act.sz hs)))))))))) (by decide))))) (by go_simp) ((RO w2 vs hr2).mono fun e w' h => ⟨_, h.1, rfl, h.2⟩) (fun v w3 hv => ?_)
      obtain ⟨rfl, hb3⟩ := hv
      have hbw3 := below_two hbw2 hb3
      refine hK _ _ hbw3 ?_
      clear hK K
      rw [Act.put_swap _ (.pointer (some ⟨x, 0, none⟩)) (.agg cc) (show (12 : Nat) ≠ 72 by decide)]
      exact storeS (Act.ev_eq (Act.sz (Act.sz (Act.sz (Act.sz (Act.sz (Act.sz (Act.sz (Act.sz (Act.sz (Act.sz (Act.sz (Act.sz (Act.sz hs))))))))))))) (by decide)) (Act.ev_ne (by decide) (Act.ev_eq (Act.sz (Act.sz (Act.sz (Act.sz (Act.sz (Act.sz (Act.sz (Act.sz (Act.sz (Act.sz (Act.sz (Act.sz hs)))))))))))) (by decide))) hcs hone hbw3 hx (hL.below hb3) (by kernel_rfl) (by kernel_rfl) (fun W h1 h2 h3 => hend W vs x h1 hx h2 h3)
  · have hba := (Below.refl w0.heap.size w0).alloc (Nat.le_refl _) (.cells (linC (fun _ => false) ⟨#[]⟩) 101)
    have hL := linF_new w0 (fun _ => false) ⟨#[]⟩ 101
    have hbw1 := below_two hb0 hba
    refine wp_value_to (d := 12) rfl (run_allocS _ w0) (hK _ _ hbw1 ?_)
    clear hK K
    have hx := hb0.size
    generalize w0.heap.size = x at *
    generalize w0.alloc (.cells (linC (fun _ => false) ⟨#[]⟩) 101) = w1 at *
    refine anyH_one (i := 6) (by kernel_rfl) atopsSx6 rfl (fun K hK => ?_)
    refine wp_call_at (R := fun v w' => R w' v ∧ Below w1.heap.size w1 w') #[.int .i64 k, .int .i64 sj] (d := 66) rfl rfl (map_two (Act.ev_ne (by decide) (Act.ev_ne (by decide) (Act.ev_ne (by decide) (Act.ev_ne (by decide) (Act.ev_ne (by decide) (Act.ev_ne (by decide) (Act.ev_ne (by decide) (Act.ev_ne (by decide) (Act.ev_ne (by decide) (Act.ev_ne (by decide) (Act.ev_ne (by decide) (Act.ev_eq hs (by decide))))))))))))) (Act.ev_ne (by decide) (Act.ev_ne (by decide) (Act.ev_eq (Act.sz (Act.sz (Act.sz (Act.sz (Act.sz (Act.sz (Act.sz (Act.sz (Act.sz hs))))))))) (by decide))))) (by go_simp) ((RS w1).mono fun e w' h => by obtain ⟨v, he, hr, hb⟩ := h; exact ⟨v, he, hr, hb⟩) (fun vs w2 hv => ?_)
    obtain ⟨hr2, hb2⟩ := hv
    have hbw2 := below_two hbw1 hb2
    refine hK _ _ hbw2 ?_
    clear hK K
    refine anyH_one (i := 12) (by kernel_rfl) atopsSx12 rfl (fun K hK => ?_)
    refine wp_call_at (R := fun v w' => v = .agg cc ∧ Below w2.heap.size w2 w') #[vs, .string dj] (d := 72) rfl rfl (map_two (Act.ev_eq (Act.sz (Act.sz (Act.sz (Act.sz (Act.sz (Act.sz (Act.sz (Act.sz (Act.sz (Act.sz (Act.sz (Act.sz hs)))))))))))) (by decide)) (Act.ev_ne (by decide) (Act.ev_ne (by decide) (Act.ev_eq (Act.sz (Act.sz (Act.sz (Act.sz (Act.sz (Act.sz (Act.sz (Act.sz (Act.sz (Act.sz hs)))))))))) (by decide))))) (by go_simp) ((RO w2 vs hr2).mono fun e w' h => ⟨_, h.1, rfl, h.2⟩) (fun v w3 hv => ?_)
    obtain ⟨rfl, hb3⟩ := hv
    have hbw3 := below_two hbw2 hb3
    refine hK _ _ hbw3 ?_
    clear hK K
    rw [Act.put_swap _ (.pointer (some ⟨x, 0, none⟩)) vs (show (12 : Nat) ≠ 66 by decide), Act.put_swap _ (.pointer (some ⟨x, 0, none⟩)) (.agg cc) (show (12 : Nat) ≠ 72 by decide)]
    exact storeS (Act.ev_eq (Act.sz (Act.sz (Act.sz (Act.sz (Act.sz (Act.sz (Act.sz (Act.sz (Act.sz (Act.sz (Act.sz (Act.sz (Act.sz hs))))))))))))) (by decide)) (Act.ev_ne (by decide) (Act.ev_eq (Act.sz (Act.sz (Act.sz (Act.sz (Act.sz (Act.sz (Act.sz (Act.sz (Act.sz (Act.sz (Act.sz (Act.sz hs)))))))))))) (by decide))) hcs hone hbw3 hx ((hL.below hb2).below hb3) (by kernel_rfl) (by kernel_rfl) (fun W h1 h2 h3 => hend W vs x h1 hx h2 h3)
end Go.Proofs.YtjgifjkdgoijmaaGreatDoor

namespace Go.Proofs.YtjgifjkdgoijmaaGreatDoor
open Go.RowKit
set_option linter.unusedVariables false
set_option maxRecDepth 100000

theorem zero_any (n : Nat) (w : World) (hn : n ≤ 1000) :
    Calls Tryz.prog 86 #[.int .i64 n] w fun e w' => e = .returned (.string (zerosB n)) ∧ w = w' := by
  go_enter Tryz.func86, Tryz.ntmps86
  go_wp2
  go_loop [3, 4] (fun s i => ∃ j : Nat, j ≤ n ∧ i = .int .i64 j ∧ s = .string (zerosB j)) (fun _ i => n - (intOf i).toNat)
  case atStart => exact ⟨0, Nat.zero_le _, rfl, rfl⟩
  case round =>
    obtain ⟨j, hj, rfl, rfl⟩ := hrel
    have hz := zerosB_size j
    have HS := hide (zerosB_succ j)
    have HZ := hide hz
    have hz2 : (zerosB j).size ≤ 1000 := by omega
    clear hz
    by_cases hlt : j < n
    · go_wp2
      go_round
      case rel => exact ⟨j + 1, by omega, by go_num, by rw [HS.out]⟩
      case measure => simp [intOf]; omega
    · obtain rfl : j = n := by omega
      go_wp2
      go_ret
      exact ⟨rfl, rfl⟩
end Go.Proofs.YtjgifjkdgoijmaaGreatDoor
