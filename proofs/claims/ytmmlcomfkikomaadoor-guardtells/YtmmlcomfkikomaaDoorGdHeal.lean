/-
  Our own contract of guard.Heal over this seat's translation. Lemmas for the laws above; no statement is proved here.
-/
import Derived.Test.YtmmlcomfkikomaaDoorGdHealN
import Derived.Test.YtmmlcomfkikomaaDoorGdCnt
namespace Go.Proofs.YtmmlcomfkikomaaDoor
open Go.RowKit Go.Shelf
set_option linter.unusedVariables false
set_option maxRecDepth 100000
attribute [local go_sem] Oper.semAt_some

set_option maxHeartbeats 1000000 in
theorem heal_err (v : Value) (a : Option Addr) (len cap m lcap : Nat) (u : Option Addr) (each : Int) (w : World) (x : Int) (hv : v = .slice a len cap)
    (hC : ∀ w1, Below w.heap.size w w1 → Calls Tryd.prog 22 #[v, .slice u m lcap, .int .i64 each] w1 fun e w' => e = .returned (.tuple #[.int .i64 0, .iface 42 (.int .i64 x)]) ∧ Below w1.heap.size w1 w') :
    Calls Tryd.prog 12 #[v, .slice u m lcap, .int .i64 each] w fun e w' => e = .returned (.tuple #[.slice none 0 0, .iface 42 (.int .i64 x)]) ∧ Below w.heap.size w w' := by
  subst hv
  obtain ⟨hN, hb0, hsz⟩ := healB_new w (.slice a len cap) (.slice u m lcap)
  have K := hide (hC _ hb0)
  clear hC
  refine (callsIn_wide (n := 10)).1 (callsIn_of_wp_marks Tryd.func12 rfl trivial ((wpIn_wide (n := 10)).2 ?_))
  simp only [Tryd.ntmps12, List.size_toArray, List.length_cons, List.length_nil, Nat.reduceAdd, Nat.reduceSub, Array.replicate_succ, Array.replicate_zero, List.push_toArray, List.append_toArray, List.nil_append, List.cons_append]
  go_wp2_with fail
  refine (K.out).mono ?_
  rintro e w1 ⟨rfl, hb⟩
  obtain ⟨hl, hk, h1, h2⟩ := hN.below hb
  obtain ⟨c1, c2, c3, c4⟩ := two_cells h1 h2 (by omega) (.slice none 0 0) (.iface 42 (.int .i64 x))
  have k1 := h1.cell
  have k2 := h1.frozen
  go_wp2
  refine ⟨.tuple #[.slice none 0 0, .iface 42 (.int .i64 x)], by simp [results, Tryd.results12, go_sem, c1, c2], rfl, ?_⟩
  exact ((hb0.trans (hb.mono hb0.size)).setCell (p := ⟨w.heap.size + 2, 0, none⟩) (by simp) _).setCell (p := ⟨w.heap.size + 3, 0, none⟩) (by simp) _

/-- A store into a row leaves a box of another type as it lay. -/
theorem boxed_row {W : World} {B g : Nat} {t e : TypeId} {v : Value} {base size n cap : Nat} {xs : List Value} (h : Boxed W B t v) (hte : t ≠ e) (hrow : W.ownsRow base e size (.slice (some ⟨g, 0, none⟩) n cap) n xs) (p : Nat) (u : Value) : Boxed (W.setCell ⟨g, p, none⟩ u) B t v :=
  (Below.heap_setCell W ⟨g, p, none⟩ u B (fun e => h.not_row hte hrow (by rw [e]; rfl))).trans h
/-- What Heal answers where the number of blocks is right. -/
def HealP (g : Nat → ByteArray) (lk : Nat → Bool) (n each : Nat) (w : World) (e : Ending) (w' : World) : Prop :=
  (∃ v, e = .returned (.tuple #[v, .nilIface]) ∧ (∀ q, q < gN n each → hFlt g lk n each q = 0) ∧ w'.ownsRow w.heap.size 9 1 v n (strV (healF g lk n each (gN n each)) n) ∧ Below w.heap.size w w') ∨
  ∃ q, q < gN n each ∧ hFlt g lk n each q ≠ 0 ∧ (∀ p, p < q → hFlt g lk n each p = 0) ∧ e = .returned (.tuple #[.slice none 0 0, .iface 42 (.int .i64 (hFlt g lk n each q : Nat))]) ∧ Below w.heap.size w w'

set_option maxHeartbeats 4000000 in
theorem heal_ok (b o len cap lb lo lcap n each : Nat) (g : Nat → ByteArray) (lk : Nat → Bool) (w : World) (hB : Blks w b o len g) (hcap : len ≤ cap) (hcm : cap ≤ maxLen)
    (hlk : ∀ i, i < len → w.cell? ⟨lb, lo + i, none⟩ = some (.bool (lk i))) (he : 1 ≤ each) (he2 : each ≤ 16) (hn : n < len) (hs : n + gN n each = len) :
    Calls Tryd.prog 12 #[.slice (some ⟨b, o, none⟩) len cap, .slice (some ⟨lb, lo, none⟩) len lcap, .int .i64 each] w (HealP g lk n each w) := by
  obtain ⟨hN, hb0, hsz⟩ := healB_new w (.slice (some ⟨b, o, none⟩) len cap) (.slice (some ⟨lb, lo, none⟩) len lcap)
  have hlen := hB.most
  have hl0 := hB.pos
  have hn0 : 0 < n := by
    rcases Nat.eq_zero_or_pos n with e | e
    · have := gN_le n each he; omega
    · exact e
  have hn16 : n ≤ 16 := by omega
  have HB := hide hB
  have HL := hide hlk
  have HS := hide hs
  unfold maxLen at hcm
  clear hB hlk hs
  have K : Hid (Calls Tryd.prog 22 #[.slice (some ⟨b, o, none⟩) len cap, .slice (some ⟨lb, lo, none⟩) len lcap, .int .i64 each] (healW w (.slice (some ⟨b, o, none⟩) len cap) (.slice (some ⟨lb, lo, none⟩) len lcap)) fun e w' => e = .returned (.tuple #[.int .i64 n, .nilIface]) ∧ Below (healW w (.slice (some ⟨b, o, none⟩) len cap) (.slice (some ⟨lb, lo, none⟩) len lcap)).heap.size (healW w (.slice (some ⟨b, o, none⟩) len cap) (.slice (some ⟨lb, lo, none⟩) len lcap)) w') :=
    (counted_any b o len cap (some ⟨lb, lo, none⟩) lcap each g _ (HB.out.below hb0) he he2).mono (by
      rintro e w' ⟨hb, ⟨m, hm1, hm2, rfl⟩ | ⟨hno, _⟩⟩
      · have : m = n := guarded_inj (each := each) (by rw [hm2, HS.out])
        subst this
        exact ⟨rfl, hb⟩
      · exact absurd HS.out (hno n hn))
  have KR := hide (fun W => groups_ok n each W)
  refine (callsIn_wide (n := 10)).1 (callsIn_of_wp_marks Tryd.func12 rfl trivial ((wpIn_wide (n := 10)).2 ?_))
  simp only [Tryd.ntmps12, List.size_toArray, List.length_cons, List.length_nil, Nat.reduceAdd, Nat.reduceSub, Array.replicate_succ, Array.replicate_zero, List.push_toArray, List.append_toArray, List.nil_append, List.cons_append]
  go_wp2_with fail
  refine (K.out).mono ?_
  rintro e w1 ⟨rfl, hb⟩
  have HA := hide (hN.below hb)
  have HB1 := hide (hb0.trans (hb.mono hb0.size))
  have hs1 : w.heap.size + 4 ≤ w1.heap.size := by rw [← hsz]; exact hb.size
  clear hb hN hb0 hsz
  have k3 := HA.out.l.cell
  have KC := hide (cloned_ok b o n cap g w1 hn0 hn16 (fun i hi => (HB.out.below HB1.out).cells i (by omega)) (fun i hi => by rw [HB.out.same i (by omega)]; exact HB.out.eight))
  go_wp2_with fail
  refine (KC.out).mono ?_
  rintro e w2 ⟨u, rfl, hrow, hb2⟩
  obtain ⟨gu, cu, rfl⟩ := ownsRow_pos hrow hn0
  have HA2 := hide (HA.out.below hb2)
  have HB2 := hide (below_two HB1.out hb2)
  have HR2 := hide hrow
  have hs2 : w1.heap.size ≤ w2.heap.size := hb2.size
  clear hb2 hrow
  go_wp2_with fail
  refine (KR.out _).mono ?_
  rintro e w3 ⟨rfl, hw3⟩
  obtain ⟨X, hX⟩ : ∃ X, X = w2.alloc (.cells #[.slice (some ⟨gu, 0, none⟩) n cu] 22) := ⟨_, rfl⟩
  rw [← hX] at hw3 ⊢
  have hxs : X.heap.size = w2.heap.size + 1 := by rw [hX]; simp
  have b1 := Boxed.new X 3 (.int .i64 n)
  have b2 := Boxed.new (X.alloc (.cells #[.int .i64 n] 3)) 3 (.int .i64 each)
  rw [World.size_alloc] at b2
  have hx3 : Below X.heap.size X w3 := by rw [hw3]; exact ((Below.refl _ X).alloc (Nat.le_refl _) _).alloc (by simp) _
  have hit : ItB w3 X.heap.size n each := by rw [hw3]; exact ⟨b1.alloc _, b2⟩
  have hs3 : X.heap.size + 2 ≤ w3.heap.size := by rw [hw3]; simp
  have hx2 : Below w2.heap.size w2 X := by rw [hX]; exact (Below.refl _ w2).alloc (Nat.le_refl _) _
  have hbx : Boxed X w2.heap.size 22 (.slice (some ⟨gu, 0, none⟩) n cu) := by rw [hX]; exact Boxed.new _ _ _
  have hxs2 : w2.heap.size < X.heap.size := by omega
  clear hX hw3 b1 b2 hxs
  have HIT := hide hit
  have HA3 := hide ((HA2.out.below hx2).below hx3)
  have HB3 := hide (below_two (below_two HB2.out hx2) hx3)
  have HO3 := hide (Boxed.below hbx hx3)
  have HR3 := hide (own_mono (own_under' (own_under' HR2.out hx2) hx3) (by omega : w.heap.size ≤ w1.heap.size))
  clear hx2 hx3 hbx hit
  go_wp2_with fail
  refine range_two (gf := 28) (lb := #[.pointer (some ⟨X.heap.size, 0, none⟩), .pointer (some ⟨X.heap.size + 1, 0, none⟩)]) rfl (enters_of Tryd.func28 (by kernel_rfl) rfl)
    (groups_iter X.heap.size n each w3 hn16 he he2 (by omega) HIT.out.n.cell HIT.out.e.cell) (by omega) (HealI w g lk n each w.heap.size w2.heap.size X.heap.size (.slice (some ⟨b, o, none⟩) len cap) (.slice (some ⟨lb, lo, none⟩) len lcap)) (fun _ => HealX w g lk n each w.heap.size)
    (HealI.own (by omega)) (fun _ => HealX.own (by omega)) (GdI_own _ n each)
    ⟨HA3.out, ⟨_, HO3.out, by rw [strV_congr (g := g) (fun i hi => healF_zero g lk n each i)]; exact HR3.out, trivial⟩, HB3.out, HIT.out, fun p hp => absurd hp (Nat.not_lt_zero _)⟩
    (fun tm x y => (((tm.setIfInBounds 33 x).setIfInBounds 34 y).setIfInBounds 11 x).setIfInBounds 12 y) ?assign ?body ?done ?stop
  case assign =>
    intro l i x y W KK hgd hK
    gi_wp2
    exact hK
  case stop =>
    intro D i W hD hi hX hK
    obtain ⟨r1, r2, hbel, hbad, hgood⟩ := hX
    refine ⟨by simp, .inl ⟨_, _, rfl, run_takeDeferred hK, ?_⟩⟩
    have d1 := cell_kept r1.cell (grownBy_putObj' _ D (.deferred none)) (fun r e => by cases e; exact ⟨_, hK, rfl⟩)
    have d2 := cell_kept r2.cell (grownBy_putObj' _ D (.deferred none)) (fun r e => by cases e; exact ⟨_, hK, rfl⟩)
    refine ⟨.tuple #[.slice none 0 0, .iface 42 (.int .i64 (hFlt g lk n each i : Nat))], by simp [results, Tryd.results12, go_sem, d1, d2], Or.inr ⟨i, hi, hbad, hgood, rfl, ?_⟩⟩
    exact hbel.trans (belowK_b (w := w) (Nat.le_refl _) _ D _ _ (by omega) hK rfl rfl)
  case done =>
    intro D W hD hI hK
    obtain ⟨hbox, ⟨u, hbo, hru, _⟩, hbel, hit, hgood⟩ := hI
    obtain ⟨gq, cq, rfl⟩ := ownsRow_pos hru (by omega)
    obtain ⟨c1, c2, c3, c4⟩ := two_cells hbox.r1 hbox.r2 (by omega) (.slice (some ⟨gq, 0, none⟩) n cq) .nilIface
    have k1 := hbox.r1.cell
    have k2 := hbox.r1.frozen
    have k4 := hbo.cell
    have HBEL := hide hbel
    have HRU := hide hru
    have HD := hide hD
    have HK := hide hK
    have HGD := hide hgood
    have HR12 := hide (show Boxed W (w.heap.size + 2) _ _ ∧ Boxed W (w.heap.size + 3) _ _ from ⟨hbox.r1, hbox.r2⟩)
    clear hbox hbo hru hbel hit hD hK hgood
    go_wp2
    have hK2 : ((W.setCell ⟨w.heap.size + 2, 0, none⟩ (.slice (some ⟨gq, 0, none⟩) n cq)).setCell ⟨w.heap.size + 3, 0, none⟩ .nilIface).heap[D]? = some (.deferred (some [])) := (KeepsOthers.setCell _ _ _).same D _ ((KeepsOthers.setCell _ _ _).same D _ HK.out rfl) rfl
    refine ⟨by simp, .inl ⟨_, _, rfl, run_takeDeferred hK2, ?_⟩⟩
    have d1 := cell_kept c1 (grownBy_putObj' _ D (.deferred none)) (fun r e => by cases e; exact ⟨_, hK2, rfl⟩)
    have d2 := cell_kept c2 (grownBy_putObj' _ D (.deferred none)) (fun r e => by cases e; exact ⟨_, hK2, rfl⟩)
    refine ⟨.tuple #[.slice (some ⟨gq, 0, none⟩) n cq, .nilIface], by simp [results, Tryd.results12, go_sem, d1, d2], Or.inl ⟨_, rfl, HGD.out, ?_, ?_⟩⟩
    · refine ownsRow_putObj ?_ _ hK2 rfl
      exact own_past2 HRU.out HR12.out.1 HR12.out.2 (by decide) (by decide) (by omega) _ _
    · exact ((HBEL.out.setCell (p := ⟨w.heap.size + 2, 0, none⟩) (by simp) _).setCell (p := ⟨w.heap.size + 3, 0, none⟩) (by simp) _).trans (belowK_b (w := w) (Nat.le_refl _) _ D _ _ (by have := HD.out; omega) hK2 rfl rfl)
  case body =>
    intro l i x y W hi hI hgd
    simp only [List.setIfInBounds_toArray, List.set_cons_succ, List.set_cons_zero]
    obtain ⟨hbox, ⟨u, hbo, hru, _⟩, hbel, hit, hgood⟩ := hI
    obtain ⟨rfl, hlst⟩ := hgd
    have hKM := mended_ok b o len cap lb lo lcap g lk y (gL n each i) (n + i) W (HB.out.below hbel) (fun j hj => cell_below hbel (HL.out j hj)) hlst (grpOk he hn HS.out hlen hi)
    rw [Int.natCast_add] at hKM
    have HBOX := hide hbox
    have HBO := hide hbo
    have HRU := hide hru
    have HBEL := hide hbel
    have HITW := hide hit
    have HGD := hide hgood
    have c2 := hbox.l.cell
    have c3 := hbox.k.cell
    have HIG := hide hi
    obtain ⟨gq, cq, rfl⟩ := ownsRow_pos hru (by omega)
    have hi16 : n + i < 16 := by have := HS.out; omega
    have hsW : w.heap.size ≤ W.heap.size := hbel.size
    clear hbox hbo hru hbel hit hlst hi hgood
    by_cases hf : hFlt g lk n each i = 0
    · have hm : mRes g lk (gL n each i) (n + i) = .tuple #[.int .i64 (mPl lk (gL n each i) (n + i) : Nat), .string (mDat g lk (gL n each i) (n + i)), .nilIface] := by unfold mRes; exact if_pos hf
      rw [hm] at hKM
      have HFG : Hid (∀ p, p < i + 1 → hFlt g lk n each p = 0) := fun p hp => by
        by_cases e : p = i
        · rw [e]; exact hf
        · exact HGD.out p (by omega)
      clear hm hf
      by_cases hp : mPl lk (gL n each i) (n + i) = n + i
      · have HP := hide hp
        have KM := hide hKM
        have q1 : (((mPl lk (gL n each i) (n + i) : Nat) : Int) == (n : Int) + (i : Int)) = true := by rw [beq_iff_eq]; omega
        have q2 : (((mPl lk (gL n each i) (n + i) : Nat) : Int) != (n : Int) + (i : Int)) = false := by simp only [bne, q1]; rfl
        clear hp hKM
        generalize ((mPl lk (gL n each i) (n + i) : Nat) : Int) = P at *
        gi_wp2_with (refine ⟨trivial, ?_⟩; gi_at_call 23; refine (CallsIn.inRound l (callsIn_wide.2 KM.out)).mono ?_; rintro e w4 ⟨rfl, hb4⟩; have HB4 := hide hb4; have HR4 := hide (own_under' HRU.out hb4); have HO4 := hide (Boxed.below HBO.out hb4); have hc4 := HO4.out.cell; have hs4 : W.heap.size ≤ w4.heap.size := hb4.size; have HBX4 := hide (HBOX.out.below hb4); have HIT4 := hide (HITW.out.below hb4); clear hb4)
        refine ⟨(KeepsOthers.of_grownBy (grown_of_below HB4.out) (fun j o e => by cases e)).from _, HITW.out.same HIT4.out hs4, HBX4.out, ⟨_, HO4.out, ?_, trivial⟩, below_two HBEL.out HB4.out, HIT4.out, HFG.out⟩
        rw [strV_congr (g := healF g lk n each i) (fun j hj => (healF_same HP.out hj).symm)]
        exact HR4.out
      · have hpn : mPl lk (gL n each i) (n + i) < n := gL_lt (mPl_of hp)
        have KM := hide hKM
        obtain ⟨p, hpp⟩ : ∃ p, p = mPl lk (gL n each i) (n + i) := ⟨_, rfl⟩
        rw [← hpp] at hp hpn KM
        have HPP := hide hpp
        have HP := hide hp
        have q1 : ((p : Int) == (n : Int) + (i : Int)) = false := by rw [beq_eq_false_iff_ne]; omega
        have q2 : ((p : Int) != (n : Int) + (i : Int)) = true := by simp only [bne, q1]; rfl
        clear hp hKM hpp
        gi_wp2_with (refine ⟨trivial, ?_⟩; gi_at_call 23; refine (CallsIn.inRound l (callsIn_wide.2 KM.out)).mono ?_; rintro e w4 ⟨rfl, hb4⟩; have HB4 := hide hb4; have HR4 := hide (own_under' HRU.out hb4); have HO4 := hide (Boxed.below HBO.out hb4); have hc4 := HO4.out.cell; have hs4 : W.heap.size ≤ w4.heap.size := hb4.size; have HBX4 := hide (HBOX.out.below hb4); have HIT4 := hide (HITW.out.below hb4); have hcp := HR4.out.cellAt p (by omega); rw [strV_at _ _ _ hpn] at hcp; have hfp := HR4.out.frozenAt p; clear hb4)
        refine ⟨((KeepsOthers.of_grownBy (grown_of_below HB4.out) (fun j o e => by cases e)).trans (KeepsOthers.setCell _ _ _)).from _, HITW.out.same ⟨boxed_row HIT4.out.n (by decide) HR4.out _ _, boxed_row HIT4.out.e (by decide) HR4.out _ _⟩ (by rw [World.size_setCell]; exact hs4),
          ⟨boxed_row HBX4.out.l (by decide) HR4.out _ _, boxed_row HBX4.out.k (by decide) HR4.out _ _, boxed_row HBX4.out.r1 (by decide) HR4.out _ _, boxed_row HBX4.out.r2 (by decide) HR4.out _ _⟩, ⟨_, boxed_row HO4.out (by decide) HR4.out _ _, ?_, trivial⟩, (below_two HBEL.out HB4.out).setCell (HR4.out.lt gq rfl).1 _, ⟨boxed_row HIT4.out.n (by decide) HR4.out _ _, boxed_row HIT4.out.e (by decide) HR4.out _ _⟩, HFG.out⟩
        have h9 := (HR4.out.stored p (.string (mDat g lk (gL n each i) (n + i)))).1
        rw [strV_set _ _ _ _ hpn, strV_congr (g := healF g lk n each (i + 1)) (fun j hj => healF_step HPP.out HP.out j)] at h9
        exact h9
    · have hm : mRes g lk (gL n each i) (n + i) = .tuple #[.int .i64 0, .string ⟨#[]⟩, .iface 42 (.int .i64 (hFlt g lk n each i : Nat))] := by unfold mRes; exact if_neg hf
      rw [hm] at hKM
      have KM := hide hKM
      have HF := hide hf
      clear hm hf hKM
      gi_wp2_with (refine ⟨trivial, ?_⟩; gi_at_call 23; refine (CallsIn.inRound l (callsIn_wide.2 KM.out)).mono ?_; rintro e w4 ⟨rfl, hb4⟩; have HB4 := hide hb4; have HR4 := hide (own_under' HRU.out hb4); have HO4 := hide (Boxed.below HBO.out hb4); have hc4 := HO4.out.cell; have hs4 : W.heap.size ≤ w4.heap.size := hb4.size; have HBX4 := hide (HBOX.out.below hb4); have HIT4 := hide (HITW.out.below hb4); have k1 := HBX4.out.r1.cell; have k2 := HBX4.out.r1.frozen; obtain ⟨t1, t2, t3, t4⟩ := two_cells HBX4.out.r1 HBX4.out.r2 (by omega) (.slice none 0 0) .nilIface; clear hb4)
      refine ⟨((KeepsOthers.of_grownBy (grown_of_below HB4.out) (fun j o e => by cases e)).trans ((KeepsOthers.setCell _ _ _).trans (KeepsOthers.setCell _ _ _))).from _, ?_, ?_, ?_, HF.out, HGD.out⟩
      · exact Boxed.otherN (HBX4.out.r1.set _) (by omega) _
      · exact (Boxed.otherN HBX4.out.r2 (by omega) _).set _
      · exact ((below_two HBEL.out HB4.out).setCell (p := ⟨w.heap.size + 2, 0, none⟩) (by simp) _).setCell (p := ⟨w.heap.size + 3, 0, none⟩) (by simp) _
end Go.Proofs.YtmmlcomfkikomaaDoor
