/-
  Our own contract of guard.Add over this seat's translation. Lemmas for the laws above; no statement is proved here.
-/
import Derived.Test.YtmmlcomfkikomaaDoorGdAdd
namespace Go.Proofs.YtmmlcomfkikomaaDoor
open Go.RowKit Go.Shelf
set_option linter.unusedVariables false
set_option maxRecDepth 100000
attribute [local go_sem] Oper.semAt_some

theorem Blks.check {w : World} {b o n : Nat} {g : Nat → ByteArray} (h : Blks w b o n g) (cap : Nat) :
    Calls Tryd.prog 15 #[.slice (some ⟨b, o, none⟩) n cap] w fun e w' => e = .returned .nilIface ∧ Below w.heap.size w w' :=
  check_ok b o n cap g w h.pos h.most h.cells h.one h.eight h.same

set_option maxHeartbeats 1000000 in
theorem add_range (b o n cap : Nat) (each : Int) (g : Nat → ByteArray) (w : World) (hB : Blks w b o n g) (he : each < 1 ∨ 16 < each) :
    Calls Tryd.prog 8 #[.slice (some ⟨b, o, none⟩) n cap, .int .i64 each] w fun e w' => e = .returned (.tuple #[.slice none 0 0, .iface 42 (.int .i64 1)]) ∧ Below w.heap.size w w' := by
  obtain ⟨hN, hb0, hsz⟩ := addB_new w (.slice (some ⟨b, o, none⟩) n cap)
  have K := hide ((hB.below hb0).check cap)
  have KF := hide (fun W => gfits_no each W he)
  clear he
  refine (callsIn_wide (n := 10)).1 (callsIn_of_wp_marks Tryd.func8 rfl trivial ((wpIn_wide (n := 10)).2 ?_))
  simp only [Tryd.ntmps8, List.size_toArray, List.length_cons, List.length_nil, Nat.reduceAdd, Nat.reduceSub, Array.replicate_succ, Array.replicate_zero, List.push_toArray, List.append_toArray, List.nil_append, List.cons_append]
  go_wp2_with fail
  refine (K.out).mono ?_
  rintro e w1 ⟨rfl, hb⟩
  obtain ⟨hl, h1, h2⟩ := hN.below hb
  obtain ⟨c1, c2, c3, c4⟩ := two_cells h1 h2 (by omega) (.slice none 0 0) (.iface 42 (.int .i64 1))
  have k1 := h1.cell
  have k2 := h1.frozen
  go_wp2_with fail
  refine (KF.out _).mono ?_
  rintro e w2 ⟨rfl, rfl⟩
  go_wp2
  refine ⟨.tuple #[.slice none 0 0, .iface 42 (.int .i64 1)], by simp [results, Tryd.results8, go_sem, c1, c2], rfl, ?_⟩
  exact ((hb0.trans (hb.mono hb0.size)).setCell (p := ⟨w.heap.size + 1, 0, none⟩) (by simp) _).setCell (p := ⟨w.heap.size + 2, 0, none⟩) (by simp) _

set_option maxHeartbeats 1000000 in
theorem add_full (b o n cap each : Nat) (g : Nat → ByteArray) (w : World) (hB : Blks w b o n g) (he : 1 ≤ each) (he2 : each ≤ 16) (hf : 16 < n + gN n each) :
    Calls Tryd.prog 8 #[.slice (some ⟨b, o, none⟩) n cap, .int .i64 each] w fun e w' => e = .returned (.tuple #[.slice none 0 0, .iface 42 (.int .i64 4)]) ∧ Below w.heap.size w w' := by
  obtain ⟨hN, hb0, hsz⟩ := addB_new w (.slice (some ⟨b, o, none⟩) n cap)
  have hn := hB.most
  have K := hide ((hB.below hb0).check cap)
  have KF := hide (fun W => gfits_yes (each : Int) W (by omega) (by omega))
  have KG := hide (fun W => guarded_ok n each W (by omega) he he2)
  have hf' : (16 : Int) < ((n + gN n each : Nat) : Int) := by omega
  generalize ((n + gN n each : Nat) : Int) = G at *
  refine (callsIn_wide (n := 10)).1 (callsIn_of_wp_marks Tryd.func8 rfl trivial ((wpIn_wide (n := 10)).2 ?_))
  simp only [Tryd.ntmps8, List.size_toArray, List.length_cons, List.length_nil, Nat.reduceAdd, Nat.reduceSub, Array.replicate_succ, Array.replicate_zero, List.push_toArray, List.append_toArray, List.nil_append, List.cons_append]
  go_wp2_with fail
  refine (K.out).mono ?_
  rintro e w1 ⟨rfl, hb⟩
  obtain ⟨hl, h1, h2⟩ := hN.below hb
  obtain ⟨c1, c2, c3, c4⟩ := two_cells h1 h2 (by omega) (.slice none 0 0) (.iface 42 (.int .i64 4))
  have k1 := h1.cell
  have k2 := h1.frozen
  have k3 := hl.cell
  go_wp2_with fail
  refine (KF.out _).mono ?_
  rintro e w2 ⟨rfl, rfl⟩
  go_wp2_with fail
  refine (KG.out _).mono ?_
  rintro e w2 ⟨rfl, rfl⟩
  go_wp2
  refine ⟨.tuple #[.slice none 0 0, .iface 42 (.int .i64 4)], by simp [results, Tryd.results8, go_sem, c1, c2], rfl, ?_⟩
  exact ((hb0.trans (hb.mono hb0.size)).setCell (p := ⟨w.heap.size + 1, 0, none⟩) (by simp) _).setCell (p := ⟨w.heap.size + 2, 0, none⟩) (by simp) _

theorem addG_fst {g : Nat → ByteArray} {n each : Nat} {i : Nat} (h : i < n) : addG g n each i = g i := by unfold addG; rw [if_pos h]
theorem addG_snd {g : Nat → ByteArray} {n each : Nat} (q : Nat) : addG g n each (n + q) = sumL g (gL n each q) := by unfold addG; rw [if_neg (by omega)]; congr 2; omega
theorem strV_snoc (f : Nat → ByteArray) (n : Nat) : strV f n ++ [.string (f n)] = strV f (n + 1) := by simp [strV, List.range_succ]
theorem strV_one (f : Nat → ByteArray) (n : Nat) : ∀ u ∈ strV f n, u.oneCell' = true := fun u hu => by
  obtain ⟨r, _, rfl⟩ := List.mem_map.1 hu
  rfl

theorem ownsRow_pos {W : World} {base e size n : Nat} {v : Value} {xs : List Value} (h : W.ownsRow base e size v n xs) (h0 : 0 < n) : ∃ g cap, v = .slice (some ⟨g, 0, none⟩) n cap := by
  rcases h.2 with ⟨_, h1⟩ | ⟨g, cap, _, rfl, _⟩
  · omega
  · exact ⟨g, cap, rfl⟩
theorem own_mono {W : World} {base base' e size n : Nat} {v : Value} {xs : List Value} (h : W.ownsRow base e size v n xs) (hle : base' ≤ base) : W.ownsRow base' e size v n xs := by
  refine ⟨h.1, ?_⟩
  rcases h.2 with hn | ⟨g, cap, cur, hv, h1, rest⟩
  · exact .inl hn
  · exact .inr ⟨g, cap, cur, hv, Nat.le_trans hle h1, rest⟩
/-- Two results are stored: a row lies as it lay. -/
theorem own_past2 {W : World} {base e size n B B' : Nat} {t t' : TypeId} {v u u' : Value} {xs : List Value} (h : W.ownsRow base e size v n xs) (h1 : Boxed W B t u) (h2 : Boxed W B' t' u') (ht : t ≠ e) (ht' : t' ≠ e) (hne : B ≠ B') (x y : Value) :
    ((W.setCell ⟨B, 0, none⟩ x).setCell ⟨B', 0, none⟩ y).ownsRow base e size v n xs := by
  have k1 := h.kept (grownBy_setCell' W B x) (.inr (h1.not_row ht h).symm)
  exact k1.kept (grownBy_setCell' _ B' y) (.inr ((Boxed.otherN h2 hne x).not_row ht' k1).symm)
/-- The boxes of the function that is ranged over. -/
structure ItB (W : World) (gb n each : Nat) : Prop where
  n : Boxed W gb 3 (.int .i64 n)
  e : Boxed W (gb + 1) 3 (.int .i64 each)
theorem ItB.own (B gb n each : Nat) : OwnFrom B (fun (_ : Nat) W => ItB W gb n each) := fun q X Y row hs hg hr =>
  ⟨boxed_own (β := Nat) gb _ (fun _ => .int .i64 n) q X Y row hs.n hg (fun r e => (hr r e).2), boxed_own (β := Nat) (gb + 1) _ (fun _ => .int .i64 each) q X Y row hs.e hg (fun r e => (hr r e).2)⟩
theorem ItB.below {W W' : World} {gb n each : Nat} (h : ItB W gb n each) (hb : Below W.heap.size W W') : ItB W' gb n each := ⟨Boxed.below h.n hb, Boxed.below h.e hb⟩
theorem ItB.same {W W' : World} {gb n each : Nat} (h : ItB W gb n each) (h' : ItB W' gb n each) (hs : W.heap.size ≤ W'.heap.size) : Same2 gb W W' := ⟨hs, fun k hk => by
  rcases hk with rfl | rfl
  · exact (show W'.heap[k]? = _ from h'.n).trans (show W.heap[k]? = _ from h.n).symm
  · exact (show W'.heap[gb + 1]? = _ from h'.e).trans (show W.heap[gb + 1]? = _ from h.e).symm⟩
/-- A slice grows by append, and is put back into its box: the other boxes lie as they lay. -/
theorem Boxed.past {W w1 : World} {B B' : Nat} {t' e : TypeId} {v v' x : Value} {n₀ size k : Nat} {xs : List Value} {tmp : Obj} (h : Boxed W B' t' x) (hte : t' ≠ e) (hrow : W.ownsRow n₀ e size v k xs)
    (hgrow : (W.alloc tmp).grownBy w1 v.ownBlock) (hne : B' ≠ B) : Boxed (w1.setCell ⟨B, 0, none⟩ v') B' t' x := ((h.alloc tmp).kept hgrow (h.not_row hte hrow)).other hne v'
/-- Add between two rounds, q having come. -/
structure AddI (w : World) (g : Nat → ByteArray) (n each h Bo gb : Nat) (v : Value) (q : Nat) (W : World) : Prop where
  box : AddB W h v
  out : ∃ u, Boxed W Bo 22 u ∧ W.ownsRow w.heap.size 9 1 u (n + q) (strV (addG g n each) (n + q)) ∧ True
  below : Below w.heap.size w W
  it : ItB W gb n each
theorem AddI.own {w : World} {g : Nat → ByteArray} {n each h Bo gb : Nat} {v : Value} {B : Nat} (hB : w.heap.size ≤ B) : OwnFrom B (AddI w g n each h Bo gb v) := fun q X Y row hs hg hr =>
  ⟨⟨boxed_own (β := Nat) h _ (fun _ => v) q X Y row hs.box.l hg (fun r e => (hr r e).2), boxed_own (β := Nat) (h + 1) _ (fun _ => .slice none 0 0) q X Y row hs.box.r1 hg (fun r e => (hr r e).2), boxed_own (β := Nat) (h + 2) _ (fun _ => .nilIface) q X Y row hs.box.r2 hg (fun r e => (hr r e).2)⟩,
    holdsRow_own w.heap.size Bo _ _ 1 (fun q => n + q) (fun q => strV (addG g n each) (n + q)) (fun _ _ => True) q X Y row hs.out hg (fun r e => (hr r e).2),
    ownFrom_below (β := Nat) (Nat.le_refl _) hB q X Y row hs.below hg hr, ItB.own B gb n each q X Y row hs.it hg hr⟩

set_option maxHeartbeats 4000000 in
theorem add_ok (b o n cap each : Nat) (g : Nat → ByteArray) (w : World) (hB : Blks w b o n g) (he : 1 ≤ each) (he2 : each ≤ 16) (hf : n + gN n each ≤ 16) :
    Calls Tryd.prog 8 #[.slice (some ⟨b, o, none⟩) n cap, .int .i64 each] w fun e w' => ∃ v, e = .returned (.tuple #[v, .nilIface]) ∧ w'.ownsRow w.heap.size 9 1 v (n + gN n each) (strV (addG g n each) (n + gN n each)) ∧ Below w.heap.size w w' := by
  obtain ⟨i0, hi, hz0, hz1, hz2⟩ := info_parts Tryd.infoStr
  have HI := hide hi
  have HZ0 := hide hz0
  have HZ1 := hide hz1
  have HZ2 := hide hz2
  clear hi hz0 hz1 hz2
  obtain ⟨hN, hb0, hsz⟩ := addB_new w (.slice (some ⟨b, o, none⟩) n cap)
  have hn := hB.most
  have hn0 := hB.pos
  have HB := hide hB
  clear hB
  have K := hide ((HB.out.below hb0).check cap)
  have KF := hide (fun W => gfits_yes (each : Int) W (by omega) (by omega))
  have KG := hide (fun W => guarded_ok n each W (by omega) he he2)
  have KR := hide (fun W => groups_ok n each W)
  have hf' : ¬ (16 : Int) < ((n + gN n each : Nat) : Int) := by omega
  have HF := hide hf
  generalize hG : ((n + gN n each : Nat) : Int) = G at *
  clear hf hG
  refine (callsIn_wide (n := 10)).1 (callsIn_of_wp_marks Tryd.func8 rfl trivial ((wpIn_wide (n := 10)).2 ?_))
  simp only [Tryd.ntmps8, List.size_toArray, List.length_cons, List.length_nil, Nat.reduceAdd, Nat.reduceSub, Array.replicate_succ, Array.replicate_zero, List.push_toArray, List.append_toArray, List.nil_append, List.cons_append]
  go_wp2_with fail
  refine (K.out).mono ?_
  rintro e w1 ⟨rfl, hb⟩
  have HA := hide (hN.below hb)
  have HB1 := hide (hb0.trans (hb.mono hb0.size))
  have hs1 : w.heap.size + 3 ≤ w1.heap.size := by rw [← hsz]; exact hb.size
  clear hb hN hb0 hsz
  have k3 := HA.out.l.cell
  go_wp2_with fail
  refine (KF.out _).mono ?_
  rintro e w2 ⟨rfl, rfl⟩
  go_wp2_with fail
  refine (KG.out _).mono ?_
  rintro e w2 ⟨rfl, rfl⟩
  have KC := hide (cloned_ok b o n cap g w1 hn0 hn (HB.out.below HB1.out).cells (fun i hi => by rw [HB.out.same i hi]; exact HB.out.eight))
  go_wp2_with fail
  refine (KC.out).mono ?_
  rintro e w2 ⟨u, rfl, hrow, hb2⟩
  obtain ⟨gu, cu, rfl⟩ := ownsRow_pos hrow hn0
  have HA2 := hide (HA.out.below hb2)
  have HB2 := hide (below_two HB1.out hb2)
  have HR2 := hide hrow
  have hs2 : w1.heap.size ≤ w2.heap.size := hb2.size
  have k3 := (HA2.out.l.alloc (.cells #[.slice (some ⟨gu, 0, none⟩) n cu] 22)).cell
  clear hb2 hrow
  go_wp2_with fail
  refine (KR.out _).mono ?_
  rintro e w3 ⟨rfl, hw3⟩
  obtain ⟨X, hX⟩ : ∃ X, X = w2.alloc (.cells #[.slice (some ⟨gu, 0, none⟩) n cu] 22) := ⟨_, rfl⟩
  rw [← hX] at hw3 k3 ⊢
  have hxs : X.heap.size = w2.heap.size + 1 := by rw [hX]; simp
  have b1 := Boxed.new X 3 (.int .i64 n)
  have b2 := Boxed.new (X.alloc (.cells #[.int .i64 n] 3)) 3 (.int .i64 each)
  rw [World.size_alloc] at b2
  have hx3 : Below X.heap.size X w3 := by rw [hw3]; exact ((Below.refl _ X).alloc (Nat.le_refl _) _).alloc (by simp) _
  have hit : ItB w3 X.heap.size n each := by rw [hw3]; exact ⟨b1.alloc _, b2⟩
  have hs3 : X.heap.size + 2 ≤ w3.heap.size := by rw [hw3]; simp
  have hx2 : Below w2.heap.size w2 X := by rw [hX]; exact (Below.refl _ w2).alloc (Nat.le_refl _) _
  have hbx : Boxed X w2.heap.size 22 (.slice (some ⟨gu, 0, none⟩) n cu) := by rw [hX]; exact Boxed.new _ _ _
  have hxs2 : w2.heap.size < X.heap.size := by omega
  clear hX hw3 b1 b2 hxs
  have HIT := hide hit
  have HA3 := hide ((HA2.out.below hx2).below hx3)
  have HB3 := hide (below_two (below_two HB2.out hx2) hx3)
  have HO3 := hide (Boxed.below hbx hx3)
  have HR3 := hide (own_mono (own_under' (own_under' HR2.out hx2) hx3) (by omega : w.heap.size ≤ w1.heap.size))
  clear hx2 hx3 hbx hit
  go_wp2_with fail
  refine range_two (gf := 28) (lb := #[.pointer (some ⟨X.heap.size, 0, none⟩), .pointer (some ⟨X.heap.size + 1, 0, none⟩)]) rfl (enters_of Tryd.func28 (by kernel_rfl) rfl)
    (groups_iter X.heap.size n each w3 hn he he2 (by omega) HIT.out.n.cell HIT.out.e.cell) (by omega) (AddI w g n each w.heap.size w2.heap.size X.heap.size (.slice (some ⟨b, o, none⟩) n cap)) (fun _ _ _ => False)
    (AddI.own (by omega)) (fun _ _ _ _ _ h _ _ => h) (GdI_own _ n each)
    ⟨HA3.out, ⟨_, HO3.out, by rw [Nat.add_zero, strV_congr (g := g) (fun i hi => addG_fst hi)]; exact HR3.out, trivial⟩, HB3.out, HIT.out⟩
    (fun tm x y => ((tm.setIfInBounds 33 x).setIfInBounds 34 y).setIfInBounds 9 y) ?assign ?body ?done ?stop
  case assign =>
    intro l i x y W KK hgd hK
    gi_wp2
    exact hK
  case stop => intro D i W _ _ h; exact h.elim
  case done =>
    intro D W hD hI hK
    obtain ⟨hbox, ⟨u, hbo, hru, _⟩, hbel, hit⟩ := hI
    obtain ⟨gq, cq, rfl⟩ := ownsRow_pos hru (by omega)
    obtain ⟨c1, c2, c3, c4⟩ := two_cells hbox.r1 hbox.r2 (by omega) (.slice (some ⟨gq, 0, none⟩) (n + gN n each) cq) .nilIface
    have k1 := hbox.r1.cell
    have k2 := hbox.r1.frozen
    have k4 := hbo.cell
    have HBEL := hide hbel
    have HRU := hide hru
    have HD := hide hD
    have HK := hide hK
    have HR12 := hide (show Boxed W (w.heap.size + 1) _ _ ∧ Boxed W (w.heap.size + 2) _ _ from ⟨hbox.r1, hbox.r2⟩)
    clear hbox hbo hru hbel hit hD hK
    go_wp2
    have ho1 := HR12.out.1.set (.slice (some ⟨gq, 0, none⟩) (n + gN n each) cq)
    have hK2 : ((W.setCell ⟨w.heap.size + 1, 0, none⟩ (.slice (some ⟨gq, 0, none⟩) (n + gN n each) cq)).setCell ⟨w.heap.size + 2, 0, none⟩ .nilIface).heap[D]? = some (.deferred (some [])) := (KeepsOthers.setCell _ _ _).same D _ ((KeepsOthers.setCell _ _ _).same D _ HK.out rfl) rfl
    refine ⟨by simp, .inl ⟨_, _, rfl, run_takeDeferred hK2, ?_⟩⟩
    have d1 := cell_kept c1 (grownBy_putObj' _ D (.deferred none)) (fun r e => by cases e; exact ⟨_, hK2, rfl⟩)
    have d2 := cell_kept c2 (grownBy_putObj' _ D (.deferred none)) (fun r e => by cases e; exact ⟨_, hK2, rfl⟩)
    refine ⟨.tuple #[.slice (some ⟨gq, 0, none⟩) (n + gN n each) cq, .nilIface], by simp [results, Tryd.results8, go_sem, d1, d2], _, rfl, ?_, ?_⟩
    · refine ownsRow_putObj ?_ _ hK2 rfl
      exact own_past2 HRU.out HR12.out.1 HR12.out.2 (by decide) (by decide) (by omega) _ _
    · exact ((HBEL.out.setCell (p := ⟨w.heap.size + 1, 0, none⟩) (by simp) _).setCell (p := ⟨w.heap.size + 2, 0, none⟩) (by simp) _).trans (belowK_b (w := w) (Nat.le_refl _) _ D _ _ (by have := HD.out; omega) hK2 rfl rfl)
  case body =>
    intro l i x y W hi hI hgd
    simp only [List.setIfInBounds_toArray, List.set_cons_succ, List.set_cons_zero]
    obtain ⟨hbox, ⟨u, hbo, hru, _⟩, hbel, hit⟩ := hI
    obtain ⟨rfl, hlst⟩ := hgd
    have KS := hide (suml_ok b o n cap g y (gL n each i) W (HB.out.below hbel) hlst (gL_pos he ((gN_lt he i).1 hi)) (fun r hr => gL_lt hr) (gL_nodup _ _ _))
    have HBOX := hide hbox
    have HBO := hide hbo
    have HRU := hide hru
    have HBEL := hide hbel
    have HITW := hide hit
    have c2 := hbox.l.cell
    have HIG := hide hi
    obtain ⟨gq, cq, rfl⟩ := ownsRow_pos hru (by omega)
    clear hbox hbo hru hbel hit hlst hi
    have hi16 : n + i < 16 := by have := HIG.out; have := HF.out; omega
    have hsW : w.heap.size ≤ W.heap.size := HBEL.out.size
    have hBoW : w2.heap.size < W.heap.size := HBO.out.lt
    gi_wp2_with (first
      | (gi_at_builtin; refine wpListIn_append_own _ rfl _ _ 22 rfl w.heap.size 9 i0 (.string ⟨#[]⟩) 1 16 Tryd.underlying22 HI.out HZ0.out HZ1.out HZ2.out rfl (by decide) _ _ _ rfl (HR4.out.alloc _) ⟨w4.heap.size, 0, none⟩ 1 1 [.string (sumL g (gL n each i))] rfl rfl (cell_one_new _ _ _) (by simp [Value.oneCell']) (by unfold maxLen; omega) (by omega) (by simp; omega) ?_; intro v' w5 hown' hgrow _; obtain ⟨g', cap', rfl⟩ := ownsRow_succ hown'; obtain ⟨hv1, hv2, hr2, hk2, hb2⟩ := Boxed.appended HO4.out (by decide) HR4.out (by omega) (by omega) hown' hgrow; have hc5 := hv1.cell; have hf5 := hv1.frozen; have HV2 := hide hv2; have HR5 := hide hr2; have HK5 := hide hk2; have HB5 := hide hb2; have HG5 := hide hgrow; clear hv1 hv2 hr2 hk2 hb2 hgrow hown')
      | (refine ⟨trivial, ?_⟩; gi_at_call 20; refine (CallsIn.inRound l (callsIn_wide.2 KS.out)).mono ?_; rintro e w4 ⟨rfl, hb4⟩; have HB4 := hide hb4; have HR4 := hide (own_under' HRU.out hb4); have HO4 := hide (Boxed.below HBO.out hb4); have hc4 := HO4.out.cell; have hs4 : W.heap.size ≤ w4.heap.size := hb4.size; clear hb4))
    have hB4 := HB4.out
    have hbx := HBOX.out.below hB4
    have hitx := HITW.out.below hB4
    have hit5 : ItB (w5.setCell ⟨w2.heap.size, 0, none⟩ (.slice (some ⟨g', 0, none⟩) (n + i + 1) cap')) X.heap.size n each := ⟨Boxed.past hitx.n (by decide) HR4.out HG5.out (by omega), Boxed.past hitx.e (by decide) HR4.out HG5.out (by omega)⟩
    refine ⟨((KeepsOthers.of_grownBy (grown_of_below hB4) (fun j o e => by cases e)).trans HK5.out).from _, HITW.out.same hit5 (Nat.le_trans hs4 HB5.out.size), ⟨⟨Boxed.past hbx.l (by decide) HR4.out HG5.out (by omega), Boxed.past hbx.r1 (by decide) HR4.out HG5.out (by omega), Boxed.past hbx.r2 (by decide) HR4.out HG5.out (by omega)⟩, ⟨_, HV2.out, ?_, trivial⟩, (below_two HBEL.out hB4).trans HB5.out, hit5⟩⟩
    have h9 := HR5.out
    rw [show Value.string (sumL g (gL n each i)) = .string (addG g n each (n + i)) by rw [addG_snd], strV_snoc] at h9
    exact h9
end Go.Proofs.YtmmlcomfkikomaaDoor
