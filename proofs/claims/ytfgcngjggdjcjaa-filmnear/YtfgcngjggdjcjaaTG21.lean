/-
  Lemmas for the law above, joined into one text (FlEo, FlDb, FlLG). No statement is proved here.
-/
import Derived.Test.YtfgcngjggdjcjaaTG8
import Derived.Test.YtfgcngjggdjcjaaTG18
import Derived.Test.YtfgcngjggdjcjaaTG19
import Derived.Test.YtfgcngjggdjcjaaTG20
import Derived.Laws.MakeOwn
import Derived.Lib.SliceRun
import Derived.Test.YtfgcngjggdjcjaaTG6
import Derived.Test.YtfgcngjggdjcjaaTG4
import Derived.Deep.DeepCutAuto
namespace Go.Proofs.Ytfgcngjggdjcjaa
open Go.RowKit Go.Maps
set_option linter.unusedVariables false
set_option maxRecDepth 100000

/-- What was told last, in the block b, behind so many pictures: apart from the row u. -/
structure AhdS (w : World) (b : Nat) (a0 b0 : Int) (j n : Nat) (T : Nat → Nat → Int) (B : Nat) (u : Value) (sd : Option Addr) (sn sc : Nat) (f0 : Nat → Int) : Prop where
  p : PicIn w b a0 b0 (.slice sd sn sc)
  i : IntsIn w (.slice sd sn sc) sn f0
  e : 0 < j → sn = n ∧ f0 = T (j - 1)
  new : ∀ k, (Value.slice sd sn sc).ownBlock = some k → B ≤ k
  off : ∀ k, (Value.slice sd sn sc).ownBlock = some k → u.ownBlock ≠ some k

theorem cell_put3 {w : World} {b k o : Nat} {x y s u : Value} (h : w.cell? ⟨k, o, none⟩ = some u) (hne : k ≠ b) : (((w.setCell ⟨b, 0, none⟩ x).setCell ⟨b, 1, none⟩ y).setCell ⟨b, 2, none⟩ s).cell? ⟨k, o, none⟩ = some u := by
  rw [World.cell?_setCell_other _ _ _ _ (fun e => hne (congrArg Addr.block e).symm), World.cell?_setCell_other _ _ _ _ (fun e => hne (congrArg Addr.block e).symm), World.cell?_setCell_other _ _ _ _ (fun e => hne (congrArg Addr.block e).symm)]
  exact h

set_option maxHeartbeats 8000000 in
theorem fenc_ok {w : World} {v : Value} {N : Nat} {P : Nat → Pc} {ev st : Int} {A B : Nat} (h : PicsIn w v N P) (ok : FilOk N P ev st A B) :
    Calls Try.prog 5 #[v, .int .i64 ev, .int .i64 st] w fun e w' => ∃ u, e = .returned (.tuple #[u, .nilIface]) ∧ CodsIn w' u N (filC A B (P 0).n ev.toNat st fun i => (P i).f) ∧ Below w.heap.size w w' := by
  have K := hide (fcheck_ok h)
  obtain ⟨ad, cap, rfl, _, _, h3⟩ := h
  have h1N := ok.one
  have h6N := ok.six
  have s1 := ok.s1
  have s2 := ok.s2
  obtain ⟨E, rfl⟩ := Int.eq_ofNat_of_zero_le (show 0 ≤ ev by have := ok.e1; omega)
  have hE1 : 1 ≤ E := by have := ok.e1; omega
  have hE6 : E ≤ 6 := by have := ok.e6; omega
  have K1 := hide (fun w => fwithin_ok E 6 w)
  have K2 := hide (fun w => fwithin_ok st 64 w)
  rw [inOk_iff.2 ⟨ok.e1, ok.e6⟩] at K1
  rw [inOk_iff.2 ⟨s1, s2⟩] at K2
  have hz := enfF_zero.2 ⟨A, B, ok⟩
  have hcz : chqF N P = 0 := by
    unfold enfF at hz
    split at hz
    · rename_i c; exact absurd hz c
    · rename_i c; omega
  rw [hcz] at K
  obtain ⟨bb, o, rfl, hc⟩ := h3 (by omega)
  have HC := hide hc
  have HBb : Hid (bb < w.heap.size) := by obtain ⟨s9, h9, _⟩ := hc 0 (by omega); exact cell_lt h9
  obtain ⟨s0, hs0⟩ := hc 0 (by omega)
  rw [show o + 0 * 3 = o by omega] at hs0
  have HS0 : Hid (w.cell? ⟨bb, o, none⟩ = some (.int .i64 (P 0).a) ∧ w.cell? ⟨bb, o + 1, none⟩ = some (.int .i64 (P 0).b)) := ⟨hs0.1, hs0.2.1⟩
  rw [Int.toNat_natCast]
  have KA := hide (fun j hj W s sd sn sc f0 => fcode_fil ok (j := j) hj (W := W) (s := s) (sd := sd) (sn := sn) (sc := sc) (f0 := f0))
  have KB := hide (fun j hj W s sd sn sc f0 => ftell_fil ok (j := j) hj (W := W) (s := s) (sd := sd) (sn := sn) (sc := sc) (f0 := f0))
  have Hn := hide (fun j => filC_n (A := A) (B := B) (n := (P 0).n) (ev := E) (s := st) (g := fun i => (P i).f) (i := j))
  have HAl := hide (fun j => filC_alone (A := A) (B := B) (n := (P 0).n) (ev := E) (s := st) (g := fun i => (P i).f) (i := j))
  have HLk := hide (fun j (hj : j < N) => (ok.like hj).2)
  have Hp0 : Hid (0 < (P 0).n) := (ok.pic 0 (by omega)).pos
  generalize hTT : filT A B (P 0).n E st (fun i => (P i).f) = T at *
  generalize hCC : filC A B (P 0).n E st (fun i => (P i).f) = C at *
  obtain ⟨i0, hi0, hz0, hz1, hz2⟩ := info_parts Try.infoCod
  have Hi := hide hi0
  have Hz0 := hide hz0
  have Hz1 := hide hz1
  have Hz2 := hide hz2
  have hmk : ∃ mc : Array Value, mc.size = N * 4 ∧ ∀ W : World, (Instr.makeSlice 30 (.int .i64 0) (.int .i64 (N : Int))).run Try.prog W = .ok (.slice (some ⟨W.heap.size, 0, none⟩) 0 N) (W.alloc (.cells mc 36)) := by
    refine ⟨_, size_madeCells (Value.cells (.agg #[.bool false, .int .i64 0, .int .i64 0, .slice none 0 0])) (N * 4), fun W => ?_⟩
    have hr := run_make (P := Try.prog) W 30 36 i0 _ Try.underlying30 hi0 hz0 .i64 .i64 0 N (Int.le_refl _) (by omega) (by rw [hz2]; omega) (by omega)
    simp only [Int.toNat_zero, Int.toNat_natCast, hz1] at hr
    exact hr
  obtain ⟨mc, hms, hmk⟩ := hmk
  have HMS := hide hms
  clear hc hs0 h3 hi0 hz0 hz1 hz2 ok hTT hCC hz hcz hms
  generalize hpn : (P 0).n = pn at *
  generalize hpa : (P 0).a = pa at *
  generalize hpb : (P 0).b = pb at *
  clear hpn hpa hpb
  go_enter Try.func5, Try.ntmps5
  go_wp2_with fail
  refine (K.out).mono ?_
  rintro e w1 ⟨rfl, hb1⟩
  rw [errN_zero]
  have HB1 := hide hb1
  clear hb1 K
  go_wp2_with fail
  refine (K1.out _).mono ?_
  rintro e w2 ⟨rfl, rfl⟩
  go_wp2_with fail
  refine (K2.out _).mono ?_
  rintro e w2 ⟨rfl, rfl⟩
  clear K1 K2
  go_upto_region 6 with fail
  have c0 := cell_below HB1.out HS0.out.1
  have c1 := cell_below HB1.out HS0.out.2
  refine regionE bb o N cap pa pb (fun _ _ => #[.int .i64 pa, .int .i64 pb, .slice none 0 0]) (fun _ _ _ _ => True) rfl rfl h1N h6N c0 c1 (fun _ _ => rfl) (fun _ _ => all_oneCell_toArray (cs := [.int .i64 pa, .int .i64 pb, .slice none 0 0]) (fun x hx => by simp at hx; rcases hx with rfl | rfl | rfl <;> rfl)) (fun _ _ _ _ _ _ _ => trivial) (fun _ _ _ _ _ _ _ _ _ _ => trivial) (fun _ _ _ _ _ _ _ _ => trivial) (fun W hW => (funseen_ok pa pb W).mono fun e w' ⟨he, hb⟩ => ⟨none, 0, he, trivial, hb⟩) (fun _ _ _ _ _ h => h) ?_
  intro w6 _ _ _ xa hb6 _ hxa hrg hth _
  have hP6 := pic_agg hrg hth
  have HP6 := hide hP6
  have HB6 := hide (below_two HB1.out hb6)
  have hxa2 : xa < w6.heap.size := hP6.lt
  have hxw : w.heap.size ≤ xa := Nat.le_trans HB1.out.size hxa
  clear c0 c1 hrg hth hb6 hP6 hxa
  simp only [Act.put]
  have hmk6 := hmk w6
  have O6 := World.ownsRow_made (base := w6.heap.size) (e := 36) (size := 4) w6 mc N (Nat.le_refl _) (by unfold maxLen; omega) HMS.out
  have HP7 := hide (HP6.out.below ((Below.refl w6.heap.size w6).alloc (Nat.le_refl _) (.cells mc 36)))
  have HB7 : Hid (Below w.heap.size w (w6.alloc (.cells mc 36))) := below_two HB6.out ((Below.refl w6.heap.size w6).alloc (Nat.le_refl _) (.cells mc 36))
  have HR7 : Hid (CodR (w6.alloc (.cells mc 36)) w6.heap.size (.slice (some ⟨w6.heap.size, 0, none⟩) 0 N) 0 C) :=
    ⟨fun _ => .slice none 0 0, O6, fun i hi => absurd hi (Nat.not_lt_zero _), fun i hi => absurd hi (Nat.not_lt_zero _), fun i hi => absurd hi (Nat.not_lt_zero _), fun i hi => absurd hi (Nat.not_lt_zero _)⟩
  have hsz7 : w6.heap.size ≤ (w6.alloc (.cells mc 36)).heap.size := by simp
  have HZ7 := hide hsz7
  clear O6 hmk hsz7
  go_wp2
  generalize hBB : w6.heap.size = BB at *
  go_loopw [10, 42] (fun u i wr => ∃ (j : Nat) (adu : Option Addr) (cpu : Nat) (sd : Option Addr) (sn sc : Nat) (f0 : Nat → Int), j ≤ N ∧ i = .int .i64 j ∧ u = .slice adu j cpu ∧ Hid (CodR wr BB u j C) ∧ Hid (AhdS wr xa pa pb j pn T BB u sd sn sc f0) ∧ Hid (BB ≤ wr.heap.size) ∧ Below w.heap.size w wr) (fun _ i _ => N - (intOf i).toNat)
  case atStart => exact ⟨0, _, _, none, 0, 0, fun _ => 0, Nat.zero_le _, rfl, rfl, HR7, ⟨HP7.out, Or.inl ⟨rfl, _, _, rfl⟩, fun h => absurd h (Nat.lt_irrefl _), fun k e => (by cases e), fun k e => (by cases e)⟩, HZ7, HB7.out⟩
  case round =>
    obtain ⟨j, adu, cpu, sd, sn, sc, f0, hj, rfl, rfl, HR, HAh, HZr, hb⟩ := hrel
    have HB := hide hb
    clear hb
    by_cases hlt : j < N
    · obtain ⟨s, hs⟩ := HC.out j hlt
      obtain ⟨e0, e1, e2, hi⟩ := hs.below HB.out
      obtain ⟨lea, leb, len⟩ := HLk.out j hlt
      have HI := hide hi
      obtain ⟨ads, cps, rfl⟩ := slice_shape hi
      have hAp := HAh.out.p
      obtain ⟨⟨a0, _⟩, ⟨a1, _⟩, a2, _⟩ := hAp
      have KA1 := hide (fun W (hW : Below wr.heap.size wr W) => KA.out j hlt W (.slice ads (P j).n cps) sd sn sc f0 (HI.out.below hW) (HAh.out.i.below hW) HAh.out.e)
      have KB1 := hide (fun W (hW : Below wr.heap.size wr W) s2 (h2 : IntsIn W s2 pn (C j).f) => KB.out j hlt W s2 sd sn sc f0 h2 (HAh.out.i.below hW) HAh.out.e)
      have hal := HAl.out j
      have HCn := hide (Hn.out j)
      have HCe : Hid (C j = ⟨(C j).al, (C j).x, (C j).y, (C j).n, (C j).f⟩) := rfl
      rw [HCn.out] at HCe
      rw [lea, leb] at KA1
      rw [lea] at e0
      rw [leb] at e1
      rw [len] at e2 KA1
      generalize hTj : T j = Tj at *
      have HTj := hide hTj
      generalize (C j).al = al at *
      generalize (C j).x = X at *
      generalize (C j).y = Y at *
      generalize (C j).f = F at *
      clear hs hi lea leb len hTj HI
      have hq : ((j : Int)).tmod (E : Int) = ((j % E : Nat) : Int) := by rw [Int.tmod_eq_emod_of_nonneg (by omega)]; exact (Int.natCast_emod j E).symm
      have hl : (((j % E : Nat) : Int) == 0) = al := by
        cases al with
        | true => rw [hal.1 rfl]; rfl
        | false =>
          rw [beq_eq_false_iff_ne]
          intro h0
          have h1 : j % E = 0 := by omega
          have := hal.2 h1
          cases this
      generalize j % E = q at *
      clear hal
      go_upto_region 11 with fail
      refine regionF bb o N cap j E xa q al st #[.int .i64 pa, .int .i64 pb, .slice sd sn sc] #[.int .i64 pa, .int .i64 pb, .slice ads pn cps] .nilIface (fun ad cp => #[.bool al, .int .i64 X, .int .i64 Y, .slice ad pn cp]) (fun W W' ad cp => IntsIn W' (.slice ad pn cp) pn F ∧ ∀ k, (Value.slice ad pn cp).ownBlock = some k → W.heap.size ≤ k) rfl rfl rfl rfl rfl rfl hlt h6N hE1 hE6 hq hl rfl rfl (agg_pic a0 a1 a2) (agg_pic e0 e1 e2) (fun _ _ => rfl) (fun ad cp => all_oneCell_toArray (cs := [.bool al, .int .i64 X, .int .i64 Y, .slice ad pn cp]) (fun x hx => by simp at hx; rcases hx with rfl | rfl | rfl | rfl <;> rfl))
        (fun W W1 W2 ad cp h hb => ⟨h.1.below hb, h.2⟩) (fun W W1 ad cp x cells W2 h hb hle => ?_) (fun W W1 ad cp x cells h hlt => ⟨ints_sets (w := W1) (fun k e => by have := h.2 k e; omega) _ _ _ h.1, h.2⟩) (fun W hW => (KA1.out W hW).mono fun e w' ⟨ad, cp, he, hi, hb, hn⟩ => ⟨ad, cp, he, ⟨hi, hn⟩, hb⟩) (fun _ _ _ _ _ h => h) ?_
      · refine ⟨?_, h.2⟩
        rcases h.1 with h0 | ⟨h0, g, og, c', e, hc⟩
        · exact Or.inl h0
        · have h9 := h.1.below hb
          refine ints_sets (w := W2) (fun k e2 => ?_) _ _ _ h9
          have := ints_lt h.1 h0 k e2
          omega
      intro W W0 ad cp xc hbW hbW0 hxc hrg hth hRR
      obtain ⟨hI, hnI⟩ := hRR
      simp only [Act.put]
      have hzr := HZr.out
      have hW0 := hbW0.size
      have k0 : W.cell? ⟨xc, 0, none⟩ = some (.bool al) := by simpa using hrg 0 _ rfl
      have k1 : W.cell? ⟨xc, 1, none⟩ = some (.int .i64 X) := by simpa using hrg 1 _ rfl
      have k2 : W.cell? ⟨xc, 2, none⟩ = some (.int .i64 Y) := by simpa using hrg 2 _ rfl
      have k3 : W.cell? ⟨xc, 3, none⟩ = some (.slice ad pn cp) := by simpa using hrg 3 _ rfl
      have hlc : xc < W.heap.size := cell_lt k0
      have HBW := hide hbW
      have HT := hide (KB1.out W hbW (.slice ad pn cp) hI)
      have HIW := hide hI
      have HNI : Hid (∀ k, (Value.slice ad pn cp).ownBlock = some k → wr.heap.size ≤ k) := fun k e => by have := hnI k e; omega
      have HOB : Hid (∀ k, (Value.slice adu j cpu).ownBlock = some k → k < wr.heap.size) := fun k e => by obtain ⟨S, hS⟩ := HR.out; exact (hS.own.lt k e).2
      have HAW := hide (HAh.out.p.below hbW)
      have a0 := cell_below hbW a0
      have a1 := cell_below hbW a1
      have a2 := cell_below hbW a2
      have hxn : xc ≠ xa := by omega
      have hWr := hbW.size
      clear hrg hth hI hnI hbW hbW0 hW0 KA1 KB1 e0 e1 e2 hq hl
      go_wp2_with fail
      refine (HT.out).mono ?_
      rintro e w2 ⟨ad2, cp2, rfl, hi2, hb2, hn2⟩
      obtain ⟨⟨a0, g0⟩, ⟨a1, g1⟩, a2, g2⟩ := HAW.out.below hb2
      have hW2 := hb2.size
      have hne2 : ∀ k, (Value.slice ad2 pn cp2).ownBlock = some k → k ≠ xa := fun k e => by have := hn2 k e; omega
      have hne1 : ∀ k, (Value.slice ad pn cp).ownBlock = some k → k ≠ xa := fun k e => by have := HNI.out k e; omega
      obtain ⟨W3, hW3⟩ : ∃ W3, W3 = (((w2.setCell ⟨xa, 0, none⟩ (.int .i64 pa)).setCell ⟨xa, 1, none⟩ (.int .i64 pb)).setCell ⟨xa, 2, none⟩ (.slice ad2 pn cp2)) := ⟨_, rfl⟩
      have HP3 : Hid (PicIn W3 xa pa pb (.slice ad2 pn cp2)) := hW3 ▸ (HAW.out.below hb2).put pa pb (.slice ad2 pn cp2)
      have d0 : W3.cell? ⟨xc, 0, none⟩ = some (.bool al) := hW3 ▸ cell_put3 (cell_below hb2 k0) hxn
      have d1 : W3.cell? ⟨xc, 1, none⟩ = some (.int .i64 X) := hW3 ▸ cell_put3 (cell_below hb2 k1) hxn
      have d2 : W3.cell? ⟨xc, 2, none⟩ = some (.int .i64 Y) := hW3 ▸ cell_put3 (cell_below hb2 k2) hxn
      have d3 : W3.cell? ⟨xc, 3, none⟩ = some (.slice ad pn cp) := hW3 ▸ cell_put3 (cell_below hb2 k3) hxn
      have HI3 : Hid (IntsIn W3 (.slice ad pn cp) pn F) := hW3 ▸ ints_set (o := 2) (ints_set (o := 1) (ints_set (o := 0) (HIW.out.below hb2) hne1 (.int .i64 pa)) hne1 (.int .i64 pb)) hne1 (.slice ad2 pn cp2)
      have HT3 : Hid (IntsIn W3 (.slice ad2 pn cp2) pn Tj) := hW3 ▸ ints_set (o := 2) (ints_set (o := 1) (ints_set (o := 0) hi2 hne2 (.int .i64 pa)) hne2 (.int .i64 pb)) hne2 (.slice ad2 pn cp2)
      have HR3 : Hid (CodR W3 BB (.slice adu j cpu) j C) := hW3 ▸ ((((HR.out.below HBW.out).below hb2).set hxa2 0 (.int .i64 pa)).set hxa2 1 (.int .i64 pb)).set hxa2 2 (.slice ad2 pn cp2)
      have HB3 : Hid (Below w.heap.size w W3) := hW3 ▸ (((below_two (below_two HB.out HBW.out) hb2).setCell (p := ⟨xa, 0, none⟩) hxw (.int .i64 pa)).setCell (p := ⟨xa, 1, none⟩) hxw (.int .i64 pb)).setCell (p := ⟨xa, 2, none⟩) hxw (.slice ad2 pn cp2)
      have hz3 : W3.heap.size = w2.heap.size := by rw [hW3]; simp
      have HN2 : Hid (∀ k, (Value.slice ad2 pn cp2).ownBlock = some k → wr.heap.size ≤ k) := fun k e => by have := hn2 k e; omega
      clear hi2 hb2 hn2 hne1 hne2 k0 k1 k2 k3
      go_upto_region 17 with fail
      rw [← hW3]
      clear hW3 a0 a1 a2 g0 g1 g2
      obtain ⟨S, hS⟩ := HR3.out
      have HSx := hide hS
      clear hS
      have hszc : BB ≤ W3.heap.size := by omega
      have HZ3 := hide hz3
      clear hz3
      go_wp2_with (at_builtin; refine wpList_append_lies _ rfl _ _ 30 rfl BB 36 i0 (.agg #[.bool false, .int .i64 0, .int .i64 0, .slice none 0 0]) 4 48 Try.underlying30 Hi.out Hz0.out Hz1.out Hz2.out rfl (by decide) _ _ _ rfl (HSx.out.own.alloc _) ⟨W3.heap.size, 0, none⟩ 1 1 [.bool al, .int .i64 X, .int .i64 Y, .slice ad pn cp] rfl rfl (World.news_of_block (cs := #[.bool al, .int .i64 X, .int .i64 Y, .slice ad pn cp]) (t := 36) (fr := (0, 0)) (heap_alloc_new W3 _)) (fun x hx => by simp at hx; rcases hx with rfl | rfl | rfl | rfl <;> rfl) (by decide) (by unfold maxLen; omega) (by omega) (by simp; omega) _ rfl ?_; intro g3 cap3 w5 hown3 hgrow3 hat3 hlt3)
      go_roundw
      case rel =>
        have hB5 : Below BB W3 w5 := ((Below.refl BB W3).alloc (by omega) _).grown hgrow3 (by simp; omega) (fun q hq => (HSx.out.own.lt q hq).1)
        have HCR : Hid (CodR w5 BB (.slice (some ⟨g3, 0, none⟩) (j + 1) cap3) (j + 1) C) := by
          refine CodR.snoc (s := .slice ad pn cp) HSx.out ?_ hgrow3 hat3 ?_ (fun k e => ?_) (fun k e e2 => ?_)
          · rw [HCe.out]; exact hown3
          · rw [HCe.out]; exact HI3.out
          · have := HNI.out k e; omega
          · have h1 := HNI.out k e; have h2 := HOB.out k e2; omega
        have HLs : Hid (AhdS w5 xa pa pb (j + 1) pn T BB (.slice (some ⟨g3, 0, none⟩) (j + 1) cap3) ad2 pn cp2 Tj) := by
          refine ⟨HP3.out.mono hB5 hxa2, ?_, fun _ => ⟨rfl, by rw [Nat.add_sub_cancel, HTj.out]⟩, fun k e => ?_, fun k e e2 => ?_⟩
          · refine ints_other HT3.out (fun h0 k e => ?_)
            have hk := ints_lt HT3.out h0 k e
            have h1 := HN2.out k e
            rw [hgrow3.block k (by simp; omega) (fun e2 => by have h2 := HOB.out k e2.symm; omega)]
            exact ((Below.refl W3.heap.size W3).alloc (Nat.le_refl _) _).block k hk
          · have := HN2.out k e; omega
          · have e3 : g3 = k := by simpa [Value.ownBlock] using e2
            subst e3
            have h1 := HN2.out g3 e
            have hz3 := HZ3.out
            rcases hat3 with hat | hat
            · have h2 := HOB.out g3 hat; omega
            · have hk := ints_lt HT3.out Hp0.out g3 e
              have hat' : g3 = W3.heap.size + 1 := by rw [hat]; simp
              omega
        have HZ5 : Hid (BB ≤ w5.heap.size) := Nat.le_trans hszc hB5.size
        have R : j + 1 ≤ N ∧ Value.int .i64 ((j : Int) + 1) = .int .i64 ((j + 1 : Nat) : Int) ∧ Value.slice (some ⟨g3, 0, none⟩) (j + 1) cap3 = .slice (some ⟨g3, 0, none⟩) (j + 1) cap3 ∧ Hid (CodR w5 BB (.slice (some ⟨g3, 0, none⟩) (j + 1) cap3) (j + 1) C) ∧ Hid (AhdS w5 xa pa pb (j + 1) pn T BB (.slice (some ⟨g3, 0, none⟩) (j + 1) cap3) ad2 pn cp2 Tj) ∧ Hid (BB ≤ w5.heap.size) ∧ Below w.heap.size w w5 :=
          ⟨by omega, by simp, rfl, HCR, HLs, HZ5, HB3.out.trans (hB5.mono (by omega))⟩
        first
          | exact ⟨j + 1, some ⟨g3, 0, none⟩, cap3, ad2, pn, cp2, Tj, R⟩
          | ((repeat apply Exists.intro); exact ⟨⟨j + 1, some ⟨g3, 0, none⟩, cap3, ad2, pn, cp2, Tj, R⟩, rfl⟩)
      case measure => simp [intOf]; omega
    · obtain rfl : j = N := by omega
      go_wp2
      go_ret2
      exact ⟨_, rfl, HR.out.cods, HB.out⟩
end Go.Proofs.Ytfgcngjggdjcjaa

namespace Go.Proofs.Ytfgcngjggdjcjaa
open Go.RowKit
set_option linter.unusedVariables false
set_option maxRecDepth 100000

theorem seeF_cnt {a b s : Int} {N : Nat} {C : Nat → Cd} (h : cntF N ≠ 0) : seeF a b s N C = cntF N := by
  unfold cntF at h ⊢
  unfold seeF
  by_cases h0 : N = 0
  · rw [if_pos h0, if_pos h0]
  · by_cases h6 : 6 < N
    · rw [if_neg h0, if_pos h6, if_neg h0, if_pos h6]
    · rw [if_neg h0, if_neg h6] at h; exact absurd rfl h
theorem sidF_in {a b s : Int} : sidF a b s = if ((inOk a 6 && inOk b 6) && inOk s 64) = true then 0 else 1 := by
  unfold sidF
  by_cases h : ((inOk a 6 && inOk b 6) && inOk s 64) = true
  · rw [if_pos h]
    rw [Bool.and_eq_true, Bool.and_eq_true, inOk_iff, inOk_iff, inOk_iff] at h
    rw [if_pos ⟨h.1.1.1, h.1.1.2, h.1.2.1, h.1.2.2, h.2.1, h.2.2⟩]
  · rw [if_neg h, if_neg]
    intro h2
    apply h
    rw [Bool.and_eq_true, Bool.and_eq_true, inOk_iff, inOk_iff, inOk_iff]
    exact ⟨⟨⟨h2.1, h2.2.1⟩, ⟨h2.2.2.1, h2.2.2.2.1⟩⟩, h2.2.2.2.2⟩
theorem seeF_sid {a b s : Int} {N : Nat} {C : Nat → Cd} (h1 : 1 ≤ N) (h6 : N ≤ 6) (h : sidF a b s ≠ 0) : seeF a b s N C = 1 := by
  unfold seeF
  rw [if_neg (by omega), if_neg (by omega), if_pos h]
theorem seeF_al {a b s : Int} {N : Nat} {C : Nat → Cd} (h1 : 1 ≤ N) (h6 : N ≤ 6) (h : sidF a b s = 0) (ha : (C 0).al = false) : seeF a b s N C = 3 := by
  unfold seeF
  rw [if_neg (by omega), if_neg (by omega), if_neg (by omega), if_pos ha]
theorem seeF_see {a b s : Int} {N : Nat} {C : Nat → Cd} (h1 : 1 ≤ N) (h6 : N ≤ 6) (h : sidF a b s = 0) (ha : (C 0).al = true) : seeF a b s N C = (seeS a b s C N).1 := by
  unfold seeF
  rw [if_neg (by omega), if_neg (by omega), if_neg (by omega), if_neg (by rw [ha]; simp)]

set_option maxHeartbeats 2000000 in
theorem fdec_bad {w : World} {v : Value} {N : Nat} {C : Nat → Cd} (a b st : Int) (h : CodsIn w v N C) (hx : cntF N ≠ 0 ∨ sidF a b st ≠ 0 ∨ (C 0).al = false) :
    Calls Try.prog 6 #[.int .i64 a, .int .i64 b, .int .i64 st, v] w fun e w' => e = .returned (.tuple #[.slice none 0 0, errN (seeF a b st N C)]) ∧ Below w.heap.size w w' := by
  have K := hide (fun w => fcount_ok N w)
  obtain ⟨ad, cap, rfl, _, _, h3⟩ := h
  by_cases hc : cntF N = 0
  · obtain ⟨h1, h6⟩ := cntF_zero.1 hc
    obtain ⟨bb, o, rfl, hcs⟩ := h3 (by omega)
    obtain ⟨s0, hs0⟩ := hcs 0 (by omega)
    rw [show o + 0 * 4 = o by omega] at hs0
    obtain ⟨c0, _, _, _, _⟩ := hs0
    rw [hc] at K
    have hx2 := hx.resolve_left (by omega)
    clear hcs h3 hx hc
    have K1 := hide (fun w => fwithin_ok a 6 w)
    have K2 := hide (fun w => fwithin_ok b 6 w)
    have K3 := hide (fun w => fwithin_ok st 64 w)
    cases q1 : inOk a 6 with
    | false =>
      have HE := hide (seeF_sid (C := C) h1 h6 (by rw [sidF_in (a := a) (b := b) (s := st), q1]; simp))
      rw [q1] at K1
      clear hx2 q1 K2 K3
      go_enter Try.func6, Try.ntmps6
      go_wp2_with fail
      refine (K.out _).mono ?_
      rintro e w1 ⟨rfl, rfl⟩
      rw [errN_zero]
      go_wp2_with fail
      refine (K1.out _).mono ?_
      rintro e w2 ⟨rfl, rfl⟩
      go_wp2
      go_ret2
      exact ⟨by rw [HE.out]; rfl, Below.refl _ _⟩
    | true =>
      rw [q1] at K1
      cases q2 : inOk b 6 with
      | false =>
        have HE := hide (seeF_sid (C := C) h1 h6 (by rw [sidF_in (a := a) (b := b) (s := st), q1, q2]; simp))
        rw [q2] at K2
        clear hx2 q1 q2 K3
        go_enter Try.func6, Try.ntmps6
        go_wp2_with fail
        refine (K.out _).mono ?_
        rintro e w1 ⟨rfl, rfl⟩
        rw [errN_zero]
        go_wp2_with fail
        refine (K1.out _).mono ?_
        rintro e w2 ⟨rfl, rfl⟩
        go_wp2_with fail
        refine (K2.out _).mono ?_
        rintro e w2 ⟨rfl, rfl⟩
        go_wp2
        go_ret2
        exact ⟨by rw [HE.out]; rfl, Below.refl _ _⟩
      | true =>
        rw [q2] at K2
        cases q3 : inOk st 64 with
        | false =>
          have HE := hide (seeF_sid (C := C) h1 h6 (by rw [sidF_in (a := a) (b := b) (s := st), q1, q2, q3]; simp))
          rw [q3] at K3
          clear hx2 q1 q2 q3
          go_enter Try.func6, Try.ntmps6
          go_wp2_with fail
          refine (K.out _).mono ?_
          rintro e w1 ⟨rfl, rfl⟩
          rw [errN_zero]
          go_wp2_with fail
          refine (K1.out _).mono ?_
          rintro e w2 ⟨rfl, rfl⟩
          go_wp2_with fail
          refine (K2.out _).mono ?_
          rintro e w2 ⟨rfl, rfl⟩
          go_wp2_with fail
          refine (K3.out _).mono ?_
          rintro e w2 ⟨rfl, rfl⟩
          go_wp2
          go_ret2
          exact ⟨by rw [HE.out]; rfl, Below.refl _ _⟩
        | true =>
          have hs : sidF a b st = 0 := by rw [sidF_in, q1, q2, q3]; rfl
          have ha := hx2.resolve_left (by omega)
          have HE := hide (seeF_al (C := C) h1 h6 hs ha)
          rw [ha] at c0
          rw [q3] at K3
          clear hx2 q1 q2 q3 hs ha
          go_enter Try.func6, Try.ntmps6
          go_wp2_with fail
          refine (K.out _).mono ?_
          rintro e w1 ⟨rfl, rfl⟩
          rw [errN_zero]
          go_wp2_with fail
          refine (K1.out _).mono ?_
          rintro e w2 ⟨rfl, rfl⟩
          go_wp2_with fail
          refine (K2.out _).mono ?_
          rintro e w2 ⟨rfl, rfl⟩
          go_wp2_with fail
          refine (K3.out _).mono ?_
          rintro e w2 ⟨rfl, rfl⟩
          go_wp2
          go_ret2
          exact ⟨by rw [HE.out]; rfl, Below.refl _ _⟩
  · have HE := hide (seeF_cnt (a := a) (b := b) (s := st) (C := C) hc)
    have HN := hide (errN_pos hc)
    clear h3 hx
    generalize cntF N = k at *
    clear hc
    go_enter Try.func6, Try.ntmps6
    go_wp2_with fail
    refine (K.out _).mono ?_
    rintro e w1 ⟨rfl, rfl⟩
    rw [HN.out]
    go_wp2
    go_ret2
    exact ⟨by rw [HE.out, HN.out]; rfl, Below.refl _ _⟩
end Go.Proofs.Ytfgcngjggdjcjaa

namespace Go.Proofs.Ytfgcngjggdjcjaa
open Go.RowKit
set_option linter.unusedVariables false
set_option maxRecDepth 100000

def opsGx0 : Oper := { dst := some 54, op := Op.load 25 (Operand.tmp 11), type := 25, pos := "film.go:49", after := #[], guard := none }
def opsGx1 : Oper := { dst := some 55, op := Op.move (Operand.tmp 3), type := 30, pos := "film.go:49", after := #[], guard := none }
def opsGx2 : Oper := { dst := some 56, op := Op.move (Operand.tmp 13), type := 3, pos := "film.go:49", after := #[], guard := none }
def opsGx3 : Oper := { dst := some 57, op := Op.indexAddr 30 (Operand.tmp 55) (Operand.tmp 56), type := 0, pos := "film.go:49", after := #[{ on := 1, ground := Ground.data }, { on := 2, ground := Ground.data }], guard := none }
def opsGx4 : Oper := { dst := some 58, op := Op.load 36 (Operand.tmp 57), type := 36, pos := "film.go:49", after := #[{ on := 3, ground := Ground.data }], guard := none }
def opsGx5 : Oper := { dst := some 59, op := Op.move (Operand.tmp 2), type := 3, pos := "film.go:49", after := #[], guard := none }
def opsGx6 : Oper := { dst := some 60, op := Op.call { callee := Callee.value (Operand.func 16), args := #[Operand.tmp 54, Operand.tmp 58, Operand.tmp 59], argTypes := #[25, 36, 3] }, type := 28, pos := "film.go:49", after := #[{ on := 0, ground := Ground.data }, { on := 4, ground := Ground.data }, { on := 5, ground := Ground.data }], guard := none }
def opsGx7 : Oper := { dst := some 53, op := Op.move (Operand.tmp 60), type := 28, pos := "film.go:49", after := #[{ on := 6, ground := Ground.data }], guard := none }
def opsGx8 : Oper := { dst := some 61, op := Op.extract (Operand.tmp 53) 0, type := 25, pos := "film.go:49", after := #[{ on := 7, ground := Ground.data }], guard := none }
def opsGx9 : Oper := { dst := some 62, op := Op.extract (Operand.tmp 53) 1, type := 27, pos := "film.go:49", after := #[{ on := 7, ground := Ground.data }, { on := 11, ground := Ground.gcOnly Departure.lateStores }], guard := none }
def opsGx10 : Oper := { dst := some 14, op := Op.alloc 25, type := 0, pos := "film.go:49", after := #[], guard := none }
def opsGx11 : Oper := { dst := none, op := Op.store 25 (Operand.tmp 14) (Operand.tmp 61), type := 0, pos := "film.go:49", after := #[{ on := 10, ground := Ground.data }, { on := 8, ground := Ground.data }, { on := 6, ground := Ground.chain }, { on := 0, ground := Ground.phase }, { on := 1, ground := Ground.phase }, { on := 2, ground := Ground.phase }, { on := 3, ground := Ground.phase }, { on := 4, ground := Ground.phase }, { on := 5, ground := Ground.phase }, { on := 6, ground := Ground.phase }, { on := 7, ground := Ground.phase }, { on := 8, ground := Ground.phase }, { on := 9, ground := Ground.textOnly Departure.lateStores }, { on := 10, ground := Ground.phase }], guard := none }
def opsGx12 : Oper := { dst := some 15, op := Op.assign (Operand.tmp 62), type := 27, pos := "film.go:49", after := #[{ on := 9, ground := Ground.data }, { on := 11, ground := Ground.chain }, { on := 0, ground := Ground.phase }, { on := 1, ground := Ground.phase }, { on := 2, ground := Ground.phase }, { on := 3, ground := Ground.phase }, { on := 4, ground := Ground.phase }, { on := 5, ground := Ground.phase }, { on := 6, ground := Ground.phase }, { on := 7, ground := Ground.phase }, { on := 8, ground := Ground.phase }, { on := 9, ground := Ground.phase }, { on := 10, ground := Ground.phase }, { on := 11, ground := Ground.phase }], guard := none }
def opsG : Array Oper := #[opsGx0, opsGx1, opsGx2, opsGx3, opsGx4, opsGx5, opsGx6, opsGx7, opsGx8, opsGx9, opsGx10, opsGx11, opsGx12]
theorem atopsGx0 : opsG[0]? = some opsGx0 := rfl
theorem atopsGx1 : opsG[1]? = some opsGx1 := rfl
theorem atopsGx2 : opsG[2]? = some opsGx2 := rfl
theorem atopsGx3 : opsG[3]? = some opsGx3 := rfl
theorem atopsGx4 : opsG[4]? = some opsGx4 := rfl
theorem atopsGx5 : opsG[5]? = some opsGx5 := rfl
theorem atopsGx6 : opsG[6]? = some opsGx6 := rfl
theorem atopsGx7 : opsG[7]? = some opsGx7 := rfl
theorem atopsGx8 : opsG[8]? = some opsGx8 := rfl
theorem atopsGx9 : opsG[9]? = some opsGx9 := rfl
theorem atopsGx10 : opsG[10]? = some opsGx10 := rfl
theorem atopsGx11 : opsG[11]? = some opsGx11 := rfl
theorem atopsGx12 : opsG[12]? = some opsGx12 := rfl

set_option maxHeartbeats 1000000 in
theorem regionG {Q : Exit → Act → World → Prop} {a : Act} {w : World} (bb o N cap j x11 : Nat) (st : Int) (ca ck : Array Value) (er : Value) (cc : Option Addr → Nat → Array Value) (R : World → World → Option Addr → Nat → Prop) (hs : a.tmps.size = 73)
    (h3 : a.eval (.tmp 3) = (.slice (some ⟨bb, o, none⟩) N cap)) (h2 : a.eval (.tmp 2) = .int .i64 st) (h11 : a.eval (.tmp 11) = .pointer (some ⟨x11, 0, none⟩)) (h13 : a.eval (.tmp 13) = .int .i64 j) (hj : j < N) (hN : N ≤ 6) (hca : ca.size = 3) (hck : ck.size = 4) (hra : w.rangeAt x11 0 ca.toList) (hrk : w.rangeAt bb (o + j * 4) ck.toList)
    (hcs : ∀ ad cp, (cc ad cp).size = 3) (hone : ∀ ad cp, (cc ad cp).all (·.oneCell') = true)
    (hR1 : ∀ W W1 W2 ad cp, R W W1 ad cp → Below W1.heap.size W1 W2 → R W W2 ad cp)
    (hR2 : ∀ W W1 ad cp (x : Nat) cells {W2 : World}, R W W1 ad cp → Below W1.heap.size W1 W2 → W.heap.size ≤ W1.heap.size → R W (W2.setCells W1.heap.size 0 cells) ad cp)
    (hR3 : ∀ W W1 ad cp (x : Nat) cells, R W W1 ad cp → x < W.heap.size → R W (W1.setCells x 0 cells) ad cp)
    (KC : ∀ W, Below w.heap.size w W → Calls Try.prog 16 #[.agg ca, .agg ck, .int .i64 st] W fun e w' => ∃ ad cp, e = .returned (.tuple #[.agg (cc ad cp), er]) ∧ R W w' ad cp ∧ Below W.heap.size W w')
    (hQ : ∀ c a (d : Tmp) v w, Q (.panic c) (Act.put a (some d) v) w → Q (.panic c) a w)
    (hend : ∀ W W0 ad cp x, Below w.heap.size w W → Below w.heap.size w W0 → w.heap.size ≤ x → W.rangeAt x 0 (cc ad cp).toList → W.there x 0 3 → R W0 W ad cp → Q .normal ((((((((((((a.put (some 54) (.agg ca)).put (some 55) (.slice (some ⟨bb, o, none⟩) N cap)).put (some 56) (.int .i64 j)).put (some 57) (.pointer (some ⟨bb, o + j * 4, none⟩))).put (some 58) (.agg ck)).put (some 59) (.int .i64 st)).put (some 60) (.tuple #[.agg (cc ad cp), er])).put (some 53) (.tuple #[.agg (cc ad cp), er])).put (some 61) (.agg (cc ad cp))).put (some 62) er).put (some 14) (.pointer (some ⟨x, 0, none⟩))).put (some 15) er) W) :
    (Code.region 13 opsG true).wp Try.prog Q a w := by
  refine wp_region_held (S := fun W => Below w.heap.size w W) (by kernel_rfl) ?_
  show wpAnyH _ _ _ _ _ 13 (Array.replicate 13 false) a w.drew
  have hb0 : Below w.heap.size w w.drew := (Below.refl _ _).drew
  generalize w.drew = w0 at *
  refine anyH_take (i := 0) (d := 54) (v := (.agg ca)) atopsGx0 rfl (by kernel_rfl) (by kernel_rfl) (by kernel_rfl) rfl hQ hb0 (fun W hW => (run_load rfl h11 (load_pic x11 0 ca W hca (range_below hra hW)))) ?_
  refine anyH_take (i := 1) (d := 55) (v := (.slice (some ⟨bb, o, none⟩) N cap)) atopsGx1 rfl (by kernel_rfl) (by kernel_rfl) (by kernel_rfl) rfl hQ hb0 (fun W hW => (run_move rfl (Act.ev_ne (by decide) h3) W)) ?_
  refine anyH_take (i := 2) (d := 56) (v := (.int .i64 j)) atopsGx2 rfl (by kernel_rfl) (by kernel_rfl) (by kernel_rfl) rfl hQ hb0 (fun W hW => (run_move rfl (Act.ev_ne (by decide) (Act.ev_ne (by decide) h13)) W)) ?_
  refine anyH_take (i := 3) (d := 57) (v := (.pointer (some ⟨bb, o + j * 4, none⟩))) atopsGx3 rfl (by kernel_rfl) (by kernel_rfl) (by kernel_rfl) rfl hQ hb0 (fun W hW => (run_index rfl (Act.ev_ne (by decide) (Act.ev_eq (Act.sz hs) (by decide))) (Act.ev_eq (Act.sz (Act.sz hs)) (by decide)) (idx_cod bb o N cap j W hj hN))) ?_
  refine anyH_take (i := 4) (d := 58) (v := (.agg ck)) atopsGx4 rfl (by kernel_rfl) (by kernel_rfl) (by kernel_rfl) rfl hQ hb0 (fun W hW => (run_load rfl (Act.ev_eq (Act.sz (Act.sz (Act.sz hs))) (by decide)) (load_cod bb (o + j * 4) ck W hck (range_below hrk hW)))) ?_
  refine anyH_take (i := 5) (d := 59) (v := (.int .i64 st)) atopsGx5 rfl (by kernel_rfl) (by kernel_rfl) (by kernel_rfl) rfl hQ hb0 (fun W hW => (run_move rfl (Act.ev_ne (by decide) (Act.ev_ne (by decide) (Act.ev_ne (by decide) (Act.ev_ne (by decide) (Act.ev_ne (by decide) h2))))) W)) ?_
  refine anyH_two (i := 6) (j := 10) (by kernel_rfl) atopsGx6 rfl atopsGx10 rfl (fun K hK => ?_) (fun K hK => ?_)
  · refine wp_call_at (R := fun v w' => ∃ ad cp, v = (.tuple #[.agg (cc ad cp), er]) ∧ R w0 w' ad cp ∧ Below w0.heap.size w0 w') #[.agg ca, .agg ck, .int .i64 st] (d := 60) rfl rfl (map_three (Act.ev_ne (by decide) (Act.ev_ne (by decide) (Act.ev_ne (by decide) (Act.ev_ne (by decide) (Act.ev_ne (by decide) (Act.ev_eq hs (by decide))))))) (Act.ev_ne (by decide) (Act.ev_eq (Act.sz (Act.sz (Act.sz (Act.sz hs)))) (by decide))) (Act.ev_eq (Act.sz (Act.sz (Act.sz (Act.sz (Act.sz hs))))) (by decide))) (by go_simp) ((KC w0 hb0).mono fun e w' h => by obtain ⟨ad, cp, he, hr, hb⟩ := h; exact ⟨_, he, ad, cp, rfl, hr, hb⟩) (fun v w1 hv => ?_)
    obtain ⟨ad, cp, rfl, hr, hb⟩ := hv
    have hbw1 := below_two hb0 hb
    refine hK _ _ hbw1 ?_
    clear hK
    refine anyH_take (i := 7) (d := 53) (v := (.tuple #[.agg (cc ad cp), er])) atopsGx7 rfl (by kernel_rfl) (by kernel_rfl) (by kernel_rfl) rfl hQ hbw1 (fun W hW => (run_move rfl (Act.ev_eq (Act.sz (Act.sz (Act.sz (Act.sz (Act.sz (Act.sz hs)))))) (by decide)) W)) ?_
    refine anyH_take (i := 8) (d := 61) (v := (.agg (cc ad cp))) atopsGx8 rfl (by kernel_rfl) (by kernel_rfl) (by kernel_rfl) rfl hQ hbw1 (fun W hW => (run_extract rfl (Act.ev_eq (Act.sz (Act.sz (Act.sz (Act.sz (Act.sz (Act.sz (Act.sz hs))))))) (by decide)) (ext_fst _ _ _ W))) ?_
    refine anyH_take (i := 9) (d := 62) (v := er) atopsGx9 rfl (by kernel_rfl) (by kernel_rfl) (by kernel_rfl) rfl hQ hbw1 (fun W hW => (run_extract rfl (Act.ev_ne (by decide) (Act.ev_eq (Act.sz (Act.sz (Act.sz (Act.sz (Act.sz (Act.sz (Act.sz hs))))))) (by decide))) (ext_snd _ _ _ W))) ?_
    refine anyH_one (i := 10) (by kernel_rfl) atopsGx10 rfl (fun K hK => ?_)
    have hba := (Below.refl w1.heap.size w1).alloc (Nat.le_refl _) (.cells #[.int .i64 0, .int .i64 0, .slice none 0 0] 25)
    have hbw2 := below_two hbw1 hba
    refine wp_value_to (d := 14) rfl (run_alloc rfl (alloc_pic w1)) (hK _ _ hbw2 ?_)
    clear hK K
    have ht := there_new w1 #[.int .i64 0, .int .i64 0, .slice none 0 0] 25
    have hr2 := hR1 _ _ _ _ _ hr hba
    have hx := hbw1.size
    have hle := hb.size
    have hr3 := fun cells => hR2 w0 _ ad cp w1.heap.size cells hr hba hle
    generalize w1.alloc (.cells #[.int .i64 0, .int .i64 0, .slice none 0 0] 25) = w2 at *
    refine anyH_one (i := 11) (by kernel_rfl) atopsGx11 rfl (fun K hK => ?_)
    refine wp_store_at 25 _ _ rfl rfl w1.heap.size 0 (cc ad cp) (Act.ev_eq (Act.sz (Act.sz (Act.sz (Act.sz (Act.sz (Act.sz (Act.sz (Act.sz (Act.sz (Act.sz hs)))))))))) (by decide)) (Act.ev_ne (by decide) (Act.ev_ne (by decide) (Act.ev_eq (Act.sz (Act.sz (Act.sz (Act.sz (Act.sz (Act.sz (Act.sz (Act.sz hs)))))))) (by decide)))) (by rw [hcs]; exact ht) (by rw [hcs]; exact Try.sizePic) (hone _ _) (hK _ _ (sets_belowF hx _ _ _ hbw2) ?_)
    clear hK K
    have hth : w2.there w1.heap.size 0 (cc ad cp).size := by rw [hcs]; exact ht
    have hrg := World.rangeAt_setCells_same w2 w1.heap.size 0 (cc ad cp).toList (by rw [Array.length_toList]; exact hth)
    have htt := World.there_setCells (ht) w1.heap.size 0 (cc ad cp).toList
    refine anyH_one (i := 12) (by kernel_rfl) atopsGx12 rfl (fun K hK => ?_)
    refine wp_value_at (d := 15) rfl (run_assign rfl (Act.ev_ne (by decide) (Act.ev_eq (Act.sz (Act.sz (Act.sz (Act.sz (Act.sz (Act.sz (Act.sz (Act.sz (Act.sz hs))))))))) (by decide))) _) (hK _ _ (sets_belowF hx _ _ _ hbw2) ?_)
    clear hK K
    exact wpAnyH_done (by kernel_rfl) (hend _ _ ad cp w1.heap.size (sets_belowF hx _ _ _ hbw2) hb0 hx hrg htt (hr3 _)) _
  · have hba := (Below.refl w0.heap.size w0).alloc (Nat.le_refl _) (.cells #[.int .i64 0, .int .i64 0, .slice none 0 0] 25)
    have hbw1 := below_two hb0 hba
    refine wp_value_to (d := 14) rfl (run_alloc rfl (alloc_pic w0)) (hK _ _ hbw1 ?_)
    clear hK
    have ht := there_new w0 #[.int .i64 0, .int .i64 0, .slice none 0 0] 25
    have hx := hb0.size
    have hlt : w0.heap.size < (w0.alloc (.cells #[.int .i64 0, .int .i64 0, .slice none 0 0] 25)).heap.size := by simp
    generalize w0.heap.size = x at *
    generalize w0.alloc (.cells #[.int .i64 0, .int .i64 0, .slice none 0 0] 25) = w1 at *
    refine anyH_one (i := 6) (by kernel_rfl) atopsGx6 rfl (fun K1 hK1 => ?_)
    refine wp_call_at (R := fun v w' => ∃ ad cp, v = (.tuple #[.agg (cc ad cp), er]) ∧ R w1 w' ad cp ∧ Below w1.heap.size w1 w') #[.agg ca, .agg ck, .int .i64 st] (d := 60) rfl rfl (map_three (Act.ev_ne (by decide) (Act.ev_ne (by decide) (Act.ev_ne (by decide) (Act.ev_ne (by decide) (Act.ev_ne (by decide) (Act.ev_ne (by decide) (Act.ev_eq hs (by decide)))))))) (Act.ev_ne (by decide) (Act.ev_ne (by decide) (Act.ev_eq (Act.sz (Act.sz (Act.sz (Act.sz hs)))) (by decide)))) (Act.ev_ne (by decide) (Act.ev_eq (Act.sz (Act.sz (Act.sz (Act.sz (Act.sz hs))))) (by decide)))) (by go_simp) ((KC w1 hbw1).mono fun e w' h => by obtain ⟨ad, cp, he, hr, hb⟩ := h; exact ⟨_, he, ad, cp, rfl, hr, hb⟩) (fun v w2 hv => ?_)
    obtain ⟨ad, cp, rfl, hr, hb⟩ := hv
    have hbw2 := below_two hbw1 hb
    refine hK1 _ _ hbw2 ?_
    clear hK1
    refine anyH_take (i := 7) (d := 53) (v := (.tuple #[.agg (cc ad cp), er])) atopsGx7 rfl (by kernel_rfl) (by kernel_rfl) (by kernel_rfl) rfl hQ hbw2 (fun W hW => (run_move rfl (Act.ev_eq (Act.sz (Act.sz (Act.sz (Act.sz (Act.sz (Act.sz (Act.sz hs))))))) (by decide)) W)) ?_
    refine anyH_take (i := 8) (d := 61) (v := (.agg (cc ad cp))) atopsGx8 rfl (by kernel_rfl) (by kernel_rfl) (by kernel_rfl) rfl hQ hbw2 (fun W hW => (run_extract rfl (Act.ev_eq (Act.sz (Act.sz (Act.sz (Act.sz (Act.sz (Act.sz (Act.sz (Act.sz hs)))))))) (by decide)) (ext_fst _ _ _ W))) ?_
    refine anyH_take (i := 9) (d := 62) (v := er) atopsGx9 rfl (by kernel_rfl) (by kernel_rfl) (by kernel_rfl) rfl hQ hbw2 (fun W hW => (run_extract rfl (Act.ev_ne (by decide) (Act.ev_eq (Act.sz (Act.sz (Act.sz (Act.sz (Act.sz (Act.sz (Act.sz (Act.sz hs)))))))) (by decide))) (ext_snd _ _ _ W))) ?_
    rw [Act.put_swap _ (.pointer (some ⟨x, 0, none⟩)) (.tuple #[.agg (cc ad cp), er]) (show (14 : Nat) ≠ 60 by decide), Act.put_swap _ (.pointer (some ⟨x, 0, none⟩)) (.tuple #[.agg (cc ad cp), er]) (show (14 : Nat) ≠ 53 by decide), Act.put_swap _ (.pointer (some ⟨x, 0, none⟩)) (.agg (cc ad cp)) (show (14 : Nat) ≠ 61 by decide), Act.put_swap _ (.pointer (some ⟨x, 0, none⟩)) er (show (14 : Nat) ≠ 62 by decide)]
    have ht2 := there_below ht hb
    have hr3 := fun cells => hR3 w1 w2 ad cp x cells hr hlt
    refine anyH_one (i := 11) (by kernel_rfl) atopsGx11 rfl (fun K hK => ?_)
    refine wp_store_at 25 _ _ rfl rfl x 0 (cc ad cp) (Act.ev_eq (Act.sz (Act.sz (Act.sz (Act.sz (Act.sz (Act.sz (Act.sz (Act.sz (Act.sz (Act.sz hs)))))))))) (by decide)) (Act.ev_ne (by decide) (Act.ev_ne (by decide) (Act.ev_eq (Act.sz (Act.sz (Act.sz (Act.sz (Act.sz (Act.sz (Act.sz (Act.sz hs)))))))) (by decide)))) (by rw [hcs]; exact ht2) (by rw [hcs]; exact Try.sizePic) (hone _ _) (hK _ _ (sets_belowF hx _ _ _ hbw2) ?_)
    clear hK K
    have hth : w2.there x 0 (cc ad cp).size := by rw [hcs]; exact ht2
    have hrg := World.rangeAt_setCells_same w2 x 0 (cc ad cp).toList (by rw [Array.length_toList]; exact hth)
    have htt := World.there_setCells (ht2) x 0 (cc ad cp).toList
    refine anyH_one (i := 12) (by kernel_rfl) atopsGx12 rfl (fun K hK => ?_)
    refine wp_value_at (d := 15) rfl (run_assign rfl (Act.ev_ne (by decide) (Act.ev_eq (Act.sz (Act.sz (Act.sz (Act.sz (Act.sz (Act.sz (Act.sz (Act.sz (Act.sz hs))))))))) (by decide))) _) (hK _ _ (sets_belowF hx _ _ _ hbw2) ?_)
    clear hK K
    exact wpAnyH_done (by kernel_rfl) (hend _ _ ad cp x (sets_belowF hx _ _ _ hbw2) hbw1 hx hrg htt (hr3 _)) _
end Go.Proofs.Ytfgcngjggdjcjaa
