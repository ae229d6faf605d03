/-
  Lemmas for the law above, joined into one text (EarHearW). No statement is proved here.
-/
import Derived.Test.YtjhflcgphejddaaGreatDoorZG31
namespace Go.Proofs.YtjhflcgphejddaaGreatDoor
open Go.RowKit Go.Maps
set_option linter.unusedVariables false
set_option maxRecDepth 100000

theorem eF_ok {k z : Nat} {F : List Drp} {s : Int} {n : Nat} (h : eF k z F s n = 0) : fD k z s n = 0 ∧ F.length < 60 := by
  unfold eF at h
  by_cases c : fD k z s n = 0
  · rw [if_neg (by simpa using c)] at h
    by_cases d : 60 ≤ F.length
    · rw [if_pos d] at h; cases h
    · exact ⟨c, by omega⟩
  · rw [if_pos c] at h; exact absurd h c
theorem sds_add (F : List Drp) (s : Nat) (d : ByteArray) : sds (F ++ [(s, d)]) = sds F ++ [s] := by simp [sds]
theorem eAdd_in {F : List Drp} {s : Nat} (d : ByteArray) (h : s ∈ sds F) : eAdd F s d = F := if_pos h
theorem eAdd_out {F : List Drp} {s : Nat} (d : ByteArray) (h : s ∉ sds F) : eAdd F s d = F ++ [(s, d)] := if_neg h
/-- Three numbers, as they lie. -/
def Tri (w : World) (b : Nat) : Prop := ∃ x y z : Int, w.cell? ⟨b, 0, none⟩ = some (.int .i64 x) ∧ w.cell? ⟨b, 1, none⟩ = some (.int .i64 y) ∧ w.cell? ⟨b, 2, none⟩ = some (.int .i64 z) ∧ ∀ i, w.frozen? ⟨b, i, none⟩ = false
theorem Tri.of_block {w w' : World} {b : Nat} (h : Tri w b) (hb : w'.heap[b]? = w.heap[b]?) : Tri w' b := by
  obtain ⟨x, y, z, h1, h2, h3, h4⟩ := h
  exact ⟨x, y, z, (World.cell?_of_block (w := w) hb).trans h1, (World.cell?_of_block (w := w) hb).trans h2, (World.cell?_of_block (w := w) hb).trans h3, fun i => (World.frozen?_of_block (w := w) hb).trans (h4 i)⟩
theorem Tri.below {w w' : World} {b : Nat} (h : Tri w b) (hb : Below w.heap.size w w') : Tri w' b := by
  have hl : b < w.heap.size := by obtain ⟨x, y, z, h1, _⟩ := h; exact cell_lt h1
  exact h.of_block (hb.block b hl)
theorem tri_new (w : World) (t : TypeId) : Tri (w.alloc (.cells #[.int .i64 0, .int .i64 0, .int .i64 0] t)) w.heap.size := by
  have hh := (MapKept.heap_alloc w (.cells #[.int .i64 0, .int .i64 0, .int .i64 0] t)).1
  have hcell : ∀ i, (w.alloc (.cells #[.int .i64 0, .int .i64 0, .int .i64 0] t)).cell? ⟨w.heap.size, i, none⟩ = (#[.int .i64 0, .int .i64 0, .int .i64 0] : Array Value)[i]? := fun i => cell_of_row _ _ i _ t (0, 0) hh
  exact ⟨0, 0, 0, by rw [hcell]; rfl, by rw [hcell]; rfl, by rw [hcell]; rfl, fun i => by simp only [World.frozen?, hh]; simp⟩
set_option maxHeartbeats 8000000 in
theorem hear_ok {I : PIm0} (hI : PtrI I) {w : World} {v : Value} {k z n : Nat} {dr : Int} {F : List Drp} {M : Nat → Prop} (h : ESt I w v k z n dr F M) (seed : Nat) (data : ByteArray) (hf : eF k z F seed data.size = 0) (hdr : -9223372036854775808 ≤ dr ∧ dr ≤ 9223372036854775807) :
    Calls Tryz.prog 12 #[v, dropV seed data] w fun e w' => ∃ q, Took (setL k) q (eAdd F seed data) ∧ e = .returned (.tuple #[heardV (wrap64 (dr + 1)) (eAdd F seed data).length (knows k q.known).length, .nilIface]) ∧ ESt I w' v k z n (wrap64 (dr + 1)) (eAdd F seed data) (plusM M w w') ∧ Kept M w w' := by
  obtain ⟨b, vP, vF, p, rfl, hE, hT, hO⟩ := h
  obtain ⟨hfd, h60⟩ := eF_ok hf
  have hok := fD_ok hfd
  have hsd : 1 ≤ seed ∧ seed ≤ 10000 := by have := hok.1; unfold OkD at this; omega
  have hdz : data.size ≤ 8 := by have := hok.1; have := hok.2; unfold OkD at *; omega
  have hb0 : Below w.heap.size w (w.alloc (.cells #[.int .i64 seed, .string data] 43)) := (Below.refl _ _).alloc (Nat.le_refl _) _
  have hb1 : Below w.heap.size w ((w.alloc (.cells #[.int .i64 seed, .string data] 43)).alloc (.cells #[.int .i64 0, .int .i64 0, .int .i64 0] 47)) := hb0.alloc hb0.size _
  have hN : EN I M w ((w.alloc (.cells #[.int .i64 seed, .string data] 43)).alloc (.cells #[.int .i64 0, .int .i64 0, .int .i64 0] 47)) b vP vF k z n dr p (sds F) F [w.heap.size, w.heap.size + 1] := ⟨hE.below hb1, fun x hx => by
    have hx' : w.heap.size ≤ x ∧ x < w.heap.size + 2 := by
      rcases List.mem_cons.1 hx with rfl | hx
      · omega
      · rw [List.mem_singleton.1 hx]; omega
    refine ⟨hx'.1, by simp; omega, fun e => by have := hE.blt; omega, fun hi => ?_, fun e => by have := (hE.row.lt x e).2; omega⟩
    have := I.foot_lt hE.st x ((I.below hE.st hb1).2 x hi); omega⟩
  have HEn := hide hN
  have HT := hide hT
  have HO := hide hO
  have HFd := hide hfd
  have HFE := hide hf
  have hD := (dropIn_new w (seed : Nat) data).of_block (w' := (w.alloc (.cells #[.int .i64 seed, .string data] 43)).alloc (.cells #[.int .i64 0, .int .i64 0, .int .i64 0] 47)) (by
    exact ((Below.refl _ (w.alloc (.cells #[.int .i64 seed, .string data] 43))).alloc (Nat.le_refl _) _).block _ (by simp))
  have HD := hide hD
  have hQ : Tri ((w.alloc (.cells #[.int .i64 seed, .string data] 43)).alloc (.cells #[.int .i64 0, .int .i64 0, .int .i64 0] 47)) (w.heap.size + 1) := by
    have h9 := tri_new (w.alloc (.cells #[.int .i64 seed, .string data] 43)) 47
    rw [show (w.alloc (.cells #[.int .i64 seed, .string data] 43)).heap.size = w.heap.size + 1 by simp] at h9
    exact h9
  have HQ := hide hQ
  have hck := hN.ek.ck
  have hcz := hN.ek.cz
  obtain ⟨⟨cs, _⟩, cd, _⟩ := hD
  simp only [Nat.zero_add] at cd
  have DC := hide (fun W => dcheck_ok k z seed data W hok.1.1 hok.1.2.1 hok.1.2.2 hok.2)
  have hbl := hE.blt
  obtain ⟨aP, hvP⟩ := hI hE.st
  subst hvP
  have hlen0 := hO.few
  clear hb0 hb1 hE hT hO hok hf hQ hfd hN
  unfold dropV at *
  go_enter Tryz.func12, Tryz.ntmps12
  go_wp2_with fail
  generalize hW1 : (w.alloc (.cells #[.int .i64 seed, .string data] 43)).alloc (.cells #[.int .i64 0, .int .i64 0, .int .i64 0] 47) = w1 at *
  clear hW1
  go_region_held3 (fun w' => w'.cell? ⟨b, 1, none⟩ = some (.int .i64 k) ∧ w'.cell? ⟨b, 2, none⟩ = some (.int .i64 z) ∧ w'.cell? ⟨w.heap.size, 0, none⟩ = some (.int .i64 seed) ∧ w'.cell? ⟨w.heap.size, 1, none⟩ = some (.string data)) (first | go_keep | exact ⟨cell_below hb2 hck, cell_below hb2 hcz, cell_below hb2 cs, cell_below hb2 cd⟩)
    (first | (go_at_call 36; refine (DC.out _).mono ?_; rintro e w2 ⟨rfl, hb2⟩))
  have hb2' : Below w1.heap.size w1 w2 := ⟨hb2.os, hb2.tape, hb2.output, hb2.size, hb2.block⟩
  have H2 := hide (HEn.out.below hb2')
  have HD2 := hide (HD.out.of_block (hb2'.block _ HD.out.lt))
  have HQ2 := hide (HQ.out.below hb2')
  clear hb2 hb2' hck hcz cs cd DC HD HQ HEn
  have hcf2 := H2.out.ek.cf
  obtain ⟨aF, cF, hvF, hF1, hF2, _⟩ := own_drops H2.out.ek.row
  subst hvF
  have hcs2 := HD2.out.1.1
  have HRD := hide (heard_ok H2.out.ek hlen0 seed)
  obtain ⟨r, hr⟩ : ∃ r, decide (seed ∈ sds F) = r := ⟨_, rfl⟩
  rw [hr] at HRD
  have HR := hide hr
  clear hr
  go_wp2_with fail
  refine (HRD.out).mono ?_
  rintro e w3 ⟨rfl, hb3⟩
  have H3 := hide (H2.out.below hb3)
  have HD3 := hide (HD2.out.of_block (hb3.block _ HD2.out.lt))
  have HQ3 := hide (HQ2.out.below hb3)
  clear hb3 hcf2 hcs2 HRD H2 HD2 HQ2
  obtain ⟨i0, hi0, hz0, hz1, hz2⟩ := info_parts Tryz.infoDrop
  have Hi := hide hi0
  have Hz0 := hide hz0
  have Hz1 := hide hz1
  have Hz2 := hide hz2
  clear hi0 hz0 hz1 hz2
  go_upto_if 34 with fail
  go_cut [] (fun wx => EMid I M w wx b (.pointer aP) k z n dr (eAdd F seed data) [w.heap.size, w.heap.size + 1] ∧ Tri wx (w.heap.size + 1))
  case first =>
    cases r with
    | true =>
      have hm : seed ∈ sds F := of_decide_eq_true HR.out
      have HM := hide hm
      clear hm
      go_wp2
      go_meet
      rw [eAdd_in _ HM.out]
      exact ⟨⟨p, _, H3.out, HT.out⟩, HQ3.out⟩
    | false =>
      have hm : seed ∉ sds F := of_decide_eq_false HR.out
      have htF : tF k z (sds F) (seed : Nat) data.size = 0 := tF_ok HFd.out hm (by simp [sds]; omega)
      have TK := hide (fun W (hb : Below w3.heap.size w3 W) => etake_ok (I.below H3.out.ek.st hb).1 ⟨aP, rfl⟩ seed data htF)
      unfold dropV at TK
      have hci := H3.out.ek.ci
      obtain ⟨⟨cs, _⟩, cd, _⟩ := HD3.out
      simp only [Nat.zero_add] at cd
      have HM := hide hm
      clear hm htF HR
      have HBd : Hid (Below w3.heap.size w3 w3.drew) := ⟨rfl, rfl, rfl, Nat.le_refl _, fun _ _ => rfl⟩
      go_upto_region 7 with fail
      go_cut [7] (fun t wx => t = .nilIface ∧ ∃ q, EN I M w wx b (.pointer aP) (.slice aF F.length cF) k z n dr q (sds (F ++ [(seed, data)])) F [w.heap.size, w.heap.size + 1] ∧ Took (setL k) q (F ++ [(seed, data)]) ∧ DropIn wx w.heap.size (seed : Nat) data ∧ Tri wx (w.heap.size + 1))
      case first =>
        go_region_law ((first
          | (go_at_call 38; refine (TK.out w3.drew HBd.out).mono ?_; rintro e w4 ⟨q, rfl, hp4, hs4, hk4, hf4⟩)
          | (rw [if_pos (by rfl)]; go_simp; go_at_call 38; refine (TK.out w3.drew HBd.out).mono ?_; rintro e w4 ⟨q, rfl, hp4, hs4, hk4, hf4⟩)))
        all_goals
          go_wp2_with fail
          go_meet
          obtain ⟨hk5, hf5⟩ := lift_take H3.out.ek.st HBd.out hk4 hf4
          rw [← sds_add F seed data] at hs4
          obtain ⟨hE4, hsame⟩ := H3.out.take hs4 hk5 hf5
          exact ⟨rfl, q, hE4, HT.out.take (fun s => (setL_rise k s).imp (fun h => by omega)) (seed, data) hp4, HD3.out.of_block (hsame _ (by simp)), HQ3.out.of_block (hsame _ (by simp))⟩
      case rest =>
      obtain ⟨rfl, q, hE4, hT4, hD4, hQ4⟩ := hcut
      have HE4 := hide hE4
      have HT4 := hide hT4
      have HQ4 := hide hQ4
      have HD4 := hide hD4
      clear hE4 hT4 hQ4 hD4 hci cs cd TK
      have hcf4 := HE4.out.ek.cf
      have hff4 := HE4.out.ek.ff
      obtain ⟨⟨cs, _⟩, cd, _⟩ := HD4.out
      simp only [Nat.zero_add] at cd
      have CL := hide (fun W => strings_Clone data W (by omega))
      have hbc : b < wc.heap.size := HE4.out.ek.blt
      have HaB : Hid ((Value.slice aF F.length cF).ownBlock ≠ some b) := HE4.out.ek.apF
      unfold maxLen at hF2
      go_upto_region 10 with fail
      go_cut [] (fun wx => ∃ v1, EN I M w wx b (.pointer aP) v1 k z n dr q (sds (F ++ [(seed, data)])) (F ++ [(seed, data)]) [w.heap.size, w.heap.size + 1] ∧ Tri wx (w.heap.size + 1))
      case first =>
        go_region_law ((first
          | (refine step_append_lies _ (by rfl) _ _ _ (by rfl) 0 43 i0 _ 2 24 Tryz.underlying86 Hi.out Hz0.out Hz1.out Hz2.out rfl (by omega) (.slice aF F.length cF) F.length (dC F) (by rfl) HO5.out.ek.row
              ⟨w5.heap.size, 0, none⟩ 1 1 [.int .i64 (seed : Nat), .string data] (by rfl) (by rfl) (World.news_of_block (cs := #[.int .i64 (seed : Nat), .string data]) (t := 43) (fr := (0, 0)) (heap_alloc_new w5 _)) (by simp [Value.oneCell'])
              (by omega) (by unfold maxLen; omega) (by omega) (by simp) (w5.heap.size + 1) (by simp) ?_; intro gg cap w6 hown6 hgrow6 hat hlt; have hfz : w6.frozen? ⟨b, 5, none⟩ = false := (hgrow6.frozen_far ⟨b, 5, none⟩ (by simp; omega) (Ne.symm HaB.out)).trans HO5.out.ek.ff; have hcz : w6.cell? ⟨b, 5, none⟩ = some (.slice aF F.length cF) := (hgrow6.cell_far ⟨b, 5, none⟩ (by simp; omega) (Ne.symm HaB.out)).trans HO5.out.ek.cf)
          | (rw [if_pos (by rfl)]; go_simp; go_at_call 39; refine (CL.out _).mono ?_; rintro e w5 ⟨rfl, hb5⟩; have hb5' : Below wc.heap.size wc w5 := ⟨hb5.os, hb5.tape, hb5.output, hb5.size, hb5.block⟩; have hb5s := hb5'.size; have HO5 := hide ((HE4.out.below hb5').below ((Below.refl _ w5).alloc (Nat.le_refl _) (.cells #[.int .i64 (seed : Nat), .string data] 43))); have hcw5 := cell_below hb5' hcf4; have hcs5 := cell_below hb5' cs; have hcd5 := cell_below hb5' cd; have hcw6 := HO5.out.ek.cf)))
        all_goals
          go_wp2_with fail
          go_meet
          have hQ6 := (HQ4.out.below hb5').below ((Below.refl _ w5).alloc (Nat.le_refl _) (.cells #[.int .i64 (seed : Nat), .string data] 43))
          have hof := HO5.out.off (w.heap.size + 1) (by simp)
          refine ⟨_, HO5.out.push hgrow6 (by rw [List.length_append, dC_snoc]; exact hown6) ?_, (hQ6.of_block (hgrow6.block _ hof.2.1 (fun e => hof.2.2.2.2 e.symm))).of_block (Below.heap_setCell w6 ⟨b, 5, none⟩ _ _ hof.2.2.1)⟩
          rcases hat with e | e
          · exact Or.inl e.symm
          · exact Or.inr ⟨gg, rfl, by rw [e]; simp⟩
      case rest =>
      obtain ⟨v1, hE5, hQ5⟩ := hcut
      have HE5 := hide hE5
      have HQ5 := hide hQ5
      clear hE5 hQ5
      go_wp2
      go_meet
      rw [eAdd_out _ HM.out]
      exact ⟨⟨q, v1, HE5.out, HT4.out⟩, HQ5.out⟩
  case rest =>
  obtain ⟨⟨q, vF, hE6, hT6⟩, hQ6⟩ := hcut
  have HT6 := hide hT6
  have HE6 := hide hE6
  have HQ6 := hide hQ6
  clear hT6 hE6 hQ6 HQ3 HD3 H3
  have HO6 : Hid (FOk k z n (eAdd F seed data)) := by
    unfold eAdd
    by_cases hm : seed ∈ sds F
    · rw [if_pos hm]; exact HO.out
    · rw [if_neg hm]; exact HO.out.add HFd.out h60 hm
  have hcd6 := HE6.out.ek.cd
  have hfd6 := HE6.out.ek.fd
  generalize hF' : eAdd F seed data = F' at *
  have HF' := hide hF'
  clear hF'
  have hfew := HO6.out.few
  generalize wc = wA at *
  obtain ⟨m, hm⟩ : ∃ m : Int, wrap64 (dr + 1) = m := ⟨_, rfl⟩
  have HM := hide hm
  clear hm
  have H7 := hide (HE6.out.tick m)
  have HQ7 := hide (HQ6.out.of_block (w' := wA.setCell ⟨b, 4, none⟩ (.int .i64 m)) (Below.heap_setCell wA _ _ _ (HE6.out.off (w.heap.size + 1) (by simp)).2.2.1))
  have hcf6 := HE6.out.ek.cf
  go_upto_region 11 with fail
  go_cut [] (fun wx => wx = wA.setCell ⟨b, 4, none⟩ (.int .i64 m))
  case first =>
    have hm := HM.out
    by_cases hd : dr ≤ 9223372036854775806
    · have e7 : dr + 1 = m := by unfold wrap64 at hm; omega
      have hdr2 := hdr.1
      go_wp2
      go_meet
      rfl
    · obtain rfl : dr = 9223372036854775807 := by omega
      obtain rfl : m = -9223372036854775808 := by rw [← hm]; unfold wrap64; omega
      go_wp2
      go_meet
      rw [show wrap64 9223372036854775808 = -9223372036854775808 by unfold wrap64; omega]
  case rest =>
  subst hcut
  clear hdr
  go_upto_region 12 with fail
  generalize wA.setCell ⟨b, 4, none⟩ (.int .i64 m) = w8 at *
  have KN := hide (fun W (hb : Below w8.heap.size w8 W) => eknows_ok (I.below H7.out.ek.st hb).1 ⟨aP, rfl⟩)
  obtain ⟨aG, cG, hvG, hG1, hG2, _⟩ := own_drops H7.out.ek.row
  subst hvG
  have hi8 := H7.out.ek.ci
  have hd8 := H7.out.ek.cd
  have hf8 := H7.out.ek.cf
  have HBd : Hid (Below w8.heap.size w8 w8.drew) := ⟨rfl, rfl, rfl, Nat.le_refl _, fun _ _ => rfl⟩
  have HOff := hide (H7.out.off (w.heap.size + 1) (by simp))
  have hqb : (w.heap.size + 1) ≠ b := HOff.out.2.2.1
  unfold maxLen at hG2
  clear hcd6 hfd6 HE6 HQ6 hcf6
  go_region_held3 (fun w' => w'.cell? ⟨b, 4, none⟩ = some (.int .i64 m) ∧ w'.cell? ⟨b, 5, none⟩ = some (.slice aG F'.length cG) ∧ w'.cell? ⟨b, 0, none⟩ = some (.pointer aP))
    (first | go_keep | exact ⟨hd9, hf9, hi9⟩ | exact ⟨by rw [World.cell?_setCell_other _ _ _ _ (fun e => by cases e; omega), World.cell?_setCell_other _ _ _ _ (fun e => by cases e; omega), World.cell?_setCell_other _ _ _ _ (fun e => by cases e; omega)]; exact hd9, by rw [World.cell?_setCell_other _ _ _ _ (fun e => by cases e; omega), World.cell?_setCell_other _ _ _ _ (fun e => by cases e; omega), World.cell?_setCell_other _ _ _ _ (fun e => by cases e; omega)]; exact hf9, by rw [World.cell?_setCell_other _ _ _ _ (fun e => by cases e; omega), World.cell?_setCell_other _ _ _ _ (fun e => by cases e; omega), World.cell?_setCell_other _ _ _ _ (fun e => by cases e; omega)]; exact hi9⟩)
    (first | (go_at_call 40; refine (KN.out w8.drew HBd.out).mono ?_; rintro e w9 ⟨rfl, hb9⟩; have hb9' : Below w8.heap.size w8 w9 := below_two HBd.out hb9; have HB9 := hide hb9'; have hi9 := cell_below hb9' hi8; have hd9 := cell_below hb9' hd8; have hf9 := cell_below hb9' hf8; obtain ⟨x9, y9, z9, hx9, hy9, hz9, hfr9⟩ := HQ7.out.below hb9'))
  have HE := hide ((((H7.out.below HB9.out).poke (a := ⟨w.heap.size + 1, 0, none⟩) (by simp) (.int .i64 m)).poke (a := ⟨w.heap.size + 1, 1, none⟩) (by simp) (.int .i64 (F'.length : Nat))).poke (a := ⟨w.heap.size + 1, 2, none⟩) (by simp) (.int .i64 ((knows k q.known).length : Nat)))
  have c0 : (((w9.setCell ⟨w.heap.size + 1, 0, none⟩ (.int .i64 m)).setCell ⟨w.heap.size + 1, 1, none⟩ (.int .i64 (F'.length : Nat))).setCell ⟨w.heap.size + 1, 2, none⟩ (.int .i64 ((knows k q.known).length : Nat))).cell? ⟨w.heap.size + 1, 0, none⟩ = some (.int .i64 m) := by
    rw [cell_set_off (by decide), cell_set_off (by decide), World.cell?_setCell_same _ _ _ hx9]
  have c1 : (((w9.setCell ⟨w.heap.size + 1, 0, none⟩ (.int .i64 m)).setCell ⟨w.heap.size + 1, 1, none⟩ (.int .i64 (F'.length : Nat))).setCell ⟨w.heap.size + 1, 2, none⟩ (.int .i64 ((knows k q.known).length : Nat))).cell? ⟨w.heap.size + 1, 1, none⟩ = some (.int .i64 (F'.length : Nat)) := by
    rw [cell_set_off (by decide), World.cell?_setCell_same _ _ _ (by rw [cell_set_off (by decide)]; exact hy9)]
  have c2 : (((w9.setCell ⟨w.heap.size + 1, 0, none⟩ (.int .i64 m)).setCell ⟨w.heap.size + 1, 1, none⟩ (.int .i64 (F'.length : Nat))).setCell ⟨w.heap.size + 1, 2, none⟩ (.int .i64 ((knows k q.known).length : Nat))).cell? ⟨w.heap.size + 1, 2, none⟩ = some (.int .i64 ((knows k q.known).length : Nat)) := by
    rw [World.cell?_setCell_same _ _ _ (by rw [cell_set_off (by decide), cell_set_off (by decide)]; exact hz9)]
  generalize ((w9.setCell ⟨w.heap.size + 1, 0, none⟩ (.int .i64 m)).setCell ⟨w.heap.size + 1, 1, none⟩ (.int .i64 (F'.length : Nat))).setCell ⟨w.heap.size + 1, 2, none⟩ (.int .i64 ((knows k q.known).length : Nat)) = w10 at *
  go_wp2
  have hF' := HF'.out
  have hM' := HM.out
  clear HF' HM
  subst hF' hM'
  refine bodyPost_ret (v := .tuple #[heardV (wrap64 (dr + 1)) (eAdd F seed data).length (knows k q.known).length, .nilIface]) (by simp [results, Tryz.results12, go_sem, c0, c1, c2]; try rfl) rfl ⟨q, HT6.out, rfl, ⟨b, _, _, q, rfl, HE.out.ek.now, HT6.out, HO6.out⟩, HE.out.ek.kept⟩
end Go.Proofs.YtjhflcgphejddaaGreatDoor
