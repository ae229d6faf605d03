/-
  Lemmas for the law above, joined into one text (RKnows, RDrop, REar, EarRep, PMap). No statement is proved here.
-/
import Derived.Test.YtjgifjkdgoijmaaGreatDoorYG7
import Derived.Test.YtjgifjkdgoijmaaGreatDoorYG5
import Derived.Test.YtjgifjkdgoijmaaGreatDoorYEarHearW
import Derived.Test.YtjgifjkdgoijmaaGreatDoorYRInT
import Derived.Test.YtjgifjkdgoijmaaGreatDoorYRTake
import Derived.Shelf.Strings.Repeat
import Derived.Shelf.Strings.BuilderX
import Derived.Test.YtjgifjkdgoijmaaGreatDoorYG0
import Derived.WalkKit
import Derived.Test.YtjgifjkdgoijmaaGreatDoorYG1
import Derived.Test.YtjgifjkdgoijmaaGreatDoorYG4
namespace Go.Proofs.YtjgifjkdgoijmaaGreatDoor
open Go.RowKit Go.Maps
set_option linter.unusedVariables false
set_option maxRecDepth 100000

set_option maxHeartbeats 2000000 in
theorem rknows_ok (b k : Nat) (kn : Nat → Bool) (B : Nat → ByteArray) (vL vT : Value) (w : World) (hk2 : k ≤ 16) (hp : RPb w b k kn B vL vT) :
    Calls Tryz.prog 47 #[.pointer (some ⟨b, 0, none⟩)] w fun e w' => ∃ v, e = .returned v ∧ Lsh w' v (knows k kn) ∧ Below w.heap.size w w' := by
  have HP := hide hp
  clear hp
  obtain ⟨i0, hi, hz0, hz1, hz2⟩ := info_parts Tryz.infoInt
  have Hi := hide hi
  have Hz0 := hide hz0
  have Hz1 := hide hz1
  have Hz2 := hide hz2
  clear hi hz0 hz1 hz2
  go_enter Tryz.func47, Tryz.ntmps47
  go_wp2
  go_loopw [3, 4] (fun v i wr => ∃ j : Nat, j ≤ k ∧ i = .int .i64 j ∧ wr.ownsRow w.heap.size 3 1 v (knows j kn).length (toV (knows j kn)) ∧ Below w.heap.size w wr) (fun _ i _ => k - (intOf i).toNat)
  case atStart => exact ⟨0, Nat.zero_le _, rfl, World.ownsRow_nil _ _ _ _, Below.refl _ _⟩
  case round =>
    obtain ⟨j, hj, rfl, hA, hb⟩ := hrel
    have HA := hide hA
    have hbs := hb.size
    have hl := knows_len j kn
    have ck := (HP.out.below hb).kk
    clear hA
    by_cases hlt : j < k
    · have ckn := ((HP.out.below hb).known j (by omega)).1
      have HK := hide (knows_succ kn j)
      have hj0 : (0 : Int) ≤ (j : Int) := by omega
      have hj1 : (j : Int) < 16 := by omega
      have hjk : (j : Int) < (k : Int) := by omega
      generalize knows j kn = F at *
      cases hx : kn j with
      | true =>
        rw [hx] at ckn
        rw [Hid, hx, if_pos rfl] at HK
        have HK' := hide HK
        clear hx HK
        go_wp2_with (first | (at_builtin; refine wpList_append_own _ rfl _ _ 22 rfl w.heap.size 3 i0 (.int .i64 0) 1 8 Tryz.underlying22 Hi.out Hz0.out Hz1.out Hz2.out rfl (by decide) _ _ _ rfl (HA.out.alloc _) ⟨wr.heap.size, 0, none⟩ 1 1 [.int .i64 (j : Nat)] rfl rfl (cell_one_new _ _ _) (fun x hx => by simp at hx; subst hx; rfl) (by unfold maxLen; omega) (by omega) (by simp; omega) ?_; intro v3 w3 hown3 hgrow3 hnil3) | go_in)
        go_roundw
        case rel =>
          have R : j + 1 ≤ k ∧ Value.int .i64 ((j : Int) + 1) = .int .i64 ((j + 1 : Nat) : Int) ∧ w3.ownsRow w.heap.size 3 1 v3 (knows (j + 1) kn).length (toV (knows (j + 1) kn)) ∧ Below w.heap.size w w3 := by
            refine ⟨by omega, by simp, ?_, (hb.alloc hbs _).grown hgrow3 (by simp; omega) (fun q hq => (HA.out.lt q hq).1)⟩
            rw [HK'.out, List.length_append, show toV (F ++ [j]) = toV F ++ [.int .i64 (j : Nat)] by simp [toV]]
            exact hown3
          first
            | exact ⟨j + 1, R⟩
            | ((repeat apply Exists.intro); exact ⟨⟨j + 1, R⟩, rfl⟩)
        case measure => simp [intOf]; omega
      | false =>
        rw [hx] at ckn
        rw [Hid, hx] at HK
        simp only [Bool.false_eq_true, if_false, List.append_nil] at HK
        have HK' := hide HK
        clear hx HK
        go_wp2_with go_in
        go_roundw
        case rel => exact ⟨j + 1, by omega, by go_num, by rw [HK'.out]; exact HA.out, hb⟩
        case measure => simp [intOf]; omega
    · obtain rfl : j = k := by omega
      have hjk : ¬ (j : Int) < (j : Int) := by omega
      have HLs := hide (own_lsh HA.out)
      go_wp2
      go_ret
      exact ⟨_, rfl, HLs.out, hb⟩
end Go.Proofs.YtjgifjkdgoijmaaGreatDoor

namespace Go.Proofs.YtjgifjkdgoijmaaGreatDoor
open Go.RowKit Go.Maps
set_option linter.unusedVariables false
set_option maxRecDepth 100000

set_option maxHeartbeats 1000000 in
theorem rdrop_range (k size seed : Int) (s : ByteArray) (w : World) (h : ¬ OkD k size seed) :
    Calls Tryz.prog 45 #[.int .i64 k, .int .i64 size, dropV seed s] w fun e w' => e = .returned (.int .i64 1) ∧ Below w.heap.size w w' := by
  unfold dropV
  by_cases c0 : k < 1
  · clear h
    go_enter Tryz.func45, Tryz.ntmps45
    go_wp2
    go_ret
    exact ⟨rfl, (Below.refl _ _).alloc (Nat.le_refl _) _⟩
  · skip
    by_cases c1 : 16 < k
    · clear h
      go_enter Tryz.func45, Tryz.ntmps45
      go_wp2
      go_ret
      exact ⟨rfl, (Below.refl _ _).alloc (Nat.le_refl _) _⟩
    · skip
      by_cases c2 : size < 1
      · clear h
        go_enter Tryz.func45, Tryz.ntmps45
        go_wp2
        go_ret
        exact ⟨rfl, (Below.refl _ _).alloc (Nat.le_refl _) _⟩
      · skip
        by_cases c3 : 8 < size
        · clear h
          go_enter Tryz.func45, Tryz.ntmps45
          go_wp2
          go_ret
          exact ⟨rfl, (Below.refl _ _).alloc (Nat.le_refl _) _⟩
        · skip
          by_cases c4 : seed < 1
          · clear h
            go_enter Tryz.func45, Tryz.ntmps45
            go_wp2
            go_ret
            exact ⟨rfl, (Below.refl _ _).alloc (Nat.le_refl _) _⟩
          · skip
            by_cases c5 : 10000 < seed
            · clear h
              go_enter Tryz.func45, Tryz.ntmps45
              go_wp2
              go_ret
              exact ⟨rfl, (Below.refl _ _).alloc (Nat.le_refl _) _⟩
            · exact absurd (show OkD k size seed by unfold OkD; omega) h
set_option maxHeartbeats 1000000 in
theorem rdrop_size (k size seed : Int) (s : ByteArray) (w : World) (h : OkD k size seed) :
    Calls Tryz.prog 45 #[.int .i64 k, .int .i64 size, dropV seed s] w fun e w' => e = .returned (.int .i64 (if (s.size : Int) = size then 0 else 3)) ∧ Below w.heap.size w w' := by
  obtain ⟨⟨h1, h2⟩, ⟨h3, h4⟩, h5, h6⟩ := h
  unfold dropV
  have c0 : ¬ k < 1 := by omega
  have c1 : ¬ 16 < k := by omega
  have c2 : ¬ size < 1 := by omega
  have c3 : ¬ 8 < size := by omega
  have c4 : ¬ seed < 1 := by omega
  have c5 : ¬ 10000 < seed := by omega
  clear h1 h2 h3 h4 h5 h6
  by_cases c : (s.size : Int) = size
  · have hne : ((s.size : Int) == size) = true := by rw [beq_iff_eq]; exact c
    rw [if_pos c]
    clear c
    go_enter Tryz.func45, Tryz.ntmps45
    go_wp2
    go_ret
    exact ⟨rfl, (Below.refl _ _).alloc (Nat.le_refl _) _⟩
  · have hne : ((s.size : Int) == size) = false := by rw [beq_eq_false_iff_ne]; exact c
    rw [if_neg c]
    clear c
    go_enter Tryz.func45, Tryz.ntmps45
    go_wp2
    go_ret
    exact ⟨rfl, (Below.refl _ _).alloc (Nat.le_refl _) _⟩
theorem rdrop_any (k size seed : Int) (s : ByteArray) (w : World) :
    Calls Tryz.prog 45 #[.int .i64 k, .int .i64 size, dropV seed s] w fun e w' => e = .returned (.int .i64 (fD k size seed s.size)) ∧ Below w.heap.size w w' := by
  unfold fD
  by_cases h : OkD k size seed
  · rw [if_pos h]; exact rdrop_size k size seed s w h
  · rw [if_neg h]; exact rdrop_range k size seed s w h
end Go.Proofs.YtjgifjkdgoijmaaGreatDoor

namespace Go.Proofs.YtjgifjkdgoijmaaGreatDoor
open Go.RowKit Go.Maps
set_option linter.unusedVariables false
set_option maxRecDepth 100000

variable {M : Nat → Prop} {w0 w w' : World} {b bp : Nat} {vF vL vT : Value} {k z n : Nat} {dr : Int} {p q : PS} {T T' : List Nat} {F F' : List Drp} {N : List Nat}
set_option maxHeartbeats 2000000 in
theorem rseeds2_ok (h : RE M w0 w b bp vF vL vT k z n dr p T F N) (hf : F.length ≤ 60) :
    Calls Tryz.prog 18 #[.pointer (some ⟨b, 0, none⟩)] w fun e w' => ∃ v, e = .returned v ∧ w'.ownsRow w.heap.size 3 1 v (sds F).length (toV (sds F)) ∧ Below w.heap.size w w' := by
  have hcf := h.cf
  obtain ⟨a, cap, rfl, h1, h2, h3, h4⟩ := own_drops h.row
  have HC := hide h4
  have HA := hide h3
  obtain ⟨i0, hi0, hy0, hy1, hy2⟩ := info_parts Tryz.infoInt
  have Hi := hide hi0
  have Hy0 := hide hy0
  have Hy1 := hide hy1
  have Hy2 := hide hy2
  clear h h3 h4 hi0 hy0 hy1 hy2
  unfold maxLen at h2
  go_enter Tryz.func18, Tryz.ntmps18
  go_wp2
  go_loopw [3, 4] (fun vo i wr => ∃ j : Nat, j ≤ F.length ∧ i = .int .i64 j ∧ wr.ownsRow w.heap.size 3 1 vo j (toV (sds (F.take j))) ∧ Below w.heap.size w wr) (fun _ i _ => F.length - (intOf i).toNat)
  case atStart => exact ⟨0, Nat.zero_le _, rfl, World.ownsRow_nil _ _ _ _, Below.refl _ _⟩
  case round =>
    obtain ⟨j, hj, rfl, hO, hb⟩ := hrel
    have HO := hide hO
    have HB := hide hb
    have hcf2 := cell_below hb hcf
    have hbs := hb.size
    by_cases hlt : j < F.length
    · obtain ⟨g, ha⟩ := HA.out (by omega)
      subst ha
      have hc1 := cell_below hb (HC.out g rfl j hlt).1
      have HT := hide (take_dAt hlt)
      clear hO hb
      generalize dAt F j = x at *
      obtain ⟨xs, xd⟩ := x
      simp only at hc1
      have hba : Below wr.heap.size wr (wr.alloc (.cells #[.int .i64 (xs : Nat)] 3)) := (Below.refl _ _).alloc (Nat.le_refl _) _
      go_wp2_with (at_builtin; refine wpList_append_own _ rfl _ _ 22 rfl w.heap.size 3 i0 (.int .i64 0) 1 8 Tryz.underlying22 Hi.out Hy0.out Hy1.out Hy2.out rfl (by decide) _ _ _ rfl (HO.out.alloc _) ⟨wr.heap.size, 0, none⟩ 1 1 [.int .i64 (xs : Nat)] rfl rfl (cell_one_new _ _ _) (fun x hx => by simp at hx; subst hx; rfl) (by unfold maxLen; omega) (by omega) (by simp; omega) ?_; intro v5 w5 hown5 hgrow5 hnil5)
      go_roundw
      case rel =>
        refine ⟨j + 1, by omega, by go_num, ?_, (below_two HB.out hba).grown hgrow5 (by simp; omega) (fun q hq => (HO.out.lt q hq).1)⟩
        rw [HT.out, show toV (sds (F.take j ++ [(xs, xd)])) = toV (sds (F.take j)) ++ [.int .i64 (xs : Nat)] by simp [toV, sds]]
        exact hown5
      case measure => simp [intOf]; omega
    · obtain rfl : j = F.length := by omega
      clear hO hb
      go_wp2
      go_ret
      refine ⟨_, rfl, ?_, HB.out⟩
      have h9 := HO.out
      rw [List.take_length] at h9
      rw [show (sds F).length = F.length by simp [sds]]
      exact h9
theorem rin_dec {w : World} {B : Nat} {vT : Value} {T : List Nat} (h : w.ownsRow B 3 1 vT T.length (toV T)) (seed : Nat) (w' : World) (hb : Below w.heap.size w w') :
    Calls Tryz.prog 11 #[vT, .int .i64 seed] w' fun e w'' => e = .returned (.bool (decide (seed ∈ T))) ∧ w' = w'' := by
  obtain ⟨_, _, _, _, _, r, hr, hIn⟩ := rin_T h (seed : Int)
  refine (hIn w' hb).mono fun e w'' ⟨he, hw⟩ => ⟨?_, hw⟩
  rw [he]
  congr 2
  by_cases hm : seed ∈ T
  · rw [decide_eq_true hm]; exact hr.2 ⟨seed, rfl, hm⟩
  · rw [decide_eq_false hm]
    cases r with
    | false => rfl
    | true =>
      obtain ⟨m, e, hm'⟩ := hr.1 rfl
      have : seed = m := by omega
      exact absurd (this ▸ hm') hm
/-- dropref1's Peeler takes one. -/
theorem rtake2 (h : RQ w 0 bp k p T vL vT) (hk : 1 ≤ k ∧ k ≤ 16) (hz : z ≤ 8) (seed : Nat) (hs : 1 ≤ seed ∧ seed ≤ 10000) (data : ByteArray) (hd : data.size = z) (hL : p.L.length ≤ 60) (hT : T.length ≤ 60) (hp : POk k z p) :
    Calls Tryz.prog 46 #[.pointer (some ⟨bp, 0, none⟩), dropV seed data] w fun e w' => ∃ v q vL' vT', e = .returned v ∧ Peels (setL k) ⟨p.known, p.B, p.L ++ [(seed, data)]⟩ q ∧ RQ w' 0 bp k q (T ++ [seed]) vL' vT' ∧ Kept (footR bp vL vT) w w' ∧ (∀ i, footR bp vL' vT' i → footR bp vL vT i ∨ w.heap.size ≤ i) ∧ POk k z q := by
  refine (rtake_ok (footR bp vL vT) 0 bp k seed p T vL vT data w hk.1 hk.2 hs.1 hs.2 h.st (Nat.zero_le _) (by omega) (by omega) z (by omega) hp.1 hd (fun r hr => by have := hp.2 r hr; omega)).mono ?_
  rintro e w' ⟨v, rfl, q, vL', vT', h1, h2, h3, h4, h5⟩
  refine ⟨v, q, vL', vT', rfl, h1, h2.rq (Nat.zero_le _), h2.kept, fun i hi => ?_, h4, h1.lt hk.1 (fun d hd => ?_) hp.2⟩
  · rcases hi with e | e | e
    · exact Or.inl (Or.inl e)
    · exact h2.inL i e
    · exact h2.inT i e
  · rcases List.mem_append.1 hd with hd | hd
    · exact (hp.1.1 d hd).1
    · rw [List.mem_singleton.1 hd]; exact hs.1
/-- Behind the choice whether it is new. -/
def RMid (M : Nat → Prop) (w0 wx : World) (b bp k z n : Nat) (dr : Int) (F' : List Drp) (N : List Nat) : Prop :=
  ∃ q vF vL vT, RE M w0 wx b bp vF vL vT k z n dr q (sds F') F' N ∧ Took (setL k) q F' ∧ POk k z q
theorem re_off (h : RE M w0 w b bp vF vL vT k z n dr p T F []) (ho : ∀ q ∈ N, w0.heap.size ≤ q ∧ q < w.heap.size ∧ q ≠ b ∧ ¬ footR bp vL vT q ∧ vF.ownBlock ≠ some q) : RE M w0 w b bp vF vL vT k z n dr p T F N :=
  ⟨h.ck, h.cz, h.cn, h.cd, h.cp, h.cf, h.fd, h.ff, h.rq, h.row, h.inB, h.inP, h.inF, h.lt, h.apP, h.apF, h.ap, h.kept, ho⟩
set_option maxHeartbeats 8000000 in
theorem rhear_ok {w : World} {v : Value} {k z n : Nat} {dr : Int} {F : List Drp} {M : Nat → Prop} (h : RESt w v k z n dr F M) (seed : Nat) (data : ByteArray) (hf : eF k z F seed data.size = 0) (hdr : 0 ≤ dr ∧ dr ≤ 1000) :
    Calls Tryz.prog 16 #[v, dropV seed data] w fun e w' => ∃ q, Took (setL k) q (eAdd F seed data) ∧ e = .returned (.tuple #[heardV ((dr + 1)) (eAdd F seed data).length (knows k q.known).length, .int .i64 0]) ∧ RESt w' v k z n ((dr + 1)) (eAdd F seed data) (plusM M w w') ∧ Kept M w w' := by
  obtain ⟨b, bp, vF, vL, vT, p, rfl, hE, hT, hO, hPk⟩ := h
  obtain ⟨hfd, h60⟩ := eF_ok hf
  have hok := fD_ok hfd
  have hsd : 1 ≤ seed ∧ seed ≤ 10000 := by have := hok.1; unfold OkD at this; omega
  have hdzz : data.size = z := by have := hok.2; omega
  have hdz : data.size ≤ 8 := by have := hok.1; have := hok.2; unfold OkD at *; omega
  have hb0 : Below w.heap.size w (w.alloc (.cells #[.int .i64 seed, .string data] 33)) := (Below.refl _ _).alloc (Nat.le_refl _) _
  have hb1 : Below w.heap.size w ((w.alloc (.cells #[.int .i64 seed, .string data] 33)).alloc (.cells #[.int .i64 0, .int .i64 0, .int .i64 0] 29)) := hb0.alloc hb0.size _
  have hN : RE M w ((w.alloc (.cells #[.int .i64 seed, .string data] 33)).alloc (.cells #[.int .i64 0, .int .i64 0, .int .i64 0] 29)) b bp vF vL vT k z n dr p (sds F) F [w.heap.size, w.heap.size + 1] := re_off (hE.below hb1) fun x hx => by
    have hx' : w.heap.size ≤ x ∧ x < w.heap.size + 2 := by
      rcases List.mem_cons.1 hx with rfl | hx
      · omega
      · rw [List.mem_singleton.1 hx]; omega
    refine ⟨hx'.1, by simp; omega, fun e => by have := hE.blt; omega, fun hi => ?_, fun e => by have := (hE.row.lt x e).2; omega⟩
    have := (hE.rq.lt x hi).2; omega
  have HEn := hide hN
  have HT := hide hT
  have HO := hide hO
  have HPk := hide hPk
  have HFd := hide hfd
  have HFE := hide hf
  have hD := (dropIn_new w (seed : Nat) data).of_block (w' := (w.alloc (.cells #[.int .i64 seed, .string data] 33)).alloc (.cells #[.int .i64 0, .int .i64 0, .int .i64 0] 29)) (by
    exact ((Below.refl _ (w.alloc (.cells #[.int .i64 seed, .string data] 33))).alloc (Nat.le_refl _) _).block _ (by simp))
  have HD := hide hD
  have hQ : Tri ((w.alloc (.cells #[.int .i64 seed, .string data] 33)).alloc (.cells #[.int .i64 0, .int .i64 0, .int .i64 0] 29)) (w.heap.size + 1) := by
    have h9 := tri_new (w.alloc (.cells #[.int .i64 seed, .string data] 33)) 29
    rw [show (w.alloc (.cells #[.int .i64 seed, .string data] 33)).heap.size = w.heap.size + 1 by simp] at h9
    exact h9
  have HQ := hide hQ
  have hck := hN.ck
  have hcz := hN.cz
  obtain ⟨⟨cs, _⟩, cd, _⟩ := hD
  simp only [Nat.zero_add] at cd
  have DC : Hid (∀ W, Calls Tryz.prog 45 #[.int .i64 k, .int .i64 z, dropV seed data] W fun e w' => e = .returned (.int .i64 0) ∧ Below W.heap.size W w') := fun W => by
    have h9 := rdrop_any k z seed data W
    rw [HFd.out] at h9
    exact h9
  have hbl := hE.blt
  have hlen0 := hO.few
  clear hb0 hb1 hE hT hO hPk hok hf hQ hfd hN
  unfold dropV at *
  go_enter Tryz.func16, Tryz.ntmps16
  go_wp2_with fail
  generalize hW1 : (w.alloc (.cells #[.int .i64 seed, .string data] 33)).alloc (.cells #[.int .i64 0, .int .i64 0, .int .i64 0] 29) = w1 at *
  clear hW1
  go_region_held3 (fun w' => w'.cell? ⟨b, 0, none⟩ = some (.int .i64 k) ∧ w'.cell? ⟨b, 1, none⟩ = some (.int .i64 z) ∧ w'.cell? ⟨w.heap.size, 0, none⟩ = some (.int .i64 seed) ∧ w'.cell? ⟨w.heap.size, 1, none⟩ = some (.string data)) (first | go_keep | exact ⟨cell_below hb2 hck, cell_below hb2 hcz, cell_below hb2 cs, cell_below hb2 cd⟩)
    (first | (go_at_call 45; refine (DC.out _).mono ?_; rintro e w2 ⟨rfl, hb2⟩))
  have hb2' : Below w1.heap.size w1 w2 := ⟨hb2.os, hb2.tape, hb2.output, hb2.size, hb2.block⟩
  have H2 := hide (HEn.out.below hb2')
  have HD2 := hide (HD.out.of_block (hb2'.block _ HD.out.lt))
  have HQ2 := hide (HQ.out.below hb2')
  clear hb2 hb2' hck hcz cs cd DC HD HQ HEn
  have hcf2 := H2.out.cf
  obtain ⟨aF, cF, hvF, hF1, hF2, _⟩ := own_drops H2.out.row
  subst hvF
  have hcs2 := HD2.out.1.1
  have SD := hide (fun W (hb : Below w2.heap.size w2 W) => rseeds2_ok (H2.out.below hb) hlen0)
  obtain ⟨r, hr⟩ : ∃ r, decide (seed ∈ sds F) = r := ⟨_, rfl⟩
  have HR := hide hr
  have HBd2 : Hid (Below w2.heap.size w2 w2.drew) := ⟨rfl, rfl, rfl, Nat.le_refl _, fun _ _ => rfl⟩
  clear hr
  go_wp2_with fail
  go_region_held3 (fun w' => w'.cell? ⟨w.heap.size, 0, none⟩ = some (.int .i64 seed)) (first | go_keep | exact hcs3)
    (first | (go_at_call 18; refine (SD.out _ HBd2.out).mono ?_; rintro e w3 ⟨v3, rfl, ho3, hb3'⟩; have hb3 : Below w2.heap.size w2 w3 := below_two HBd2.out hb3'; have hcs3 := cell_below hb3 hcs2; have IN3 := hide (rin_dec ho3 seed w3 (Below.refl _ _))) | (go_at_call 11; refine (IN3.out).mono ?_; rintro e w4 ⟨rfl, rfl⟩))
  rw [HR.out]
  have H3 := hide (H2.out.below hb3)
  have HD3 := hide (HD2.out.of_block (hb3.block _ HD2.out.lt))
  have HQ3 := hide (HQ2.out.below hb3)
  clear hb3 hb3' ho3 IN3 hcf2 hcs2 hcs3 SD H2 HD2 HQ2 HBd2
  obtain ⟨i0, hi0, hz0, hz1, hz2⟩ := info_parts Tryz.infoDrop
  have Hi := hide hi0
  have Hz0 := hide hz0
  have Hz1 := hide hz1
  have Hz2 := hide hz2
  clear hi0 hz0 hz1 hz2
  go_upto_if 35 with fail
  go_cut [] (fun wx => RMid M w wx b bp k z n dr (eAdd F seed data) [w.heap.size, w.heap.size + 1] ∧ Tri wx (w.heap.size + 1))
  case first =>
    cases r with
    | true =>
      have hm : seed ∈ sds F := of_decide_eq_true HR.out
      have HM := hide hm
      clear hm
      go_wp2
      go_meet
      rw [eAdd_in _ HM.out]
      exact ⟨⟨p, _, _, _, H3.out, HT.out, HPk.out⟩, HQ3.out⟩
    | false =>
      have hm : seed ∉ sds F := of_decide_eq_false HR.out
      have hLp : p.L.length ≤ 60 := by
        have h9 := HT.out.waits
        have h8 := sift_len (S := setL k) (kn := p.known) F
        rw [← h9] at h8
        omega
      have TK := hide (fun W (hb : Below w3.heap.size w3 W) => rtake2 (H3.out.below hb).rq HO.out.nk HO.out.nz.2 seed hsd data hdzz hLp (by simp [sds]; omega) HPk.out)
      unfold dropV at TK
      have hci := H3.out.cp
      obtain ⟨⟨cs, _⟩, cd, _⟩ := HD3.out
      simp only [Nat.zero_add] at cd
      have HM := hide hm
      clear hm HR
      have HBd : Hid (Below w3.heap.size w3 w3.drew) := ⟨rfl, rfl, rfl, Nat.le_refl _, fun _ _ => rfl⟩
      go_upto_region 8 with fail
      go_cut [] (fun wx => ∃ q vL' vT', RE M w wx b bp (.slice aF F.length cF) vL' vT' k z n dr q (sds (F ++ [(seed, data)])) F [w.heap.size, w.heap.size + 1] ∧ Took (setL k) q (F ++ [(seed, data)]) ∧ POk k z q ∧ DropIn wx w.heap.size (seed : Nat) data ∧ Tri wx (w.heap.size + 1))
      case first =>
        go_region_law ((first
          | (go_at_call 46; refine (TK.out w3.drew HBd.out).mono ?_; rintro e w4 ⟨v4, q, vL', vT', rfl, hp4, hs4, hk4, hf4, hpk4⟩)
          | (rw [if_pos (by rfl)]; go_simp; go_at_call 46; refine (TK.out w3.drew HBd.out).mono ?_; rintro e w4 ⟨v4, q, vL', vT', rfl, hp4, hs4, hk4, hf4, hpk4⟩)))
        all_goals
          go_wp2_with fail
          go_meet
          have hk5 : Kept (footR bp vL vT) w3 w4 := ((Kept.refl _ w3).below HBd.out).trans hk4 fun i _ e => e
          rw [← sds_add F seed data] at hs4
          obtain ⟨hE4, hsame⟩ := H3.out.take hs4 hk5 hf4
          exact ⟨q, vL', vT', hE4, HT.out.take (fun s => (setL_rise k s).imp (fun h => by omega)) (seed, data) hp4, hpk4, HD3.out.of_block (hsame _ (by simp)), HQ3.out.of_block (hsame _ (by simp))⟩
      case rest =>
      obtain ⟨q, vL', vT', hE4, hT4, hPk4, hD4, hQ4⟩ := hcut
      have HE4 := hide hE4
      have HT4 := hide hT4
      have HPk4 := hide hPk4
      have HQ4 := hide hQ4
      have HD4 := hide hD4
      clear hE4 hT4 hPk4 hQ4 hD4 hci cs cd TK
      have hcf4 := HE4.out.cf
      have hff4 := HE4.out.ff
      obtain ⟨⟨cs, _⟩, cd, _⟩ := HD4.out
      simp only [Nat.zero_add] at cd
      have HO5 := hide (HE4.out.below ((Below.refl _ wc).alloc (Nat.le_refl _) (.cells #[.int .i64 (seed : Nat), .string data] 33)))
      have hcw6 := HO5.out.cf
      have hbc : b < wc.heap.size := HE4.out.blt
      have HaB : Hid ((Value.slice aF F.length cF).ownBlock ≠ some b) := HE4.out.apF
      unfold maxLen at hF2
      obtain ⟨wB, hwB⟩ : ∃ wB, wB = wc := ⟨_, rfl⟩
      subst hwB
      go_upto_region 9 with fail
      go_cut [] (fun wx => ∃ v1, RE M w wx b bp v1 vL' vT' k z n dr q (sds (F ++ [(seed, data)])) (F ++ [(seed, data)]) [w.heap.size, w.heap.size + 1] ∧ Tri wx (w.heap.size + 1))
      case first =>
        go_region_law ((first
          | (refine step_append_lies _ (by rfl) _ _ _ (by rfl) 0 33 i0 _ 2 24 Tryz.underlying48 Hi.out Hz0.out Hz1.out Hz2.out rfl (by omega) (.slice aF F.length cF) F.length (dC F) (by rfl) HO5.out.row
              ⟨wB.heap.size, 0, none⟩ 1 1 [.int .i64 (seed : Nat), .string data] (by rfl) (by rfl) (World.news_of_block (cs := #[.int .i64 (seed : Nat), .string data]) (t := 33) (fr := (0, 0)) (heap_alloc_new wB _)) (by simp [Value.oneCell'])
              (by omega) (by unfold maxLen; omega) (by omega) (by simp) (wB.heap.size + 1) (by simp) ?_; intro gg cap w6 hown6 hgrow6 hat hlt; have hfz : w6.frozen? ⟨b, 5, none⟩ = false := (hgrow6.frozen_far ⟨b, 5, none⟩ (by simp; omega) (Ne.symm HaB.out)).trans HO5.out.ff; have hcz : w6.cell? ⟨b, 5, none⟩ = some (.slice aF F.length cF) := (hgrow6.cell_far ⟨b, 5, none⟩ (by simp; omega) (Ne.symm HaB.out)).trans HO5.out.cf)))
        all_goals
          go_wp2_with fail
          go_meet
          have hgrow7 : (wB.alloc (.cells #[.int .i64 (seed : Nat), .string data] 33)).grownBy w6 (Value.slice aF F.length cF).ownBlock := ⟨hgrow6.os, hgrow6.tape, hgrow6.output, hgrow6.size, hgrow6.block⟩
          have hQ6 := HQ4.out.below ((Below.refl _ wB).alloc (Nat.le_refl _) (.cells #[.int .i64 (seed : Nat), .string data] 33))
          have hof := HO5.out.off (w.heap.size + 1) (by simp)
          refine ⟨_, HO5.out.push hgrow7 (by rw [List.length_append, dC_snoc]; exact hown6) ?_, (hQ6.of_block (hgrow6.block _ hof.2.1 (fun e => hof.2.2.2.2 e.symm))).of_block (Below.heap_setCell w6 ⟨b, 5, none⟩ _ _ hof.2.2.1)⟩
          rcases hat with e | e
          · exact Or.inl e.symm
          · exact Or.inr ⟨gg, rfl, by rw [e]; simp⟩
      case rest =>
      obtain ⟨v1, hE5, hQ5⟩ := hcut
      have HE5 := hide hE5
      have HQ5 := hide hQ5
      clear hE5 hQ5
      go_wp2
      go_meet
      rw [eAdd_out _ HM.out]
      exact ⟨⟨q, v1, _, _, HE5.out, HT4.out, HPk4.out⟩, HQ5.out⟩
  case rest =>
  obtain ⟨⟨q, vF, vL', vT', hE6, hT6, hPk6⟩, hQ6⟩ := hcut
  have HPk6 := hide hPk6
  have HT6 := hide hT6
  have HE6 := hide hE6
  have HQ6 := hide hQ6
  clear hT6 hE6 hQ6 hPk6 HQ3 HD3 H3
  have HO6 : Hid (FOk k z n (eAdd F seed data)) := by
    unfold eAdd
    by_cases hm : seed ∈ sds F
    · rw [if_pos hm]; exact HO.out
    · rw [if_neg hm]; exact HO.out.add HFd.out h60 hm
  have hcd6 := HE6.out.cd
  have hfd6 := HE6.out.fd
  generalize hF' : eAdd F seed data = F' at *
  have HF' := hide hF'
  clear hF'
  have hfew := HO6.out.few
  generalize wc = wA at *
  obtain ⟨m, hm⟩ : ∃ m : Int, (dr + 1) = m := ⟨_, rfl⟩
  have HM := hide hm
  clear hm
  have H7 := hide (HE6.out.tick m)
  have HQ7 := hide (HQ6.out.of_block (w' := wA.setCell ⟨b, 3, none⟩ (.int .i64 m)) (Below.heap_setCell wA _ _ _ (HE6.out.off (w.heap.size + 1) (by simp)).2.2.1))
  have hcf6 := HE6.out.cf
  go_upto_region 10 with fail
  go_cut [] (fun wx => wx = wA.setCell ⟨b, 3, none⟩ (.int .i64 m))
  case first =>
    have e7 : dr + 1 = m := HM.out
    have hdr1 := hdr.1
    have hdr2 := hdr.2
    go_wp2
    go_meet
    rfl
  case rest =>
  subst hcut
  clear hdr
  go_upto_region 11 with fail
  generalize wA.setCell ⟨b, 3, none⟩ (.int .i64 m) = w8 at *
  have KN := hide (fun W (hb : Below w8.heap.size w8 W) => rknows_ok bp k q.known q.B vL' vT' W HO6.out.nk.2 (H7.out.below hb).rq.blk)
  obtain ⟨aG, cG, hvG, hG1, hG2, _⟩ := own_drops H7.out.row
  subst hvG
  have hi8 := H7.out.cp
  have hd8 := H7.out.cd
  have hf8 := H7.out.cf
  have HBd : Hid (Below w8.heap.size w8 w8.drew) := ⟨rfl, rfl, rfl, Nat.le_refl _, fun _ _ => rfl⟩
  have HOff := hide (H7.out.off (w.heap.size + 1) (by simp))
  have hqb : (w.heap.size + 1) ≠ b := HOff.out.2.2.1
  unfold maxLen at hG2
  clear hcd6 hfd6 HE6 HQ6 hcf6
  go_region_held3 (fun w' => w'.cell? ⟨b, 3, none⟩ = some (.int .i64 m) ∧ w'.cell? ⟨b, 5, none⟩ = some (.slice aG F'.length cG) ∧ w'.cell? ⟨b, 4, none⟩ = some (.pointer (some ⟨bp, 0, none⟩)))
    (first | go_keep | exact ⟨hd9, hf9, hi9⟩ | exact ⟨by rw [World.cell?_setCell_other _ _ _ _ (fun e => by cases e; omega), World.cell?_setCell_other _ _ _ _ (fun e => by cases e; omega), World.cell?_setCell_other _ _ _ _ (fun e => by cases e; omega)]; exact hd9, by rw [World.cell?_setCell_other _ _ _ _ (fun e => by cases e; omega), World.cell?_setCell_other _ _ _ _ (fun e => by cases e; omega), World.cell?_setCell_other _ _ _ _ (fun e => by cases e; omega)]; exact hf9, by rw [World.cell?_setCell_other _ _ _ _ (fun e => by cases e; omega), World.cell?_setCell_other _ _ _ _ (fun e => by cases e; omega), World.cell?_setCell_other _ _ _ _ (fun e => by cases e; omega)]; exact hi9⟩)
    (first | (go_at_call 47; refine (KN.out w8.drew HBd.out).mono ?_; rintro e w9 ⟨v9, rfl, ⟨a9, c9, rfl, hl9, hl9', _⟩, hb9⟩; have hb9' : Below w8.heap.size w8 w9 := below_two HBd.out hb9; have HB9 := hide hb9'; have hi9 := cell_below hb9' hi8; have hd9 := cell_below hb9' hd8; have hf9 := cell_below hb9' hf8; obtain ⟨x9, y9, z9, hx9, hy9, hz9, hfr9⟩ := HQ7.out.below hb9'))
  have HE := hide ((((H7.out.below HB9.out).poke (a := ⟨w.heap.size + 1, 0, none⟩) (by simp) (.int .i64 m)).poke (a := ⟨w.heap.size + 1, 1, none⟩) (by simp) (.int .i64 (F'.length : Nat))).poke (a := ⟨w.heap.size + 1, 2, none⟩) (by simp) (.int .i64 ((knows k q.known).length : Nat)))
  have c0 : (((w9.setCell ⟨w.heap.size + 1, 0, none⟩ (.int .i64 m)).setCell ⟨w.heap.size + 1, 1, none⟩ (.int .i64 (F'.length : Nat))).setCell ⟨w.heap.size + 1, 2, none⟩ (.int .i64 ((knows k q.known).length : Nat))).cell? ⟨w.heap.size + 1, 0, none⟩ = some (.int .i64 m) := by
    rw [cell_set_off (by decide), cell_set_off (by decide), World.cell?_setCell_same _ _ _ hx9]
  have c1 : (((w9.setCell ⟨w.heap.size + 1, 0, none⟩ (.int .i64 m)).setCell ⟨w.heap.size + 1, 1, none⟩ (.int .i64 (F'.length : Nat))).setCell ⟨w.heap.size + 1, 2, none⟩ (.int .i64 ((knows k q.known).length : Nat))).cell? ⟨w.heap.size + 1, 1, none⟩ = some (.int .i64 (F'.length : Nat)) := by
    rw [cell_set_off (by decide), World.cell?_setCell_same _ _ _ (by rw [cell_set_off (by decide)]; exact hy9)]
  have c2 : (((w9.setCell ⟨w.heap.size + 1, 0, none⟩ (.int .i64 m)).setCell ⟨w.heap.size + 1, 1, none⟩ (.int .i64 (F'.length : Nat))).setCell ⟨w.heap.size + 1, 2, none⟩ (.int .i64 ((knows k q.known).length : Nat))).cell? ⟨w.heap.size + 1, 2, none⟩ = some (.int .i64 ((knows k q.known).length : Nat)) := by
    rw [World.cell?_setCell_same _ _ _ (by rw [cell_set_off (by decide), cell_set_off (by decide)]; exact hz9)]
  generalize ((w9.setCell ⟨w.heap.size + 1, 0, none⟩ (.int .i64 m)).setCell ⟨w.heap.size + 1, 1, none⟩ (.int .i64 (F'.length : Nat))).setCell ⟨w.heap.size + 1, 2, none⟩ (.int .i64 ((knows k q.known).length : Nat)) = w10 at *
  go_wp2
  have hF' := HF'.out
  have hM' := HM.out
  clear HF' HM
  subst hF' hM'
  refine bodyPost_ret (v := .tuple #[heardV ((dr + 1)) (eAdd F seed data).length (knows k q.known).length, .int .i64 0]) (by simp [results, Tryz.results16, go_sem, c0, c1, c2]; try rfl) rfl ⟨q, HT6.out, rfl, ⟨b, bp, _, _, _, q, rfl, HE.out.now, HT6.out, HO6.out, HPk6.out⟩, HE.out.kept⟩
end Go.Proofs.YtjgifjkdgoijmaaGreatDoor

namespace Go.Proofs.YtjgifjkdgoijmaaGreatDoor
open Go.Shelf Go.RowKit
set_option linter.unusedVariables false
set_option maxRecDepth 100000
def renRep : Go.Shelf.Ren := ⟨fun | 99 => 88 | 105 => 53 | 165 => 89 | 166 => 90 | 169 => 92 | 170 => 91 | 206 => 113 | 212 => 87 | 240 => 114 | 241 => 115 | 263 => 111 | 264 => 112 | 276 => 129 | 277 => 130 | n => n,
  fun | 9 => 9 | 3 => 3 | 4 => 4 | 0 => 0 | 20 => 20 | 46 => 141 | 51 => 187 | 53 => 190 | 72 => 159 | 76 => 45 | 70 => 157 | 37 => 124 | 75 => 25 | 109 => 154 | 127 => 169 | 146 => 188 | 148 => 191 | 164 => 172 | 5 => 5 | 80 => 162 | n => n, fun | n => n⟩
theorem laysRep : Go.Proofs.Lays.n105 Tryz.prog renRep := by constructor <;> (intros; kernel_rfl)
theorem extraRep0 : Builder.X72 Tryz.prog renRep := by constructor <;> (intros; kernel_rfl)
theorem extraRep : Builder.Extra Tryz.prog renRep :=
  Builder.Extra.mk extraRep0 (by kernel_rfl) (fun _ => by kernel_rfl) (fun _ => by kernel_rfl) (fun _ => by kernel_rfl) (by kernel_rfl) (by kernel_rfl) (by kernel_rfl) (by decide)
/-- One byte, n times: a string of n bytes. -/
theorem repeat_one (a : UInt8) (n : Nat) (w : World) (hn : n ≤ 1000) :
    Calls Tryz.prog 53 #[.string ⟨#[a]⟩, .int .i64 n] w fun e w' => ∃ s : ByteArray, e = .returned (.string s) ∧ s.size = n ∧ Below w.heap.size w w' := by
  have h1 : (ByteArray.mk #[a]).size = 1 := rfl
  refine (Any.strings_Repeat laysRep extraRep ⟨#[a]⟩ n w (by omega) (by rw [h1]; omega)).mono ?_
  rintro e w' ⟨rfl, hb⟩
  refine ⟨_, rfl, ?_, hb⟩
  rw [Lib.size_eq, List.toList_toArray, Lib.repeatL_length]
  show n * 1 = n
  omega
end Go.Proofs.YtjgifjkdgoijmaaGreatDoor

namespace Go.Proofs.YtjgifjkdgoijmaaGreatDoor
open Go.RowKit Go.Maps
set_option linter.unusedVariables false
set_option maxRecDepth 100000

/-- How a block that is known reads. -/
def blkElem (v : Value) : Option (DataW Unit × List MemPlace) :=
  match v with
  | .agg cs => match cs.toList with
    | [.string s] => some (.lit (.string s.data.toList), [])
    | _ => none
  | _ => none
theorem blkElem_mk (s : ByteArray) : blkElem (.agg #[.string s]) = some (.lit (.string s.data.toList), []) := rfl
theorem blkElem_inv {v : Value} {z : DataW Unit × List MemPlace} (h : blkElem v = some z) : ∃ s : ByteArray, v = .agg #[.string s] ∧ z = (.lit (.string s.data.toList), []) := by
  unfold blkElem at h
  split at h
  · rename_i cs
    split at h
    · rename_i s hs
      cases h
      refine ⟨s, ?_, rfl⟩
      rw [show cs = #[.string s] from Array.toList_inj.1 hs]
    · cases h
  · cases h
theorem bytes_of_list {a b : ByteArray} (h : a.data.toList = b.data.toList) : a = b := by
  cases a; cases b
  congr 1
  exact Array.toList_inj.1 h
theorem Tryz.zeroBlk (w : World) : (zeroValue 200).run Tryz.prog w = .ok (.agg #[.string ⟨#[]⟩]) w := by kernel_rfl
theorem tightR {R : Value → Option (DataW Unit × List MemPlace)} {P : Program} {t : TypeId} {w : World} {b n : Nat} {D : DataW Unit} (h : w.ownsMap P t R b n D) : w.ownsMap P t R b (Maps.size D) D := by
  obtain ⟨es, clock, hb, F, hs, rfl⟩ := h
  exact ⟨es, clock, hb, F, by simp [Maps.size, length_sorted], rfl⟩
theorem ownsMap_block {R : Value → Option (DataW Unit × List MemPlace)} {P : Program} {t : TypeId} {w w' : World} {b n : Nat} {D : DataW Unit} (h : w.ownsMap P t R b n D) (hb : w'.heap[b]? = w.heap[b]?) : w'.ownsMap P t R b n D := by
  obtain ⟨es, clock, h1, r⟩ := h
  exact ⟨es, clock, hb.trans h1, r⟩

/-- The map of block b holds the blocks that are known, of k. -/
structure MKn (w : World) (b k : Nat) (kn : Nat → Bool) (B : Nat → ByteArray) (D : DataW Unit) : Prop where
  own : w.ownsMap Tryz.prog 3 blkElem b (Maps.size D) D
  few : Maps.size D + unk k kn ≤ k
  has : ∀ r : Nat, Maps.has D (.int .i64 r) = kn r
  val : ∀ r : Nat, kn r = true → D.atKey (.int .i64 r) (.lit (.string [])) = .lit (.string (B r).data.toList)
theorem unk_none (k : Nat) : unk k (fun _ => false) = k := by
  have e : ((List.range k).filter fun r => !(fun _ => false) r) = List.range k := List.filter_eq_self.2 fun _ _ => rfl
  unfold unk; rw [e, List.length_range]
theorem mkn_made (w : World) (k : Nat) (B : Nat → ByteArray) : MKn (w.alloc (.map #[] 0)) w.heap.size k (fun _ => false) B (.map []) :=
  ⟨World.ownsMap_made _ _ _ _, by rw [unk_none]; simp [Maps.size], fun r => by simp [Maps.has], fun r h => by cases h⟩
theorem MKn.lt {w : World} {b k : Nat} {kn : Nat → Bool} {B : Nat → ByteArray} {D : DataW Unit} (h : MKn w b k kn B D) : b < w.heap.size := h.own.lt
theorem MKn.of_block {w w' : World} {b k : Nat} {kn : Nat → Bool} {B : Nat → ByteArray} {D : DataW Unit} (h : MKn w b k kn B D) (hb : w'.heap[b]? = w.heap[b]?) : MKn w' b k kn B D := ⟨ownsMap_block h.own hb, h.few, h.has, h.val⟩
theorem MKn.below {w w' : World} {b k : Nat} {kn : Nat → Bool} {B : Nat → ByteArray} {D : DataW Unit} (h : MKn w b k kn B D) (hb : Below w.heap.size w w') : MKn w' b k kn B D := h.of_block (hb.block b h.lt)
theorem MKn.put {w w' : World} {b k : Nat} {kn : Nat → Bool} {B : Nat → ByteArray} {D : DataW Unit} (h : MKn w b k kn B D) {x : Nat} {s : ByteArray} (hx : kn x = false) (hxk : x < k) {n : Nat}
    (h' : w'.ownsMap Tryz.prog 3 blkElem b n (D.put (.int .i64 x) (.lit (.string s.data.toList)))) : MKn w' b k (upd kn x true) (upd B x s) (D.put (.int .i64 x) (.lit (.string s.data.toList))) := by
  refine ⟨tightR h', ?_, fun r => ?_, fun r hr => ?_⟩
  · rw [Maps.size_put (h.own.tidy Tryz.lawInt), h.has x, hx]
    have := h.few
    have := unk_less hx hxk
    simp only [Bool.false_eq_true, if_false]
    omega
  · by_cases c : r = x
    · subst c
      rw [Maps.has_put_same (k := .int .i64 (r : Int)) h.own.isMap trivial]; simp [upd]
    · rw [Maps.has_put_other (fun e => c (by injection e with _ e; omega)), h.has r]; simp [upd, c]
  · by_cases c : r = x
    · subst c
      rw [Maps.atKey_put_same (k := .int .i64 (r : Int)) h.own.isMap trivial]; simp [upd]
    · rw [Maps.atKey_put_other (fun e => c (by injection e with _ e; omega))]
      have e : upd B x s r = B r := by simp [upd, c]
      rw [e]
      exact h.val r (by simpa [upd, c] using hr)
theorem key16 {r : Nat} (h : r ≤ 10000) : keyOf Tryz.prog 3 (.int .i64 (r : Nat)) = some (.int .i64 (r : Nat)) := keyOf_int_mk Tryz.underlying3 (WalkArith.wf_i64 (by omega))

/-- 'b, ok := known[r]'. -/
theorem wpList_lookup_blk {w : World} {ops : Array Oper} {rest : List Oper} {o : Oper} {a : Act} {Q : Exit → Act → World → Prop} (hg : o.guard = none) (m x : Operand) (hop : o.op = Op.lookup 111 m x true)
    (b k r : Nat) (kn : Nat → Bool) (B : Nat → ByteArray) (D : DataW Unit) (hm : a.eval m = .map (some b)) (hx : a.eval x = .int .i64 (r : Nat)) (hM : MKn w b k kn B D) (hr : r ≤ 10000)
    (hK : ∀ s : ByteArray, (kn r = true → s = B r) → wpList Tryz.prog ops Q rest (a.put o.dst (.tuple #[.agg #[.string s], .bool (kn r)])) w) :
    wpList Tryz.prog ops Q (o :: rest) a w := by
  refine wpList_lookup_own_ok w hg m x 111 hop 3 200 Tryz.lawInt Tryz.underlying111 blkElem (Tryz.zeroBlk w) (.lit (.string [])) [] (blkElem_mk ⟨#[]⟩) b _ D hm hM.own _ _ hx (key16 hr) (fun v ps hv => ?_)
  obtain ⟨s, rfl, hz⟩ := blkElem_inv hv
  rw [hM.has r]
  refine hK s fun h => ?_
  have h1 := congrArg Prod.fst hz
  rw [hM.val r h] at h1
  simp only at h1
  injection h1 with h1
  injection h1 with h1
  exact bytes_of_list h1.symm

set_option maxHeartbeats 1000000 in
theorem pknows_ok (b kb k r : Nat) (kn : Nat → Bool) (B : Nat → ByteArray) (D : DataW Unit) (w : World) (hc : w.cell? ⟨b, 3, none⟩ = some (.map (some kb))) (hM : MKn w kb k kn B D) (hr : r ≤ 10000) :
    Calls Tryz.prog 95 #[.pointer (some ⟨b, 0, none⟩), .int .i64 (r : Nat)] w fun e w' => e = .returned (.bool (kn r)) ∧ Below w.heap.size w w' := by
  have HM := hide hM
  clear hM
  go_enter Tryz.func95, Tryz.ntmps95
  go_wp2_with (first | (at_lookup; refine wpList_lookup_blk rfl _ _ rfl kb k r kn B D rfl rfl HM.out hr ?_; intro s hs) | go_in)
  go_ret
  exact ⟨rfl, (Below.refl _ _).alloc (Nat.le_refl _) _⟩
end Go.Proofs.YtjgifjkdgoijmaaGreatDoor
