/-
  Lemmas for the law above, joined into one text (PLeft). No statement is proved here.
-/
import Derived.Test.YtjhflcgphejddaaGreatDoorZG18
import Derived.Test.YtjhflcgphejddaaGreatDoorZG17
import Derived.Lib.SliceRun
import Derived.Test.YtjhflcgphejddaaGreatDoorZIClone
namespace Go.Proofs.YtjhflcgphejddaaGreatDoor
open Go.RowKit Go.Maps
set_option linter.unusedVariables false
set_option maxRecDepth 100000

/-- The Peeler's knows, as a value. -/
def fnK (b : Nat) : Value := .func (.func 121) #[.pointer (some ⟨b, 0, none⟩)] #[]

set_option maxHeartbeats 1000000 in
theorem idxf_ok {w : World} (b : Nat) {v : Value} {l : List Nat} (kn : Nat → Bool) (h : Lst w v l) (hl : l.length ≤ 16)
    (hK : ∀ W (r : Nat), Below w.heap.size w W → r ∈ l → Calls Tryz.prog 121 #[.pointer (some ⟨b, 0, none⟩), .int .i64 (r : Nat)] W fun e w' => e = .returned (.bool (kn r)) ∧ Below W.heap.size W w') :
    Calls Tryz.prog 131 #[v, fnK b] w fun e w' => ∃ i : Int, e = .returned (.int .i64 i) ∧ IsIdx (fun q => kn (l.getD q 0)) l.length i ∧ Below w.heap.size w w' := by
  obtain ⟨g, cap, rfl, h1, h2, h3⟩ := h
  have HC := hide h3
  have K := hide hK
  clear h3 hK
  unfold maxLen at h2
  unfold fnK
  go_enter Tryz.func131, Tryz.ntmps131
  go_wp2
  go_loopw [5, 8] (fun _ i wr => ∃ j : Nat, j ≤ l.length ∧ i = .int .i64 j ∧ Below w.heap.size w wr ∧ ∀ q, q < j → kn (l.getD q 0) = false) (fun _ i _ => l.length - (intOf i).toNat)
  case atStart => exact ⟨0, Nat.zero_le _, rfl, Below.refl _ _, fun q hq => absurd hq (Nat.not_lt_zero _)⟩
  case round =>
    obtain ⟨j, hj, rfl, hb, hno⟩ := hrel
    have HN := hide hno
    clear hno
    by_cases hlt : j < l.length
    · have hc := cell_below hb (HC.out j hlt)
      have hK := K.out wr _ hb (getD_mem hlt)
      simp only [Nat.zero_add] at hc
      have HB := hide hb
      clear hb
      generalize hr : l.getD j 0 = r at *
      have HR := hide hr
      clear hr
      cases hq : kn r with
      | true =>
        rw [hq] at hK
        have HQ := hide hq
        clear hq
        go_wp2_with (go_at_call 121; refine hK.mono ?_; rintro e w1 ⟨rfl, hb1⟩)
        go_ret
        exact ⟨_, rfl, Or.inr ⟨j, rfl, hlt, by show kn (l.getD j 0) = true; rw [HR.out]; exact HQ.out, HN.out⟩, below_two HB.out hb1⟩
      | false =>
        rw [hq] at hK
        have HQ := hide hq
        clear hq
        go_wp2_with (go_at_call 121; refine hK.mono ?_; rintro e w1 ⟨rfl, hb1⟩)
        go_roundw
        case rel =>
          refine ⟨j + 1, by omega, by go_num, below_two HB.out hb1, fun q hq => ?_⟩
          by_cases c : q = j
          · rw [c, HR.out]; exact HQ.out
          · exact HN.out q (by omega)
        case measure => simp [intOf]; omega
    · obtain rfl : j = l.length := by omega
      go_wp2
      go_ret
      exact ⟨_, rfl, Or.inl ⟨rfl, HN.out⟩, hb⟩

set_option maxHeartbeats 2000000 in
theorem delf_ok {w : World} (B b : Nat) {v : Value} {l : List Nat} (kn : Nat → Bool) (h : w.ownsRow B 3 1 v l.length (toV l)) (h0 : 0 < l.length) (hl : l.length ≤ 16) (hB : B ≤ w.heap.size)
    (hK : ∀ W (r : Nat), Below B w W → r ∈ l → Calls Tryz.prog 121 #[.pointer (some ⟨b, 0, none⟩), .int .i64 (r : Nat)] W fun e w' => e = .returned (.bool (kn r)) ∧ Below W.heap.size W w') :
    Calls Tryz.prog 158 #[v, fnK b] w fun e w' => ∃ v', e = .returned v' ∧ Lsh w' v' (l.filter fun r => !kn r) ∧ Below B w w' ∧ ∀ i, v'.ownBlock = some i → B ≤ i := by
  have IX := hide (idxf_ok b kn (own_lst h h0) hl fun W r hb hr => hK W r (hb.mono hB) hr)
  obtain ⟨g, cap, rfl, hg1, hg2⟩ := h.form h0
  have hcap : l.length ≤ cap ∧ cap ≤ maxLen := by
    obtain ⟨g', cap', hv', q1, q2, _⟩ := own_lst h h0
    cases hv'
    exact ⟨q1, q2⟩
  obtain ⟨hc1, hc2⟩ := hcap
  unfold maxLen at hc2
  have H := hide h
  have K := hide hK
  clear h hK
  have HLen : Hid (∀ j, j < l.length → l[j]? = some (l.getD j 0)) := fun j hj => by simp [List.getD, hj]
  unfold fnK
  go_enter Tryz.func158, Tryz.ntmps158
  go_wp2_with fail
  refine (IX.out).mono ?_
  rintro e w1 ⟨i1, rfl, hi1, hb1⟩
  have HB1 := hide hb1
  clear hb1
  rcases hi1 with ⟨rfl, hall⟩ | ⟨j0, rfl, hj0, hd0, hno⟩
  · have HA := hide hall
    clear hall
    go_wp2
    go_ret
    have e : (l.filter fun r => !kn r) = l := List.filter_eq_self.2 fun r hr => by
      obtain ⟨q, hq, e⟩ := List.getElem_of_mem hr
      have := HA.out q hq
      simp only [List.getD, List.getElem?_eq_getElem hq, Option.getD_some, e] at this
      rw [this]; rfl
    rw [e]
    refine ⟨_, rfl, (own_lsh H.out).below HB1.out, HB1.out.mono hB, fun i hi => ?_⟩
    cases hi
    exact hg1
  · have HS := hide (KInv.start (del := kn) (l := l) (j := j0) (fun q x hq hx => by have h9 : kn (l.getD q 0) = false := hno q hq; simpa [List.getD, hx] using h9) (HLen.out j0 hj0) hd0)
    have hne : ((j0 : Int) == -1) = false := by rw [beq_eq_false_iff_ne]; omega
    clear hno hd0
    go_wp2
    go_loopw [5, 6, 7] (fun s5 s6 _ wr => ∃ (i j : Nat) (X : List Nat), s5 = .int .i64 i ∧ s6 = .int .i64 j ∧ KInv kn l i j X ∧ wr.ownsRow B 3 1 (.slice (some ⟨g, 0, none⟩) l.length cap) l.length (toV X) ∧ Below B w wr) (fun _ s6 _ _ => l.length - (intOf s6).toNat)
    case atStart => exact ⟨j0, j0 + 1, l, rfl, by go_num, HS.out, own_under' H.out HB1.out, HB1.out.mono hB⟩
    case round =>
      obtain ⟨i, j, X, rfl, rfl, hI, hO, hb⟩ := hrel
      have hij := hI.lt
      have hjl := hI.le
      have HI := hide hI
      have HO := hide hO
      have HB := hide hb
      clear hI hO hb
      by_cases hlt : j < l.length
      · have hx := HLen.out j hlt
        have hXj := HI.out.nth
        have hXl := HI.out.len
        have hcj : wr.cell? ⟨g, j, none⟩ = some (.int .i64 (l.getD j 0 : Nat)) := by
          rw [HO.out.cellAt j (by omega)]
          unfold toV
          rw [List.getElem?_map, hXj, hx]; rfl
        have KC := hide (K.out wr _ HB.out (getD_mem hlt))
        generalize hr : l.getD j 0 = r at *
        have HX := hide hx
        clear hr hx hXj
        go_wp2_with fail
        refine (KC.out).mono ?_
        rintro e w2 ⟨rfl, hb2⟩
        have HO2 := hide (own_under' HO.out hb2)
        have HB2 := hide (HB.out.trans (hb2.mono (Nat.le_trans hB HB.out.size)))
        have hci : w2.cell? ⟨g, i, none⟩ = some (.int .i64 (X.getD i 0 : Nat)) := by
          rw [HO2.out.cellAt i (by omega)]
          unfold toV
          rw [List.getElem?_map]
          simp [List.getD, show i < X.length by omega]
        have hfi := HO2.out.frozenAt i
        clear hb2 hcj KC
        cases hq : kn r with
        | true =>
          have HQ := hide hq
          clear hq
          go_wp2
          go_roundw
          case rel => exact ⟨i, j + 1, X, rfl, by go_num, HI.out.skip HX.out HQ.out, HO2.out, HB2.out⟩
          case measure => simp [intOf]; omega
        | false =>
          have HQ := hide hq
          clear hq
          go_wp2
          go_roundw
          case rel =>
            refine ⟨i + 1, j + 1, X.set i r, by go_num, by go_num, HI.out.keep HX.out HQ.out, ?_, HB2.out.setCell hg1 _⟩
            have h9 := (HO2.out.stored i (.int .i64 (r : Nat))).1
            have e : toV (X.set i r) = (toV X).set i (.int .i64 (r : Nat)) := by unfold toV; rw [List.map_set]
            rw [e]; exact h9
          case measure => simp [intOf]; omega
      · obtain rfl : j = l.length := by omega
        have hXl := HI.out.len
        have hcl : ∀ ty, (Builtin.clear_ #[23] ty #[.slice (some ⟨g, i, none⟩) (l.length - i) (cap - i)]).run Tryz.prog wr = .ok (.tuple #[]) (wr.setCells g i (List.replicate (l.length - i) (.int .i64 0))) :=
          fun ty => Lib.run_clear_slice wr 23 3 ty (.int .i64 0) Tryz.underlying23 (fun _ => by kernel_rfl) rfl rfl g i _ _ (by omega) (fun t ht => by
            rw [HO.out.cellAt (i + t) (by omega)]
            unfold toV
            rw [List.getElem?_map]
            simp [show i + t < X.length by omega]) (fun t ht => HO.out.frozenAt _)
        go_wp2
        go_ret
        obtain ⟨ys, hy1, hy2⟩ := own_sets (List.replicate (l.length - i) (.int .i64 0)) i wr _ HO.out
        have hc := own_cut hy1 (i := i) (by omega)
        have e : ys.take (i * 1) = toV (l.filter fun r => !kn r) := by rw [Nat.mul_one, hy2, ← HI.out.done]; unfold toV; rw [List.map_take]
        have e2 : i = (l.filter fun r => !kn r).length := by rw [← HI.out.done, List.length_take]; omega
        rw [e] at hc
        refine ⟨_, rfl, own_lsh (B := B) (by rw [← e2]; exact hc), set_below hg1 _ _ _ HB.out, fun q hq => by cases hq; exact hg1⟩

set_option maxHeartbeats 1000000 in
theorem pleft_ok (b kb k seed : Nat) (kn : Nat → Bool) (B : Nat → ByteArray) (D : DataW Unit) (vo : Value) (data : ByteArray) (w : World) (hk : 1 ≤ k) (hk2 : k ≤ 16) (h1 : 1 ≤ seed) (h2 : seed ≤ 10000)
    (hc : w.cell? ⟨b, 3, none⟩ = some (.map (some kb))) (hM : MKn w kb k kn B D) (ho : Lst w vo (setL k seed)) :
    Calls Tryz.prog 149 #[.pointer (some ⟨b, 0, none⟩), .agg #[vo, .string data]] w fun e w' => ∃ v, e = .returned v ∧ Lsh w' v (lft (setL k) kn (seed, data)) ∧ Below w.heap.size w w' ∧ ∀ i, v.ownBlock = some i → w.heap.size ≤ i := by
  have hb0 : Below w.heap.size w (w.alloc (.cells #[vo, .string data] 183)) := (Below.refl _ _).alloc (Nat.le_refl _) _
  have HB0 := hide hb0
  have hl : 0 < (setL k seed).length ∧ (setL k seed).length ≤ 16 := ⟨(setL_len hk hk2 h1 h2).1, Nat.le_trans (setL_len hk hk2 h1 h2).2 hk2⟩
  have C := hide (clone_ok (ho.below hb0) hl.1 hl.2)
  have HSL : Hid (∀ r ∈ setL k seed, r < k) := fun r hr => setL_lt hk h1 hr
  have HC := hide hc
  have HM := hide hM
  obtain ⟨g, cap, rfl, hq1, hq2, hq3⟩ := ho
  unfold maxLen at hq2
  clear hc hM hb0 hq3
  show Calls _ _ _ _ fun e w' => ∃ v, e = .returned v ∧ Lsh w' v ((setL k seed).filter fun r => !kn r) ∧ Below w.heap.size w w' ∧ ∀ i, v.ownBlock = some i → w.heap.size ≤ i
  generalize setL k seed = l at *
  go_enter Tryz.func149, Tryz.ntmps149
  go_wp2_with fail
  refine (C.out).mono ?_
  rintro e w1 ⟨v1, rfl, hown, hb1⟩
  have HB1 := hide (below_two HB0.out hb1)
  have DF := hide (delf_ok (w := w1) _ b kn hown hl.1 hl.2 hb1.size fun W r hb hr => pknows_ok b kb k r kn B D W (cell_below (HB1.out.trans (hb.mono HB0.out.size)) HC.out) (HM.out.below (HB1.out.trans (hb.mono HB0.out.size))) (by have := HSL.out r hr; omega))
  clear hown hb1
  unfold fnK at DF
  go_wp2_with fail
  refine (DF.out).mono ?_
  rintro e w2 ⟨v2, rfl, hl2, hb2, hf2⟩
  go_wp2
  go_ret
  exact ⟨_, rfl, hl2, HB1.out.trans (hb2.mono HB0.out.size), fun i hi => Nat.le_trans HB0.out.size (hf2 i hi)⟩
end Go.Proofs.YtjhflcgphejddaaGreatDoor
