/-
  Our own contracts of slices.IndexFunc and DeleteFunc at []int with guard's two closures over this seat's translation. Lemmas for the laws above; no statement is proved here.
-/
import Derived.Test.YtmmlcomfkikomaaDoorIClone
import Derived.Lib.SliceRun

namespace Go.Proofs.YtmmlcomfkikomaaDoor
open Go.RowKit
set_option linter.unusedVariables false
set_option maxRecDepth 100000

theorem Kept.toBelow {B g : Nat} {w w' : World} (h : Kept (fun i => i = g) w w') (hB : B ≤ g) (hs : B ≤ w.heap.size) : Below B w w' :=
  ⟨h.os, h.tape, h.output, h.size, fun i hi => h.block i (by omega) (fun e => by omega)⟩
theorem kept_sets {M : Nat → Prop} {w0 : World} {g : Nat} (hg : M g) : ∀ (vs : List Value) (o : Nat) (w : World), Kept M w0 w → Kept M w0 (w.setCells g o vs)
  | [], _, _, h => h
  | v :: r, o, w, h => kept_sets hg r (o + 1) _ (h.setCell _ _ (Or.inl hg))

/-- A closure of mended, as a value. -/
def fnL1 (b : Nat) : Value := .func (.func 34) #[] #[.pointer (some ⟨b, 0, none⟩)]

set_option maxHeartbeats 1000000 in
theorem idxf1_ok {w : World} (b : Nat) {v : Value} {l : List Nat} (kn : Nat → Bool) (h : Lst w v l) (hl : l.length ≤ 16)
    (hK : ∀ W (r : Nat), Below w.heap.size w W → r ∈ l → Calls Tryd.prog 34 #[.int .i64 (r : Nat), .pointer (some ⟨b, 0, none⟩)] W fun e w' => e = .returned (.bool (kn r)) ∧ Below W.heap.size W w') :
    Calls Tryd.prog 43 #[v, fnL1 b] w fun e w' => ∃ i : Int, e = .returned (.int .i64 i) ∧ IsIdx (fun q => kn (l.getD q 0)) l.length i ∧ Below w.heap.size w w' := by
  obtain ⟨g, cap, rfl, h1, h2, h3⟩ := h
  have HC := hide h3
  have K := hide hK
  clear h3 hK
  unfold maxLen at h2
  unfold fnL1
  go_enter Tryd.func43, Tryd.ntmps43
  go_wp2
  go_loopw [5, 8] (fun _ i wr => ∃ j : Nat, j ≤ l.length ∧ i = .int .i64 j ∧ Below w.heap.size w wr ∧ ∀ q, q < j → kn (l.getD q 0) = false) (fun _ i _ => l.length - (intOf i).toNat)
  case atStart => exact ⟨0, Nat.zero_le _, rfl, Below.refl _ _, fun q hq => absurd hq (Nat.not_lt_zero _)⟩
  case round =>
    obtain ⟨j, hj, rfl, hb, hno⟩ := hrel
    have HN := hide hno
    clear hno
    by_cases hlt : j < l.length
    · have hc := cell_below hb (HC.out j hlt)
      have hK := K.out wr _ hb (getD_mem hlt)
      simp only [Nat.zero_add] at hc
      have HB := hide hb
      clear hb
      generalize hr : l.getD j 0 = r at *
      have HR := hide hr
      clear hr
      cases hq : kn r with
      | true =>
        rw [hq] at hK
        have HQ := hide hq
        clear hq
        go_wp2_with (go_at_call 34; refine hK.mono ?_; rintro e w1 ⟨rfl, hb1⟩)
        go_ret
        exact ⟨_, rfl, Or.inr ⟨j, rfl, hlt, by show kn (l.getD j 0) = true; rw [HR.out]; exact HQ.out, HN.out⟩, below_two HB.out hb1⟩
      | false =>
        rw [hq] at hK
        have HQ := hide hq
        clear hq
        go_wp2_with (go_at_call 34; refine hK.mono ?_; rintro e w1 ⟨rfl, hb1⟩)
        go_roundw
        case rel =>
          refine ⟨j + 1, by omega, by go_num, below_two HB.out hb1, fun q hq => ?_⟩
          by_cases c : q = j
          · rw [c, HR.out]; exact HQ.out
          · exact HN.out q (by omega)
        case measure => simp [intOf]; omega
    · obtain rfl : j = l.length := by omega
      go_wp2
      go_ret
      exact ⟨_, rfl, Or.inl ⟨rfl, HN.out⟩, hb⟩

set_option maxHeartbeats 2000000 in
theorem delf1_ok {w : World} (B b g cap : Nat) {l : List Nat} (kn : Nat → Bool) (h : w.ownsRow B 3 1 (.slice (some ⟨g, 0, none⟩) l.length cap) l.length (toV l)) (h0 : 0 < l.length) (hl : l.length ≤ 16) (hB : B ≤ w.heap.size)
    (hK : ∀ W (r : Nat), Kept (fun i => i = g) w W → r ∈ l → Calls Tryd.prog 34 #[.int .i64 (r : Nat), .pointer (some ⟨b, 0, none⟩)] W fun e w' => e = .returned (.bool (kn r)) ∧ Below W.heap.size W w') :
    Calls Tryd.prog 33 #[.slice (some ⟨g, 0, none⟩) l.length cap, fnL1 b] w fun e w' => ∃ v', e = .returned v' ∧ Lsh w' v' (l.filter fun r => !kn r) ∧ Kept (fun i => i = g) w w' := by
  have IX := hide (idxf1_ok b kn (own_lst h h0) hl fun W r hb hr => hK W r ((Kept.refl _ w).below hb) hr)
  have hg1 : B ≤ g := (h.lt g rfl).1
  have hcap : l.length ≤ cap ∧ cap ≤ maxLen := by
    obtain ⟨g', cap', hv', q1, q2, _⟩ := own_lst h h0
    cases hv'
    exact ⟨q1, q2⟩
  obtain ⟨hc1, hc2⟩ := hcap
  unfold maxLen at hc2
  have H := hide h
  have K := hide hK
  clear h hK
  have HLen : Hid (∀ j, j < l.length → l[j]? = some (l.getD j 0)) := fun j hj => by simp [List.getD, hj]
  unfold fnL1
  go_enter Tryd.func33, Tryd.ntmps33
  go_wp2_with fail
  refine (IX.out).mono ?_
  rintro e w1 ⟨i1, rfl, hi1, hb1⟩
  have HB1 := hide hb1
  clear hb1
  rcases hi1 with ⟨rfl, hall⟩ | ⟨j0, rfl, hj0, hd0, hno⟩
  · have HA := hide hall
    clear hall
    go_wp2
    go_ret
    have e : (l.filter fun r => !kn r) = l := List.filter_eq_self.2 fun r hr => by
      obtain ⟨q, hq, e⟩ := List.getElem_of_mem hr
      have := HA.out q hq
      simp only [List.getD, List.getElem?_eq_getElem hq, Option.getD_some, e] at this
      rw [this]; rfl
    rw [e]
    refine ⟨_, rfl, (own_lsh H.out).below HB1.out, (Kept.refl _ w).below HB1.out⟩
  · have HS := hide (KInv.start (del := kn) (l := l) (j := j0) (fun q x hq hx => by have h9 : kn (l.getD q 0) = false := hno q hq; simpa [List.getD, hx] using h9) (HLen.out j0 hj0) hd0)
    have hne : ((j0 : Int) == -1) = false := by rw [beq_eq_false_iff_ne]; omega
    clear hno hd0
    go_wp2
    go_loopw [5, 6, 7] (fun s5 s6 _ wr => ∃ (i j : Nat) (X : List Nat), s5 = .int .i64 i ∧ s6 = .int .i64 j ∧ KInv kn l i j X ∧ wr.ownsRow B 3 1 (.slice (some ⟨g, 0, none⟩) l.length cap) l.length (toV X) ∧ Kept (fun i => i = g) w wr) (fun _ s6 _ _ => l.length - (intOf s6).toNat)
    case atStart => exact ⟨j0, j0 + 1, l, rfl, by go_num, HS.out, own_under' H.out HB1.out, (Kept.refl _ w).below HB1.out⟩
    case round =>
      obtain ⟨i, j, X, rfl, rfl, hI, hO, hb⟩ := hrel
      have hij := hI.lt
      have hjl := hI.le
      have HI := hide hI
      have HO := hide hO
      have HB := hide hb
      clear hI hO hb
      by_cases hlt : j < l.length
      · have hx := HLen.out j hlt
        have hXj := HI.out.nth
        have hXl := HI.out.len
        have hcj : wr.cell? ⟨g, j, none⟩ = some (.int .i64 (l.getD j 0 : Nat)) := by
          rw [HO.out.cellAt j (by omega)]
          unfold toV
          rw [List.getElem?_map, hXj, hx]; rfl
        have KC := hide (K.out wr _ HB.out (getD_mem hlt))
        generalize hr : l.getD j 0 = r at *
        have HX := hide hx
        clear hr hx hXj
        go_wp2_with fail
        refine (KC.out).mono ?_
        rintro e w2 ⟨rfl, hb2⟩
        have HO2 := hide (own_under' HO.out hb2)
        have HB2 := hide (HB.out.below hb2)
        have hci : w2.cell? ⟨g, i, none⟩ = some (.int .i64 (X.getD i 0 : Nat)) := by
          rw [HO2.out.cellAt i (by omega)]
          unfold toV
          rw [List.getElem?_map]
          simp [List.getD, show i < X.length by omega]
        have hfi := HO2.out.frozenAt i
        clear hb2 hcj KC
        cases hq : kn r with
        | true =>
          have HQ := hide hq
          clear hq
          go_wp2
          go_roundw
          case rel => exact ⟨i, j + 1, X, rfl, by go_num, HI.out.skip HX.out HQ.out, HO2.out, HB2.out⟩
          case measure => simp [intOf]; omega
        | false =>
          have HQ := hide hq
          clear hq
          go_wp2
          go_roundw
          case rel =>
            refine ⟨i + 1, j + 1, X.set i r, by go_num, by go_num, HI.out.keep HX.out HQ.out, ?_, HB2.out.setCell _ _ (Or.inl rfl)⟩
            have h9 := (HO2.out.stored i (.int .i64 (r : Nat))).1
            have e : toV (X.set i r) = (toV X).set i (.int .i64 (r : Nat)) := by unfold toV; rw [List.map_set]
            rw [e]; exact h9
          case measure => simp [intOf]; omega
      · obtain rfl : j = l.length := by omega
        have hXl := HI.out.len
        have hcl : ∀ ty, (Builtin.clear_ #[47] ty #[.slice (some ⟨g, i, none⟩) (l.length - i) (cap - i)]).run Tryd.prog wr = .ok (.tuple #[]) (wr.setCells g i (List.replicate (l.length - i) (.int .i64 0))) :=
          fun ty => Lib.run_clear_slice wr 47 3 ty (.int .i64 0) Tryd.underlying47 (fun _ => by kernel_rfl) rfl rfl g i _ _ (by omega) (fun t ht => by
            rw [HO.out.cellAt (i + t) (by omega)]
            unfold toV
            rw [List.getElem?_map]
            simp [show i + t < X.length by omega]) (fun t ht => HO.out.frozenAt _)
        go_wp2
        go_ret
        obtain ⟨ys, hy1, hy2⟩ := own_sets (List.replicate (l.length - i) (.int .i64 0)) i wr _ HO.out
        have hc := own_cut hy1 (i := i) (by omega)
        have e : ys.take (i * 1) = toV (l.filter fun r => !kn r) := by rw [Nat.mul_one, hy2, ← HI.out.done]; unfold toV; rw [List.map_take]
        have e2 : i = (l.filter fun r => !kn r).length := by rw [← HI.out.done, List.length_take]; omega
        rw [e] at hc
        refine ⟨_, rfl, own_lsh (B := B) (by rw [← e2]; exact hc), kept_sets (M := fun i => i = g) rfl _ _ _ HB.out⟩

/-- A closure of mended, as a value. -/
def fnL2 (b : Nat) : Value := .func (.func 35) #[] #[.pointer (some ⟨b, 0, none⟩)]

set_option maxHeartbeats 1000000 in
theorem idxf2_ok {w : World} (b : Nat) {v : Value} {l : List Nat} (kn : Nat → Bool) (h : Lst w v l) (hl : l.length ≤ 16)
    (hK : ∀ W (r : Nat), Below w.heap.size w W → r ∈ l → Calls Tryd.prog 35 #[.int .i64 (r : Nat), .pointer (some ⟨b, 0, none⟩)] W fun e w' => e = .returned (.bool (kn r)) ∧ Below W.heap.size W w') :
    Calls Tryd.prog 43 #[v, fnL2 b] w fun e w' => ∃ i : Int, e = .returned (.int .i64 i) ∧ IsIdx (fun q => kn (l.getD q 0)) l.length i ∧ Below w.heap.size w w' := by
  obtain ⟨g, cap, rfl, h1, h2, h3⟩ := h
  have HC := hide h3
  have K := hide hK
  clear h3 hK
  unfold maxLen at h2
  unfold fnL2
  go_enter Tryd.func43, Tryd.ntmps43
  go_wp2
  go_loopw [5, 8] (fun _ i wr => ∃ j : Nat, j ≤ l.length ∧ i = .int .i64 j ∧ Below w.heap.size w wr ∧ ∀ q, q < j → kn (l.getD q 0) = false) (fun _ i _ => l.length - (intOf i).toNat)
  case atStart => exact ⟨0, Nat.zero_le _, rfl, Below.refl _ _, fun q hq => absurd hq (Nat.not_lt_zero _)⟩
  case round =>
    obtain ⟨j, hj, rfl, hb, hno⟩ := hrel
    have HN := hide hno
    clear hno
    by_cases hlt : j < l.length
    · have hc := cell_below hb (HC.out j hlt)
      have hK := K.out wr _ hb (getD_mem hlt)
      simp only [Nat.zero_add] at hc
      have HB := hide hb
      clear hb
      generalize hr : l.getD j 0 = r at *
      have HR := hide hr
      clear hr
      cases hq : kn r with
      | true =>
        rw [hq] at hK
        have HQ := hide hq
        clear hq
        go_wp2_with (go_at_call 35; refine hK.mono ?_; rintro e w1 ⟨rfl, hb1⟩)
        go_ret
        exact ⟨_, rfl, Or.inr ⟨j, rfl, hlt, by show kn (l.getD j 0) = true; rw [HR.out]; exact HQ.out, HN.out⟩, below_two HB.out hb1⟩
      | false =>
        rw [hq] at hK
        have HQ := hide hq
        clear hq
        go_wp2_with (go_at_call 35; refine hK.mono ?_; rintro e w1 ⟨rfl, hb1⟩)
        go_roundw
        case rel =>
          refine ⟨j + 1, by omega, by go_num, below_two HB.out hb1, fun q hq => ?_⟩
          by_cases c : q = j
          · rw [c, HR.out]; exact HQ.out
          · exact HN.out q (by omega)
        case measure => simp [intOf]; omega
    · obtain rfl : j = l.length := by omega
      go_wp2
      go_ret
      exact ⟨_, rfl, Or.inl ⟨rfl, HN.out⟩, hb⟩

set_option maxHeartbeats 2000000 in
theorem delf2_ok {w : World} (B b g cap : Nat) {l : List Nat} (kn : Nat → Bool) (h : w.ownsRow B 3 1 (.slice (some ⟨g, 0, none⟩) l.length cap) l.length (toV l)) (h0 : 0 < l.length) (hl : l.length ≤ 16) (hB : B ≤ w.heap.size)
    (hK : ∀ W (r : Nat), Kept (fun i => i = g) w W → r ∈ l → Calls Tryd.prog 35 #[.int .i64 (r : Nat), .pointer (some ⟨b, 0, none⟩)] W fun e w' => e = .returned (.bool (kn r)) ∧ Below W.heap.size W w') :
    Calls Tryd.prog 33 #[.slice (some ⟨g, 0, none⟩) l.length cap, fnL2 b] w fun e w' => ∃ v', e = .returned v' ∧ Lsh w' v' (l.filter fun r => !kn r) ∧ Kept (fun i => i = g) w w' := by
  have IX := hide (idxf2_ok b kn (own_lst h h0) hl fun W r hb hr => hK W r ((Kept.refl _ w).below hb) hr)
  have hg1 : B ≤ g := (h.lt g rfl).1
  have hcap : l.length ≤ cap ∧ cap ≤ maxLen := by
    obtain ⟨g', cap', hv', q1, q2, _⟩ := own_lst h h0
    cases hv'
    exact ⟨q1, q2⟩
  obtain ⟨hc1, hc2⟩ := hcap
  unfold maxLen at hc2
  have H := hide h
  have K := hide hK
  clear h hK
  have HLen : Hid (∀ j, j < l.length → l[j]? = some (l.getD j 0)) := fun j hj => by simp [List.getD, hj]
  unfold fnL2
  go_enter Tryd.func33, Tryd.ntmps33
  go_wp2_with fail
  refine (IX.out).mono ?_
  rintro e w1 ⟨i1, rfl, hi1, hb1⟩
  have HB1 := hide hb1
  clear hb1
  rcases hi1 with ⟨rfl, hall⟩ | ⟨j0, rfl, hj0, hd0, hno⟩
  · have HA := hide hall
    clear hall
    go_wp2
    go_ret
    have e : (l.filter fun r => !kn r) = l := List.filter_eq_self.2 fun r hr => by
      obtain ⟨q, hq, e⟩ := List.getElem_of_mem hr
      have := HA.out q hq
      simp only [List.getD, List.getElem?_eq_getElem hq, Option.getD_some, e] at this
      rw [this]; rfl
    rw [e]
    refine ⟨_, rfl, (own_lsh H.out).below HB1.out, (Kept.refl _ w).below HB1.out⟩
  · have HS := hide (KInv.start (del := kn) (l := l) (j := j0) (fun q x hq hx => by have h9 : kn (l.getD q 0) = false := hno q hq; simpa [List.getD, hx] using h9) (HLen.out j0 hj0) hd0)
    have hne : ((j0 : Int) == -1) = false := by rw [beq_eq_false_iff_ne]; omega
    clear hno hd0
    go_wp2
    go_loopw [5, 6, 7] (fun s5 s6 _ wr => ∃ (i j : Nat) (X : List Nat), s5 = .int .i64 i ∧ s6 = .int .i64 j ∧ KInv kn l i j X ∧ wr.ownsRow B 3 1 (.slice (some ⟨g, 0, none⟩) l.length cap) l.length (toV X) ∧ Kept (fun i => i = g) w wr) (fun _ s6 _ _ => l.length - (intOf s6).toNat)
    case atStart => exact ⟨j0, j0 + 1, l, rfl, by go_num, HS.out, own_under' H.out HB1.out, (Kept.refl _ w).below HB1.out⟩
    case round =>
      obtain ⟨i, j, X, rfl, rfl, hI, hO, hb⟩ := hrel
      have hij := hI.lt
      have hjl := hI.le
      have HI := hide hI
      have HO := hide hO
      have HB := hide hb
      clear hI hO hb
      by_cases hlt : j < l.length
      · have hx := HLen.out j hlt
        have hXj := HI.out.nth
        have hXl := HI.out.len
        have hcj : wr.cell? ⟨g, j, none⟩ = some (.int .i64 (l.getD j 0 : Nat)) := by
          rw [HO.out.cellAt j (by omega)]
          unfold toV
          rw [List.getElem?_map, hXj, hx]; rfl
        have KC := hide (K.out wr _ HB.out (getD_mem hlt))
        generalize hr : l.getD j 0 = r at *
        have HX := hide hx
        clear hr hx hXj
        go_wp2_with fail
        refine (KC.out).mono ?_
        rintro e w2 ⟨rfl, hb2⟩
        have HO2 := hide (own_under' HO.out hb2)
        have HB2 := hide (HB.out.below hb2)
        have hci : w2.cell? ⟨g, i, none⟩ = some (.int .i64 (X.getD i 0 : Nat)) := by
          rw [HO2.out.cellAt i (by omega)]
          unfold toV
          rw [List.getElem?_map]
          simp [List.getD, show i < X.length by omega]
        have hfi := HO2.out.frozenAt i
        clear hb2 hcj KC
        cases hq : kn r with
        | true =>
          have HQ := hide hq
          clear hq
          go_wp2
          go_roundw
          case rel => exact ⟨i, j + 1, X, rfl, by go_num, HI.out.skip HX.out HQ.out, HO2.out, HB2.out⟩
          case measure => simp [intOf]; omega
        | false =>
          have HQ := hide hq
          clear hq
          go_wp2
          go_roundw
          case rel =>
            refine ⟨i + 1, j + 1, X.set i r, by go_num, by go_num, HI.out.keep HX.out HQ.out, ?_, HB2.out.setCell _ _ (Or.inl rfl)⟩
            have h9 := (HO2.out.stored i (.int .i64 (r : Nat))).1
            have e : toV (X.set i r) = (toV X).set i (.int .i64 (r : Nat)) := by unfold toV; rw [List.map_set]
            rw [e]; exact h9
          case measure => simp [intOf]; omega
      · obtain rfl : j = l.length := by omega
        have hXl := HI.out.len
        have hcl : ∀ ty, (Builtin.clear_ #[47] ty #[.slice (some ⟨g, i, none⟩) (l.length - i) (cap - i)]).run Tryd.prog wr = .ok (.tuple #[]) (wr.setCells g i (List.replicate (l.length - i) (.int .i64 0))) :=
          fun ty => Lib.run_clear_slice wr 47 3 ty (.int .i64 0) Tryd.underlying47 (fun _ => by kernel_rfl) rfl rfl g i _ _ (by omega) (fun t ht => by
            rw [HO.out.cellAt (i + t) (by omega)]
            unfold toV
            rw [List.getElem?_map]
            simp [show i + t < X.length by omega]) (fun t ht => HO.out.frozenAt _)
        go_wp2
        go_ret
        obtain ⟨ys, hy1, hy2⟩ := own_sets (List.replicate (l.length - i) (.int .i64 0)) i wr _ HO.out
        have hc := own_cut hy1 (i := i) (by omega)
        have e : ys.take (i * 1) = toV (l.filter fun r => !kn r) := by rw [Nat.mul_one, hy2, ← HI.out.done]; unfold toV; rw [List.map_take]
        have e2 : i = (l.filter fun r => !kn r).length := by rw [← HI.out.done, List.length_take]; omega
        rw [e] at hc
        refine ⟨_, rfl, own_lsh (B := B) (by rw [← e2]; exact hc), kept_sets (M := fun i => i = g) rfl _ _ _ HB.out⟩

end Go.Proofs.YtmmlcomfkikomaaDoor
