/-
  Lemmas for the law above, joined into one text (PMore). No statement is proved here.
-/
import Derived.Test.YtjhflcgphejddaaGreatDoorZPTake
namespace Go.Proofs.YtjhflcgphejddaaGreatDoor
open Go.RowKit Go.Maps
set_option linter.unusedVariables false
set_option maxRecDepth 100000

set_option maxHeartbeats 2000000 in
theorem take_check (b tb kb k z : Nat) (p : PS) (T : List Nat) (vW : Value) (X : List Wtr) (seed : Int) (data : ByteArray) (w : World) (h : PQ w b tb kb k z p T vW X) (hf : fD k z seed data.size ≠ 0) :
    Calls Tryz.prog 71 #[.pointer (some ⟨b, 0, none⟩), dropV seed data] w fun e w' => e = .returned (.tuple #[.slice none 0 0, .iface 61 (.int .i64 (fD k z seed data.size))]) ∧ Below w.heap.size w w' := by
  have hb0 : Below w.heap.size w (w.alloc (.cells #[.int .i64 seed, .string data] 43)) := (Below.refl _ _).alloc (Nat.le_refl _) _
  have HB0 := hide hb0
  have hdi := (dropIn_new w seed data)
  obtain ⟨⟨cs, _⟩, cd, _⟩ := hdi
  simp only [Nat.zero_add] at cd
  have hck := cell_below hb0 h.ck
  have hcz := cell_below hb0 h.cz
  have DC : Hid (∀ W, Calls Tryz.prog 36 #[.int .i64 k, .int .i64 z, .agg #[.int .i64 seed, .string data]] W fun e w' => e = .returned (.iface 61 (.int .i64 (fD k z seed data.size))) ∧ Below W.heap.size W w') := fun W => by
    refine (dcheck_any k z seed data W).mono ?_
    rintro e w' ⟨er, rfl, he, hb⟩
    rcases he with ⟨h0, _⟩ | rfl
    · exact absurd h0 hf
    · exact ⟨rfl, hb⟩
  have hbl := h.flt b (Or.inl rfl)
  clear h hb0 hf
  generalize fD k z seed data.size = x at *
  unfold dropV
  go_enter Tryz.func71, Tryz.ntmps71
  go_wp2_with fail
  go_region_held3 (fun w' => w'.cell? ⟨b, 0, none⟩ = some (.int .i64 k) ∧ w'.cell? ⟨b, 1, none⟩ = some (.int .i64 z) ∧ w'.cell? ⟨w.heap.size, 0, none⟩ = some (.int .i64 seed) ∧ w'.cell? ⟨w.heap.size, 1, none⟩ = some (.string data)) (first | go_keep | exact ⟨cell_below hb1 hck, cell_below hb1 hcz, cell_below hb1 cs, cell_below hb1 cd⟩)
    (first | (go_at_call 36; refine (DC.out _).mono ?_; rintro e w1 ⟨rfl, hb1⟩))
  have HB1 := hide (below_two HB0.out (show Below _ _ w1 from ⟨hb1.os, hb1.tape, hb1.output, hb1.size, hb1.block⟩))
  clear hb1
  go_wp2
  go_ret2
  exact ⟨rfl, HB1.out⟩

set_option maxHeartbeats 4000000 in
theorem take_clash (b tb kb k z : Nat) (p : PS) (T : List Nat) (vW : Value) (X : List Wtr) (seed : Nat) (data : ByteArray) (w : World) (h : PQ w b tb kb k z p T vW X) (hf : fD k z seed data.size = 0) (hm : seed ∈ T) :
    Calls Tryz.prog 71 #[.pointer (some ⟨b, 0, none⟩), dropV seed data] w fun e w' => e = .returned (.tuple #[.slice none 0 0, .iface 61 (.int .i64 7)]) ∧ Below w.heap.size w w' := by
  have hb0 : Below w.heap.size w (w.alloc (.cells #[.int .i64 (seed : Nat), .string data] 43)) := (Below.refl _ _).alloc (Nat.le_refl _) _
  have HB0 := hide hb0
  have H := hide h
  have hd := fD_ok hf
  have hsd : 1 ≤ seed ∧ seed ≤ 10000 := by have := hd.1; unfold OkD at this; omega
  have hdz : Hid (data.size = z) := by have := hd.2; unfold Hid; omega
  have hdi := (dropIn_new w seed data)
  have HDI := hide hdi
  obtain ⟨⟨cs, _⟩, cd, _⟩ := hdi
  simp only [Nat.zero_add] at cd
  have hck := cell_below hb0 h.ck
  have hcz := cell_below hb0 h.cz
  have DC := hide (fun W => dcheck_ok k z seed data W hd.1.1 hd.1.2.1 hd.1.2.2 hd.2)
  have hnk := h.nk
  have hnz := h.nz
  have hbl := h.flt b (Or.inl rfl)
  clear h hb0 hd
  unfold dropV at *
  go_enter Tryz.func71, Tryz.ntmps71
  go_wp2_with fail
  go_region_held3 (fun w' => w'.cell? ⟨b, 0, none⟩ = some (.int .i64 k) ∧ w'.cell? ⟨b, 1, none⟩ = some (.int .i64 z) ∧ w'.cell? ⟨w.heap.size, 0, none⟩ = some (.int .i64 seed) ∧ w'.cell? ⟨w.heap.size, 1, none⟩ = some (.string data)) (first | go_keep | exact ⟨cell_below hb1 hck, cell_below hb1 hcz, cell_below hb1 cs, cell_below hb1 cd⟩)
    (first | (go_at_call 36; refine (DC.out _).mono ?_; rintro e w1 ⟨rfl, hb1⟩))
  have hb1' : Below w.heap.size w w1 := below_two HB0.out ⟨hb1.os, hb1.tape, hb1.output, hb1.size, hb1.block⟩
  have HB1 := hide hb1'
  have H1 := hide (H.out.below hb1')
  have HD1 := hide (HDI.out.below (w' := w1) ⟨hb1.os, hb1.tape, hb1.output, hb1.size, hb1.block⟩)
  obtain ⟨⟨cs1, _⟩, cd1, _⟩ := HD1.out
  simp only [Nat.zero_add] at cd1
  have hct := H1.out.ct
  obtain ⟨Dt, ht⟩ := H1.out.tk
  have HT := hide ht
  have hl1 := (ht.of_block (w' := w1.drew) rfl).look hsd.2
  have hl2 := ((ht.alloc (.cells #[] 179)).of_block (w' := (w1.alloc (.cells #[] 179)).drew) rfl).look hsd.2
  have hba : Below w1.heap.size w1 (w1.alloc (.cells #[] 179)) := (Below.refl _ _).alloc (Nat.le_refl _) _
  have hct2 := cell_below hba hct
  have hcs2 := cell_below hba cs1
  rw [decide_eq_true hm] at hl1 hl2
  clear hb1 hb1' ht hck hcz cs cd DC HDI
  go_upto_region 4 with fail
  go_cut [8] (fun t wx => t = .bool true ∧ Below w1.heap.size w1 wx)
  case first =>
    go_region
    all_goals
      go_wp2_with fail
      go_meet
      exact ⟨rfl, hba.drew⟩
  case rest =>
  obtain ⟨rfl, hb2⟩ := hcut
  have HB2 := hide (below_two HB1.out hb2)
  clear hl1 hl2 hba hct hct2 hcs2 cs1 cd1
  go_wp2
  go_ret2
  exact ⟨rfl, HB2.out⟩

set_option maxHeartbeats 4000000 in
theorem take_full (b tb kb k z : Nat) (p : PS) (T : List Nat) (vW : Value) (X : List Wtr) (seed : Nat) (data : ByteArray) (w : World) (h : PQ w b tb kb k z p T vW X) (hf : fD k z seed data.size = 0) (hm : seed ∉ T) (h60 : 60 ≤ T.length) :
    Calls Tryz.prog 71 #[.pointer (some ⟨b, 0, none⟩), dropV seed data] w fun e w' => e = .returned (.tuple #[.slice none 0 0, .iface 61 (.int .i64 4)]) ∧ Below w.heap.size w w' := by
  have hb0 : Below w.heap.size w (w.alloc (.cells #[.int .i64 (seed : Nat), .string data] 43)) := (Below.refl _ _).alloc (Nat.le_refl _) _
  have HB0 := hide hb0
  have H := hide h
  have hd := fD_ok hf
  have hsd : 1 ≤ seed ∧ seed ≤ 10000 := by have := hd.1; unfold OkD at this; omega
  have hdz : Hid (data.size = z) := by have := hd.2; unfold Hid; omega
  have hdi := (dropIn_new w seed data)
  have HDI := hide hdi
  obtain ⟨⟨cs, _⟩, cd, _⟩ := hdi
  simp only [Nat.zero_add] at cd
  have hck := cell_below hb0 h.ck
  have hcz := cell_below hb0 h.cz
  have DC := hide (fun W => dcheck_ok k z seed data W hd.1.1 hd.1.2.1 hd.1.2.2 hd.2)
  have hnk := h.nk
  have hnz := h.nz
  have hbl := h.flt b (Or.inl rfl)
  clear h hb0 hd
  unfold dropV at *
  go_enter Tryz.func71, Tryz.ntmps71
  go_wp2_with fail
  go_region_held3 (fun w' => w'.cell? ⟨b, 0, none⟩ = some (.int .i64 k) ∧ w'.cell? ⟨b, 1, none⟩ = some (.int .i64 z) ∧ w'.cell? ⟨w.heap.size, 0, none⟩ = some (.int .i64 seed) ∧ w'.cell? ⟨w.heap.size, 1, none⟩ = some (.string data)) (first | go_keep | exact ⟨cell_below hb1 hck, cell_below hb1 hcz, cell_below hb1 cs, cell_below hb1 cd⟩)
    (first | (go_at_call 36; refine (DC.out _).mono ?_; rintro e w1 ⟨rfl, hb1⟩))
  have hb1' : Below w.heap.size w w1 := below_two HB0.out ⟨hb1.os, hb1.tape, hb1.output, hb1.size, hb1.block⟩
  have HB1 := hide hb1'
  have H1 := hide (H.out.below hb1')
  have HD1 := hide (HDI.out.below (w' := w1) ⟨hb1.os, hb1.tape, hb1.output, hb1.size, hb1.block⟩)
  obtain ⟨⟨cs1, _⟩, cd1, _⟩ := HD1.out
  simp only [Nat.zero_add] at cd1
  have hct := H1.out.ct
  obtain ⟨Dt, ht⟩ := H1.out.tk
  have HT := hide ht
  have hl1 := (ht.of_block (w' := w1.drew) rfl).look hsd.2
  have hl2 := ((ht.alloc (.cells #[] 179)).of_block (w' := (w1.alloc (.cells #[] 179)).drew) rfl).look hsd.2
  have hba : Below w1.heap.size w1 (w1.alloc (.cells #[] 179)) := (Below.refl _ _).alloc (Nat.le_refl _) _
  have hct2 := cell_below hba hct
  have hcs2 := cell_below hba cs1
  rw [decide_eq_false hm] at hl1 hl2
  clear hb1 hb1' ht hck hcz cs cd DC HDI
  go_upto_region 4 with fail
  go_cut [8] (fun t wx => t = .bool false ∧ Below w1.heap.size w1 wx)
  case first =>
    go_region
    all_goals
      go_wp2_with fail
      go_meet
      exact ⟨rfl, hba.drew⟩
  case rest =>
  obtain ⟨rfl, hb2⟩ := hcut
  have HB2 := hide (below_two HB1.out hb2)
  have H2 := hide (H1.out.below hb2)
  have hct9 := H2.out.ct
  obtain ⟨Dt2, ht2⟩ := H2.out.tk
  have HT2 := hide ht2
  have hlen2 := ht2.2.1
  have hl60 : (60 : Int) ≤ (Maps.size Dt2 : Int) := by omega
  clear ht2 hl1 hl2 hba hct hct2 hcs2 cs1 cd1
  generalize wc = w2 at *
  go_wp2_with (at_len; refine wpList_len_own _ rfl _ 114 rfl 3 179 Tryz.underlying114 _ tb T.length Dt2 rfl HT2.out.1 ?_)
  go_ret2
  exact ⟨rfl, HB2.out⟩

set_option maxHeartbeats 2000000 in
theorem knows_walk (b tb kb k z : Nat) (p : PS) (T : List Nat) (vW : Value) (X : List Wtr) (w : World) (h : PQ w b tb kb k z p T vW X) :
    Calls Tryz.prog 73 #[.pointer (some ⟨b, 0, none⟩)] w fun e w' => ∃ v, e = .returned v ∧ Lsh w' v (knows k p.known) ∧ Below w.heap.size w w' := by
  have hck := h.ck
  have HC := hide h.cn
  obtain ⟨D, hD⟩ := h.kn
  have HD := hide hD
  have hk2 := h.nk.2
  clear h hD
  generalize p.known = kn at *
  generalize p.B = Bq at *
  obtain ⟨i0, hi, hz0, hz1, hz2⟩ := info_parts Tryz.infoInt
  have Hi := hide hi
  have Hz0 := hide hz0
  have Hz1 := hide hz1
  have Hz2 := hide hz2
  clear hi hz0 hz1 hz2
  go_enter Tryz.func73, Tryz.ntmps73
  go_wp2
  go_loopw [3, 4, 9] (fun v _ i wr => ∃ j : Nat, j ≤ k ∧ i = .int .i64 j ∧ wr.ownsRow w.heap.size 3 1 v (knows j kn).length (toV (knows j kn)) ∧ Below w.heap.size w wr) (fun _ _ i _ => k - (intOf i).toNat)
  case atStart => exact ⟨0, Nat.zero_le _, rfl, World.ownsRow_nil _ _ _ _, Below.refl _ _⟩
  case round =>
    obtain ⟨j, hj, rfl, hA, hb⟩ := hrel
    have HA := hide hA
    have HB := hide hb
    have hl := knows_len j kn
    clear hA
    by_cases hlt : j < k
    · have hjk : (j : Int) < (k : Int) := by omega
      have KN := hide (pknows_ok b kb k j kn Bq D wr (cell_below hb HC.out) (HD.out.below hb) (by omega))
      have HK := hide (knows_succ kn j)
      clear hb
      generalize knows j kn = F at *
      go_wp2_with fail
      refine (KN.out).mono ?_
      rintro e w1 ⟨rfl, hb1⟩
      have HA1 := hide (own_under' HA.out hb1)
      have HB1 := hide (below_two HB.out hb1)
      have hbs := HB1.out.size
      clear hb1
      cases hx : kn j with
      | true =>
        rw [Hid, hx, if_pos rfl] at HK
        have HK' := hide HK
        clear hx HK
        go_wp2_with (first | (at_builtin; refine wpList_append_own _ rfl _ _ 23 rfl w.heap.size 3 i0 (.int .i64 0) 1 8 Tryz.underlying23 Hi.out Hz0.out Hz1.out Hz2.out rfl (by decide) _ _ _ rfl (HA1.out.alloc _) ⟨w1.heap.size, 0, none⟩ 1 1 [.int .i64 (j : Nat)] rfl rfl (cell_one_new _ _ _) (fun x hx => by simp at hx; subst hx; rfl) (by unfold maxLen; omega) (by omega) (by simp; omega) ?_; intro v3 w3 hown3 hgrow3 hnil3) | go_in)
        go_roundw
        case rel =>
          have R : j + 1 ≤ k ∧ Value.int .i64 ((j : Int) + 1) = .int .i64 ((j + 1 : Nat) : Int) ∧ w3.ownsRow w.heap.size 3 1 v3 (knows (j + 1) kn).length (toV (knows (j + 1) kn)) ∧ Below w.heap.size w w3 := by
            refine ⟨by omega, by simp, ?_, (HB1.out.alloc hbs _).grown hgrow3 (by simp; omega) (fun q hq => (HA1.out.lt q hq).1)⟩
            rw [HK'.out, List.length_append, show toV (F ++ [j]) = toV F ++ [.int .i64 (j : Nat)] by simp [toV]]
            exact hown3
          first
            | exact ⟨j + 1, R⟩
            | ((repeat apply Exists.intro); exact ⟨⟨j + 1, R⟩, rfl⟩)
        case measure => simp [intOf]; omega
      | false =>
        rw [Hid, hx] at HK
        simp only [Bool.false_eq_true, if_false, List.append_nil] at HK
        have HK' := hide HK
        clear hx HK
        go_wp2_with go_in
        go_roundw
        case rel => exact ⟨j + 1, by omega, by go_num, by rw [HK'.out]; exact HA1.out, HB1.out⟩
        case measure => simp [intOf]; omega
    · obtain rfl : j = k := by omega
      have hjk : ¬ (j : Int) < (j : Int) := by omega
      have HLs := hide (own_lsh HA.out)
      go_wp2
      go_ret
      exact ⟨_, rfl, HLs.out, hb⟩

set_option maxHeartbeats 1000000 in
theorem new_range' (k z : Int) (w : World) (h : ¬ ((1 ≤ k ∧ k ≤ 16) ∧ 1 ≤ z ∧ z ≤ 8)) : Calls Tryz.prog 31 #[.int .i64 k, .int .i64 z] w fun e w' => e = .returned (.tuple #[.pointer none, .iface 61 (.int .i64 1)]) ∧ Below w.heap.size w w' := by
  by_cases h1 : k < 1
  · clear h
    go_enter Tryz.func31, Tryz.ntmps31
    go_wp2
    go_ret2
    exact ⟨rfl, Below.refl _ _⟩
  · by_cases h2 : 16 < k
    · clear h
      go_enter Tryz.func31, Tryz.ntmps31
      go_wp2
      go_ret2
      exact ⟨rfl, Below.refl _ _⟩
    · by_cases h3 : z < 1
      · clear h
        go_enter Tryz.func31, Tryz.ntmps31
        go_wp2
        go_ret2
        exact ⟨rfl, Below.refl _ _⟩
      · have h4 : 8 < z := by omega
        clear h
        go_enter Tryz.func31, Tryz.ntmps31
        go_wp2
        go_ret2
        exact ⟨rfl, Below.refl _ _⟩
/-- One that is new. -/
def newW (w : World) (k z : Nat) : World := ((w.alloc (.map #[] 0)).alloc (.map #[] 0)).alloc (.cells #[.int .i64 k, .int .i64 z, .map (some w.heap.size), .map (some (w.heap.size + 1)), .slice none 0 0] 118)
set_option maxHeartbeats 1000000 in
theorem new_walk (k z : Nat) (w : World) (h1 : 1 ≤ k) (h2 : k ≤ 16) (h3 : 1 ≤ z) (h4 : z ≤ 8) : Calls Tryz.prog 31 #[.int .i64 k, .int .i64 z] w fun e w' => e = .returned (.tuple #[.pointer (some ⟨w.heap.size + 2, 0, none⟩), .nilIface]) ∧ w' = newW w k z := by
  have e1 : ¬ (k : Int) < 1 := by omega
  have e2 : ¬ (16 : Int) < (k : Int) := by omega
  have e3 : ¬ (z : Int) < 1 := by omega
  have e4 : ¬ (8 : Int) < (z : Int) := by omega
  have hm1 := fun w => run_makeMap (P := Tryz.prog) 114 w
  have hm2 := fun w => run_makeMap (P := Tryz.prog) 115 w
  go_enter Tryz.func31, Tryz.ntmps31
  go_wp2
  go_ret2
  exact ⟨rfl, rfl⟩
end Go.Proofs.YtjhflcgphejddaaGreatDoor
