/-
  Lemmas for the law above, joined into one text (SvSolve). No statement is proved here.
-/
import Derived.Test.YtjhflcgphejddaaGreatDoorZSvBlk
import Derived.Test.YtjhflcgphejddaaGreatDoorZG31
import Derived.Test.YtjhflcgphejddaaGreatDoorZG17
import Derived.Test.YtjhflcgphejddaaGreatDoorZMZero
namespace Go.Proofs.YtjhflcgphejddaaGreatDoor
open Go.RowKit Go.Maps
set_option linter.unusedVariables false
set_option maxRecDepth 100000

/-- The first fault of some: its number. -/
def firstF (g : Nat → Int) : Nat → Int
  | 0 => 0
  | n + 1 => if firstF g n ≠ 0 then firstF g n else g n
theorem firstF_stop {g : Nat → Int} {j : Nat} (h : firstF g j ≠ 0) : ∀ n, j ≤ n → firstF g n = firstF g j
  | 0, hn => by obtain rfl : j = 0 := by omega
                rfl
  | n + 1, hn => by
    by_cases e : j = n + 1
    · rw [e]
    · have ih := firstF_stop h n (by omega)
      show (if firstF g n ≠ 0 then firstF g n else g n) = firstF g j
      rw [ih, if_pos h]
theorem firstF_none {g : Nat → Int} : ∀ {n : Nat}, firstF g n = 0 → ∀ i, i < n → g i = 0
  | 0, _, i, hi => absurd hi (Nat.not_lt_zero _)
  | n + 1, h, i, hi => by
    unfold firstF at h
    by_cases c : firstF g n ≠ 0
    · rw [if_pos c] at h; exact absurd h c
    · rw [if_neg c] at h
      by_cases e : i = n
      · rw [e]; exact h
      · exact firstF_none (n := n) (by simpa using c) i (by omega)
theorem firstF_congr {g g' : Nat → Int} : ∀ {n : Nat}, (∀ i, i < n → g i = g' i) → firstF g n = firstF g' n
  | 0, _ => rfl
  | n + 1, h => by
    unfold firstF
    rw [firstF_congr (n := n) (fun i hi => h i (by omega)), h n (by omega)]
/-- What is wrong with drops: its number. -/
def fC (k size : Int) (len : Nat) (s : Nat → Int) (d : Nat → ByteArray) : Int :=
  if 60 < len then 4 else if (1 ≤ k ∧ k ≤ 16) ∧ 1 ≤ size ∧ size ≤ 8 then firstF (fun i => fD k size (s i) (d i).size) len else 1
theorem DropsAt.open {w : World} {v : Value} {len : Nat} {s : Nat → Int} {d : Nat → ByteArray} (h : DropsAt w v len s d) : ∃ a cap, v = .slice a len cap ∧ (0 < len → ∃ b o, a = some ⟨b, o, none⟩ ∧ len ≤ cap ∧ cap ≤ maxLen ∧ ∀ i, i < len → w.cell? ⟨b, o + i * 2, none⟩ = some (.int .i64 (s i)) ∧ w.cell? ⟨b, o + i * 2 + 1, none⟩ = some (.string (d i)) ∧ (d i).size ≤ maxLen ∧ (Lit.int .i64 (s i)).wf = true) := by
  rcases h with ⟨rfl, a, cap, rfl⟩ | ⟨h0, b, o, cap, rfl, h1, h2, h3⟩
  · exact ⟨a, cap, rfl, fun h => by omega⟩
  · exact ⟨_, cap, rfl, fun _ => ⟨b, o, rfl, h1, h2, h3⟩⟩
theorem DropsAt.below {w w' : World} {v : Value} {len : Nat} {s : Nat → Int} {d : Nat → ByteArray} (h : DropsAt w v len s d) (hb : Below w.heap.size w w') : DropsAt w' v len s d := by
  rcases h with h | ⟨h0, b, o, cap, hv, h1, h2, h3⟩
  · exact Or.inl h
  · exact Or.inr ⟨h0, b, o, cap, hv, h1, h2, fun i hi => ⟨cell_below hb (h3 i hi).1, cell_below hb (h3 i hi).2.1, (h3 i hi).2.2⟩⟩
theorem DropsAt.congr {w : World} {v : Value} {len : Nat} {s s' : Nat → Int} {d d' : Nat → ByteArray} (h : DropsAt w v len s d) (e : ∀ i, i < len → s i = s' i) (e2 : ∀ i, i < len → d i = d' i) : DropsAt w v len s' d' := by
  rcases h with h | ⟨h0, b, o, cap, hv, h1, h2, h3⟩
  · exact Or.inl h
  · exact Or.inr ⟨h0, b, o, cap, hv, h1, h2, fun i hi => by rw [← e i hi, ← e2 i hi]; exact h3 i hi⟩

set_option maxHeartbeats 2000000 in
theorem scheck_ok (k size : Int) (v : Value) (len : Nat) (s : Nat → Int) (d : Nat → ByteArray) (w : World) (hv : DropsAt w v len s d) :
    Calls Tryz.prog 76 #[.int .i64 k, .int .i64 size, v] w fun e w' => e = .returned (Tell (fC k size len s d)) ∧ Below w.heap.size w w' := by
  obtain ⟨a, cap, rfl, h0⟩ := hv.open
  by_cases hl : 60 < len
  · have e : Tell (fC k size len s d) = .iface 61 (.int .i64 4) := by unfold fC; rw [if_pos hl]; rfl
    rw [e]
    clear e h0 hv
    go_enter Tryz.func76, Tryz.ntmps76
    go_wp2
    go_ret
    exact ⟨rfl, Below.refl _ _⟩
  by_cases hk : 1 ≤ k ∧ k ≤ 16
  · have W1 := hide (swithin_ok k 16 w hk.1 hk.2)
    by_cases hz : 1 ≤ size ∧ size ≤ 8
    · have W2 := hide (swithin_ok size 8 w hz.1 hz.2)
      have e : fC k size len s d = firstF (fun i => fD k size (s i) (d i).size) len := by unfold fC; rw [if_neg hl, if_pos ⟨hk, hz⟩]
      rw [e]
      have H0 := hide h0
      have hl' : len ≤ 60 := by omega
      clear e h0 hv hk hz hl
      go_enter Tryz.func76, Tryz.ntmps76
      go_wp2_with fail
      refine (W1.out).mono ?_
      rintro e w1 ⟨rfl, rfl⟩
      go_wp2_with fail
      refine (W2.out).mono ?_
      rintro e w1 ⟨rfl, rfl⟩
      go_wp2_with fail
      go_loopw [25] (fun i wr => ∃ j : Nat, j ≤ len ∧ i = .int .i64 j ∧ firstF (fun i => fD k size (s i) (d i).size) j = 0 ∧ Below w.heap.size w wr) (fun i _ => len - (intOf i).toNat)
      case atStart => exact ⟨0, Nat.zero_le _, rfl, rfl, Below.refl _ _⟩
      case round =>
        obtain ⟨j, hj, rfl, hf, hb⟩ := hrel
        have HF := hide hf
        have HB := hide hb
        clear hf hb W1 W2
        by_cases hlt : j < len
        · obtain ⟨bb, o, ha, hc1, hc2, hc⟩ := H0.out (by omega)
          subst ha
          obtain ⟨q0, q1, _, _⟩ := hc j hlt
          have c0 := cell_below HB.out q0
          have c1 := cell_below HB.out q1
          have HStep : Hid (firstF (fun i => fD k size (s i) (d i).size) (j + 1) = fD k size (s j) (d j).size) := by
            unfold Hid; rw [firstF, if_neg (by simp [HF.out])]
          have HD := hide (fun o => dcheck_tell k size (s j) (d j) (wr.alloc o))
          have HB0 := hide (fun o => (Below.refl wr.heap.size wr).alloc (Nat.le_refl _) o)
          have hdn := dropIn_new wr (s j) (d j)
          have n0 := hdn.1.1
          have n1 := hdn.2.1
          simp only [Nat.zero_add] at n1
          unfold maxLen at hc2
          clear hc q0 q1 hdn
          generalize hx : fD k size (s j) (d j).size = x at *
          clear hx
          generalize s j = sj at *
          generalize d j = dj at *
          go_wp2_with fail
          refine (HD.out _).mono ?_
          rintro e w2 ⟨rfl, hb2⟩
          have HB2 := hide (below_two HB.out (below_two (HB0.out _) hb2))
          clear hb2 n0 n1 c0 c1
          by_cases hx0 : x = 0
          · subst hx0
            have e0 : Tell 0 = .nilIface := rfl
            go_wp2
            go_roundw
            case rel => exact ⟨j + 1, by omega, by go_num, HStep.out, HB2.out⟩
            case measure => simp [intOf]; omega
          · have e0 : Tell x = .iface 61 (.int .i64 x) := by unfold Tell; rw [if_neg hx0]
            have hres : Hid (Tell (firstF (fun i => fD k size (s i) (d i).size) len) = .iface 61 (.int .i64 x)) := by
              unfold Hid
              rw [firstF_stop (j := j + 1) (by rw [HStep.out]; exact hx0) len (by omega), HStep.out, e0]
            clear hx0
            rw [e0]
            go_wp2
            go_ret
            exact ⟨by rw [hres.out]; rfl, HB2.out⟩
        · obtain rfl : j = len := by omega
          go_wp2
          go_ret
          exact ⟨by rw [HF.out]; rfl, HB.out⟩
    · have W2 := hide (swithin_not size 8 w (by omega))
      have e : Tell (fC k size len s d) = .iface 61 (.int .i64 1) := by unfold fC; rw [if_neg hl, if_neg (by omega)]; rfl
      rw [e]
      have hl' : len ≤ 60 := by omega
      clear e h0 hv hk hz hl
      go_enter Tryz.func76, Tryz.ntmps76
      go_wp2_with fail
      refine (W1.out).mono ?_
      rintro e w1 ⟨rfl, rfl⟩
      go_wp2_with fail
      refine (W2.out).mono ?_
      rintro e w1 ⟨rfl, rfl⟩
      go_wp2
      go_ret
      exact ⟨rfl, Below.refl _ _⟩
  · have W1 := hide (swithin_not k 16 w (by omega))
    have e : Tell (fC k size len s d) = .iface 61 (.int .i64 1) := by unfold fC; rw [if_neg hl, if_neg (by omega)]; rfl
    rw [e]
    have hl' : len ≤ 60 := by omega
    clear e h0 hv hk hl
    go_enter Tryz.func76, Tryz.ntmps76
    go_wp2_with fail
    refine (W1.out).mono ?_
    rintro e w1 ⟨rfl, rfl⟩
    go_wp2
    go_ret
    exact ⟨rfl, Below.refl _ _⟩

theorem solve1_ok (data z : ByteArray) (zb : Nat) (w : World) (hz : w.cell? ⟨zb, 0, none⟩ = some (.string z)) :
    Calls Tryz.prog 79 #[.string data, .pointer (some ⟨zb, 0, none⟩)] w fun e w' => e = .returned (.bool (decide (data ≠ z))) ∧ w = w' := by
  by_cases h : data = z
  · have hd : decide (data ≠ z) = false := decide_eq_false (by simp [h])
    have hb : (data.toList == z.toList) = true := by rw [h]; simp
    rw [hd]
    clear hd
    go_enter Tryz.func79, Tryz.ntmps79
    go_wp2
    go_ret
    exact ⟨ret_bool (by simp), rfl⟩
  · have hd : decide (data ≠ z) = true := decide_eq_true h
    have hb : (data.toList == z.toList) = false := by
      rw [beq_eq_false_iff_ne, ByteArray.toList_eq, ByteArray.toList_eq]
      exact fun e => h (bytes_of_list' e)
    rw [hd]
    clear hd
    go_enter Tryz.func79, Tryz.ntmps79
    go_wp2
    go_ret
    exact ⟨ret_bool (by simp), rfl⟩
theorem own_strO {w : World} {B : Nat} {v : Value} {O : List ByteArray} (h : w.ownsRow B 9 1 v O.length (O.map .string)) :
    ∃ a cap, v = .slice a O.length cap ∧ (0 < O.length → ∃ g, a = some ⟨g, 0, none⟩ ∧ O.length ≤ cap ∧ cap ≤ maxLen ∧ ∀ i, i < O.length → w.cell? ⟨g, i, none⟩ = some (.string (O.getD i ⟨#[]⟩))) := by
  have h' := h
  rcases h.2 with ⟨hv, h0⟩ | ⟨g, cap, cur, hv, _, hg, h1, h2, hcs, hcur⟩
  · exact ⟨none, 0, by rw [h0]; exact hv, fun h => by omega⟩
  · refine ⟨_, cap, hv, fun _ => ⟨g, rfl, h1, h2, fun i hi => ?_⟩⟩
    rw [hv] at h'
    rw [h'.cellAt i (by omega)]
    simp [hi, List.getD]
set_option maxHeartbeats 2000000 in
theorem idxT_ok (v : Value) (B zb : Nat) (O : List ByteArray) (z : ByteArray) (w : World) (h : w.ownsRow B 9 1 v O.length (O.map .string)) (hlen : O.length ≤ 60) (hz : w.cell? ⟨zb, 0, none⟩ = some (.string z)) :
    Calls Tryz.prog 113 #[v, .func (.func 79) #[] #[.pointer (some ⟨zb, 0, none⟩)]] w fun e w' => ∃ i : Int, e = .returned (.int .i64 i) ∧ FirstAt (fun j => decide (O.getD j ⟨#[]⟩ ≠ z)) O.length i ∧ w = w' := by
  obtain ⟨a, cap, rfl, h0⟩ := own_strO h
  have H0 := hide h0
  have R := hide (fun s => solve1_ok s z zb w hz)
  clear h h0 hz
  go_enter Tryz.func113, Tryz.ntmps113
  go_wp2
  go_loopw [5, 8] (fun _ i wr => ∃ j : Nat, j ≤ O.length ∧ i = .int .i64 j ∧ w = wr ∧ ∀ q, q < j → decide (O.getD q ⟨#[]⟩ ≠ z) = false) (fun _ i _ => O.length - (intOf i).toNat)
  case atStart => exact ⟨0, Nat.zero_le _, rfl, rfl, fun q hq => absurd hq (Nat.not_lt_zero _)⟩
  case round =>
    obtain ⟨j, hj, rfl, hw, hno⟩ := hrel
    subst hw
    have HN := hide hno
    clear hno
    by_cases hlt : j < O.length
    · obtain ⟨b, ha, hc1, hc2, hc⟩ := H0.out (by omega)
      subst ha
      have hcj := hc j hlt
      have hK := R.out (O.getD j ⟨#[]⟩)
      unfold maxLen at hc2
      clear hc
      generalize hx : O.getD j ⟨#[]⟩ = x at *
      have HX := hide hx
      clear hx
      cases hq : decide (x ≠ z) with
      | true =>
        rw [hq] at hK
        have HQ := hide hq
        clear hq
        go_wp2_with (go_at_call 79; refine hK.mono ?_; rintro e w1 ⟨rfl, rfl⟩)
        go_ret
        exact ⟨_, rfl, Or.inr ⟨j, rfl, hlt, by show decide (O.getD j ⟨#[]⟩ ≠ z) = true; rw [HX.out]; exact HQ.out⟩, rfl⟩
      | false =>
        rw [hq] at hK
        have HQ := hide hq
        clear hq
        go_wp2_with (go_at_call 79; refine hK.mono ?_; rintro e w1 ⟨rfl, rfl⟩)
        go_roundw
        case rel =>
          refine ⟨j + 1, by omega, by go_num, by first | rfl | trivial, fun q hq => ?_⟩
          by_cases e : q = j
          · rw [e, HX.out]; exact HQ.out
          · exact HN.out q (by omega)
        case measure => simp [intOf]; omega
    · obtain rfl : j = O.length := by omega
      go_wp2
      go_ret
      exact ⟨_, rfl, Or.inl ⟨rfl, HN.out⟩, rfl⟩
theorem contT_ok (v : Value) (B zb : Nat) (O : List ByteArray) (z : ByteArray) (w : World) (h : w.ownsRow B 9 1 v O.length (O.map .string)) (hlen : O.length ≤ 60) (hz : w.cell? ⟨zb, 0, none⟩ = some (.string z)) :
    Calls Tryz.prog 60 #[v, .func (.func 79) #[] #[.pointer (some ⟨zb, 0, none⟩)]] w fun e w' => ∃ r : Bool, e = .returned (.bool r) ∧ (r = true ↔ ∃ o ∈ O, o ≠ z) ∧ w = w' := by
  have I := hide (idxT_ok v B zb O z w h hlen hz)
  clear h hz
  go_enter Tryz.func60, Tryz.ntmps60
  go_wp2_with fail
  refine (I.out).mono ?_
  rintro e w1 ⟨i, rfl, hi, rfl⟩
  have hm : ∀ j, (h : j < O.length) → O.getD j ⟨#[]⟩ = O[j] := fun j h => by simp [List.getD, h]
  have HM := hide hm
  clear hm
  rcases hi with ⟨rfl, hno⟩ | ⟨j, rfl, hj, hb⟩
  · have HN := hide hno
    clear hno
    go_wp2
    go_ret
    refine ⟨false, rfl, ⟨(fun h => by cases h), fun ⟨o, ho, hb⟩ => ?_⟩, rfl⟩
    obtain ⟨j, hj, rfl⟩ := List.getElem_of_mem ho
    have := HN.out j hj
    rw [HM.out j hj] at this
    exact absurd hb (of_decide_eq_false this)
  · have HB := hide hb
    clear hb
    go_wp2
    go_ret
    exact ⟨true, by first | rfl | simp, ⟨fun _ => ⟨O[j], List.getElem_mem hj, by have := HB.out; rw [HM.out j hj] at this; exact of_decide_eq_true this⟩, fun _ => rfl⟩, rfl⟩

theorem Tabled.clash {k n : Nat} {L : List RV} {has : Nat → Bool} {ofs : Nat → Nat} {dat : Nat → ByteArray} {O : List ByteArray} (h : Tabled k n L has ofs dat O) : Clash L ↔ ∃ o ∈ O, o ≠ zerosB n := by
  rw [h.table.cleared.clash]
  constructor
  · rintro ⟨f, hf, hne⟩
    obtain ⟨o, ho, rfl⟩ := List.mem_map.1 hf
    exact ⟨o, ho, fun e => hne ((zero_iff (h.overs o ho)).1 e)⟩
  · rintro ⟨o, ho, hne⟩
    exact ⟨atB o, List.mem_map.2 ⟨o, ho, rfl⟩, fun e => hne ((zero_iff (h.overs o ho)).2 e)⟩
/-- What Solve answers: that there are none, that there are several, or the blocks. -/
def Solved (L : List RV) (k n : Nat) (e : Ending) (w' : World) : Prop :=
  (Clash L ∧ e = .returned (.tuple #[.slice none 0 0, .iface 61 (.int .i64 7)])) ∨
  (¬ Clash L ∧ (∃ r, r < k ∧ Dim (Sp XN (L.map Prod.fst)) r) ∧ e = .returned (.tuple #[.slice none 0 0, .iface 61 (.int .i64 8)])) ∨
  (¬ Clash L ∧ Dim (Sp XN (L.map Prod.fst)) k ∧ ∃ (b : Nat) (G : Nat → ByteArray), e = .returned (.tuple #[.slice (some ⟨b, 0, none⟩) k k, .nilIface]) ∧ (∀ p, p < k → w'.cell? ⟨b, p, none⟩ = some (.string (G p)) ∧ (G p).size = n ∧ Sp XV L (rv (2 ^ p) (G p))))
set_option maxHeartbeats 4000000 in
theorem solve_bad (k size : Int) (v : Value) (len : Nat) (s : Nat → Int) (d : Nat → ByteArray) (w : World) (hv : DropsAt w v len s d) (hf : fC k size len s d ≠ 0) :
    Calls Tryz.prog 43 #[.int .i64 k, .int .i64 size, v] w fun e w' => e = .returned (.tuple #[.slice none 0 0, .iface 61 (.int .i64 (fC k size len s d))]) ∧ Below w.heap.size w w' := by
  have C := hide (scheck_ok k size v len s d w hv)
  have e0 : Tell (fC k size len s d) = .iface 61 (.int .i64 (fC k size len s d)) := by unfold Tell; rw [if_neg hf]
  rw [e0] at C
  clear hv hf e0
  generalize fC k size len s d = x at *
  go_enter Tryz.func43, Tryz.ntmps43
  go_wp2_with fail
  refine (C.out).mono ?_
  rintro e w1 ⟨rfl, hb1⟩
  have HB1 := hide hb1
  clear hb1
  go_wp2
  go_ret2
  exact ⟨rfl, HB1.out⟩
set_option maxHeartbeats 4000000 in
theorem solve_ok (k n : Nat) (v : Value) (len : Nat) (s : Nat → Nat) (d : Nat → ByteArray) (w : World) (hv : DropsAt w v len (fun i => (s i : Int)) d) (hf : fC k n len (fun i => (s i : Int)) d = 0) :
    Calls Tryz.prog 43 #[.int .i64 k, .int .i64 n, v] w fun e w' => Solved (rowsD k s d len) k n e w' ∧ Below w.heap.size w w' := by
  have hC := scheck_ok k n v len _ d w hv
  rw [hf] at hC
  have C := hide hC
  have hl : ¬ 60 < len := fun h => by unfold fC at hf; rw [if_pos h] at hf; cases hf
  have hkz : (1 ≤ (k : Int) ∧ (k : Int) ≤ 16) ∧ 1 ≤ (n : Int) ∧ (n : Int) ≤ 8 := Classical.byContradiction fun h => by unfold fC at hf; rw [if_neg hl, if_neg h] at hf; cases hf
  have hs : ∀ i, i < len → 1 ≤ s i ∧ s i ≤ 10000 ∧ (d i).size = n := fun i hi => by
    unfold fC at hf
    rw [if_neg hl, if_pos hkz] at hf
    have h9 := firstF_none hf i hi
    unfold fD at h9
    by_cases c : OkD k n (s i : Int)
    · rw [if_pos c] at h9
      by_cases c2 : ((d i).size : Int) = (n : Int)
      · have := c.2.2; omega
      · simp only [if_neg c2] at h9; cases h9
    · simp only [if_neg c] at h9; cases h9
  have Z := hide (fun w => mzero_ok n w (by omega) (by omega))
  have T : Hid (∀ W, Below w.heap.size w W → Calls Tryz.prog 78 #[.int .i64 k, v] W fun e w' => ∃ vo, e = .returned (.tuple #[.map (some W.heap.size), vo, .nilIface]) ∧ TabInv W k n s d len vo w') := fun W hb => tabled_ok k n len s d v W (hv.below hb) (by omega) (by omega) (by omega) (by omega) hs
  have h60 : len ≤ 60 := by omega
  have hk1 : 1 ≤ k ∧ k ≤ 16 := by omega
  have hn8 : n ≤ 8 := by omega
  clear hv hf hC hl hkz hs
  go_enter Tryz.func43, Tryz.ntmps43
  go_wp2_with fail
  refine (C.out).mono ?_
  rintro e w1 ⟨rfl, hb1⟩
  have e0 : Tell 0 = .nilIface := rfl
  have HB1 := hide hb1
  clear hb1 C
  go_wp2_with fail
  refine (Z.out _).mono ?_
  rintro e w2 ⟨rfl, hb2⟩
  have HB2 := hide (below_two HB1.out hb2)
  have HB3 : Hid (Below w.heap.size w (w2.alloc (.cells #[.string (zerosB n)] 9))) := below_two HB2.out ((Below.refl _ _).alloc (Nat.le_refl _) _)
  have hzc : (w2.alloc (.cells #[.string (zerosB n)] 9)).cell? ⟨w2.heap.size, 0, none⟩ = some (.string (zerosB n)) := by simp
  have HZC := hide hzc
  have T2 := hide (T.out _ HB3.out)
  have hmf : ∀ (fn : Fn) (first cap : Array Value) (w : World), (Instr.makeFunc fn first cap).run Tryz.prog w = .ok (.func fn first cap) w := fun _ _ _ _ => rfl
  clear hb2 Z T HB1 hzc
  go_wp2_with fail
  refine (T2.out).mono ?_
  rintro e w3 ⟨vo, rfl, has, ofs, dat, O, D, hM, hT, hO, hOl, hb3⟩
  have HB4 := hide (below_two HB3.out hb3)
  have CT := hide (contT_ok vo _ w2.heap.size O (zerosB n) w3 hO (by omega) (cell_below hb3 HZC.out))
  have HM := hide hM
  have HT := hide hT
  have hown := hM.own
  have hsz : Maps.size D = cntB has k := hM.size
  have hle := cntB_le has k
  clear hM hT hO hb3 T2 HZC HB2
  generalize (w2.alloc (.cells #[.string (zerosB n)] 9)).heap.size = mb at *
  go_wp2_with fail
  refine (CT.out).mono ?_
  rintro e w4 ⟨r, rfl, hr, rfl⟩
  cases r with
  | true =>
    have HC : Hid (Clash (rowsD k s d len)) := HT.out.clash.2 (hr.1 rfl)
    clear hr CT
    go_wp2
    go_ret2
    exact ⟨Or.inl ⟨HC.out, rfl⟩, HB4.out⟩
  | false =>
    have HC : Hid (¬ Clash (rowsD k s d len)) := fun h => by have := hr.2 (HT.out.clash.1 h); cases this
    have HDim : Hid (Dim (Sp XN ((rowsD k s d len).map Prod.fst)) (cntB has k)) := HT.out.table.cleared.dim
    clear hr CT
    by_cases hc : cntB has k < k
    · go_wp2_with (first | (at_len; refine wpList_len_own _ rfl _ 140 rfl 3 190 Tryz.underlying140 _ mb (Maps.size D) D rfl hown ?_) | fail)
      go_ret2
      exact ⟨Or.inr (Or.inl ⟨HC.out, ⟨_, hc, HDim.out⟩, rfl⟩), HB4.out⟩
    · have hall : cntB has k = k := by omega
      have HA := hide (cntB_all.1 hall)
      have TB := hide (tblocks_ok k n mb has ofs dat D w3 hk1.1 hk1.2 hn8 HM.out HT.out.rows HA.out)
      rw [hall] at HDim
      go_wp2_with (first | (at_len; refine wpList_len_own _ rfl _ 140 rfl 3 190 Tryz.underlying140 _ mb (Maps.size D) D rfl hown ?_) | fail)
      refine (TB.out).mono ?_
      rintro e w5 ⟨G, rfl, hF⟩
      have HF := hide hF
      clear hF TB
      go_wp2
      go_ret2
      refine ⟨Or.inr (Or.inr ⟨HC.out, HDim.out, w3.heap.size, G, rfl, fun p hp => ⟨?_, HF.out.size p hp, HT.out.table.cleared.row (HF.out.sp p hp)⟩⟩), below_two HB4.out HF.out.below⟩
      have h9 := (HF.out.row p hp).1
      simp only [if_pos hp] at h9
      exact h9
end Go.Proofs.YtjhflcgphejddaaGreatDoor
