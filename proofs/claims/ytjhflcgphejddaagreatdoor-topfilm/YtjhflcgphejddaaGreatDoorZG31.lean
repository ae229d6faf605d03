/-
  Lemmas for the law above, joined into one text (SvRank, EarIdx, EarHear). No statement is proved here.
-/
import Derived.Test.YtjhflcgphejddaaGreatDoorZSvTab
import Derived.Test.YtjhflcgphejddaaGreatDoorZG2
import Derived.Test.YtjhflcgphejddaaGreatDoorZG18
import Derived.Test.YtjhflcgphejddaaGreatDoorZG8
import Derived.Test.YtjhflcgphejddaaGreatDoorZG23
import Derived.Deep.RegionLaw
import Derived.Deep.RegionHeld3
import Derived.Deep.DrawnRows
import Derived.Deep.DeepCutAuto
namespace Go.Proofs.YtjhflcgphejddaaGreatDoor
open Go.RowKit Go.Maps
set_option linter.unusedVariables false
set_option maxRecDepth 100000

theorem swithin_ok (n m : Int) (w : World) (h1 : 1 ≤ n) (h2 : n ≤ m) :
    Calls Tryz.prog 88 #[.int .i64 n, .int .i64 m] w fun e w' => e = .returned (.bool true) ∧ w = w' := by
  go_enter Tryz.func88, Tryz.ntmps88
  go_wp2
  go_ret
  exact ⟨rfl, rfl⟩
theorem swithin_not (n m : Int) (w : World) (h : n < 1 ∨ m < n) :
    Calls Tryz.prog 88 #[.int .i64 n, .int .i64 m] w fun e w' => e = .returned (.bool false) ∧ w = w' := by
  by_cases h1 : n < 1
  · have h' : ¬ 1 ≤ n := by omega
    clear h
    go_enter Tryz.func88, Tryz.ntmps88
    go_wp2
    go_ret
    exact ⟨rfl, rfl⟩
  · have h' : 1 ≤ n := by omega
    have h2 : ¬ n ≤ m := by omega
    clear h
    go_enter Tryz.func88, Tryz.ntmps88
    go_wp2
    go_ret
    exact ⟨rfl, rfl⟩
/-- A seed that is none. -/
def badS (n : Int) : Bool := !decide (1 ≤ n ∧ n ≤ 10000)
theorem rank1_ok (n : Int) (w : World) :
    Calls Tryz.prog 89 #[.int .i64 n] w fun e w' => e = .returned (.bool (badS n)) ∧ w = w' := by
  by_cases h : 1 ≤ n ∧ n ≤ 10000
  · have W := hide (swithin_ok n 10000 w h.1 h.2)
    have e : badS n = false := by simp [badS, h]
    rw [e]
    clear h e
    go_enter Tryz.func89, Tryz.ntmps89
    go_wp2_with fail
    refine (W.out).mono ?_
    rintro e w1 ⟨rfl, rfl⟩
    go_wp2
    go_ret
    exact ⟨rfl, rfl⟩
  · have W := hide (swithin_not n 10000 w (by omega))
    have e : badS n = true := by unfold badS; rw [decide_eq_false h]; rfl
    rw [e]
    clear h e
    go_enter Tryz.func89, Tryz.ntmps89
    go_wp2_with fail
    refine (W.out).mono ?_
    rintro e w1 ⟨rfl, rfl⟩
    go_wp2
    go_ret
    exact ⟨rfl, rfl⟩
/-- The first place of which something holds, or -1. -/
def FirstAt (p : Nat → Bool) (n : Nat) (i : Int) : Prop := (i = -1 ∧ ∀ q, q < n → p q = false) ∨ ∃ j : Nat, i = j ∧ j < n ∧ p j = true
theorem IntsAt.open {w : World} {v : Value} {len : Nat} {f : Nat → Int} (h : IntsAt w v len f) : ∃ a cap, v = .slice a len cap ∧ (0 < len → ∃ b o, a = some ⟨b, o, none⟩ ∧ len ≤ cap ∧ cap ≤ maxLen ∧ ∀ i, i < len → w.cell? ⟨b, o + i, none⟩ = some (.int .i64 (f i))) := by
  rcases h with ⟨rfl, a, cap, rfl⟩ | ⟨h0, b, o, cap, rfl, h1, h2, h3, _⟩
  · exact ⟨a, cap, rfl, fun h => by omega⟩
  · exact ⟨_, cap, rfl, fun _ => ⟨b, o, rfl, h1, h2, h3⟩⟩
set_option maxHeartbeats 2000000 in
theorem idxS_ok (v : Value) (len : Nat) (f : Nat → Int) (w : World) (h : IntsAt w v len f) (hlen : len ≤ 60) :
    Calls Tryz.prog 131 #[v, .func (.func 89) #[] #[]] w fun e w' => ∃ i : Int, e = .returned (.int .i64 i) ∧ FirstAt (fun j => badS (f j)) len i ∧ w = w' := by
  obtain ⟨a, cap, rfl, h0⟩ := h.open
  have H0 := hide h0
  have R := hide (fun n => rank1_ok n w)
  clear h h0
  go_enter Tryz.func131, Tryz.ntmps131
  go_wp2
  go_loopw [5, 8] (fun _ i wr => ∃ j : Nat, j ≤ len ∧ i = .int .i64 j ∧ w = wr ∧ ∀ q, q < j → badS (f q) = false) (fun _ i _ => len - (intOf i).toNat)
  case atStart => exact ⟨0, Nat.zero_le _, rfl, rfl, fun q hq => absurd hq (Nat.not_lt_zero _)⟩
  case round =>
    obtain ⟨j, hj, rfl, hw, hno⟩ := hrel
    subst hw
    have HN := hide hno
    clear hno
    by_cases hlt : j < len
    · obtain ⟨b, o, ha, hc1, hc2, hc⟩ := H0.out (by omega)
      subst ha
      have hcj := hc j hlt
      have hK := R.out (f j)
      unfold maxLen at hc2
      clear hc
      generalize hx : f j = x at *
      have HX := hide hx
      clear hx
      cases hq : badS x with
      | true =>
        rw [hq] at hK
        have HQ := hide hq
        clear hq
        go_wp2_with (go_at_call 89; refine hK.mono ?_; rintro e w1 ⟨rfl, rfl⟩)
        go_ret
        exact ⟨_, rfl, Or.inr ⟨j, rfl, hlt, by show badS (f j) = true; rw [HX.out]; exact HQ.out⟩, rfl⟩
      | false =>
        rw [hq] at hK
        have HQ := hide hq
        clear hq
        go_wp2_with (go_at_call 89; refine hK.mono ?_; rintro e w1 ⟨rfl, rfl⟩)
        go_roundw
        case rel =>
          refine ⟨j + 1, by omega, by go_num, by first | rfl | trivial, fun q hq => ?_⟩
          by_cases e : q = j
          · rw [e, HX.out]; exact HQ.out
          · exact HN.out q (by omega)
        case measure => simp [intOf]; omega
    · obtain rfl : j = len := by omega
      go_wp2
      go_ret
      exact ⟨_, rfl, Or.inl ⟨rfl, HN.out⟩, rfl⟩
theorem contS_ok (v : Value) (len : Nat) (f : Nat → Int) (w : World) (h : IntsAt w v len f) (hlen : len ≤ 60) :
    Calls Tryz.prog 85 #[v, .func (.func 89) #[] #[]] w fun e w' => ∃ r : Bool, e = .returned (.bool r) ∧ (r = true ↔ ∃ j, j < len ∧ badS (f j) = true) ∧ w = w' := by
  have I := hide (idxS_ok v len f w h hlen)
  clear h
  go_enter Tryz.func85, Tryz.ntmps85
  go_wp2_with fail
  refine (I.out).mono ?_
  rintro e w1 ⟨i, rfl, hi, rfl⟩
  rcases hi with ⟨rfl, hno⟩ | ⟨j, rfl, hj, hb⟩
  · have HN := hide hno
    clear hno
    go_wp2
    go_ret
    refine ⟨false, rfl, ⟨(fun h => by cases h), fun ⟨j, hj, hb⟩ => ?_⟩, rfl⟩
    have := HN.out j hj
    rw [hb] at this; cases this
  · have HB := hide hb
    clear hb
    go_wp2
    go_ret
    exact ⟨true, by first | rfl | simp, ⟨fun _ => ⟨j, hj, HB.out⟩, fun _ => rfl⟩, rfl⟩

theorem rank_full (k : Int) (a : Option Addr) (len cap : Nat) (w : World) (h : 60 < len) :
    Calls Tryz.prog 48 #[.int .i64 k, .slice a len cap] w fun e w' => e = .returned (.tuple #[.int .i64 0, .iface 61 (.int .i64 4)]) ∧ w = w' := by
  go_enter Tryz.func48, Tryz.ntmps48
  go_wp2
  go_ret2
  exact ⟨rfl, rfl⟩
theorem rank_k (k : Int) (a : Option Addr) (len cap : Nat) (w : World) (h : len ≤ 60) (hk : k < 1 ∨ 16 < k) :
    Calls Tryz.prog 48 #[.int .i64 k, .slice a len cap] w fun e w' => e = .returned (.tuple #[.int .i64 0, .iface 61 (.int .i64 1)]) ∧ w = w' := by
  have W := hide (swithin_not k 16 w hk)
  clear hk
  go_enter Tryz.func48, Tryz.ntmps48
  go_wp2_with fail
  refine (W.out).mono ?_
  rintro e w1 ⟨rfl, rfl⟩
  go_wp2
  go_ret2
  exact ⟨rfl, rfl⟩
theorem rank_s (k : Int) (v : Value) (len : Nat) (f : Nat → Int) (w : World) (hv : IntsAt w v len f) (h : len ≤ 60) (hk : 1 ≤ k ∧ k ≤ 16) (hs : ∃ j, j < len ∧ badS (f j) = true) :
    Calls Tryz.prog 48 #[.int .i64 k, v] w fun e w' => e = .returned (.tuple #[.int .i64 0, .iface 61 (.int .i64 1)]) ∧ w = w' := by
  have W := hide (swithin_ok k 16 w hk.1 hk.2)
  have C := hide (contS_ok v len f w hv h)
  obtain ⟨a, cap, rfl, _⟩ := hv.open
  have HS := hide hs
  clear hs hv hk
  go_enter Tryz.func48, Tryz.ntmps48
  go_wp2_with fail
  refine (W.out).mono ?_
  rintro e w1 ⟨rfl, rfl⟩
  go_wp2_with fail
  refine (C.out).mono ?_
  rintro e w1 ⟨r, rfl, hr, rfl⟩
  obtain rfl : r = true := hr.2 HS.out
  clear hr
  go_wp2
  go_ret2
  exact ⟨rfl, rfl⟩

/-- The sets of the first seeds, as numbers. -/
noncomputable def masksD (k : Nat) (s : Nat → Nat) (i : Nat) : List Nat := (List.range i).map fun j => maskL (setL k (s j))
theorem masksD_rows (k : Nat) (s : Nat → Nat) (d : Nat → ByteArray) (i : Nat) : (rowsD k s d i).map Prod.fst = masksD k s i := by unfold rowsD masksD; rw [List.map_map]; rfl
theorem masksD_congr {k i : Nat} {s t : Nat → Nat} (h : ∀ j, j < i → s j = t j) : masksD k s i = masksD k t i := List.map_congr_left fun j hj => by rw [h j (List.mem_range.1 hj)]
theorem Tryz.infoDrp : (Tryz.prog.info? 43).map (fun i => (i.zero, i.size, i.bytes)) = some (some (.agg #[.int .i64 0, .string ⟨#[]⟩]), 2, 24) := by kernel_rfl
/-- A row of Drops without bytes. -/
def DRow (w : World) (b n : Nat) (f : Nat → Int) : Prop :=
  ∀ i, i < n → (w.cell? ⟨b, i * 2, none⟩ = some (.int .i64 (f i)) ∧ w.frozen? ⟨b, i * 2, none⟩ = false) ∧ w.cell? ⟨b, i * 2 + 1, none⟩ = some (.string ⟨#[]⟩)
theorem drow_made {w : World} {B g n cap : Nat} (h : w.ownsRow B 43 2 (.slice (some ⟨g, 0, none⟩) n cap) n (madeCells #[.int .i64 0, .string ⟨#[]⟩] (n * 2)).toList) : DRow w g n (fun _ => 0) := fun i hi => by
  rw [h.cellAt (i * 2) (by omega), h.cellAt (i * 2 + 1) (by omega), h.frozenAt]
  have e1 : i * 2 < n * 2 := by omega
  have e2 : i * 2 + 1 < n * 2 := by omega
  have e3 : i * 2 % 2 = 0 := by omega
  have e4 : (i * 2 + 1) % 2 = 1 := by omega
  simp [madeCells, e1, e2, e3, e4]
theorem DRow.set {w : World} {b n : Nat} {f : Nat → Int} (h : DRow w b n f) (j : Nat) (v : Int) : DRow (w.setCell ⟨b, j * 2, none⟩ (.int .i64 v)) b n (fun i => if i = j then v else f i) := fun i hi => by
  obtain ⟨⟨h1, h2⟩, h3⟩ := h i hi
  refine ⟨⟨?_, by rw [World.frozen?_setCell]; exact h2⟩, ?_⟩
  · by_cases e : i = j
    · subst e
      rw [World.cell?_setCell_same _ _ _ h1]; simp
    · rw [World.cell?_setCell_other _ _ _ _ (fun h => e (by injection h with _ h; omega))]; simp only [if_neg e]; exact h1
  · rw [World.cell?_setCell_other _ _ _ _ (fun h => by injection h with _ h; omega)]; exact h3
theorem DRow.congr {w : World} {b n : Nat} {f g : Nat → Int} (h : DRow w b n f) (e : ∀ i, i < n → f i = g i) : DRow w b n g := fun i hi => by rw [← e i hi]; exact h i hi
theorem DRow.drops {w : World} {b n : Nat} {s : Nat → Nat} (h : DRow w b n (fun i => (s i : Int))) (hn : n ≤ 60) (hs : ∀ i, i < n → s i ≤ 10000) : DropsAt w (.slice (some ⟨b, 0, none⟩) n n) n (fun i => (s i : Int)) (fun _ => ⟨#[]⟩) := by
  rcases Nat.eq_zero_or_pos n with rfl | h0
  · exact Or.inl ⟨rfl, _, _, rfl⟩
  · refine Or.inr ⟨h0, b, 0, n, rfl, Nat.le_refl _, by unfold maxLen; omega, fun i hi => ?_⟩
    obtain ⟨⟨h1, h2⟩, h3⟩ := h i hi
    rw [Nat.zero_add]
    have := hs i hi
    have e : ((fun i => (s i : Int)) i) = (s i : Int) := rfl
    exact ⟨h1, h3, Nat.zero_le _, WalkArith.wf_i64 (by omega)⟩

set_option maxHeartbeats 4000000 in
theorem rank_ok (k : Nat) (v : Value) (len : Nat) (s : Nat → Nat) (w : World) (hv : IntsAt w v len (fun i => (s i : Int))) (h : len ≤ 60) (hk : 1 ≤ k) (hk2 : k ≤ 16) (hs : ∀ j, j < len → 1 ≤ s j ∧ s j ≤ 10000) :
    Calls Tryz.prog 48 #[.int .i64 k, v] w fun e w' => ∃ r : Nat, e = .returned (.tuple #[.int .i64 (r : Nat), .nilIface]) ∧ Dim (Sp XN (masksD k s len)) r ∧ r ≤ k ∧ Below w.heap.size w w' := by
  have W := hide (swithin_ok k 16 w (by omega) (by omega))
  have C := hide (contS_ok v len _ w hv h)
  obtain ⟨a, cap, rfl, h0⟩ := hv.open
  have H0 := hide h0
  have HS := hide hs
  obtain ⟨i0, hi0, hz0, hz1, hz2⟩ := info_parts Tryz.infoDrp
  have Hi := hide hi0
  have Hz0 := hide hz0
  have Hz1 := hide hz1
  have Hz2 := hide hz2
  clear hs hv h0 hi0 hz0 hz1 hz2
  go_enter Tryz.func48, Tryz.ntmps48
  go_wp2_with fail
  refine (W.out).mono ?_
  rintro e w1 ⟨rfl, rfl⟩
  go_wp2_with fail
  refine (C.out).mono ?_
  rintro e w1 ⟨r, rfl, hr, rfl⟩
  obtain rfl : r = false := by
    cases r with
    | false => rfl
    | true =>
      obtain ⟨j, hj, hb⟩ := hr.1 rfl
      have := HS.out j hj
      unfold badS at hb
      rw [decide_eq_true (by omega)] at hb; cases hb
  clear hr W C
  go_wp2_with (at_make; refine wpList_make_full _ rfl _ _ 86 rfl w.heap.size 43 i0 (.agg #[.int .i64 0, .string ⟨#[]⟩]) 2 Tryz.underlying86 Hi.out Hz0.out Hz1.out _ _ _ _ len rfl rfl rfl rfl (by rw [Hz2.out]; omega) (by unfold maxLen; omega) (Nat.le_refl _) ?_; intro w2 hmk hgrow)
  have HD : Hid (DRow w2 w.heap.size len (fun _ => 0)) := drow_made hmk
  have HB2 : Hid (Below w.heap.size w w2) := (Below.refl _ _).grown hgrow (Nat.le_refl _) (fun j hj => by cases hj)
  clear hmk hgrow
  go_loopw [29] (fun i wr => ∃ j : Nat, j ≤ len ∧ i = .int .i64 j ∧ DRow wr w.heap.size len (fun i => if i < j then (s i : Int) else 0) ∧ Below w.heap.size w wr) (fun i _ => len - (intOf i).toNat)
  case atStart => exact ⟨0, Nat.zero_le _, rfl, HD.out.congr (fun i _ => by simp), HB2.out⟩
  case round =>
    obtain ⟨j, hj, rfl, hD, hb⟩ := hrel
    have HDj := hide hD
    have HB := hide hb
    clear HD HB2 hD hb
    by_cases hlt : j < len
    · obtain ⟨bb, o, ha, hc1, hc2, hc⟩ := H0.out (by omega)
      subst ha
      have hcj : wr.cell? ⟨bb, o + j, none⟩ = some (.int .i64 (s j : Nat)) := cell_below HB.out (hc j hlt)
      obtain ⟨⟨d0, d1⟩, _⟩ := HDj.out j hlt
      have HSET := hide (HDj.out.set j (s j))
      have hsj := HS.out j hlt
      unfold maxLen at hc2
      clear hc
      generalize hx : s j = x at *
      have HX := hide hx
      clear hx
      go_wp2
      go_roundw
      case rel =>
        refine ⟨j + 1, by omega, by go_num, HSET.out.congr (fun i hi => ?_), HB.out.setCell (Nat.le_refl _) _⟩
        by_cases e1 : i = j
        · rw [if_pos e1, if_pos (by omega), e1, HX.out]
        · rw [if_neg e1]
          by_cases e2 : i < j
          · rw [if_pos e2, if_pos (by omega)]
          · rw [if_neg e2, if_neg (by omega)]
      case measure => simp [intOf]; omega
    · obtain rfl : j = len := by omega
      have hdr := (HDj.out.congr (g := fun i => (s i : Int)) (fun i hi => by simp [hi])).drops h (fun i hi => (HS.out i hi).2)
      have T := hide (tabled_ok k 0 j s (fun _ => ⟨#[]⟩) _ wr hdr hk hk2 (by omega) h (fun i hi => ⟨(HS.out i hi).1, (HS.out i hi).2, rfl⟩))
      clear hdr
      go_wp2_with fail
      refine (T.out).mono ?_
      rintro e w3 ⟨vo, rfl, has, ofs, dat, O, D, hM, hT, hO, hOl, hb3⟩
      have hown := hM.own
      have hsz : Maps.size D = cntB has k := hM.size
      have hle := cntB_le has k
      have HT := hide hT
      have HB3 := hide (below_two HB.out hb3)
      clear hM hT hO hb3 T
      go_wp2_with (first | (at_len; refine wpList_len_own _ rfl _ 140 rfl 3 190 Tryz.underlying140 _ wr.heap.size (Maps.size D) D rfl hown ?_) | fail)
      go_ret2
      refine ⟨cntB has k, rfl, ?_, by omega, HB3.out⟩
      have h9 := HT.out.table.cleared.dim
      rw [masksD_rows] at h9
      exact h9
end Go.Proofs.YtjhflcgphejddaaGreatDoor

namespace Go.Proofs.YtjhflcgphejddaaGreatDoor
open Go.RowKit Go.Maps
set_option linter.unusedVariables false
set_option maxRecDepth 100000

theorem heard1_ok (s seed : Int) (d : ByteArray) (c : Nat) (w : World) (hc : w.cell? ⟨c, 0, none⟩ = some (.int .i64 seed)) :
    Calls Tryz.prog 70 #[.agg #[.int .i64 s, .string d], .pointer (some ⟨c, 0, none⟩)] w fun e w' => e = .returned (.bool (decide (s = seed))) ∧ Below w.heap.size w w' := by
  have hb0 : Below w.heap.size w (w.alloc (.cells #[.int .i64 s, .string d] 43)) := (Below.refl _ _).alloc (Nat.le_refl _) _
  have hc1 := cell_below hb0 hc
  have HB := hide hb0
  clear hb0
  have hq : (s == seed) = decide (s = seed) := by
    by_cases e : s = seed
    · rw [decide_eq_true e, e]; simp
    · rw [decide_eq_false e, beq_eq_false_iff_ne]; exact e
  generalize decide (s = seed) = r at *
  cases r with
  | true =>
    go_enter Tryz.func70, Tryz.ntmps70
    go_wp2
    go_ret
    exact ⟨by first | rfl | simp [hq], by first | exact HB.out | exact Below.refl _ _⟩
  | false =>
    go_enter Tryz.func70, Tryz.ntmps70
    go_wp2
    go_ret
    exact ⟨by first | rfl | simp [hq], by first | exact HB.out | exact Below.refl _ _⟩
set_option maxHeartbeats 2000000 in
theorem idxH_ok {v : Value} {B c : Nat} {F : List Drp} {seed : Int} {w : World} (h : w.ownsRow B 43 2 v F.length (dC F)) (hlen : F.length ≤ 60) (hz : w.cell? ⟨c, 0, none⟩ = some (.int .i64 seed)) :
    Calls Tryz.prog 119 #[v, .func (.func 70) #[] #[.pointer (some ⟨c, 0, none⟩)]] w fun e w' => ∃ i : Int, e = .returned (.int .i64 i) ∧ FirstAt (fun j => decide (((dAt F j).1 : Int) = seed)) F.length i ∧ Below w.heap.size w w' := by
  obtain ⟨a, cap, rfl, h1, h2, h3, h4⟩ := own_drops h
  have HC := hide h4
  have HA := hide h3
  have HZ := hide hz
  clear h3 h4 h hz
  unfold maxLen at h2
  go_enter Tryz.func119, Tryz.ntmps119
  go_wp2
  go_loopw [5, 8] (fun _ i wr => ∃ j : Nat, j ≤ F.length ∧ i = .int .i64 j ∧ Below w.heap.size w wr ∧ ∀ p, p < j → decide (((dAt F p).1 : Int) = seed) = false) (fun _ i _ => F.length - (intOf i).toNat)
  case atStart => exact ⟨0, Nat.zero_le _, rfl, Below.refl _ _, fun q hq => absurd hq (Nat.not_lt_zero _)⟩
  case round =>
    obtain ⟨j, hj, rfl, hb, hno⟩ := hrel
    have HN := hide hno
    clear hno
    by_cases hlt : j < F.length
    · obtain ⟨g, ha⟩ := HA.out (by omega)
      subst ha
      have hc := HC.out g rfl j hlt
      have hc1 := cell_below hb hc.1
      have hc2 := cell_below hb hc.2
      have HB := hide hb
      have hzr := cell_below hb HZ.out
      clear hb hc
      generalize hx : dAt F j = x at *
      have HX := hide hx
      clear hx
      obtain ⟨xs, xd⟩ := x
      have hK := hide (heard1_ok xs seed xd c wr hzr)
      simp only at hc1 hc2
      cases hq : decide ((xs : Int) = seed) with
      | true =>
        rw [hq] at hK
        have HQ := hide hq
        clear hq
        go_wp2_with (go_at_call 70; refine hK.out.mono ?_; rintro e w1 ⟨rfl, hb1⟩)
        go_ret
        exact ⟨_, rfl, Or.inr ⟨j, rfl, hlt, by show decide (((dAt F j).1 : Int) = seed) = true; rw [HX.out]; exact HQ.out⟩, below_two HB.out hb1⟩
      | false =>
        rw [hq] at hK
        have HQ := hide hq
        clear hq
        go_wp2_with (go_at_call 70; refine hK.out.mono ?_; rintro e w1 ⟨rfl, hb1⟩)
        go_roundw
        case rel =>
          refine ⟨j + 1, by omega, by go_num, below_two HB.out hb1, fun p hp => ?_⟩
          by_cases e : p = j
          · rw [e, HX.out]; exact HQ.out
          · exact HN.out p (by omega)
        case measure => simp [intOf]; omega
    · obtain rfl : j = F.length := by omega
      go_wp2
      go_ret
      exact ⟨_, rfl, Or.inl ⟨rfl, HN.out⟩, hb⟩
theorem dAt_getElem {F : List Drp} {j : Nat} (h : j < F.length) : dAt F j = F[j] := by simp [dAt, List.getD, h]
theorem contH_ok {v : Value} {B c : Nat} {F : List Drp} {seed : Nat} {w : World} (h : w.ownsRow B 43 2 v F.length (dC F)) (hlen : F.length ≤ 60) (hz : w.cell? ⟨c, 0, none⟩ = some (.int .i64 seed)) :
    Calls Tryz.prog 69 #[v, .func (.func 70) #[] #[.pointer (some ⟨c, 0, none⟩)]] w fun e w' => e = .returned (.bool (decide (seed ∈ sds F))) ∧ Below w.heap.size w w' := by
  have I := hide (idxH_ok h hlen hz)
  clear h hz
  generalize hr : decide (seed ∈ sds F) = r
  have HR := hide hr
  clear hr
  go_enter Tryz.func69, Tryz.ntmps69
  go_wp2_with fail
  refine (I.out).mono ?_
  rintro e w1 ⟨i, rfl, hi, hb1⟩
  have HB1 := hide hb1
  clear hb1
  rcases hi with ⟨rfl, hno⟩ | ⟨j, rfl, hj, hb⟩
  · obtain rfl : r = false := HR.out.symm.trans (decide_eq_false fun hm => by
      obtain ⟨x, hx, hxs⟩ := List.mem_map.1 hm
      obtain ⟨j, hj, rfl⟩ := List.getElem_of_mem hx
      have h9 : decide (((dAt F j).1 : Int) = (seed : Int)) = false := hno j hj
      rw [dAt_getElem hj] at h9
      exact of_decide_eq_false h9 (by rw [hxs]))
    clear hno
    go_wp2
    go_ret
    exact ⟨rfl, HB1.out⟩
  · obtain rfl : r = true := HR.out.symm.trans (decide_eq_true (List.mem_map.2 ⟨F[j], List.getElem_mem hj, by
      have h9 : ((dAt F j).1 : Int) = (seed : Int) := of_decide_eq_true hb
      rw [dAt_getElem hj] at h9
      omega⟩))
    clear hb
    go_wp2
    go_ret
    exact ⟨by first | rfl | simp, HB1.out⟩
set_option maxHeartbeats 1000000 in
theorem heard_ok {I : PIm0} {M : Nat → Prop} {w0 w : World} {b : Nat} {vP vF : Value} {k z n : Nat} {dr : Int} {p : PS} {T : List Nat} {F : List Drp} (h : EK I M w0 w b vP vF k z n dr p T F) (hlen : F.length ≤ 60) (seed : Nat) :
    Calls Tryz.prog 37 #[.pointer (some ⟨b, 0, none⟩), .int .i64 seed] w fun e w' => e = .returned (.bool (decide (seed ∈ sds F))) ∧ Below w.heap.size w w' := by
  have hb0 : Below w.heap.size w (w.alloc (.cells #[.int .i64 (seed : Nat)] 3)) := (Below.refl _ _).alloc (Nat.le_refl _) _
  have hcf := cell_below hb0 h.cf
  have C := hide (contH_ok (c := w.heap.size) (seed := seed) (own_under' h.row hb0) hlen (by simp))
  have HB := hide hb0
  have hbl := h.blt
  obtain ⟨a, cap, rfl, _⟩ := own_drops h.row
  clear h hb0
  generalize decide (seed ∈ sds F) = r at *
  go_enter Tryz.func37, Tryz.ntmps37
  go_wp2_with fail
  refine (C.out).mono ?_
  rintro e w1 ⟨rfl, hb1⟩
  have HB1 := hide (below_two HB.out hb1)
  clear hb1
  go_wp2
  go_ret
  exact ⟨rfl, HB1.out⟩
theorem sds_getD {F : List Drp} {j : Nat} : (sds F).getD j 0 = (dAt F j).1 := by
  unfold sds dAt
  simp only [List.getD_eq_getElem?_getD, List.getElem?_map]
  cases F[j]? <;> rfl
theorem irow_below {w w' : World} {b n : Nat} {f : Nat → Int} (h : IRow w b n f) (hb : Below w.heap.size w w') : IRow w' b n f := fun i hi =>
  ⟨cell_below hb (h i hi).1, (World.frozen?_of_block (w := w) (hb.block b (cell_lt (h i hi).1))).trans (h i hi).2⟩
set_option maxHeartbeats 2000000 in
theorem seeds_ok {I : PIm0} {M : Nat → Prop} {w0 w : World} {b : Nat} {vP vF : Value} {k z n : Nat} {dr : Int} {p : PS} {T : List Nat} {F : List Drp} (h : EK I M w0 w b vP vF k z n dr p T F) (hf : FOk k z n F) :
    Calls Tryz.prog 42 #[.pointer (some ⟨b, 0, none⟩)] w fun e w' => ∃ v, e = .returned v ∧ IntsAt w' v F.length (fun i => (((sds F).getD i 0 : Nat) : Int)) ∧ Below w.heap.size w w' := by
  have hcf := h.cf
  have hlen := hf.few
  have HG : Hid (∀ j, j < F.length → (dAt F j).1 ≤ 10000) := fun j hj => (hf.good _ (dAt_mem hj)).2.1
  obtain ⟨a, cap, rfl, h1, h2, h3, h4⟩ := own_drops h.row
  have HC := hide h4
  have HA := hide h3
  have hmk := run_make_row' (P := Tryz.prog) 23 3 (.int .i64 0) 8 Tryz.underlying23 Tryz.infoInt rfl .i64 .i64 F.length (by omega) (by omega)
  clear h hf h3 h4
  unfold maxLen at h2
  go_enter Tryz.func42, Tryz.ntmps42
  have hcf2 := cell_below (show Below w.heap.size w (w.alloc (.cells (madeCells #[.int .i64 0] F.length) 3)) from (Below.refl _ _).alloc (Nat.le_refl _) _) hcf
  go_wp2
  go_loopw [17] (fun i wr => ∃ j : Nat, j ≤ F.length ∧ i = .int .i64 j ∧ IRow wr w.heap.size F.length (fun i => if i < j then ((dAt F i).1 : Int) else 0) ∧ Below w.heap.size w wr) (fun i _ => F.length - (intOf i).toNat)
  case atStart => exact ⟨0, Nat.zero_le _, rfl, (irow_zero (World.rowIs_made _ _ _ _)).congr (fun i _ => by simp), (Below.refl _ _).alloc (Nat.le_refl _) _⟩
  case round =>
    obtain ⟨j, hj, rfl, hrow, hb⟩ := hrel
    by_cases hlt : j < F.length
    · obtain ⟨g, ha⟩ := HA.out (by omega)
      subst ha
      have hc := HC.out g rfl j hlt
      have hc1 := cell_below hb hc.1
      have hc2 := cell_below hb hc.2
      have HB := hide hb
      have hbs := hb.size
      have hal : Below wr.heap.size wr (wr.alloc (.cells #[.int .i64 ((dAt F j).1 : Nat), .string (dAt F j).2] 43)) := (Below.refl _ _).alloc (Nat.le_refl _) _
      have hrow1 := irow_below hrow hal
      obtain ⟨hcell, hfr⟩ := hrow1 j hlt
      simp only [Nat.lt_irrefl, if_false] at hcell
      have HSET := hide (hrow1.set j ((dAt F j).1 : Nat))
      have HBA := hide (below_two hb hal)
      clear hrow hb hc hrow1 hal
      generalize hx : dAt F j = x at *
      have HX := hide hx
      clear hx
      obtain ⟨xs, xd⟩ := x
      simp only at hc1 hc2 hcell hfr
      go_wp2
      go_roundw
      case rel =>
        refine ⟨j + 1, by omega, by go_num, HSET.out.congr (fun i hi => ?_), HBA.out.setCell (Nat.le_refl _) _⟩
        by_cases e1 : i = j
        · subst e1; simp [HX.out]
        · by_cases e2 : i < j
          · simp [e1, e2, show i < j + 1 by omega]
          · simp [e1, e2, show ¬ i < j + 1 by omega]
      case measure => simp [intOf]; omega
    · obtain rfl : j = F.length := by omega
      have HR := hide hrow
      have HB := hide hb
      clear hrow hb
      go_wp2
      go_ret
      refine ⟨_, rfl, ?_, HB.out⟩
      rcases Nat.eq_zero_or_pos F.length with e | h0
      · exact Or.inl ⟨e, some ⟨w.heap.size, 0, none⟩, F.length, congrArg (fun x => Value.slice (some ⟨w.heap.size, 0, none⟩) x F.length) e⟩
      · refine Or.inr ⟨h0, _, 0, _, rfl, Nat.le_refl _, by unfold maxLen; omega, fun i hi => ?_, fun i hi => WalkArith.wf_i64 ?_⟩
        · show wr.cell? ⟨w.heap.size, 0 + i, none⟩ = some (.int .i64 (((sds F).getD i 0 : Nat) : Int))
          rw [Nat.zero_add, sds_getD]
          have h9 := (HR.out i hi).1
          simp only [hi, if_true] at h9
          exact h9
        · have h9 := HG.out i hi
          show -9223372036854775808 ≤ (((sds F).getD i 0 : Nat) : Int) ∧ (((sds F).getD i 0 : Nat) : Int) ≤ 9223372036854775807
          rw [sds_getD]; omega
end Go.Proofs.YtjhflcgphejddaaGreatDoor

namespace Go.Proofs.YtjhflcgphejddaaGreatDoor
open Go.RowKit Go.Maps
set_option linter.unusedVariables false
set_option maxRecDepth 100000

/-- What a Peeler's method leaves, seen from an earlier world. -/
theorem lift_take {I : PIm0} {w w1 w' : World} {vP : Value} {k z : Nat} {p : PS} {T : List Nat} (h : I.St w vP k z p T) (hb : Below w.heap.size w w1) (hk : Kept (I.foot w1 vP) w1 w') (hf : ∀ i, I.foot w' vP i → I.foot w1 vP i ∨ w1.heap.size ≤ i) :
    Kept (I.foot w vP) w w' ∧ ∀ i, I.foot w' vP i → I.foot w vP i ∨ w.heap.size ≤ i := by
  have h1 := I.below h hb
  exact ⟨((Kept.refl _ w).below hb).trans hk fun i _ e => h1.2 i e, fun i hi => (hf i hi).imp (h1.2 i) fun e => Nat.le_trans hb.size e⟩
set_option maxHeartbeats 1000000 in
theorem eknows_ok {I : PIm0} {w : World} {vP : Value} {k z : Nat} {p : PS} {T : List Nat} (h : I.St w vP k z p T) (hp : ∃ a, vP = .pointer a) :
    Calls Tryz.prog 40 #[.agg #[vP]] w fun e w' => e = .returned (.int .i64 (knows k p.known).length) ∧ Below w.heap.size w w' := by
  have hb0 : Below w.heap.size w (w.alloc (.cells #[vP] 85)) := (Below.refl _ _).alloc (Nat.le_refl _) _
  have K := hide (I.knows_ok (I.below h hb0).1)
  have HB := hide hb0
  obtain ⟨a, rfl⟩ := hp
  clear h hb0
  go_enter Tryz.func40, Tryz.ntmps40
  go_wp2_with fail
  refine (K.out).mono ?_
  rintro e w1 ⟨v, rfl, ⟨a1, c1, rfl, hl1, hl2, _⟩, hb1⟩
  have HB1 := hide (below_two HB.out hb1)
  unfold maxLen at hl2
  clear hb1 K
  go_wp2
  go_ret
  exact ⟨rfl, HB1.out⟩
set_option maxHeartbeats 1000000 in
theorem etake_ok {I : PIm0} {w : World} {vP : Value} {k z : Nat} {p : PS} {T : List Nat} (h : I.St w vP k z p T) (hp : ∃ a, vP = .pointer a) (seed : Nat) (data : ByteArray) (ht : tF k z T seed data.size = 0) :
    Calls Tryz.prog 38 #[.agg #[vP], dropV seed data] w fun e w' => ∃ q, e = .returned .nilIface ∧ Peels (setL k) ⟨p.known, p.B, p.L ++ [(seed, data)]⟩ q ∧ I.St w' vP k z q (T ++ [seed]) ∧ Kept (I.foot w vP) w w' ∧ ∀ i, I.foot w' vP i → I.foot w vP i ∨ w.heap.size ≤ i := by
  have hb1 : Below w.heap.size w (w.alloc (.cells #[vP] 85)) := (Below.refl _ _).alloc (Nat.le_refl _) _
  have hb0 : Below w.heap.size w ((w.alloc (.cells #[vP] 85)).alloc (.cells #[.int .i64 seed, .string data] 43)) := hb1.alloc hb1.size _
  have K := hide (I.take_ok (I.below h hb0).1 seed data ht)
  have L := hide (fun w' => lift_take (w' := w') h hb0)
  obtain ⟨a, rfl⟩ := hp
  clear h hb0 hb1
  unfold dropV at *
  go_enter Tryz.func38, Tryz.ntmps38
  go_wp2_with fail
  refine (K.out).mono ?_
  rintro e w1 ⟨v, q, rfl, hp, ⟨a1, c1, rfl, _, _, _⟩, hs, hk, hf⟩
  obtain ⟨h1, h2⟩ := L.out w1 hk hf
  have HP := hide hp
  have HS := hide hs
  have H1 := hide h1
  have H2 := hide h2
  clear hp hs hk hf h1 h2 K L
  go_wp2
  go_ret
  exact ⟨q, rfl, HP.out, HS.out, H1.out, H2.out⟩
/-- An Ear, and blocks that are none of it. -/
structure EN (I : PIm0) (M : Nat → Prop) (w0 w : World) (b : Nat) (vP vF : Value) (k z n : Nat) (dr : Int) (p : PS) (T : List Nat) (F : List Drp) (N : List Nat) : Prop where
  ek : EK I M w0 w b vP vF k z n dr p T F
  off : ∀ q ∈ N, w0.heap.size ≤ q ∧ q < w.heap.size ∧ q ≠ b ∧ ¬ I.foot w vP q ∧ vF.ownBlock ≠ some q
variable {I : PIm0} {M : Nat → Prop} {w0 w w' : World} {b : Nat} {vP vF : Value} {k z n : Nat} {dr : Int} {p q : PS} {T T' : List Nat} {F F' : List Drp} {N : List Nat}
theorem EN.below (h : EN I M w0 w b vP vF k z n dr p T F N) (hb : Below w.heap.size w w') : EN I M w0 w' b vP vF k z n dr p T F N :=
  ⟨h.ek.below hb, fun x hx => by
    obtain ⟨h0, h1, h2, h3, h4⟩ := h.off x hx
    exact ⟨h0, Nat.lt_of_lt_of_le h1 hb.size, h2, fun hf => h3 ((I.below h.ek.st hb).2 x hf), h4⟩⟩
theorem EN.take (h : EN I M w0 w b vP vF k z n dr p T F N) (hs : I.St w' vP k z q T') (hk : Kept (I.foot w vP) w w') (hf : ∀ i, I.foot w' vP i → I.foot w vP i ∨ w.heap.size ≤ i) : EN I M w0 w' b vP vF k z n dr q T' F N ∧ ∀ x ∈ N, w'.heap[x]? = w.heap[x]? := by
  refine ⟨⟨h.ek.take hs hk hf, fun x hx => ?_⟩, fun x hx => ?_⟩
  · obtain ⟨h0, h1, h2, h3, h4⟩ := h.off x hx
    exact ⟨h0, Nat.lt_of_lt_of_le h1 hk.size, h2, fun h9 => (hf x h9).elim h3 fun e => by omega, h4⟩
  · obtain ⟨h0, h1, h2, h3, h4⟩ := h.off x hx
    exact hk.block x h1 h3
theorem EN.tick (h : EN I M w0 w b vP vF k z n dr p T F N) (m : Int) : EN I M w0 (w.setCell ⟨b, 4, none⟩ (.int .i64 m)) b vP vF k z n m p T F N := by
  have hh : ∀ i, i ≠ b → (w.setCell ⟨b, 4, none⟩ (.int .i64 m)).heap[i]? = w.heap[i]? := fun i hi => Below.heap_setCell w ⟨b, 4, none⟩ _ i hi
  have hsz : w.heap.size ≤ (w.setCell ⟨b, 4, none⟩ (.int .i64 m)).heap.size := (show Below 0 w (w.setCell ⟨b, 4, none⟩ (.int .i64 m)) from (Below.refl 0 w).setCell (Nat.zero_le _) _).size
  have h9 := I.keep h.ek.st hsz fun i hi => hh i fun e => h.ek.apP (e ▸ hi)
  exact ⟨h.ek.tick m, fun x hx => by
    obtain ⟨h0, h1, h2, h3, h4⟩ := h.off x hx
    exact ⟨h0, Nat.lt_of_lt_of_le h1 hsz, h2, fun hf => h3 (h9.2 x hf), h4⟩⟩
theorem EN.push {w1 : World} {v1 : Value} (h : EN I M w0 w b vP vF k z n dr p T F N) (hg : w.grownBy w1 vF.ownBlock) (ho : w1.ownsRow 0 43 2 v1 F'.length (dC F')) (hat : v1.ownBlock = vF.ownBlock ∨ ∃ i, v1.ownBlock = some i ∧ w.heap.size ≤ i) : EN I M w0 (w1.setCell ⟨b, 5, none⟩ v1) b vP v1 k z n dr p T F' N := by
  have hh : ∀ i, i ≠ b → (w1.setCell ⟨b, 5, none⟩ v1).heap[i]? = w1.heap[i]? := fun i hi => Below.heap_setCell w1 ⟨b, 5, none⟩ v1 i hi
  have hsz : w1.heap.size ≤ (w1.setCell ⟨b, 5, none⟩ v1).heap.size := (show Below 0 w1 (w1.setCell ⟨b, 5, none⟩ v1) from (Below.refl 0 w1).setCell (Nat.zero_le _) _).size
  have h9 := I.keep h.ek.st (Nat.le_trans hg.size hsz) fun i hi => (hh i fun e => h.ek.apP (e ▸ hi)).trans (hg.block i (I.foot_lt h.ek.st i hi) fun e => h.ek.ap i e.symm hi)
  exact ⟨h.ek.push hg ho hat, fun x hx => by
    obtain ⟨h0, h1, h2, h3, h4⟩ := h.off x hx
    refine ⟨h0, Nat.lt_of_lt_of_le h1 (Nat.le_trans hg.size hsz), h2, fun hf => h3 (h9.2 x hf), fun e => ?_⟩
    rcases hat with e2 | ⟨j, e2, hj⟩
    · exact h4 (e2 ▸ e)
    · rw [e] at e2; cases e2; omega⟩
/-- One of the other blocks is written. -/
theorem EN.poke (h : EN I M w0 w b vP vF k z n dr p T F N) {a : Addr} (ha : a.block ∈ N) (u : Value) : EN I M w0 (w.setCell a u) b vP vF k z n dr p T F N := by
  obtain ⟨h0, h1, h2, h3, h4⟩ := h.off _ ha
  have hh : ∀ i, i ≠ a.block → (w.setCell a u).heap[i]? = w.heap[i]? := fun i hi => Below.heap_setCell w a u i hi
  have hsz : w.heap.size ≤ (w.setCell a u).heap.size := (show Below 0 w (w.setCell a u) from (Below.refl 0 w).setCell (Nat.zero_le _) _).size
  have h9 := I.keep h.ek.st hsz fun i hi => hh i fun e => h3 (e ▸ hi)
  refine ⟨h.ek.keep (h.ek.kept.setCell _ _ (Or.inr h0)) hsz (hh b (Ne.symm h2)) (fun i hi => hh i fun e => h3 (e ▸ hi)) fun i e => hh i fun e2 => h4 (e2 ▸ e), fun x hx => ?_⟩
  obtain ⟨g0, g1, g2, g3, g4⟩ := h.off x hx
  exact ⟨g0, Nat.lt_of_lt_of_le g1 hsz, g2, fun hf => g3 (h9.2 x hf), g4⟩
/-- What Hear answers. -/
def heardV (a : Int) (b c : Nat) : Value := .agg #[.int .i64 a, .int .i64 b, .int .i64 c]
/-- A Peeler is told by a pointer. -/
def PtrI (I : PIm0) : Prop := ∀ {w : World} {v : Value} {k z : Nat} {p : PS} {T : List Nat}, I.St w v k z p T → ∃ a, v = .pointer a
/-- Behind the choice whether it is new. -/
def EMid (I : PIm0) (M : Nat → Prop) (w0 wx : World) (b : Nat) (vP : Value) (k z n : Nat) (dr : Int) (F' : List Drp) (N : List Nat) : Prop :=
  ∃ q vF, EN I M w0 wx b vP vF k z n dr q (sds F') F' N ∧ Took (setL k) q F'
end Go.Proofs.YtjhflcgphejddaaGreatDoor
