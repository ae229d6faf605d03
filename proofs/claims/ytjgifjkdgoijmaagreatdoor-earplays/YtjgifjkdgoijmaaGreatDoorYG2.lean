/-
  Lemmas for the law above, joined into one text (DropS, ToV, DropI, Fits, Check). No statement is proved here.
-/
import Derived.Test.YtjgifjkdgoijmaaGreatDoorYG0
import Derived.Test.YtjgifjkdgoijmaaGreatDoorYG1
import Derived.Deep.LoopGhost
namespace Go.Proofs.YtjgifjkdgoijmaaGreatDoor
open Go.RowKit Go.Maps
set_option linter.unusedVariables false
set_option maxRecDepth 100000

theorem within_ok (n m : Int) (w : World) (h1 : 1 ≤ n) (h2 : n ≤ m) : Calls Tryz.prog 54 #[.int .i64 n, .int .i64 m] w fun e w' => e = .returned (.bool true) ∧ w = w' := by
  go_enter Tryz.func54, Tryz.ntmps54
  go_wp2
  go_ret
  exact ⟨ret_bool (by simp <;> omega), rfl⟩
theorem within_not (n m : Int) (w : World) (h : n < 1 ∨ m < n) : Calls Tryz.prog 54 #[.int .i64 n, .int .i64 m] w fun e w' => e = .returned (.bool false) ∧ w = w' := by
  by_cases c : n < 1
  · clear h
    go_enter Tryz.func54, Tryz.ntmps54
    go_wp2
    go_ret
    exact ⟨ret_bool (by first | rfl | simp <;> omega), rfl⟩
  · have h2 : m < n := h.resolve_left c
    clear h
    go_enter Tryz.func54, Tryz.ntmps54
    go_wp2
    go_ret
    exact ⟨ret_bool (by first | rfl | simp <;> omega), rfl⟩

theorem mem_step {k : Nat} {x : Int} (hx : Num x) (hk : 1 ≤ k) (i a : Nat) : a ∈ setAt k x (i + 1) ↔ a = draw k x i ∨ a ∈ setAt k x i := by
  rw [mem_setAt, mem_setAt, seen_succ hx hk]
  have := draw_lt (x := x) hk i
  constructor
  · rintro ⟨h1, h2⟩
    rcases Bool.or_eq_true_iff.1 h2 with h | h
    · exact Or.inr ⟨h1, h⟩
    · exact Or.inl (of_decide_eq_true h).symm
  · rintro (rfl | ⟨h1, h2⟩)
    · exact ⟨this, by simp⟩
    · exact ⟨h1, by simp [h2]⟩
theorem len_step {k : Nat} {x : Int} (hx : Num x) (hk : 1 ≤ k) (i : Nat) : (setAt k x (i + 1)).length = if draw k x i ∈ setAt k x i then (setAt k x i).length else (setAt k x i).length + 1 := by
  by_cases h : draw k x i ∈ setAt k x i
  · rw [setAt_old hx hk h, if_pos h]
  · obtain ⟨A, B, h1, h2, _⟩ := setAt_new hx hk h
    rw [if_neg h, h1, h2]; simp; omega
theorem stop_of {k : Nat} {x : Int} (hx : Num x) (hk : 1 ≤ k) {d i : Nat} (h : ¬ (setAt k x i).length < d) (hb : ∀ j, j < i → (setAt k x j).length < d) : Stop k x d i := by
  refine ⟨?_, hb⟩
  rcases Nat.eq_zero_or_pos i with rfl | hi
  · rw [setAt_zero] at h ⊢; simp at h; simp; omega
  · obtain ⟨m, rfl⟩ : ∃ m, i = m + 1 := ⟨i - 1, by omega⟩
    have := hb m (by omega)
    have := (setAt_grows hx hk m).1
    omega

set_option maxHeartbeats 1000000 in
theorem draw_ok (k d : Nat) (x : Int) (w : World) (hx : Num x) (hk : 1 ≤ k) (hk2 : k ≤ 16) (hd : d ≤ k) :
    Calls Tryz.prog 69 #[.int .i64 k, .int .i64 d, .int .i64 x] w fun e w' => e = .returned (.tuple #[.map (some w.heap.size), .nilIface]) ∧ ∃ i, Stop k x d i ∧ (∃ D, MSet w' w.heap.size (setAt k x i) D) ∧ Below w.heap.size w w' := by
  obtain ⟨T, hT⟩ := setAt_all hx hk (by omega)
  have HT := hide hT
  have HX := hide hx
  clear hT hx
  have hmm := fun q n w => run_makeMap_some (P := Tryz.prog) Tryz.underlying110 q n w
  go_enter Tryz.func69, Tryz.ntmps69
  go_wp2
  go_loopg [2] T (fun g v wr => ∃ (i : Nat) (D : DataW Unit), v = .int .i64 (rowV x i) ∧ i + g = T ∧ (∀ j, j < i → (setAt k x j).length < d) ∧ MSet wr w.heap.size (setAt k x i) D ∧ Below w.heap.size w wr)
  case atStart => exact ⟨0, .map [], rfl, by omega, fun j h => absurd h (Nat.not_lt_zero _), (mset_made w).congr (setAt_zero k x).symm, (Below.refl _ _).alloc (Nat.le_refl _) _⟩
  case round =>
    obtain ⟨i, D, rfl, hig, hbef, hM, hb⟩ := hrel
    have HB := hide hbef
    have HM := hide hM
    clear hbef hM
    have hown := HM.out.1
    have hsz : Maps.size D = (setAt k x i).length := HM.out.2.1
    have hle := setAt_len k x i
    obtain ⟨s, hs⟩ : ∃ s, s = (setAt k x i).length := ⟨_, rfl⟩
    have HS := hide hs
    by_cases c : s < d
    · have hiT : i < T := by
        rcases Nat.lt_or_ge i T with h | h
        · exact h
        · have := HT.out i h; omega
      have K : Hid (Calls Tryz.prog 67 #[.int .i64 (rowV x i), .int .i64 k] wr fun e w' => e = .returned (.tuple #[.int .i64 (draw k x i : Nat), .int .i64 (rowV x (i + 1)), .nilIface]) ∧ wr = w') := by
        rw [← draw_cast HX.out hk i]
        exact below_ok (rowV x i) k wr (HX.out.rowV i) (by omega) (by omega)
      have hR := draw_lt (x := x) hk i
      have hkey : keyOf Tryz.prog 3 (.int .i64 (draw k x i : Nat)) = some (.int .i64 (draw k x i : Nat)) := keyOf_int_mk Tryz.underlying3 (WalkArith.wf_i64 (by omega))
      have hsd : (Maps.size D : Int) < (d : Int) := by omega
      rw [← hs] at hle hown
      clear hs hsz
      generalize hr : draw k x i = r at *
      generalize rowV x i = y at *
      generalize hz : rowV x (i + 1) = z at *
      have HR := hide hr
      have HZ := hide hz
      clear hr hz
      go_wp2_with (at_len; refine wpList_len_own _ rfl _ 110 rfl 3 164 Tryz.underlying110 _ w.heap.size s D rfl hown ?_)
      refine (K.out).mono ?_
      rintro e w1 ⟨rfl, rfl⟩
      go_wp2_with (first
        | (at_mapUpdate; refine wpList_mapUpdate_own _ rfl _ _ _ 110 rfl 3 164 Tryz.lawInt Tryz.underlying110 (unitElem (H := Unit)) w.heap.size s _ rfl hown (by unfold maxLen; omega) _ _ _ rfl rfl hkey _ [] unitElem_mk ?_; intro w1 hown1 hgrow1)
        | go_in)
      go_roundg (gk - 1)
      case measure => omega
      case rel =>
        have e1 := HR.out
        have e2 := HS.out
        refine ⟨i + 1, _, by rw [HZ.out], by omega, fun j hj => ?_, HM.out.put (e2 ▸ hown1) (fun a => by rw [mem_step HX.out hk, e1]) (by rw [len_step HX.out hk, e1]), hb.grown hgrow1 hb.size (fun j hj => by cases hj; exact Nat.le_refl _)⟩
        by_cases c2 : j = i
        · subst c2; omega
        · exact HB.out j (by omega)
    · have hst := hide (stop_of HX.out hk (d := d) (i := i) (by omega) HB.out)
      have hsd : ¬ (Maps.size D : Int) < (d : Int) := by omega
      rw [← hs] at hle hown
      clear hs hsz
      generalize rowV x i = y at *
      go_wp2_with (first | (at_len; refine wpList_len_own _ rfl _ 110 rfl 3 164 Tryz.underlying110 _ w.heap.size s D rfl hown ?_) | go_in)
      go_ret2
      exact ⟨rfl, i, hst.out, ⟨D, HM.out⟩, hb⟩

theorem heap_alloc1 (w : World) (o : Obj) : (w.alloc o).heap.size = w.heap.size + 1 := by simp
/-- The numbers below j that the list l has. -/
def upTo (l : List Nat) (j : Nat) : List Nat := (List.range j).filter fun r => decide (r ∈ l)
theorem upTo_succ (l : List Nat) (j : Nat) : upTo l (j + 1) = upTo l j ++ if j ∈ l then [j] else [] := by
  unfold upTo
  rw [List.range_succ, List.filter_append]
  by_cases c : j ∈ l <;> simp [c]
theorem upTo_len (l : List Nat) (j : Nat) : (upTo l j).length ≤ j := Nat.le_trans (List.length_filter_le _ _) (by simp)

set_option maxHeartbeats 1000000 in
theorem rising_ok (k b : Nat) (l : List Nat) (D : DataW Unit) (w : World) (hk : k ≤ 16) (hl : l.length ≤ 16) (hM : MSet w b l D) :
    Calls Tryz.prog 70 #[.int .i64 k, .map (some b)] w fun e w' => ∃ v, e = .returned v ∧ w'.ownsRow w.heap.size 3 1 v (upTo l k).length ((upTo l k).map fun r : Nat => .int .i64 (r : Nat)) ∧ Below w.heap.size w w' := by
  have HM := hide hM
  have hown := hM.1
  have hsz : Maps.size D = l.length := hM.2.1
  have hs16 : Maps.size D ≤ 16 := by omega
  have hbl := hown.lt
  clear hM hsz
  obtain ⟨i0, hi, hz0, hz1, hz2⟩ := info_parts Tryz.infoInt
  go_enter Tryz.func70, Tryz.ntmps70
  go_wp2_with (first
    | (at_len; refine wpList_len_own _ rfl _ 110 rfl 3 164 Tryz.underlying110 _ b l.length D rfl hown ?_)
    | (at_make; refine wpList_make_own _ rfl _ _ 22 rfl w.heap.size 3 i0 (.int .i64 0) 1 Tryz.underlying22 hi hz0 hz1 _ _ _ (Maps.size D) rfl rfl rfl (by rw [hz2]; omega) (by unfold maxLen; omega) (Nat.le_refl _) ?_; intro w1 hmk hgrow))
  go_loopw [5, 13] (fun v i wr => ∃ j : Nat, j ≤ k ∧ i = .int .i64 j ∧ MSet wr b l D ∧ wr.ownsRow w.heap.size 3 1 v (upTo l j).length ((upTo l j).map fun r : Nat => .int .i64 (r : Nat)) ∧ Below w.heap.size w wr) (fun _ i _ => k - (intOf i).toNat)
  case atStart => exact ⟨0, Nat.zero_le _, rfl, HM.out.kept hgrow (by simp), hmk, (Below.refl _ _).grown hgrow (Nat.le_refl _) (fun j hj => by cases hj)⟩
  case round =>
    obtain ⟨j, hj, rfl, hM, hrow, hb⟩ := hrel
    have hown := hM.1
    have hul := upTo_len l j
    have hbs := hb.size
    by_cases hlt : j < k
    · have hkey : keyOf Tryz.prog 3 (.int .i64 (j : Nat)) = some (.int .i64 (j : Nat)) := keyOf_int_mk Tryz.underlying3 (WalkArith.wf_i64 (by omega))
      have hhas := hM.2.2 j
      have HU := hide (upTo_succ l j)
      have HM2 := hide hM
      clear hM
      by_cases c : j ∈ l
      · rw [decide_eq_true c] at hhas
        rw [Hid, if_pos c] at HU
        have HU2 := hide HU
        clear HU c
        go_wp2_with (first
          | (at_lookup; refine wpList_lookup_own_unit _ rfl _ _ 110 rfl 3 164 Tryz.lawInt Tryz.underlying110 (Tryz.zeroUnit _) b l.length _ rfl hown _ _ rfl hkey ?_)
          | (at_builtin; refine wpList_append_own _ rfl _ _ 22 rfl w.heap.size 3 i0 (.int .i64 0) 1 8 Tryz.underlying22 hi hz0 hz1 hz2 rfl (by decide) _ _ _ rfl ((hrow.alloc _).alloc _) ⟨wr.heap.size + 1, 0, none⟩ 1 1 [.int .i64 (j : Nat)] rfl rfl (by have h9 := cell_one_new (wr.alloc (.cells #[] 164)) (.int .i64 (j : Nat)) 3; rw [heap_alloc1] at h9; exact h9) (fun x hx => by simp at hx; subst hx; rfl) (by unfold maxLen; omega) (by omega) (by simp; omega) ?_; intro v' w2 hown' hgrow2 hnil2)
          | go_in)
        have hg2 : ((wr.alloc (.cells #[] 164)).alloc (.cells #[.int .i64 (j : Nat)] 3)).grownBy w2 u5.ownBlock := hgrow2
        refine ⟨⟨j + 1, by omega, by simp, ((HM2.out.alloc _).alloc _).kept hg2 (fun e1 => by have := (hrow.lt b e1.symm).1; omega), ?_, ((hb.alloc hbs _).alloc (by simp; omega) _).grown hg2 (by simp; omega) (fun q hq => (hrow.lt q hq).1)⟩, by simp [intOf]; omega⟩
        rw [HU2.out, List.length_append, List.map_append]
        exact hown'
      · rw [decide_eq_false c] at hhas
        rw [Hid, if_neg c, List.append_nil] at HU
        have HU2 := hide HU
        clear HU c
        go_wp2_with (first
          | (at_lookup; refine wpList_lookup_own_unit _ rfl _ _ 110 rfl 3 164 Tryz.lawInt Tryz.underlying110 (Tryz.zeroUnit _) b l.length _ rfl hown _ _ rfl hkey ?_)
          | go_in)
        refine ⟨⟨j + 1, by omega, by simp, HM2.out.alloc _, ?_, hb.alloc hbs _⟩, by simp [intOf]; omega⟩
        rw [HU2.out]
        exact hrow.alloc _
    · obtain rfl : j = k := by omega
      go_wp2
      go_ret
      exact ⟨_, rfl, hrow, hb⟩

theorem upTo_setAt (k : Nat) (x : Int) (i : Nat) : upTo (setAt k x i) k = setAt k x i := by
  unfold upTo setAt
  refine List.filter_congr fun r hr => ?_
  have h1 : r < k := List.mem_range.1 hr
  have h2 := mem_setAt (k := k) (x := x) (i := i) (r := r)
  unfold setAt at h2
  cases e : seen k x i r with
  | true => exact decide_eq_true (h2.2 ⟨h1, e⟩)
  | false => exact decide_eq_false fun h => by rw [(h2.1 h).2] at e; cases e

set_option maxHeartbeats 1000000 in
theorem set_ok (k seed : Nat) (w : World) (hk : 1 ≤ k) (hk2 : k ≤ 16) (h1 : 1 ≤ seed) (h2 : seed ≤ 10000) :
    Calls Tryz.prog 36 #[.int .i64 k, .int .i64 seed] w fun e w' => ∃ v, e = .returned (.tuple #[v, .nilIface]) ∧ Lst w' v (setL k seed) ∧ Below w.heap.size w w' := by
  have Wk := hide (within_ok k 16 w (by omega) (by omega))
  have Ws := hide (within_ok seed 10000 w (by omega) (by omega))
  by_cases hle : seed ≤ k
  · have HL := hide (setL_one hle)
    have hle' : (seed : Int) ≤ (k : Int) := by omega
    clear hle
    go_enter Tryz.func36, Tryz.ntmps36
    go_wp2_with fail
    refine (Wk.out).mono ?_
    rintro e w1 ⟨rfl, rfl⟩
    go_wp2_with fail
    refine (Ws.out).mono ?_
    rintro e w1 ⟨rfl, rfl⟩
    go_wp2
    go_ret2
    refine ⟨_, rfl, ?_, ?_⟩
    · rw [HL.out]
      refine ⟨_, _, rfl, Nat.le_refl _, by unfold maxLen; simp, fun i hi => ?_⟩
      obtain rfl : i = 0 := by simpa using hi
      have h9 := cell_one_new w (.int .i64 ((seed : Int) - 1)) 3 0 _ rfl
      have e9 : (((seed - 1 : Nat)) : Int) = (seed : Int) - 1 := by omega
      simp only [Addr.add, List.getD_cons_zero, e9] at h9 ⊢
      exact h9
    · exact (Below.refl _ _).alloc (Nat.le_refl _) _
  · have hle' : ¬ (seed : Int) ≤ (k : Int) := by omega
    have hx : Num (seed : Int) := ⟨by omega, by omega⟩
    have B := hide (below_ok seed 1000 w hx (by omega) (by omega))
    obtain ⟨n, hn, hn2⟩ : ∃ n : Nat, nxt seed % 1000 = (n : Int) ∧ n < 1000 := ⟨(nxt seed % 1000).toNat, by omega, by omega⟩
    have HD : Hid (setD k seed = deg k n) := by unfold Hid setD; rw [hn, Int.toNat_natCast]
    rw [hn] at B
    have O := hide (of_ok k n w hk hk2 hn2)
    have hd1 := deg_le k n hk
    have hd0 := deg_ge k n
    have HS : Hid (∀ i, Stop k (nxt seed) (setD k seed) i → setL k seed = setAt k (nxt seed) i) := fun i hs => setL_stop hle hs
    have D := hide (draw_ok k (deg k n) (nxt seed) w hx.nxt hk hk2 hd1)
    clear hn hx hle
    generalize nxt (seed : Int) = y at *
    generalize deg k n = d at *
    go_enter Tryz.func36, Tryz.ntmps36
    go_wp2_with fail
    refine (Wk.out).mono ?_
    rintro e w1 ⟨rfl, rfl⟩
    go_wp2_with fail
    refine (Ws.out).mono ?_
    rintro e w1 ⟨rfl, rfl⟩
    go_wp2_with fail
    refine (B.out).mono ?_
    rintro e w1 ⟨rfl, rfl⟩
    go_wp2_with fail
    refine (O.out).mono ?_
    rintro e w1 ⟨rfl, rfl⟩
    go_wp2_with fail
    refine (D.out).mono ?_
    rintro e w1 ⟨rfl, i, hst, ⟨D1, hM⟩, hb⟩
    have HI := hide hst
    have HB := hide hb
    have hl16 := setAt_len k y i
    have R := hide (rising_ok k w.heap.size (setAt k y i) D1 w1 hk2 (by omega) hM)
    clear hst hb hM
    go_wp2_with fail
    refine (R.out).mono ?_
    rintro e w2 ⟨v, rfl, hrow, hb2⟩
    have HR := hide hrow
    have HB2 := hide hb2
    clear hrow hb2
    go_wp2
    go_ret2
    refine ⟨v, rfl, ?_, below_two HB.out HB2.out⟩
    have hr := HR.out
    rw [upTo_setAt] at hr
    rw [HS.out i (HD.out ▸ HI.out)]
    exact own_lst hr (by rw [HI.out.1]; omega)
theorem set_range (k seed : Int) (w : World) (h : (k < 1 ∨ 16 < k) ∨ seed < 1 ∨ 10000 < seed) :
    Calls Tryz.prog 36 #[.int .i64 k, .int .i64 seed] w fun e w' => e = .returned (.tuple #[.slice none 0 0, .iface 64 (.int .i64 1)]) ∧ w = w' := by
  by_cases hk : k < 1 ∨ 16 < k
  · have Wk := hide (within_not k 16 w hk)
    clear h hk
    go_enter Tryz.func36, Tryz.ntmps36
    go_wp2_with fail
    refine (Wk.out).mono ?_
    rintro e w1 ⟨rfl, rfl⟩
    go_wp2
    go_ret2
    exact ⟨rfl, rfl⟩
  · have Wk := hide (within_ok k 16 w (by omega) (by omega))
    have Ws := hide (within_not seed 10000 w (by omega))
    clear h hk
    go_enter Tryz.func36, Tryz.ntmps36
    go_wp2_with fail
    refine (Wk.out).mono ?_
    rintro e w1 ⟨rfl, rfl⟩
    go_wp2_with fail
    refine (Ws.out).mono ?_
    rintro e w1 ⟨rfl, rfl⟩
    go_wp2
    go_ret2
    exact ⟨rfl, rfl⟩
end Go.Proofs.YtjgifjkdgoijmaaGreatDoor

namespace Go.Proofs.YtjgifjkdgoijmaaGreatDoor
open Go.RowKit Go.Maps
set_option linter.unusedVariables false
set_option maxRecDepth 100000

end Go.Proofs.YtjgifjkdgoijmaaGreatDoor

namespace Go.Proofs.YtjgifjkdgoijmaaGreatDoor
open Go.RowKit
set_option linter.unusedVariables false
set_option maxRecDepth 100000

/-- A Drop. -/
def dropV (seed : Int) (s : ByteArray) : Value := .agg #[.int .i64 seed, .string s]

/-- A block that holds a Drop, none of it frozen. -/
def DropIn (w : World) (b : Nat) (seed : Int) (s : ByteArray) : Prop :=
  (w.cell? ⟨b, 0, none⟩ = some (.int .i64 seed) ∧ w.frozen? ⟨b, 0, none⟩ = false) ∧ w.cell? ⟨b, 0 + 1, none⟩ = some (.string s) ∧ w.frozen? ⟨b, 0 + 1, none⟩ = false
theorem dropIn_new (w : World) (seed : Int) (s : ByteArray) : DropIn (w.alloc (.cells #[.int .i64 seed, .string s] 33)) w.heap.size seed s :=
  ⟨⟨by simp, by simp only [World.frozen?, (MapKept.heap_alloc w _).1]; simp⟩, by simp, by simp only [World.frozen?, (MapKept.heap_alloc w _).1]; simp⟩
theorem DropIn.lt {w : World} {b : Nat} {seed : Int} {s : ByteArray} (h : DropIn w b seed s) : b < w.heap.size := cell_lt h.1.1
theorem DropIn.below {w w' : World} {b : Nat} {seed : Int} {s : ByteArray} (h : DropIn w b seed s) (hb : Below w.heap.size w w') : DropIn w' b seed s :=
  ⟨⟨(hb.cell h.lt).trans h.1.1, (hb.frozen h.lt).trans h.1.2⟩, (hb.cell h.lt).trans h.2.1, (hb.frozen h.lt).trans h.2.2⟩
end Go.Proofs.YtjgifjkdgoijmaaGreatDoor

namespace Go.Proofs.YtjgifjkdgoijmaaGreatDoor
open Go.RowKit
set_option linter.unusedVariables false
set_option maxRecDepth 100000

theorem fits_yes (z : Int) (w : World) (h1 : 1 ≤ z) (h8 : z ≤ 8) :
    Calls Tryz.prog 32 #[.int .i64 z] w fun e w' => e = .returned (.bool true) ∧ w = w' := by
  go_enter Tryz.func32, Tryz.ntmps32
  go_wp2
  go_ret
  exact ⟨rfl, rfl⟩
theorem fits_no (z : Int) (w : World) (h : z < 1 ∨ 8 < z) :
    Calls Tryz.prog 32 #[.int .i64 z] w fun e w' => e = .returned (.bool false) ∧ w = w' := by
  rcases h with h | h
  · have h' : ¬ 1 ≤ z := by omega
    go_enter Tryz.func32, Tryz.ntmps32
    go_wp2
    go_ret
    exact ⟨rfl, rfl⟩
  · have h' : ¬ z ≤ 8 := by omega
    have h1 : 1 ≤ z := by omega
    go_enter Tryz.func32, Tryz.ntmps32
    go_wp2
    go_ret
    exact ⟨rfl, rfl⟩
end Go.Proofs.YtjgifjkdgoijmaaGreatDoor

namespace Go.Proofs.YtjgifjkdgoijmaaGreatDoor
open Go.RowKit
set_option linter.unusedVariables false
set_option maxRecDepth 100000

/-- slices.IndexFunc at Check's closure (its captured size m lies in the cell c): -1 where all are as long, else a place. -/
theorem index_no (b o len cap : Nat) (c : Addr) (m : Nat) (f : Nat → ByteArray) (w : World) (h16 : len ≤ 16) (hm : w.cell? c = some (.int .i64 m))
    (hcell : ∀ i, i < len → w.cell? ⟨b, o + i, none⟩ = some (.string (f i))) (hs : ∀ i, i < len → (f i).size = m) (hm8 : m ≤ 8) :
    Calls Tryz.prog 96 #[.slice (some ⟨b, o, none⟩) len cap, .func (.func 66) #[] #[.pointer (some c)]] w fun e w' => e = .returned (.int .i64 (-1)) ∧ w = w' := by
  have HC := hide hcell
  have HS := hide hs
  clear hcell hs
  go_enter Tryz.func96, Tryz.ntmps96
  go_wp2
  go_loop [8] (fun i => ∃ j : Nat, j ≤ len ∧ i = .int .i64 j) (fun i => len - (intOf i).toNat)
  case atStart => exact ⟨0, Nat.zero_le _, rfl⟩
  case round =>
    obtain ⟨j, hj, rfl⟩ := hrel
    by_cases hlt : j < len
    · have hc := HC.out j hlt
      have hz := HS.out j hlt
      have hz' : (((f j).size : Int) != (m : Int)) = false := by rw [hz]; simp
      clear hz
      go_wp2
      go_round
      case rel => exact ⟨j + 1, by omega, by go_num⟩
      case measure => simp [intOf]; omega
    · go_wp2
      go_ret
      exact ⟨rfl, rfl⟩
theorem index_yes (b o len cap : Nat) (c : Addr) (m : Nat) (f : Nat → ByteArray) (w : World) (h16 : len ≤ 16) (hm : w.cell? c = some (.int .i64 m))
    (hcell : ∀ i, i < len → w.cell? ⟨b, o + i, none⟩ = some (.string (f i))) (q : Nat) (hq : q < len) (hs : (f q).size ≠ m) (hm8 : m ≤ 8) :
    Calls Tryz.prog 96 #[.slice (some ⟨b, o, none⟩) len cap, .func (.func 66) #[] #[.pointer (some c)]] w fun e w' => (∃ r : Nat, r ≤ 16 ∧ e = .returned (.int .i64 r)) ∧ w = w' := by
  have HC := hide hcell
  have HS := hide hs
  clear hcell hs
  go_enter Tryz.func96, Tryz.ntmps96
  go_wp2
  go_loop [8] (fun i => ∃ j : Nat, j ≤ q ∧ i = .int .i64 j) (fun i => len - (intOf i).toNat)
  case atStart => exact ⟨0, Nat.zero_le _, rfl⟩
  case round =>
    obtain ⟨j, hj, rfl⟩ := hrel
    have hlt : j < len := by omega
    have hc := HC.out j hlt
    by_cases hz : (f j).size = m
    · have hz' : (((f j).size : Int) != (m : Int)) = false := by rw [hz]; simp
      have hne : j ≠ q := fun e => HS.out (by rw [← e]; exact hz)
      have hlt2 : j < q := by omega
      clear hz hne
      go_wp2
      go_round
      case rel => exact ⟨j + 1, by omega, by go_num⟩
      case measure => simp [intOf]; omega
    · have hz' : (((f j).size : Int) != (m : Int)) = true := by rw [bne_iff_ne]; omega
      clear hz
      go_wp2
      go_ret
      exact ⟨⟨j, by omega, rfl⟩, rfl⟩

theorem contains_no (b o len cap : Nat) (c : Addr) (m : Nat) (f : Nat → ByteArray) (w : World) (h16 : len ≤ 16) (hm : w.cell? c = some (.int .i64 m))
    (hcell : ∀ i, i < len → w.cell? ⟨b, o + i, none⟩ = some (.string (f i))) (hs : ∀ i, i < len → (f i).size = m) (hm8 : m ≤ 8) :
    Calls Tryz.prog 62 #[.slice (some ⟨b, o, none⟩) len cap, .func (.func 66) #[] #[.pointer (some c)]] w fun e w' => e = .returned (.bool false) ∧ w = w' := by
  have K := hide (index_no b o len cap c m f w h16 hm hcell hs hm8)
  clear hcell hs
  go_enter Tryz.func62, Tryz.ntmps62
  go_wp2_with fail
  refine (K.out).mono ?_
  rintro e w1 ⟨rfl, rfl⟩
  go_wp2
  go_ret
  exact ⟨rfl, rfl⟩
theorem contains_yes (b o len cap : Nat) (c : Addr) (m : Nat) (f : Nat → ByteArray) (w : World) (h16 : len ≤ 16) (hm : w.cell? c = some (.int .i64 m))
    (hcell : ∀ i, i < len → w.cell? ⟨b, o + i, none⟩ = some (.string (f i))) (q : Nat) (hq : q < len) (hs : (f q).size ≠ m) (hm8 : m ≤ 8) :
    Calls Tryz.prog 62 #[.slice (some ⟨b, o, none⟩) len cap, .func (.func 66) #[] #[.pointer (some c)]] w fun e w' => e = .returned (.bool true) ∧ w = w' := by
  have K := hide (index_yes b o len cap c m f w h16 hm hcell q hq hs hm8)
  clear hcell hs
  go_enter Tryz.func62, Tryz.ntmps62
  go_wp2_with fail
  refine (K.out).mono ?_
  rintro e w1 ⟨⟨r, hr, rfl⟩, rfl⟩
  go_wp2
  go_ret
  exact ⟨rfl, rfl⟩

/-- What Check finds of strings f 0, f 1, .. (len of them): the fault's number, 0 for none. -/
theorem check_none (a : Option Addr) (cap : Nat) (w : World) :
    Calls Tryz.prog 35 #[.slice a 0 cap] w fun e w' => e = .returned (.iface 64 (.int .i64 5)) ∧ w = w' := by
  go_enter Tryz.func35, Tryz.ntmps35
  go_wp2
  go_ret
  exact ⟨rfl, rfl⟩
theorem check_full (a : Option Addr) (len cap : Nat) (w : World) (h : 16 < len) (hm : len ≤ maxLen) :
    Calls Tryz.prog 35 #[.slice a len cap] w fun e w' => e = .returned (.iface 64 (.int .i64 4)) ∧ w = w' := by
  unfold maxLen at hm
  have hl0 : ((len : Int) == 0) = false := by simp; omega
  go_enter Tryz.func35, Tryz.ntmps35
  go_wp2
  go_ret
  exact ⟨rfl, rfl⟩
theorem check_range (b o len cap : Nat) (s0 : ByteArray) (w : World) (h0 : 0 < len) (h16 : len ≤ 16)
    (hc0 : w.cell? ⟨b, o, none⟩ = some (.string s0)) (hm : s0.size ≤ maxLen) (h : s0.size < 1 ∨ 8 < s0.size) :
    Calls Tryz.prog 35 #[.slice (some ⟨b, o, none⟩) len cap] w fun e w' => e = .returned (.iface 64 (.int .i64 1)) ∧ Below w.heap.size w w' := by
  unfold maxLen at hm
  have hl0 : ((len : Int) == 0) = false := by simp; omega
  have H := hide h
  clear h
  go_enter Tryz.func35, Tryz.ntmps35
  go_wp2_with (go_at_call 32; refine (fits_no _ _ (by have := H.out; omega)).mono ?_; rintro e w' ⟨rfl, rfl⟩)
  go_ret
  exact ⟨rfl, (Below.refl _ _).alloc (Nat.le_refl _) _⟩
theorem cells_alloc {w : World} {b o len : Nat} {f : Nat → ByteArray} (hcell : ∀ i, i < len → w.cell? ⟨b, o + i, none⟩ = some (.string (f i))) (x : Obj) :
    ∀ i, i < len → (w.alloc x).cell? ⟨b, o + i, none⟩ = some (.string (f i)) := fun i hi => by
  have h := hcell i hi
  have hlt : b < w.heap.size := by
    rcases Nat.lt_or_ge b w.heap.size with h' | h'
    · exact h'
    · simp [World.cell?, Array.getElem?_eq_none h'] at h
  rw [World.cell?_alloc_lt _ _ ⟨b, o + i, none⟩ hlt]; exact h
theorem check_shape (b o len cap : Nat) (f : Nat → ByteArray) (w : World) (h0 : 0 < len) (h16 : len ≤ 16)
    (hcell : ∀ i, i < len → w.cell? ⟨b, o + i, none⟩ = some (.string (f i))) (h1 : 1 ≤ (f 0).size) (h8 : (f 0).size ≤ 8) (q : Nat) (hq : q < len) (hs : (f q).size ≠ (f 0).size) :
    Calls Tryz.prog 35 #[.slice (some ⟨b, o, none⟩) len cap] w fun e w' => e = .returned (.iface 64 (.int .i64 3)) ∧ Below w.heap.size w w' := by
  have hc0 := hcell 0 h0
  simp only [Nat.add_zero] at hc0
  have K := hide (contains_yes b o len cap ⟨w.heap.size, 0, none⟩ (f 0).size f (w.alloc (.cells #[.int .i64 (f 0).size] 3)) h16 (by simp) (cells_alloc hcell _) q hq hs h8)
  clear hcell hs
  have hl0 : ((len : Int) == 0) = false := by simp; omega
  go_enter Tryz.func35, Tryz.ntmps35
  go_wp2_with (go_at_call 32; refine (fits_yes _ _ (by omega) (by omega)).mono ?_; rintro e w' ⟨rfl, rfl⟩)
  refine (K.out).mono ?_
  rintro e w1 ⟨rfl, rfl⟩
  go_wp2
  go_ret
  exact ⟨rfl, (Below.refl _ _).alloc (Nat.le_refl _) _⟩
theorem check_ok (b o len cap : Nat) (f : Nat → ByteArray) (w : World) (h0 : 0 < len) (h16 : len ≤ 16)
    (hcell : ∀ i, i < len → w.cell? ⟨b, o + i, none⟩ = some (.string (f i))) (h1 : 1 ≤ (f 0).size) (h8 : (f 0).size ≤ 8) (hs : ∀ i, i < len → (f i).size = (f 0).size) :
    Calls Tryz.prog 35 #[.slice (some ⟨b, o, none⟩) len cap] w fun e w' => e = .returned .nilIface ∧ Below w.heap.size w w' := by
  have hc0 := hcell 0 h0
  simp only [Nat.add_zero] at hc0
  have K := hide (contains_no b o len cap ⟨w.heap.size, 0, none⟩ (f 0).size f (w.alloc (.cells #[.int .i64 (f 0).size] 3)) h16 (by simp) (cells_alloc hcell _) hs h8)
  clear hcell hs
  have hl0 : ((len : Int) == 0) = false := by simp; omega
  go_enter Tryz.func35, Tryz.ntmps35
  go_wp2_with (go_at_call 32; refine (fits_yes _ _ (by omega) (by omega)).mono ?_; rintro e w' ⟨rfl, rfl⟩)
  refine (K.out).mono ?_
  rintro e w1 ⟨rfl, rfl⟩
  go_wp2
  go_ret
  exact ⟨rfl, (Below.refl _ _).alloc (Nat.le_refl _) _⟩
end Go.Proofs.YtjgifjkdgoijmaaGreatDoor
