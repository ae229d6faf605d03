/-
  Proved: 'dropletmill/droplaw1.BlocksTell' returns true whatever bytes, size, slice of strings and number it is handed, and all read behind the call as they did; its row lists errors.errorType with what the program's text lays in it, and the card ties that to the text. No other conditions.
  The card speaks of the pruned copy of the project that holds the packages which this seat's roots load.
-/
import Derived.Test.YtgdfoahpkiglhaaDoorTold
import Derived.Test.YtgdfoahpkiglhaaDoorJoin
import Derived.Test.YtgdfoahpkiglhaaDoorRSplit
import Derived.Test.YtgdfoahpkiglhaaDoorFrame
import Derived.Test.YtgdfoahpkiglhaaDoorCards
import Derived.Test.YtgdfoahpkiglhaaDoorTie
import Derived.Deep.DeepHandedRow
namespace Go.Proofs.YtgdfoahpkiglhaaDoor
open Go.ChangeShapes Go.WideShapes Go.ChangeAt Go.RowKit
open Go.ChangeMaps (open_string shut_string)
set_option linter.unusedVariables false
set_option maxRecDepth 100000

/-- What the law asks of Split, step by step: the document's answer, the program's, and that both are one. -/
def SplitPart (s : ByteArray) (z : Int) (w : World) : Prop :=
  ∃ x : Int, Calls Tryd.prog 6 #[.string s, .int .i64 z] w fun e w1 => ∃ want, e = .returned (.tuple #[want, .int .i64 x]) ∧ Below w.heap.size w w1 ∧
    Calls Tryd.prog 7 #[.string s, .int .i64 z] w1 fun e w2 => ∃ got err, e = .returned (.tuple #[got, err]) ∧ Below w1.heap.size w1 w2 ∧
      Calls Tryd.prog 8 #[err, .int .i64 x] w2 fun e w3 => e = .returned (.bool true) ∧ Below w2.heap.size w2 w3 ∧
        Calls Tryd.prog 9 #[got, want] w3 fun e w4 => e = .returned (.bool true) ∧ Below w3.heap.size w3 w4
theorem splitPart_bad (s : ByteArray) (z x : Int) (w : World) (hg : HasErr w)
    (h1 : Calls Tryd.prog 6 #[.string s, .int .i64 z] w fun e w' => e = .returned (.tuple #[.slice none 0 0, .int .i64 x]) ∧ w = w')
    (h2 : Calls Tryd.prog 7 #[.string s, .int .i64 z] w fun e w' => e = .returned (.tuple #[.slice none 0 0, .iface 47 (.int .i64 x)]) ∧ w = w') : SplitPart s z w := by
  refine ⟨x, h1.mono ?_⟩
  rintro e w1 ⟨rfl, rfl⟩
  refine ⟨_, rfl, Below.refl _ _, h2.mono ?_⟩
  rintro e w1 ⟨rfl, rfl⟩
  refine ⟨_, _, rfl, Below.refl _ _, (error_hit x x w hg).mono ?_⟩
  rintro e w1 ⟨rfl, hb⟩
  refine ⟨by simp, hb, (strings_nil w1).mono ?_⟩
  rintro e w2 ⟨rfl, rfl⟩
  exact ⟨rfl, Below.refl _ _⟩
theorem splitPart (s : ByteArray) (z : Int) (w : World) (hg : HasErr w) (hm : s.size ≤ maxLen) : SplitPart s z w := by
  by_cases h : s.size ≤ 120
  · by_cases hz : z < 1 ∨ 8 < z
    · exact splitPart_bad s z 1 w hg (rsplit_range s z w h hz) (split_range s z w h hz)
    · obtain ⟨n, rfl⟩ := Int.eq_ofNat_of_zero_le (show 0 ≤ z by omega)
      by_cases hk : cntN s.size n ≤ 16
      · refine ⟨0, (rsplit_ok s n w h (by omega) (by omega) hk).mono ?_⟩
        rintro e w1 ⟨g, cap, rfl, hc, hb⟩
        refine ⟨_, rfl, hb, (split_ok s n w1 h (by omega) (by omega) hk).mono ?_⟩
        rintro e w2 ⟨rfl, hr, hb2⟩
        refine ⟨_, _, rfl, hb2, (error_nil 0 w2).mono ?_⟩
        rintro e w3 ⟨rfl, rfl⟩
        refine ⟨rfl, Below.refl _ _, ?_⟩
        exact strings_same w1.heap.size g _ cap (cntN s.size n) (fun i => ⟨(blkL s.data.toList n i).toArray⟩) w2 (by omega) (fun i hi => hr.cell hi) (fun i hi => cell_below hb2 (hc i hi))
      · exact splitPart_bad s n 4 w hg (rsplit_many s n w h (by omega) (by omega) (by omega)) (split_many s n w h (by omega) (by omega) (by omega))
  · exact splitPart_bad s z 4 w hg (rsplit_full s z w (by omega) hm) (split_full s z w (by omega) hm)

set_option maxHeartbeats 2000000 in
theorem tell_bad (s : ByteArray) (z n x : Int) (v : Value) (w : World) (hg : HasErr w) (hP : SplitPart s z w) (hx : x ≠ 0)
    (hB : ∀ w1, Below w.heap.size w w1 → Calls Tryd.prog 10 #[v] w1 fun e w' => e = .returned (.int .i64 x) ∧ Below w1.heap.size w1 w')
    (hC : ∀ w1, Below w.heap.size w w1 → Calls Tryd.prog 11 #[v] w1 fun e w' => e = .returned (.iface 47 (.int .i64 x)) ∧ Below w1.heap.size w1 w')
    (hJ : ∀ w1, Below w.heap.size w w1 → Calls Tryd.prog 13 #[v, .int .i64 n] w1 fun e w' => e = .returned (.tuple #[.string ⟨#[]⟩, .iface 47 (.int .i64 x)]) ∧ Below w1.heap.size w1 w') :
    Calls Tryd.prog 3 #[.string s, .int .i64 z, v, .int .i64 n] w fun e w' => e = .returned (.bool true) ∧ Below w.heap.size w w' := by
  obtain ⟨y, hP⟩ := hP
  have P := hide hP
  have HB := hide hB
  have HC := hide hC
  have HJ := hide hJ
  have HG := hide hg
  have hgl := hg.lt
  have HGL := hide hgl
  clear hP hB hC hJ hg hgl
  have hx0 : (x == 0) = false := by rw [beq_eq_false_iff_ne]; exact hx
  have hxx : (x == x) = true := by simp
  go_enter Tryd.func3, Tryd.ntmps3
  go_wp2_with fail
  refine (P.out).mono ?_
  rintro e w1 ⟨want, rfl, hb1, hP2⟩
  have P2 := hide hP2
  clear hP2 P
  go_wp2_with fail
  refine (P2.out).mono ?_
  rintro e w2 ⟨got, err, rfl, hb2, hP3⟩
  have P3 := hide hP3
  have b2 := below_two hb1 hb2
  clear hP3 P2 hb1 hb2
  go_wp2_with fail
  refine (P3.out).mono ?_
  rintro e w3 ⟨rfl, hb3, hP4⟩
  have P4 := hide hP4
  have b3 := below_two b2 hb3
  clear hP4 P3 b2 hb3
  go_wp2_with fail
  refine (P4.out).mono ?_
  rintro e w4 ⟨rfl, hb4⟩
  have b4 := below_two b3 hb4
  clear P4 b3 hb4
  go_wp2_with fail
  refine (HB.out _ b4).mono ?_
  rintro e w5 ⟨rfl, hb5⟩
  have b5 := below_two b4 hb5
  clear b4 hb5
  go_wp2_with fail
  refine (HC.out _ b5).mono ?_
  rintro e w6 ⟨rfl, hb6⟩
  have b6 := below_two b5 hb6
  clear b5 hb6
  go_wp2_with fail
  refine (error_hit x x _ (HG.out.below HGL.out b6)).mono ?_
  rintro e w7 ⟨rfl, hb7⟩
  have b7 := below_two b6 hb7
  clear b6 hb7
  go_wp2_with fail
  refine (HJ.out _ b7).mono ?_
  rintro e w8 ⟨rfl, hb8⟩
  have b8 := below_two b7 hb8
  clear b7 hb8
  go_wp2_with fail
  refine (error_hit x x _ (HG.out.below HGL.out b8)).mono ?_
  rintro e w9 ⟨rfl, hb9⟩
  have b9 := below_two b8 hb9
  clear b8 hb9
  go_wp2
  go_ret
  exact ⟨rfl, b9⟩
/-- All strings one behind the other, as a string. -/
def allB (f : Nat → ByteArray) (len : Nat) : ByteArray := ⟨(allL f len).toArray⟩
theorem allB_succ (f : Nat → ByteArray) (len : Nat) : allB f len ++ f len = allB f (len + 1) := by
  apply ByteArray.ext
  rw [ByteArray.data_append, ← Array.toList_inj, Array.toList_append, allB, allB, List.toList_toArray, List.toList_toArray, allL_succ]
theorem allB_size (f : Nat → ByteArray) (m len : Nat) (h : ∀ i, i < len → (f i).size = m) : (allB f len).size = len * m := by
  rw [Lib.size_eq, allB, List.toList_toArray, allL_length f m len h]
theorem nat_cast_mul (a b : Nat) : ((a * b : Nat) : Int) = (a : Int) * (b : Int) := by simp

set_option maxHeartbeats 4000000 in
theorem tell_range (s : ByteArray) (z n : Int) (b o len cap : Nat) (f : Nat → ByteArray) (w : World) (hg : HasErr w) (hP : SplitPart s z w) (h0 : 0 < len) (h16 : len ≤ 16)
    (hcell : ∀ i, i < len → w.cell? ⟨b, o + i, none⟩ = some (.string (f i))) (h1 : 1 ≤ (f 0).size) (h8 : (f 0).size ≤ 8) (hs : ∀ i, i < len → (f i).size = (f 0).size)
    (hn : n < 0 ∨ (len : Int) * ((f 0).size : Int) < n ∨ (0 ≤ n ∧ n ≤ (len : Int) * ((f 0).size : Int) ∧ cntN n.toNat (f 0).size ≠ len)) :
    Calls Tryd.prog 3 #[.string s, .int .i64 z, .slice (some ⟨b, o, none⟩) len cap, .int .i64 n] w fun e w' => e = .returned (.bool true) ∧ Below w.heap.size w w' := by
  obtain ⟨y, hP⟩ := hP
  have P := hide hP
  have HCell := hide hcell
  have HS := hide hs
  have HG := hide hg
  have hgl := hg.lt
  have HGL := hide hgl
  have HN := hide hn
  clear hP hcell hs hg hgl hn
  go_enter Tryd.func3, Tryd.ntmps3
  go_wp2_with fail
  refine (P.out).mono ?_
  rintro e w1 ⟨want, rfl, hb1, hP2⟩
  have P2 := hide hP2
  clear hP2 P
  go_wp2_with fail
  refine (P2.out).mono ?_
  rintro e w2 ⟨got, err, rfl, hb2, hP3⟩
  have P3 := hide hP3
  have b2 := below_two hb1 hb2
  clear hP3 P2 hb1 hb2
  go_wp2_with fail
  refine (P3.out).mono ?_
  rintro e w3 ⟨rfl, hb3, hP4⟩
  have P4 := hide hP4
  have b3 := below_two b2 hb3
  clear hP4 P3 b2 hb3
  go_wp2_with fail
  refine (P4.out).mono ?_
  rintro e w4 ⟨rfl, hb4⟩
  have b4 := below_two b3 hb4
  clear P4 b3 hb4
  go_wp2_with fail
  refine (rblocks_ok b o len cap f _ h0 h16 (cells_below b4 HCell.out) h1 h8 HS.out).mono ?_
  rintro e w5 ⟨rfl, hb5⟩
  have b5 := below_two b4 hb5
  clear b4 hb5
  go_wp2_with fail
  refine (check_ok b o len cap f _ h0 h16 (cells_below b5 HCell.out) h1 h8 HS.out).mono ?_
  rintro e w6 ⟨rfl, hb6⟩
  have b6 := below_two b5 hb6
  clear b5 hb6
  go_wp2_with fail
  refine (error_nil 0 _).mono ?_
  rintro e w7 ⟨rfl, rfl⟩
  have C6 := hide (cells_below b6 HCell.out)
  go_wp2
  go_loop [15, 16] (fun t i => ∃ j : Nat, j ≤ len ∧ i = .int .i64 j ∧ t = .string (allB f j)) (fun _ i => len - (intOf i).toNat)
  case atStart => exact ⟨0, Nat.zero_le _, rfl, rfl⟩
  case round =>
    obtain ⟨j, hj, rfl, rfl⟩ := hrel
    have hzj := allB_size f (f 0).size j (fun i hi => HS.out i (by omega))
    have hmj := Nat.mul_le_mul (show j ≤ 16 by omega) h8
    have hzj2 : (allB f j).size ≤ 128 := by omega
    by_cases hlt : j < len
    · have hcj := C6.out j hlt
      have hfj := HS.out j hlt
      have hfj2 : (f j).size ≤ 8 := by omega
      have HA := hide (allB_succ f j)
      clear hfj hzj
      go_wp2
      go_round
      case rel => exact ⟨j + 1, by omega, by go_num, by rw [HA.out]⟩
      case measure => simp [intOf]; omega
    · obtain rfl : j = len := by omega
      have hc0 := C6.out 0 h0
      simp only [Nat.add_zero] at hc0
      have JJ := hide (join_range b o j cap f n w6 h0 h16 C6.out h1 h8 HS.out HN.out)
      have fin : ∀ w8 : World, Below w6.heap.size w6 w8 → Calls Tryd.prog 8 #[.iface 47 (.int .i64 1), .int .i64 1] w8 fun e w' => e = .returned (.bool (1 == (1 : Int))) ∧ Below w8.heap.size w8 w' :=
        fun w8 h8 => error_hit 1 1 w8 (HG.out.below HGL.out (below_two b6 h8))
      have FIN := hide fin
      clear fin
      have hzI : ((allB f j).size : Int) = (j : Int) * ((f 0).size : Int) := by rw [hzj, nat_cast_mul]
      rcases HN.out with hn | hn | ⟨hn0, hn1, hn2⟩
      · clear hzI hzj
        go_wp2_with fail
        refine (JJ.out).mono ?_
        rintro e w8 ⟨rfl, hb8⟩
        go_wp2_with fail
        refine (FIN.out _ hb8).mono ?_
        rintro e w9 ⟨rfl, hb9⟩
        go_wp2
        go_ret
        exact ⟨rfl, below_two b6 (below_two hb8 hb9)⟩
      · have hn' : ((allB f j).size : Int) < n := by rw [hzI]; exact hn
        have hn0 : ¬ n < 0 := by have : 0 ≤ (j : Int) * ((f 0).size : Int) := (mul_cast j _ h16 h8).1; omega
        clear hzI hzj hn
        go_wp2_with fail
        refine (JJ.out).mono ?_
        rintro e w8 ⟨rfl, hb8⟩
        go_wp2_with fail
        refine (FIN.out _ hb8).mono ?_
        rintro e w9 ⟨rfl, hb9⟩
        go_wp2
        go_ret
        exact ⟨rfl, below_two b6 (below_two hb8 hb9)⟩
      · obtain ⟨q, rfl⟩ := Int.eq_ofNat_of_zero_le hn0
        rw [Int.toNat_natCast] at hn2
        have hq128 : q ≤ 128 := by have := (mul_cast j _ h16 h8).2; omega
        have M := hide (rmany q (f 0).size w6 (by omega) h1 h8)
        generalize cntN q (f 0).size = k at *
        have hne : ((k : Int) != (j : Int)) = true := by rw [bne_iff_ne]; omega
        have hn' : ¬ ((allB f j).size : Int) < (q : Int) := by rw [hzI]; omega
        have hn0' : ¬ (q : Int) < 0 := by omega
        clear hzI hzj hn1 hn0
        go_wp2_with fail
        refine (M.out).mono ?_
        rintro e w7 ⟨rfl, rfl⟩
        go_wp2_with fail
        refine (JJ.out).mono ?_
        rintro e w8 ⟨rfl, hb8⟩
        go_wp2_with fail
        refine (FIN.out _ hb8).mono ?_
        rintro e w9 ⟨rfl, hb9⟩
        go_wp2
        go_ret
        exact ⟨rfl, below_two b6 (below_two hb8 hb9)⟩

set_option maxHeartbeats 4000000 in
theorem tell_ok (s : ByteArray) (z : Int) (q : Nat) (b o len cap : Nat) (f : Nat → ByteArray) (w : World) (hg : HasErr w) (hP : SplitPart s z w) (h0 : 0 < len) (h16 : len ≤ 16) (hcap : len ≤ cap)
    (hcell : ∀ i, i < len → w.cell? ⟨b, o + i, none⟩ = some (.string (f i))) (h1 : 1 ≤ (f 0).size) (h8 : (f 0).size ≤ 8) (hs : ∀ i, i < len → (f i).size = (f 0).size)
    (hn1 : q ≤ len * (f 0).size) (hn2 : cntN q (f 0).size = len) :
    Calls Tryd.prog 3 #[.string s, .int .i64 z, .slice (some ⟨b, o, none⟩) len cap, .int .i64 q] w fun e w' => e = .returned (.bool true) ∧ Below w.heap.size w w' := by
  obtain ⟨y, hP⟩ := hP
  have P := hide hP
  have HCell := hide hcell
  have HS := hide hs
  have HG := hide hg
  have hgl := hg.lt
  have HGL := hide hgl
  have HN1 := hide hn1
  have HN2 := hide hn2
  clear hP hcell hs hg hgl hn1 hn2
  go_enter Tryd.func3, Tryd.ntmps3
  go_wp2_with fail
  refine (P.out).mono ?_
  rintro e w1 ⟨want, rfl, hb1, hP2⟩
  have P2 := hide hP2
  clear hP2 P
  go_wp2_with fail
  refine (P2.out).mono ?_
  rintro e w2 ⟨got, err, rfl, hb2, hP3⟩
  have P3 := hide hP3
  have b2 := below_two hb1 hb2
  clear hP3 P2 hb1 hb2
  go_wp2_with fail
  refine (P3.out).mono ?_
  rintro e w3 ⟨rfl, hb3, hP4⟩
  have P4 := hide hP4
  have b3 := below_two b2 hb3
  clear hP4 P3 b2 hb3
  go_wp2_with fail
  refine (P4.out).mono ?_
  rintro e w4 ⟨rfl, hb4⟩
  have b4 := below_two b3 hb4
  clear P4 b3 hb4
  go_wp2_with fail
  refine (rblocks_ok b o len cap f _ h0 h16 (cells_below b4 HCell.out) h1 h8 HS.out).mono ?_
  rintro e w5 ⟨rfl, hb5⟩
  have b5 := below_two b4 hb5
  clear b4 hb5
  go_wp2_with fail
  refine (check_ok b o len cap f _ h0 h16 (cells_below b5 HCell.out) h1 h8 HS.out).mono ?_
  rintro e w6 ⟨rfl, hb6⟩
  have b6 := below_two b5 hb6
  clear b5 hb6
  go_wp2_with fail
  refine (error_nil 0 _).mono ?_
  rintro e w7 ⟨rfl, rfl⟩
  have C6 := hide (cells_below b6 HCell.out)
  go_wp2
  go_loop [15, 16] (fun t i => ∃ j : Nat, j ≤ len ∧ i = .int .i64 j ∧ t = .string (allB f j)) (fun _ i => len - (intOf i).toNat)
  case atStart => exact ⟨0, Nat.zero_le _, rfl, rfl⟩
  case round =>
    obtain ⟨j, hj, rfl, rfl⟩ := hrel
    have hzj := allB_size f (f 0).size j (fun i hi => HS.out i (by omega))
    have hmj := Nat.mul_le_mul (show j ≤ 16 by omega) h8
    have hzj2 : (allB f j).size ≤ 128 := by omega
    by_cases hlt : j < len
    · have hcj := C6.out j hlt
      have hfj := HS.out j hlt
      have hfj2 : (f j).size ≤ 8 := by omega
      have HA := hide (allB_succ f j)
      clear hfj hzj
      go_wp2
      go_round
      case rel => exact ⟨j + 1, by omega, by go_num, by rw [HA.out]⟩
      case measure => simp [intOf]; omega
    · obtain rfl : j = len := by omega
      have hc0 := C6.out 0 h0
      simp only [Nat.add_zero] at hc0
      have JJ := hide (join_ok b o j cap f q w6 h0 h16 hcap C6.out h1 h8 HS.out HN1.out HN2.out)
      have hE : (ByteArray.mk ((allL f j).take q).toArray) = (allB f j).extract 0 q := (extract_take _ _).symm
      rw [hE] at JJ
      clear hE
      have hn1 := HN1.out
      have hq128 : q ≤ 128 := by omega
      have M := hide (rmany q (f 0).size w6 (by omega) h1 h8)
      rw [HN2.out] at M
      have hne : ((j : Int) != (j : Int)) = false := by simp
      have hqz : q ≤ (allB f j).size := by rw [hzj]; exact hn1
      have hn' : ¬ ((allB f j).size : Int) < (q : Int) := by omega
      have hn0' : ¬ (q : Int) < 0 := by omega
      clear hzj hn1
      go_wp2_with fail
      refine (M.out).mono ?_
      rintro e w7 ⟨rfl, rfl⟩
      go_wp2_with fail
      refine (JJ.out).mono ?_
      rintro e w8 ⟨rfl, hb8⟩
      go_wp2_with fail
      refine (error_nil 0 _).mono ?_
      rintro e w9 ⟨rfl, rfl⟩
      go_wp2
      go_ret
      exact ⟨rfl, below_two b6 hb8⟩

theorem strsAt_below {w w1 : World} {v : Value} {len : Nat} {f : Nat → ByteArray} (hb : Below w.heap.size w w1) (h : StrsAt w v len f) : StrsAt w1 v len f := by
  rcases h with h | ⟨h0, b, o, cap, rfl, hc, hm, hcell, hmx⟩
  · exact Or.inl h
  · exact Or.inr ⟨h0, b, o, cap, rfl, hc, hm, cells_below hb hcell, hmx⟩

theorem tell_walk (a0 : ByteArray) (w0 : a0.size ≤ maxLen) (a1 : Int) (v : Value) (len : Nat) (f : Nat → ByteArray) {w : World} (hs : StrsAt w v len f) (a3 : Int) (hg : HasErr w) :
    Calls Tryd.prog 3 #[.string a0, .int .i64 a1, v, .int .i64 a3] w fun e w' => e = .returned (.bool true) ∧ Below w.heap.size w w' := by
  have hP := splitPart a0 a1 w hg w0
  have bad : ∀ x : Int, x ≠ 0 → (∃ a l c, v = .slice a l c) → (∀ w1, Below w.heap.size w w1 → Calls Tryd.prog 10 #[v] w1 fun e w' => e = .returned (.int .i64 x) ∧ Below w1.heap.size w1 w') →
      (∀ w1, Below w.heap.size w w1 → Calls Tryd.prog 11 #[v] w1 fun e w' => e = .returned (.iface 47 (.int .i64 x)) ∧ Below w1.heap.size w1 w') →
      Calls Tryd.prog 3 #[.string a0, .int .i64 a1, v, .int .i64 a3] w fun e w' => e = .returned (.bool true) ∧ Below w.heap.size w w' := by
    intro x hx hv hB hC
    obtain ⟨a, l, c, rfl⟩ := hv
    exact tell_bad a0 a1 a3 x _ w hg hP hx hB hC (fun w1 hb => join_checks a l c a3 x w1 (hC w1 hb))
  rcases hs with ⟨rfl, a, cap, rfl⟩ | ⟨h0, b, o, cap, rfl, hcap, hm, hcell, hmx⟩
  · refine bad 5 (by decide) ⟨_, _, _, rfl⟩ (fun w1 _ => (rblocks_none a cap w1).mono ?_) (fun w1 _ => (check_none a cap w1).mono ?_)
    all_goals rintro e w2 ⟨rfl, rfl⟩; exact ⟨rfl, Below.refl _ _⟩
  · by_cases h16 : len ≤ 16
    · by_cases hr : (f 0).size < 1 ∨ 8 < (f 0).size
      · have hc0 : ∀ w1, Below w.heap.size w w1 → w1.cell? ⟨b, o, none⟩ = some (.string (f 0)) := fun w1 hb => by
          have := cell_below hb (hcell 0 h0)
          simpa using this
        refine bad 1 (by decide) ⟨_, _, _, rfl⟩ (fun w1 hb => (rblocks_range b o len cap (f 0) w1 h0 h16 (hc0 w1 hb) (hmx 0 h0) hr).mono ?_) (fun w1 hb => check_range b o len cap (f 0) w1 h0 h16 (hc0 w1 hb) (hmx 0 h0) hr)
        rintro e w2 ⟨rfl, rfl⟩; exact ⟨rfl, Below.refl _ _⟩
      · have h1 : 1 ≤ (f 0).size := by omega
        have h8 : (f 0).size ≤ 8 := by omega
        by_cases hsh : ∀ i, i < len → (f i).size = (f 0).size
        · by_cases hn : a3 < 0 ∨ (len : Int) * ((f 0).size : Int) < a3 ∨ (0 ≤ a3 ∧ a3 ≤ (len : Int) * ((f 0).size : Int) ∧ cntN a3.toNat (f 0).size ≠ len)
          · exact tell_range a0 a1 a3 b o len cap f w hg hP h0 h16 hcell h1 h8 hsh hn
          · obtain ⟨q, rfl⟩ := Int.eq_ofNat_of_zero_le (show 0 ≤ a3 by omega)
            rw [Int.toNat_natCast] at hn
            have hq : (q : Int) ≤ (len : Int) * ((f 0).size : Int) := by omega
            have hq2 : q ≤ len * (f 0).size := by rw [← nat_cast_mul] at hq; omega
            exact tell_ok a0 a1 q b o len cap f w hg hP h0 h16 hcap hcell h1 h8 hsh hq2 (by
              rcases Nat.decEq (cntN q (f 0).size) len with h | h
              · exact absurd (Or.inr (Or.inr ⟨by omega, hq, h⟩)) hn
              · exact h)
        · obtain ⟨q, hq⟩ := Classical.not_forall.1 hsh
          obtain ⟨hq, hqs⟩ := Classical.not_imp.1 hq
          exact bad 3 (by decide) ⟨_, _, _, rfl⟩ (fun w1 hb => rblocks_shape b o len cap f w1 h0 h16 (cells_below hb hcell) hmx h1 h8 q hq hqs) (fun w1 hb => check_shape b o len cap f w1 h0 h16 (cells_below hb hcell) h1 h8 q hq hqs)
    · refine bad 4 (by decide) ⟨_, _, _, rfl⟩ (fun w1 _ => (rblocks_full (some ⟨b, o, none⟩) len cap w1 (by omega) (Nat.le_trans hcap hm)).mono ?_) (fun w1 _ => (check_full (some ⟨b, o, none⟩) len cap w1 (by omega) (Nat.le_trans hcap hm)).mono ?_)
      all_goals rintro e w2 ⟨rfl, rfl⟩; exact ⟨rfl, Below.refl _ _⟩

theorem blocksTell_contract (H : Type) (enc : TypeId × Value → H) (W : World) (base : Nat) (args : Array Value) (ds gs : List (DataW H)) (before : List MemPlace)
    (hval : ∀ (j : Nat) t v, Tryd.f3.params[j]? = some t → args[j]? = some v → Value.okWide Tryd.prog W .any base t v)
    (hW : DataW.Whole enc Tryd.prog Tryd.f3.params.toList Rows.blocksTellSpec.vars false W args.toList ds gs before) (hL : laidMetH Tryd.prog Rows.blocksTellRow.laid W) :
    Calls Tryd.prog 3 args W fun e W' => ∃ v, e = .returned v ∧ Rows.blocksTellSpec.post enc Tryd.prog Tryd.f3 false true false false W args v W' := by
  have hW' := hW
  have hlt0 := hW.lt
  obtain ⟨p, q, hA0, hV, rfl, hfz, hnd⟩ := hW
  have hA : DataW.TrodAll enc Tryd.prog W 0 (fun _ => true) true Tryd.f3.params.toList args.toList ds p := hA0
  rw [Tryd.params3] at hA hval
  have hAll := hA
  have hread : ∀ t ∈ [9, 3, 22, 3], Tryd.prog.readableRec t = true ∧ t < Tryd.prog.types.size := by
    intro t ht
    simp only [List.mem_cons, List.not_mem_nil, or_false] at ht
    rcases ht with rfl | rfl | rfl | rfl <;> exact ⟨by kernel_rfl, of_decide_eq_true (by kernel_rfl)⟩
  obtain ⟨v0, vs0, d0, ds0, p0, q0, hargs, rfl, rfl, h0, r0⟩ := trodAll_cons hA
  obtain ⟨v1, vs1, d1, ds1, p1, q1, rfl, rfl, rfl, h1, r1⟩ := trodAll_cons r0
  obtain ⟨v2, vs2, d2, ds2, p2, q2, rfl, rfl, rfl, h2, r2⟩ := trodAll_cons r1
  obtain ⟨v3, vs3, d3, ds3, p3, q3, rfl, rfl, rfl, h3, r3⟩ := trodAll_cons r2
  obtain ⟨rfl, rfl, rfl⟩ := trodAll_nil r3
  obtain rfl : args = #[v0, v1, v2, v3] := by cases args; simp_all
  obtain ⟨rfl, rfl⟩ := trodVars_none hV
  simp only [List.append_nil] at hW' hlt0
  have fin : ∀ W' : World, Below W.heap.size W W' → Rows.blocksTellSpec.post enc Tryd.prog Tryd.f3 false true false false W #[v0, v1, v2, v3] (.bool true) W' := by
    intro W' hg
    refine ⟨_, _, _, [], (p0 ++ (p1 ++ (p2 ++ (p3 ++ [])))), [], hW', ?_, ?_, ?_, hg.frame _, fun h => by cases h⟩
    · exact trodAll_mk1 (shut_bool Tryd.underlying4 true)
    · exact trodAll_below hg _ _ _ _ hread hAll (by simpa using hlt0)
    · rfl
  obtain ⟨a0, rfl, rfl, rfl, w0⟩ := open_string Tryd.underlying9 (hval 0 9 v0 rfl rfl) h0
  obtain ⟨a1, rfl, rfl, rfl, w1⟩ := open_int Tryd.underlying3 (hval 1 3 v1 rfl rfl) h1
  obtain ⟨l2, f2, hs2⟩ := open_strsAt (hval 2 22 v2 rfl rfl) h2
  obtain ⟨a3, rfl, rfl, rfl, w3⟩ := open_int Tryd.underlying3 (hval 3 3 v3 rfl rfl) h3
  refine (tell_walk a0 w0 a1 v2 l2 f2 hs2 a3 (w := W) (hasErr_of_laid hL)).mono fun e W' ⟨he, hg⟩ => ?_
  subst he
  exact ⟨_, rfl, fin W' hg⟩

theorem blocksTell_met (os : Os) : laidMetH Tryd.prog Rows.blocksTellRow.laid (({ World.holding Tryd.prog os ⟨#[], #[], []⟩ with heap := (World.holding Tryd.prog os ⟨#[], #[], []⟩).heap.modify 0 fun | .cells _ t frozen => .cells #[.iface 84 (.agg #[.pointer (some ⟨2, 26, none⟩)])] t frozen | o => o } : World).forCall (fun _ _ => 0) ⟨#[], #[.string ByteArray.empty, .int .i64 0, .slice none 0 0, .int .i64 0], []⟩).memory :=
  laidMetH_of_parts (laidMet_nil _ _) (by kernel_rfl)
theorem blocksTell_reads (os : Os) {H : Type} (enc : TypeId × Value → H) : ∃ places, DataW.whole enc Tryd.prog (({ World.holding Tryd.prog os ⟨#[], #[], []⟩ with heap := (World.holding Tryd.prog os ⟨#[], #[], []⟩).heap.modify 0 fun | .cells _ t frozen => .cells #[.iface 84 (.agg #[.pointer (some ⟨2, 26, none⟩)])] t frozen | o => o } : World).forCall (fun _ _ => 0) ⟨#[], #[.string ByteArray.empty, .int .i64 0, .slice none 0 0, .int .i64 0], []⟩).memory Tryd.f3.params.toList Rows.blocksTellSpec.vars false (#[.string ByteArray.empty, .int .i64 0, .slice none 0 0, .int .i64 0] : Array Value).toList 8 = some ([.lit (.string []), .lit (.int .i64 0), .nil, .lit (.int .i64 0)], [], places) :=
  ⟨[], by kernel_rfl⟩
theorem blocksTell_lifted (os : Os) (started : os.Started) (H : Type) (enc : TypeId × Value → H) (F : Stop.Interp) :
    ReturnsInHanded {} Tryd.checked os 3 .any ((OpenSpec.ofChange Rows.blocksTellSpec).preRow enc Tryd.prog Tryd.f3 Rows.blocksTellRow.domain false Rows.blocksTellRow.laid) (((OpenSpec.ofChange Rows.blocksTellSpec).at F).post enc Tryd.prog Tryd.f3 false true false false) := by
  obtain ⟨places, hx⟩ := blocksTell_reads os enc
  refine returnsInHanded_of_row (C := Tryd.checked) (s := OpenSpec.ofChange Rows.blocksTellSpec) own started (by kernel_rfl) Tryd.func3
    (witness_row_at (enc := enc) (C := Tryd.checked) false ({ World.holding Tryd.prog os ⟨#[], #[], []⟩ with heap := (World.holding Tryd.prog os ⟨#[], #[], []⟩).heap.modify 0 fun | .cells _ t frozen => .cells #[.iface 84 (.agg #[.pointer (some ⟨2, 26, none⟩)])] t frozen | o => o } : World) #[.string ByteArray.empty, .int .i64 0, .slice none 0 0, .int .i64 0] rfl (by kernel_rfl) (by kernel_rfl) (by kernel_rfl)
      (OpenSpec.preRow_of_cond 8 hx (by kernel_rfl) (fun k hk => by cases hk) (by kernel_rfl) (blocksTell_met os))) ?_
  intro W base args ds gs before hval hW _ _ _ hL _ _
  exact blocksTell_contract H enc W base args ds gs before hval hW hL

theorem blocksTell_said : Rows.BlocksTellSaid :=
  OpenClaim.holds_of_cond 3 Tryd.f3 rfl rfl rfl rfl rfl rfl rfl ⟨rfl, rfl, rfl, rfl, rfl⟩ rfl rfl rfl rfl rfl (by kernel_rfl) Tryd.func3 (by kernel_rfl)
    (of_decide_eq_true (by kernel_rfl)) (by unfold Func.isWrapper; first | (rw [if_pos (by decide +kernel)]; kernel_rfl) | (rw [if_neg (by decide +kernel)]; exact ⟨rfl, rfl⟩))
    (fun os started H enc _ F => by rw [OpenClaim.pre_eq_preRow]; exact blocksTell_lifted os started H enc F)

theorem blocksTell_plain (f : FuncId) (fn : Func) (hf : Tryd.pinned.checked.prog.funcNamed "dropletmill/droplaw1.BlocksTell" = some f) (hfn : Tryd.pinned.checked.prog.funcs[f]? = some fn) :
    true = Tryd.pinned.checked.prog.looks [] ∧ ∀ (j : Nat) t, fn.params[j]? = some t → Tryd.pinned.checked.prog.wantsStandIn t = false := by
  obtain rfl : f = 3 := Option.some.inj ((show Tryd.prog.funcNamed "dropletmill/droplaw1.BlocksTell" = some 3 by kernel_rfl).symm.trans hf) |>.symm
  obtain rfl : fn = Tryd.f3 := (Option.some.inj (Tryd.func3.symm.trans hfn)).symm
  refine ⟨by kernel_rfl, fun j t ht => ?_⟩
  rw [Tryd.params3] at ht
  have hm := Array.mem_of_getElem? ht
  simp only [List.mem_toArray, List.mem_cons, List.mem_nil_iff, or_false] at hm
  rcases hm with rfl | rfl | rfl | rfl
  · exact (show Tryd.prog.wantsStandIn 9 = false by kernel_rfl)
  · exact (show Tryd.prog.wantsStandIn 3 = false by kernel_rfl)
  · exact (show Tryd.prog.wantsStandIn 22 = false by kernel_rfl)
  · exact (show Tryd.prog.wantsStandIn 3 = false by kernel_rfl)

theorem blocksTell_card : Rows.BlocksTellCardSaid :=
  Claim7.holds_tied_plain_at .later [] _ _ _ _ blocksTell_said (fun _ h => by cases h) (by kernel_rfl) (fun _ h => by cases h) blocksTell_row_tie rfl ⟨rfl, rfl⟩ (by kernel_rfl) rfl blocksTell_plain (by kernel_rfl)
#print axioms blocksTell_card

end Go.Proofs.YtgdfoahpkiglhaaDoor
