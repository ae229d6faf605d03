/-
  Our own contracts of blocks.Split over this seat's translation, its four ways out. Lemmas for the laws above; no statement is proved here.
-/
import Derived.Test.YtgdfoahpkiglhaaDoorBlk
import Derived.Deep.OwnRows
import Derived.Lib.IndexBytes
namespace Go.Proofs.YtgdfoahpkiglhaaDoor
open Go.RowKit
set_option linter.unusedVariables false
set_option maxRecDepth 100000

/-- Block i of n bytes. -/
def blkL (l : List UInt8) (n i : Nat) : List UInt8 := padL (l.drop (i * n)) n
theorem blkL_length (l : List UInt8) (n i : Nat) : (blkL l n i).length = n := padL_length _ _
def cntN (m n : Nat) : Nat := max 1 ((m + n - 1) / n)
theorem cnt_le (m n i : Nat) (h1 : 1 ≤ n) (hi : i < cntN m n) : i * n ≤ m := by
  unfold cntN at hi
  have h2 := Nat.div_mul_le_self (m + n - 1) n
  rcases Nat.eq_zero_or_pos i with h | h
  · subst h; omega
  · have h3 : i + 1 ≤ (m + n - 1) / n := by omega
    have h4 := Nat.mul_le_mul_right n h3
    rw [Nat.add_mul] at h4
    omega

theorem split_full (s : ByteArray) (z : Int) (w : World) (h : 120 < s.size) (hm : s.size ≤ maxLen) :
    Calls Tryd.prog 7 #[.string s, .int .i64 z] w fun e w' => e = .returned (.tuple #[.slice none 0 0, .iface 47 (.int .i64 4)]) ∧ w = w' := by
  unfold maxLen at hm
  go_enter Tryd.func7, Tryd.ntmps7
  go_wp2
  go_ret2
  exact ⟨rfl, rfl⟩

theorem split_range (s : ByteArray) (z : Int) (w : World) (h : s.size ≤ 120) (hz : z < 1 ∨ 8 < z) :
    Calls Tryd.prog 7 #[.string s, .int .i64 z] w fun e w' => e = .returned (.tuple #[.slice none 0 0, .iface 47 (.int .i64 1)]) ∧ w = w' := by
  go_enter Tryd.func7, Tryd.ntmps7
  go_wp2_with (go_at_call 21; refine (fits_no _ _ hz).mono ?_; rintro e w' ⟨rfl, rfl⟩)
  go_ret2
  exact ⟨rfl, rfl⟩

theorem cast_cnt (m n : Nat) (h1 : 1 ≤ n) : max 1 (((m : Int) + (n : Int) - 1) / (n : Int)) = ((cntN m n : Nat) : Int) := by
  unfold cntN
  have e : (((m + n - 1 : Nat)) : Int) = (m : Int) + (n : Int) - 1 := by omega
  rw [← e, ← Int.natCast_ediv]
  omega

theorem split_many (s : ByteArray) (n : Nat) (w : World) (h : s.size ≤ 120) (h1 : 1 ≤ n) (h8 : n ≤ 8) (hk : 16 < cntN s.size n) :
    Calls Tryd.prog 7 #[.string s, .int .i64 n] w fun e w' => e = .returned (.tuple #[.slice none 0 0, .iface 47 (.int .i64 4)]) ∧ w = w' := by
  have hc := cast_cnt s.size n h1
  have HC : Hid (max 1 (((s.size : Int) + (n : Int) - 1) / (n : Int)) = ((cntN s.size n : Nat) : Int)) := hc
  clear hc
  go_enter Tryd.func7, Tryd.ntmps7
  go_wp2_with (first | (go_at_call 21; refine (fits_yes _ _ (by omega) (by omega)).mono ?_; rintro e w' ⟨rfl, rfl⟩) | (go_at_call 22; refine (count_any _ _ _ (by omega) (by omega) (by omega) (by omega)).mono ?_; rw [HC.out]; rintro e w' ⟨rfl, rfl⟩))
  go_ret2
  exact ⟨rfl, rfl⟩

theorem Tryd.infoStr : (Tryd.prog.info? 9).map (fun i => (i.zero, i.size, i.bytes)) = some (some (.string ⟨#[]⟩), 1, 16) := by kernel_rfl

set_option maxHeartbeats 1000000 in
theorem split_ok (s : ByteArray) (n : Nat) (w : World) (h : s.size ≤ 120) (h1 : 1 ≤ n) (h8 : n ≤ 8) (hk : cntN s.size n ≤ 16) :
    Calls Tryd.prog 7 #[.string s, .int .i64 n] w fun e w' => e = .returned (.tuple #[.slice (some ⟨w.heap.size, 0, none⟩) (cntN s.size n) (cntN s.size n), .nilIface])
      ∧ w'.rowIs w.heap.size 9 (cntN s.size n) (fun i => .string ⟨(blkL s.data.toList n i).toArray⟩) ∧ Below w.heap.size w w' := by
  have hc := cast_cnt s.size n h1
  have HC : Hid (max 1 (((s.size : Int) + (n : Int) - 1) / (n : Int)) = ((cntN s.size n : Nat) : Int)) := hc
  clear hc
  have hle := cnt_le s.size n
  have HL : Hid (∀ i, 1 ≤ n → i < cntN s.size n → i * n ≤ s.size) := hle
  clear hle
  generalize cntN s.size n = k at *
  have hmk := run_make_row' (P := Tryd.prog) 22 9 (.string ⟨#[]⟩) 16 Tryd.underlying22 Tryd.infoStr rfl .i64 .i64 k (by omega) (by omega)
  go_enter Tryd.func7, Tryd.ntmps7
  go_wp2_with (first | (go_at_call 21; refine (fits_yes _ _ (by omega) (by omega)).mono ?_; rintro e w' ⟨rfl, rfl⟩) | (go_at_call 22; refine (count_any _ _ _ (by omega) (by omega) (by omega) (by omega)).mono ?_; rw [HC.out]; rintro e w' ⟨rfl, rfl⟩))
  go_loopw [28] (fun i wr => ∃ j : Nat, j ≤ k ∧ i = .int .i64 j ∧ wr.rowIs w.heap.size 9 k (fun i => if i < j then .string ⟨(blkL s.data.toList n i).toArray⟩ else .string ⟨#[]⟩) ∧ Below w.heap.size w wr) (fun i _ => k - (intOf i).toNat)
  case atStart => exact ⟨0, Nat.zero_le _, rfl, (World.rowIs_made _ _ _ _).congr (fun i _ => by simp), (Below.refl _ _).alloc (Nat.le_refl _) _⟩
  case round =>
    obtain ⟨j, hj, rfl, hrow, hb⟩ := hrel
    by_cases hlt : j < k
    · have hjn := HL.out j h1 hlt
      have hjn2 : (j : Int) * (n : Int) ≤ (s.size : Int) := by rw [← Int.natCast_mul]; omega
      have hjn0 : 0 ≤ (j : Int) * (n : Int) := by rw [← Int.natCast_mul]; omega
      go_wp2_with fail
      refine (padded_any _ _ _ (by omega) (by omega)).mono ?_
      rintro e w1 ⟨rfl, hb1⟩
      rw [Int.toNat_natCast]
      have hrow1 := hrow.of_block (hb1.block _ hrow.lt)
      have hb2 : Below w.heap.size w w1 := hb.trans (hb1.mono hb.size)
      have hcell : w1.cell? ⟨w.heap.size, j, none⟩ = some (.string ⟨#[]⟩) := by rw [hrow1.cell hlt, if_neg (Nat.lt_irrefl _)]
      have hfr := hrow1.frozen j
      have hset := hrow1.set j (.string ⟨(blkL s.data.toList n j).toArray⟩)
      have hex : padL (s.extract (j * n) s.size).data.toList n = blkL s.data.toList n j := by
        rw [blkL, Lib.extract_to_end]
      rw [hex]
      clear hrow1 hrow hb hb1 hex
      go_wp2
      go_roundw
      case rel =>
        refine ⟨j + 1, by omega, by go_num, hset.congr (fun i hi => ?_), hb2.setCell (Nat.le_refl _) _⟩
        by_cases e1 : i = j
        · subst e1; simp
        · by_cases e2 : i < j
          · simp [e1, e2, show i < j + 1 by omega]
          · simp [e1, e2, show ¬ i < j + 1 by omega]
      case measure => simp [intOf]; omega
    · go_wp2
      go_ret2
      obtain rfl : j = k := by omega
      exact ⟨rfl, hrow.congr (fun i hi => by simp [hi]), hb⟩
end Go.Proofs.YtgdfoahpkiglhaaDoor
