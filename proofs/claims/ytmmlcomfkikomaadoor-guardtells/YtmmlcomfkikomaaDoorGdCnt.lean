/-
  Our own contracts of guard.counted over this seat's translation. Lemmas for the laws above; no statement is proved here.
-/
import Derived.Test.YtmmlcomfkikomaaDoorGdS
import Derived.Test.YtmmlcomfkikomaaDoorBlkW
namespace Go.Proofs.YtmmlcomfkikomaaDoor
open Go.RowKit
set_option linter.unusedVariables false
set_option maxRecDepth 100000

theorem gN_mono {n m each : Nat} (h : n ≤ m) : gN n each ≤ gN m each := by
  unfold gN
  exact Nat.div_le_div_right (by omega)
theorem guarded_inj {n m each : Nat} (h : n + gN n each = m + gN m each) : n = m := by
  rcases Nat.lt_trichotomy n m with h1 | h1 | h1
  · have := gN_mono (each := each) (Nat.le_of_lt h1); omega
  · exact h1
  · have := gN_mono (each := each) (Nat.le_of_lt h1); omega

set_option maxHeartbeats 1000000 in
theorem counted_check (l : Value) (a : Option Addr) (m lcap : Nat) (each : Int) (w : World) (x : Int)
    (hC : Calls Tryd.prog 15 #[l] w fun e w' => e = .returned (.iface 42 (.int .i64 x)) ∧ Below w.heap.size w w') :
    Calls Tryd.prog 22 #[l, .slice a m lcap, .int .i64 each] w fun e w' => e = .returned (.tuple #[.int .i64 0, .iface 42 (.int .i64 x)]) ∧ Below w.heap.size w w' := by
  have K := hide hC
  clear hC
  go_enter Tryd.func22, Tryd.ntmps22
  go_wp2_with fail
  refine (K.out).mono ?_
  rintro e w1 ⟨rfl, hb⟩
  go_wp2
  go_ret2
  exact ⟨rfl, hb⟩

theorem Blks.checkC {w : World} {b o n : Nat} {g : Nat → ByteArray} (h : Blks w b o n g) (cap : Nat) :
    Calls Tryd.prog 15 #[.slice (some ⟨b, o, none⟩) n cap] w fun e w' => e = .returned .nilIface ∧ Below w.heap.size w w' :=
  check_ok b o n cap g w h.pos h.most h.cells h.one h.eight h.same

set_option maxHeartbeats 1000000 in
theorem counted_shape (b o len cap : Nat) (a : Option Addr) (m lcap : Nat) (each : Int) (g : Nat → ByteArray) (w : World) (hB : Blks w b o len g) (hm : m ≠ len) (hm2 : m ≤ maxLen) :
    Calls Tryd.prog 22 #[.slice (some ⟨b, o, none⟩) len cap, .slice a m lcap, .int .i64 each] w fun e w' => e = .returned (.tuple #[.int .i64 0, .iface 42 (.int .i64 3)]) ∧ Below w.heap.size w w' := by
  have K := hide (hB.checkC cap)
  have hl := hB.most
  have q1 : ((m : Int) == (len : Int)) = false := by rw [beq_eq_false_iff_ne]; omega
  have q2 : ((m : Int) != (len : Int)) = true := by simp only [bne, q1]; rfl
  unfold maxLen at hm2
  clear hB
  go_enter Tryd.func22, Tryd.ntmps22
  go_wp2_with fail
  refine (K.out).mono ?_
  rintro e w1 ⟨rfl, hb⟩
  go_wp2
  go_ret2
  exact ⟨rfl, hb⟩

set_option maxHeartbeats 1000000 in
theorem counted_range (b o len cap : Nat) (a : Option Addr) (lcap : Nat) (each : Int) (g : Nat → ByteArray) (w : World) (hB : Blks w b o len g) (he : each < 1 ∨ 16 < each) :
    Calls Tryd.prog 22 #[.slice (some ⟨b, o, none⟩) len cap, .slice a len lcap, .int .i64 each] w fun e w' => e = .returned (.tuple #[.int .i64 0, .iface 42 (.int .i64 1)]) ∧ Below w.heap.size w w' := by
  have K := hide (hB.checkC cap)
  have hl := hB.most
  have KF := hide (fun W => gfits_no each W he)
  clear hB he
  go_enter Tryd.func22, Tryd.ntmps22
  go_wp2_with fail
  refine (K.out).mono ?_
  rintro e w1 ⟨rfl, hb⟩
  go_wp2_with fail
  refine (KF.out _).mono ?_
  rintro e w2 ⟨rfl, rfl⟩
  go_wp2
  go_ret2
  exact ⟨rfl, hb⟩

set_option maxHeartbeats 2000000 in
theorem counted_any (b o len cap : Nat) (a : Option Addr) (lcap each : Nat) (g : Nat → ByteArray) (w : World) (hB : Blks w b o len g) (he : 1 ≤ each) (he2 : each ≤ 16) :
    Calls Tryd.prog 22 #[.slice (some ⟨b, o, none⟩) len cap, .slice a len lcap, .int .i64 each] w fun e w' => Below w.heap.size w w' ∧
      ((∃ n : Nat, n < len ∧ n + gN n each = len ∧ e = .returned (.tuple #[.int .i64 n, .nilIface])) ∨ ((∀ n, n < len → n + gN n each ≠ len) ∧ e = .returned (.tuple #[.int .i64 0, .iface 42 (.int .i64 3)]))) := by
  have K := hide (hB.checkC cap)
  have hl := hB.most
  have KF := hide (fun W => gfits_yes (each : Int) W (by omega) (by omega))
  have KG := hide (fun (n : Nat) W (hn : n ≤ 16) => guarded_ok n each W (by omega) he he2)
  clear hB
  go_enter Tryd.func22, Tryd.ntmps22
  go_wp2_with fail
  refine (K.out).mono ?_
  rintro e w1 ⟨rfl, hb⟩
  go_wp2_with fail
  refine (KF.out _).mono ?_
  rintro e w2 ⟨rfl, rfl⟩
  have HB := hide hb
  clear hb
  go_wp2
  go_loopw [9, 27] (fun _ i wr => ∃ j : Nat, j ≤ len ∧ i = .int .i64 j ∧ Below w.heap.size w wr ∧ ∀ n, n < j → n + gN n each ≠ len) (fun _ i _ => len - (intOf i).toNat)
  case atStart => exact ⟨0, Nat.zero_le _, rfl, HB.out, fun n hn => absurd hn (Nat.not_lt_zero _)⟩
  case round =>
    obtain ⟨j, hj, rfl, hbr, hno⟩ := hrel
    have HBR := hide hbr
    have HN := hide hno
    clear hbr hno
    by_cases hlt : j < len
    · have KJ := hide (KG.out j wr (by omega))
      have hg16 : gN j each ≤ j := gN_le j each he
      by_cases hq : j + gN j each = len
      · have q1 : (((j + gN j each : Nat) : Int) == (len : Int)) = true := by rw [beq_iff_eq]; omega
        have HQ := hide hq
        clear hq
        generalize hG : ((j + gN j each : Nat) : Int) = G at *
        clear hG
        go_wp2_with fail
        refine (KJ.out).mono ?_
        rintro e w2 ⟨rfl, rfl⟩
        go_wp2
        go_ret2
        exact ⟨HBR.out, Or.inl ⟨j, hlt, HQ.out, rfl⟩⟩
      · have q1 : (((j + gN j each : Nat) : Int) == (len : Int)) = false := by rw [beq_eq_false_iff_ne]; omega
        have HQ := hide hq
        clear hq
        generalize hG : ((j + gN j each : Nat) : Int) = G at *
        clear hG
        go_wp2_with fail
        refine (KJ.out).mono ?_
        rintro e w2 ⟨rfl, rfl⟩
        go_wp2
        go_roundw
        case rel =>
          refine ⟨j + 1, by omega, by go_num, HBR.out, fun n hn => ?_⟩
          by_cases e9 : n = j
          · rw [e9]; exact HQ.out
          · exact HN.out n (by omega)
        case measure => simp [intOf]; omega
    · obtain rfl : j = len := by omega
      go_wp2
      go_ret2
      exact ⟨HBR.out, Or.inr ⟨HN.out, rfl⟩⟩
end Go.Proofs.YtmmlcomfkikomaaDoor
