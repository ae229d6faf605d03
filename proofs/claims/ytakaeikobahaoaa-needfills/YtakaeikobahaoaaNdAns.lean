/-
  Our own contracts of need.New and need.First over this seat's translation. Lemmas for the laws above; no statement is proved here.
-/
import Derived.Test.YtakaeikobahaoaaNdTab
namespace Go.Proofs.Ytakaeikobahaoaa
open Go.RowKit Go.Maps
set_option linter.unusedVariables false
set_option maxRecDepth 100000

theorem new_bad {k : Int} {v : Value} {len : Nat} {f : Nat → Int} {w : World} (hv : IntsAt w v len f) (h : fS k len f ≠ 0) :
    Calls Try.prog 6 #[.int .i64 k, v] w fun e w' => e = .returned (.tuple #[.slice none 0 0, .iface 35 (.int .i64 (fS k len f))]) ∧ w = w' := by
  have R := hide (ntab_bad hv h)
  obtain ⟨a, cap, rfl, _⟩ := hv.open
  clear hv
  generalize fS k len f = x at *
  go_enter Try.func6, Try.ntmps6
  go_wp2_with fail
  refine (R.out).mono ?_
  rintro e w1 ⟨rfl, rfl⟩
  go_wp2
  go_ret2
  exact ⟨rfl, rfl⟩
theorem new_ok (k : Nat) (v : Value) (len : Nat) (s : Nat → Nat) (w : World) (hv : IntsAt w v len (fun i => (s i : Int))) (h : len ≤ 60) (hk : 1 ≤ k) (hk2 : k ≤ 16) (hs : ∀ j, j < len → 1 ≤ s j ∧ s j ≤ 10000) :
    Calls Try.prog 6 #[.int .i64 k, v] w fun e w' => ∃ vo, e = .returned (.tuple #[vo, .nilIface]) ∧ w'.ownsRow w.heap.size 3 1 vo (upL [] (mD k s) len).length (iV (upL [] (mD k s) len)) ∧ Below w.heap.size w w' := by
  have R := hide (ntab_ok k v len s w hv h hk hk2 hs)
  obtain ⟨a, cap, rfl, _⟩ := hv.open
  clear hv hs
  go_enter Try.func6, Try.ntmps6
  go_wp2_with fail
  refine (R.out).mono ?_
  rintro e w1 ⟨b, vo, rfl, hI⟩
  have HI := hide hI
  clear hI R
  go_wp2
  go_ret2
  obtain ⟨has, ofs, D, hM, hT, hO, hwb, hb⟩ := HI.out
  exact ⟨vo, rfl, own_base hO (by omega), hb⟩
theorem first_bad {k : Int} {v : Value} {len : Nat} {f : Nat → Int} {w : World} (hv : IntsAt w v len f) (h : fS k len f ≠ 0) :
    Calls Try.prog 7 #[.int .i64 k, v] w fun e w' => e = .returned (.tuple #[.int .i64 0, .iface 35 (.int .i64 (fS k len f))]) ∧ w = w' := by
  have R := hide (ntab_bad hv h)
  obtain ⟨a, cap, rfl, _⟩ := hv.open
  clear hv
  generalize fS k len f = x at *
  go_enter Try.func7, Try.ntmps7
  go_wp2_with fail
  refine (R.out).mono ?_
  rintro e w1 ⟨rfl, rfl⟩
  go_wp2
  go_ret2
  exact ⟨rfl, rfl⟩
theorem own_slice {w : World} {B e size n : Nat} {v : Value} {xs : List Value} (h : w.ownsRow B e size v n xs) : ∃ a cap, v = .slice a n cap := by
  rcases h.2 with ⟨hv, hn⟩ | ⟨g, cap, cur, hv, _⟩
  · exact ⟨none, 0, by rw [hn]; exact hv⟩
  · exact ⟨_, cap, hv⟩
theorem first_few (k : Nat) (v : Value) (len : Nat) (s : Nat → Nat) (w : World) (hv : IntsAt w v len (fun i => (s i : Int))) (h : len ≤ 60) (hk : 1 ≤ k) (hk2 : k ≤ 16) (hs : ∀ j, j < len → 1 ≤ s j ∧ s j ≤ 10000) (hf : (upL [] (mD k s) len).length < k) :
    Calls Try.prog 7 #[.int .i64 k, v] w fun e w' => e = .returned (.tuple #[.int .i64 0, .iface 35 (.int .i64 8)]) ∧ Below w.heap.size w w' := by
  have R := hide (ntab_ok k v len s w hv h hk hk2 hs)
  obtain ⟨a, cap, rfl, _⟩ := hv.open
  clear hv hs
  go_enter Try.func7, Try.ntmps7
  go_wp2_with fail
  refine (R.out).mono ?_
  rintro e w1 ⟨b, vo, rfl, hI⟩
  obtain ⟨has, ofs, D, hM, hT, hO, hwb, hb⟩ := hI
  obtain ⟨a', cap', rfl⟩ := own_slice hO
  have HB := hide hb
  clear hM hT hO hb R
  generalize (upL [] (mD k s) len).length = n at *
  go_wp2
  go_ret2
  exact ⟨rfl, HB.out⟩
theorem first_ok (k : Nat) (v : Value) (len : Nat) (s : Nat → Nat) (w : World) (hv : IntsAt w v len (fun i => (s i : Int))) (h : len ≤ 60) (hk : 1 ≤ k) (hk2 : k ≤ 16) (hs : ∀ j, j < len → 1 ≤ s j ∧ s j ≤ 10000) (hf : k ≤ (upL [] (mD k s) len).length) :
    Calls Try.prog 7 #[.int .i64 k, v] w fun e w' => ∃ p : Nat, e = .returned (.tuple #[.int .i64 ((p : Int) + 1), .nilIface]) ∧ p < len ∧ rkL (preL (mD k s) (p + 1)) = k ∧ rkL (preL (mD k s) p) < k ∧ Below w.heap.size w w' := by
  have R := hide (ntab_ok k v len s w hv h hk hk2 hs)
  obtain ⟨a, cap, rfl, _⟩ := hv.open
  obtain ⟨p, hp1, hp2, hp3, hp4⟩ := first_at (mD k s) hk len hf
  have HP3 := hide hp3
  have HP4 := hide hp4
  clear hv hs hp3 hp4
  go_enter Try.func7, Try.ntmps7
  go_wp2_with fail
  refine (R.out).mono ?_
  rintro e w1 ⟨b, vo, rfl, hI⟩
  obtain ⟨has, ofs, D, hM, hT, hO, hwb, hb⟩ := hI
  have hul := upL_le [] (mD k s) len
  obtain ⟨g, cap', rfl, hq1, hq2, hc⟩ := own_lst (l := upL [] (mD k s) len) hO (by omega)
  have hck := hc (k - 1) (by omega)
  rw [Nat.zero_add, hp1] at hck
  have e9 : ((k - 1 : Nat) : Int) = (k : Int) - 1 := by omega
  have HB := hide hb
  unfold maxLen at hq2
  clear hM hT hO hb R hc hp1
  generalize (upL [] (mD k s) len).length = n at *
  obtain ⟨q, rfl⟩ : ∃ q, k = q + 1 := ⟨k - 1, by omega⟩
  have e8 : ((q + 1 : Nat) : Int) - 1 = (q : Int) := by omega
  simp only [Nat.add_sub_cancel] at hck
  clear e9
  go_wp2
  go_ret2
  exact ⟨p, rfl, hp2, HP3.out, HP4.out, HB.out⟩
end Go.Proofs.Ytakaeikobahaoaa
