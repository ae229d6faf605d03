/-
  Lemmas for the law above, joined into one text (DFrame, SetNew). No statement is proved here.
-/
import Derived.Test.YtjgifjkdgoijmaaGreatDoorYG0
import Derived.Deep.SlicePairs
import Derived.ProofKit
import Derived.Test.YtjgifjkdgoijmaaGreatDoorYG2
namespace Go.Proofs.YtjgifjkdgoijmaaGreatDoor
open Go.ChangeShapes Go.WideShapes Go.ChangeAt Go.RowKit
set_option linter.unusedVariables false
set_option maxRecDepth 100000

/-- A slice of Drops as it lies: len of them, their seeds, their data. -/
def DropsAt (W : World) (v : Value) (len : Nat) (s : Nat → Int) (d : Nat → ByteArray) : Prop :=
  (len = 0 ∧ ∃ a cap, v = .slice a 0 cap) ∨ (0 < len ∧ ∃ b o cap, v = .slice (some ⟨b, o, none⟩) len cap ∧ len ≤ cap ∧ cap ≤ maxLen ∧ ∀ i, i < len → W.cell? ⟨b, o + i * 2, none⟩ = some (.int .i64 (s i)) ∧ W.cell? ⟨b, o + i * 2 + 1, none⟩ = some (.string (d i)) ∧ (d i).size ≤ maxLen ∧ (Lit.int .i64 (s i)).wf = true)

theorem open_dropsAt {H : Type} {enc : TypeId × Value → H} {W : World} {base : Nat} {v : Value} {dt : DataW H} {p : List MemPlace}
    (hv : Value.okWide Tryz.prog W .any base 48 v) (h : DataW.Trod enc Tryz.prog W 0 (fun _ => true) true 48 v dt p) : ∃ len s d, DropsAt W v len s d := by
  obtain ⟨a0, len, cap, rfl⟩ := okWide_slice Tryz.underlying48 hv
  obtain ⟨fuel, hf⟩ := h
  rcases Deep.open_slice_pairs Tryz.underlying48 Tryz.underlying33 (by kernel_rfl) rfl rfl (by kernel_rfl) (by kernel_rfl) hf with ⟨hcs, hx⟩ | ⟨a, len', cap', m, n, V0, V1, D0, D1, P0, P1, hcs, _, hl, hm, hmm, hx, hcell⟩
  · simp [Value.cells] at hcs
    obtain ⟨rfl, rfl, rfl⟩ := hcs
    exact ⟨0, fun _ => 0, fun _ => ByteArray.empty, Or.inl ⟨rfl, none, 0, rfl⟩⟩
  · simp [Value.cells] at hcs
    obtain ⟨rfl, rfl, rfl⟩ := hcs
    simp only [if_true] at hmm
    by_cases h0 : len = 0
    · subst h0
      exact ⟨0, fun _ => 0, fun _ => ByteArray.empty, Or.inl ⟨rfl, some a, cap, rfl⟩⟩
    · have each : ∀ i, i < len → ∃ x : Int × ByteArray, W.cell? (a.add (i * 2)) = some (.int .i64 x.1) ∧ W.cell? (a.add (i * 2 + 1)) = some (.string x.2) ∧ x.2.size ≤ maxLen ∧ (Lit.int .i64 x.1).wf = true := fun i hi => by
        obtain ⟨h1, h2, h3, h4⟩ := hcell i (by omega)
        obtain ⟨q, e1, _, w1⟩ := DataW.trod_int Tryz.underlying3 h3
        obtain ⟨s, e2, _, w2⟩ := DataW.trod_string Tryz.underlying9 h4
        simp at e1 e2
        rw [e1] at h1
        rw [e2] at h2
        exact ⟨(q, s), h1, h2, w2, w1⟩
      obtain ⟨f, hf⟩ := Deep.choose_lt (α := Int × ByteArray) each
      obtain ⟨b, off, spot⟩ := a
      have hspot : spot = none := by
        have h9 := World.cell?_spot (hf 0 (by omega)).1
        simpa [Addr.add] using h9
      subst hspot
      refine ⟨len, fun i => (f i).1, fun i => (f i).2, Or.inr ⟨by omega, b, off, cap, rfl, hl, hm, fun i hi => ?_⟩⟩
      obtain ⟨h1, h2, h3, h4⟩ := hf i hi
      rw [Addr.add_lit] at h1 h2
      exact ⟨h1, by rw [Nat.add_assoc]; exact h2, h3, h4⟩
end Go.Proofs.YtjgifjkdgoijmaaGreatDoor

namespace Go.Proofs.YtjgifjkdgoijmaaGreatDoor
open Go.RowKit Go.Maps
set_option linter.unusedVariables false
set_option maxRecDepth 100000

set_option maxHeartbeats 1000000 in
theorem set_new (k seed : Nat) (w : World) (hk : 1 ≤ k) (hk2 : k ≤ 16) (h1 : 1 ≤ seed) (h2 : seed ≤ 10000) :
    Calls Tryz.prog 36 #[.int .i64 k, .int .i64 seed] w fun e w' => ∃ v, e = .returned (.tuple #[v, .nilIface]) ∧ Lst w' v (setL k seed) ∧ Below w.heap.size w w' ∧ ∀ i, v.ownBlock = some i → w.heap.size ≤ i := by
  have Wk := hide (within_ok k 16 w (by omega) (by omega))
  have Ws := hide (within_ok seed 10000 w (by omega) (by omega))
  by_cases hle : seed ≤ k
  · have HL := hide (setL_one hle)
    have hle' : (seed : Int) ≤ (k : Int) := by omega
    clear hle
    go_enter Tryz.func36, Tryz.ntmps36
    go_wp2_with fail
    refine (Wk.out).mono ?_
    rintro e w1 ⟨rfl, rfl⟩
    go_wp2_with fail
    refine (Ws.out).mono ?_
    rintro e w1 ⟨rfl, rfl⟩
    go_wp2
    go_ret2
    refine ⟨_, rfl, ?_, ?_, fun i e => by cases e; exact Nat.le_refl _⟩
    · rw [HL.out]
      refine ⟨_, _, rfl, Nat.le_refl _, by unfold maxLen; simp, fun i hi => ?_⟩
      obtain rfl : i = 0 := by simpa using hi
      have h9 := cell_one_new w (.int .i64 ((seed : Int) - 1)) 3 0 _ rfl
      have e9 : (((seed - 1 : Nat)) : Int) = (seed : Int) - 1 := by omega
      simp only [Addr.add, List.getD_cons_zero, e9] at h9 ⊢
      exact h9
    · exact (Below.refl _ _).alloc (Nat.le_refl _) _
  · have hle' : ¬ (seed : Int) ≤ (k : Int) := by omega
    have hx : Num (seed : Int) := ⟨by omega, by omega⟩
    have B := hide (below_ok seed 1000 w hx (by omega) (by omega))
    obtain ⟨n, hn, hn2⟩ : ∃ n : Nat, nxt seed % 1000 = (n : Int) ∧ n < 1000 := ⟨(nxt seed % 1000).toNat, by omega, by omega⟩
    have HD : Hid (setD k seed = deg k n) := by unfold Hid setD; rw [hn, Int.toNat_natCast]
    rw [hn] at B
    have O := hide (of_ok k n w hk hk2 hn2)
    have hd1 := deg_le k n hk
    have hd0 := deg_ge k n
    have HS : Hid (∀ i, Stop k (nxt seed) (setD k seed) i → setL k seed = setAt k (nxt seed) i) := fun i hs => setL_stop hle hs
    have D := hide (draw_ok k (deg k n) (nxt seed) w hx.nxt hk hk2 hd1)
    clear hn hx hle
    generalize nxt (seed : Int) = y at *
    generalize deg k n = d at *
    go_enter Tryz.func36, Tryz.ntmps36
    go_wp2_with fail
    refine (Wk.out).mono ?_
    rintro e w1 ⟨rfl, rfl⟩
    go_wp2_with fail
    refine (Ws.out).mono ?_
    rintro e w1 ⟨rfl, rfl⟩
    go_wp2_with fail
    refine (B.out).mono ?_
    rintro e w1 ⟨rfl, rfl⟩
    go_wp2_with fail
    refine (O.out).mono ?_
    rintro e w1 ⟨rfl, rfl⟩
    go_wp2_with fail
    refine (D.out).mono ?_
    rintro e w1 ⟨rfl, i, hst, ⟨D1, hM⟩, hb⟩
    have HI := hide hst
    have HB := hide hb
    have hl16 := setAt_len k y i
    have R := hide (rising_ok k w.heap.size (setAt k y i) D1 w1 hk2 (by omega) hM)
    clear hst hb hM
    go_wp2_with fail
    refine (R.out).mono ?_
    rintro e w2 ⟨v, rfl, hrow, hb2⟩
    have HR := hide hrow
    have HB2 := hide hb2
    clear hrow hb2
    go_wp2
    go_ret2
    refine ⟨v, rfl, ?_, below_two HB.out HB2.out, fun i e => Nat.le_trans HB.out.size (HR.out.lt i e).1⟩
    have hr := HR.out
    rw [upTo_setAt] at hr
    rw [HS.out i (HD.out ▸ HI.out)]
    exact own_lst hr (by rw [HI.out.1]; omega)
end Go.Proofs.YtjgifjkdgoijmaaGreatDoor
