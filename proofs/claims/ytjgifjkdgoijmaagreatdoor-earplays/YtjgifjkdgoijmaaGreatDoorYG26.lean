/-
  Lemmas for the law above, joined into one text (Frame, BlkW, BlkN, DropW, EarA). No statement is proved here.
-/
import Derived.Test.YtjgifjkdgoijmaaGreatDoorYG25
import Derived.SliceStrings
import Derived.Test.YtjgifjkdgoijmaaGreatDoorYG2
import Derived.Test.YtjgifjkdgoijmaaGreatDoorYG6
import Derived.Test.YtjgifjkdgoijmaaGreatDoorYG4
import Derived.Test.YtjgifjkdgoijmaaGreatDoorYEarHearW
namespace Go.Proofs.YtjgifjkdgoijmaaGreatDoor
open Go.ChangeShapes Go.WideShapes Go.ChangeAt Go.RowKit
open Go.ChangeMaps (open_string shut_string)
set_option linter.unusedVariables false
set_option maxRecDepth 100000

theorem cellsStr : Tryz.prog.cellsOf 9 = 1 := by kernel_rfl

/-- A slice of strings as it lies: len strings f 0, f 1, .. -/
def StrsAt (W : World) (v : Value) (len : Nat) (f : Nat → ByteArray) : Prop :=
  (len = 0 ∧ ∃ a cap, v = .slice a 0 cap) ∨ (0 < len ∧ ∃ b o cap, v = .slice (some ⟨b, o, none⟩) len cap ∧ len ≤ cap ∧ cap ≤ maxLen ∧ (∀ i, i < len → W.cell? ⟨b, o + i, none⟩ = some (.string (f i))) ∧ ∀ i, i < len → (f i).size ≤ maxLen)

theorem open_strsAt {H : Type} {enc : TypeId × Value → H} {W : World} {base : Nat} {v : Value} {d : DataW H} {p : List MemPlace}
    (hv : Value.okWide Tryz.prog W .any base 37 v) (h : DataW.Trod enc Tryz.prog W 0 (fun _ => true) true 37 v d p) : ∃ len f, StrsAt W v len f := by
  obtain ⟨a0, len, cap, rfl⟩ := okWide_slice Tryz.underlying37 hv
  obtain ⟨fuel, hf⟩ := h
  rcases open_strings Tryz.underlying37 Tryz.underlying9 cellsStr hf with ⟨hcs, hx⟩ | ⟨a, len', cap', ss, hcs, _, hl, hm, hz, hx, hcell, hws⟩
  · simp [Value.cells] at hcs
    obtain ⟨rfl, rfl, rfl⟩ := hcs
    exact ⟨0, fun _ => ByteArray.empty, Or.inl ⟨rfl, none, 0, rfl⟩⟩
  · simp [Value.cells] at hcs
    obtain ⟨rfl, rfl, rfl⟩ := hcs
    simp only [if_true] at hz
    by_cases h0 : len = 0
    · subst h0
      exact ⟨0, fun _ => ByteArray.empty, Or.inl ⟨rfl, some a, cap, rfl⟩⟩
    · obtain ⟨b, off, spot⟩ := a
      have hspot : spot = none := by simpa [Addr.add] using World.cell?_spot (hcell 0 (by omega))
      subst hspot
      refine ⟨len, fun i => ss.getD i ByteArray.empty, Or.inr ⟨by omega, b, off, cap, rfl, hl, hm, fun i hi => ?_, fun i hi => ?_⟩⟩
      · rw [← add_plain]; exact hcell i (by omega)
      · have hi' : i < ss.length := by omega
        have e : ss.getD i ByteArray.empty = ss[i] := by simp [List.getD, List.getElem?_eq_getElem hi']
        show (ss.getD i ByteArray.empty).size ≤ maxLen
        rw [e]; exact hws _ (List.getElem_mem hi')
end Go.Proofs.YtjgifjkdgoijmaaGreatDoor

namespace Go.Proofs.YtjgifjkdgoijmaaGreatDoor
open Go.RowKit
set_option linter.unusedVariables false
set_option maxRecDepth 100000

/-- Blocks, as they lie. -/
structure Blks (w : World) (b o len : Nat) (g : Nat → ByteArray) : Prop where
  pos : 0 < len
  most : len ≤ 16
  cells : ∀ i, i < len → w.cell? ⟨b, o + i, none⟩ = some (.string (g i))
  one : 1 ≤ (g 0).size
  eight : (g 0).size ≤ 8
  same : ∀ i, i < len → (g i).size = (g 0).size
theorem Blks.below {w w' : World} {b o len : Nat} {g : Nat → ByteArray} (h : Blks w b o len g) (hb : Below w.heap.size w w') : Blks w' b o len g :=
  ⟨h.pos, h.most, fun i hi => cell_below hb (h.cells i hi), h.one, h.eight, h.same⟩

/-- Blocks, or a fault of them. -/
theorem check_ways {w : World} {v : Value} {len : Nat} {g : Nat → ByteArray} (hv : StrsAt w v len g) :
    (∃ x : Int, ∀ w1, Below w.heap.size w w1 → Calls Tryz.prog 35 #[v] w1 fun e w' => e = .returned (.iface 64 (.int .i64 x)) ∧ Below w1.heap.size w1 w') ∨
    ∃ b o cap, v = .slice (some ⟨b, o, none⟩) len cap ∧ len ≤ cap ∧ cap ≤ maxLen ∧ Blks w b o len g := by
  rcases hv with ⟨rfl, a, cap, rfl⟩ | ⟨h0, b, o, cap, rfl, hlc, hcm, hcell, hsz⟩
  · exact Or.inl ⟨5, fun w1 hb => (check_none a cap _).mono fun e w' ⟨he, hw⟩ => ⟨he, hw ▸ Below.refl _ _⟩⟩
  by_cases h16 : len ≤ 16
  · by_cases hr : (g 0).size < 1 ∨ 8 < (g 0).size
    · exact Or.inl ⟨1, fun w1 hb => check_range b o len cap (g 0) _ h0 h16 (by simpa using cell_below hb (hcell 0 h0)) (hsz 0 h0) hr⟩
    by_cases hq : ∃ q, q < len ∧ (g q).size ≠ (g 0).size
    · obtain ⟨q, hq, hne⟩ := hq
      exact Or.inl ⟨3, fun w1 hb => check_shape b o len cap g _ h0 h16 (fun i hi => cell_below hb (hcell i hi)) (by omega) (by omega) q hq hne⟩
    exact Or.inr ⟨b, o, cap, rfl, hlc, hcm, h0, h16, hcell, by omega, by omega, fun i hi => Classical.byContradiction fun hn => hq ⟨i, hi, hn⟩⟩
  · exact Or.inl ⟨4, fun w1 hb => (check_full _ len cap _ (by omega) (by omega)).mono fun e w' ⟨he, hw⟩ => ⟨he, hw ▸ Below.refl _ _⟩⟩

end Go.Proofs.YtjgifjkdgoijmaaGreatDoor

namespace Go.Proofs.YtjgifjkdgoijmaaGreatDoor
open Go.RowKit
set_option linter.unusedVariables false
set_option maxRecDepth 100000

theorem padL_append (l : List UInt8) (a b : Nat) : padL l a ++ padL (l.drop a) b = padL l (a + b) := by
  unfold padL
  rw [List.length_drop]
  rcases Nat.le_total l.length a with h | h
  · rw [List.take_of_length_le h, List.drop_of_length_le h, List.take_of_length_le (show l.length ≤ a + b by omega)]
    simp only [List.take_nil, List.nil_append, List.append_assoc, List.replicate_append_replicate]
    congr 2; omega
  · rw [show a - l.length = 0 by omega, List.replicate_zero, List.append_nil, List.take_add, List.append_assoc]
    congr 3; omega
/-- Block i as the string that lies in memory. -/
def blkB (l : List UInt8) (n i : Nat) : ByteArray := ⟨(blkL l n i).toArray⟩
theorem blkB_size (l : List UInt8) (n i : Nat) : (blkB l n i).size = n := by
  rw [Lib.size_eq, blkB, List.toList_toArray, blkL_length]
theorem cnt_ge (m n : Nat) (h1 : 1 ≤ n) : m ≤ cntN m n * n := by
  unfold cntN
  have h := Nat.div_add_mod (m + n - 1) n
  have h2 := Nat.mod_lt (m + n - 1) h1
  have h3 : (m + n - 1) / n ≤ max 1 ((m + n - 1) / n) := Nat.le_max_right _ _
  have h4 := Nat.mul_le_mul_right n h3
  rw [Nat.mul_comm] at h
  omega
theorem cnt_lt (m n : Nat) (h1 : 1 ≤ n) (h0 : m ≠ 0) : cntN m n * n < m + n := by
  unfold cntN
  have h2 := Nat.div_mul_le_self (m + n - 1) n
  have h3 : 1 ≤ (m + n - 1) / n := (Nat.one_le_div_iff h1).2 (by omega)
  rw [Nat.max_eq_right h3]; omega
/-- Split finds a fault, or cuts. -/
theorem split_ways (s : ByteArray) (z : Int) (hm : s.size ≤ maxLen) :
    (∃ x : Int, ∀ w : World, Calls Tryz.prog 9 #[.string s, .int .i64 z] w fun e w' => e = .returned (.tuple #[.slice none 0 0, .iface 64 (.int .i64 x)]) ∧ w = w') ∨
    ∃ n : Nat, z = (n : Int) ∧ 1 ≤ n ∧ n ≤ 8 ∧ s.size ≤ 120 ∧ cntN s.size n ≤ 16 ∧ ∀ w : World, Calls Tryz.prog 9 #[.string s, .int .i64 n] w fun e w' => e = .returned (.tuple #[.slice (some ⟨w.heap.size, 0, none⟩) (cntN s.size n) (cntN s.size n), .nilIface]) ∧ Blks w' w.heap.size 0 (cntN s.size n) (blkB s.data.toList n) ∧ Below w.heap.size w w' := by
  by_cases h : 120 < s.size
  · exact Or.inl ⟨4, fun w => split_full s z w h hm⟩
  by_cases hz : z < 1 ∨ 8 < z
  · exact Or.inl ⟨1, fun w => split_range s z w (by omega) hz⟩
  obtain ⟨n, rfl⟩ : ∃ n : Nat, z = (n : Int) := ⟨z.toNat, by omega⟩
  by_cases hk : 16 < cntN s.size n
  · exact Or.inl ⟨4, fun w => split_many s n w (by omega) (by omega) (by omega) hk⟩
  refine Or.inr ⟨n, rfl, by omega, by omega, by omega, by omega, fun w => (split_ok s n w (by omega) (by omega) (by omega) (by omega)).mono fun e w' ⟨he, hr, hb⟩ => ⟨he, ⟨by unfold cntN; omega, by omega, fun i hi => ?_, by rw [blkB_size]; omega, by rw [blkB_size]; omega, fun i hi => by rw [blkB_size, blkB_size]⟩, hb⟩⟩
  rw [Nat.zero_add]; exact hr.cell hi

end Go.Proofs.YtjgifjkdgoijmaaGreatDoor

namespace Go.Proofs.YtjgifjkdgoijmaaGreatDoor
open Go.RowKit Go.Maps
set_option linter.unusedVariables false
set_option maxRecDepth 100000

/-- A drop is made, or a fault is told. -/
theorem make_ways {w : World} {v : Value} {len : Nat} {g : Nat → ByteArray} (hv : StrsAt w v len g) (seed : Int) :
    (∃ x : Int, ∀ w1, Below w.heap.size w w1 → Calls Tryz.prog 10 #[v, .int .i64 seed] w1 fun e w' => e = .returned (.tuple #[dropV 0 ⟨#[]⟩, .iface 64 (.int .i64 x)]) ∧ Below w1.heap.size w1 w') ∨
    ∃ b o cap, ∃ n : Nat, v = .slice (some ⟨b, o, none⟩) len cap ∧ len ≤ cap ∧ cap ≤ maxLen ∧ Blks w b o len g ∧ seed = (n : Int) ∧ 1 ≤ n ∧ n ≤ 10000 ∧
      ∀ w1, Below w.heap.size w w1 → Calls Tryz.prog 10 #[v, .int .i64 seed] w1 fun e w' => e = .returned (.tuple #[dropV n (dropB g len n), .nilIface]) ∧ Below w1.heap.size w1 w' := by
  rcases check_ways hv with ⟨x, hx⟩ | ⟨b, o, cap, rfl, hlc, hcm, hB⟩
  · exact Or.inl ⟨x, fun w1 hb => make_check v seed w1 x (fun w2 hb2 => hx w2 (below_two hb hb2))⟩
  · by_cases hs : 1 ≤ seed ∧ seed ≤ 10000
    · obtain ⟨n, rfl⟩ := Int.eq_ofNat_of_zero_le (show 0 ≤ seed by omega)
      exact Or.inr ⟨b, o, cap, n, rfl, hlc, hcm, hB, rfl, by omega, by omega, fun w1 hb => make_ok b o len cap g n w1 hB.pos hB.most (hB.below hb).cells hB.one hB.eight hB.same (by omega) (by omega)⟩
    · exact Or.inl ⟨1, fun w1 hb => make_seed b o len cap g seed w1 hB.pos hB.most (hB.below hb).cells hB.one hB.eight hB.same (by omega)⟩

/-- The set of a seed that is of one block. -/
theorem set_one (k seed : Nat) (hk2 : k ≤ 16) (h1 : 1 ≤ seed) (h2 : seed ≤ k) (w : World) :
    Calls Tryz.prog 36 #[.int .i64 k, .int .i64 seed] w fun e w' => ∃ p cap, e = .returned (.tuple #[.slice (some ⟨p, 0, none⟩) 1 cap, .nilIface]) ∧ w'.cell? ⟨p, 0 + 0, none⟩ = some (.int .i64 ((seed - 1 : Nat) : Int)) ∧ 1 ≤ cap ∧ cap ≤ maxLen ∧ Below w.heap.size w w' := by
  refine (set_ok k seed w (by omega) hk2 h1 (by omega)).mono ?_
  rintro e w' ⟨v, rfl, ⟨p, cap, rfl, hc1, hc2, hc⟩, hb⟩
  rw [setL_one h2] at hc hc1 ⊢
  exact ⟨p, cap, rfl, by simpa using hc 0 (by simp), hc1, hc2, hb⟩
theorem dropB_one {g : Nat → ByteArray} {len seed : Nat} (h1 : 1 ≤ seed) (h2 : seed ≤ len) (hs : (g (seed - 1)).size = (g 0).size) : dropB g len seed = g (seed - 1) := by
  unfold dropB
  rw [setL_one h2]
  refine bytesB_eq _ _ _ hs fun i hi => ?_
  simp [xsum]
end Go.Proofs.YtjgifjkdgoijmaaGreatDoor

namespace Go.Proofs.YtjgifjkdgoijmaaGreatDoor
open Go.RowKit Go.Maps
set_option linter.unusedVariables false
set_option maxRecDepth 100000

theorem peel_ptr : PtrI peelI0 := fun h => by
  obtain ⟨b, _, _, _, _, rfl, _⟩ := h
  exact ⟨_, rfl⟩
theorem mask_some {k s : Nat} (hk : 1 ≤ k ∧ k ≤ 16) (h1 : 1 ≤ s ∧ s ≤ 10000) : maskL (setL k s) ≠ 0 := fun e => by
  have hl := (setL_len hk.1 hk.2 h1.1 h1.2).1
  have h9 := maskL_bit (setL k s) ((setL k s)[0]'(by omega))
  rw [e] at h9
  simp at h9
theorem rk_one {v : Nat} (h : v ≠ 0) : rkL [v] = 1 := by
  have h9 := rkL_out (L := []) (v := v) (fun e => h e)
  rw [rkL_none] at h9
  exact h9
/-- The drop of a seed is fit for the Ear. -/
theorem eF_made {k z n : Nat} {F : List Drp} {s : Nat} {d : ByteArray} (h : FOk k z n F) (hs : 1 ≤ s ∧ s ≤ 10000) (hd : d.size = z) (hl : F.length < 60) : eF k z F (s : Int) d.size = 0 := by
  have h1 := h.nk
  have h2 := h.nz
  have hf : fD k z (s : Int) d.size = 0 := by unfold fD; rw [if_pos (by unfold OkD; omega), if_pos (by omega)]
  unfold eF
  rw [if_neg (by simp [hf]), if_neg (by omega)]
/-- Hear of a drop that is fit, seen from an earlier world. -/
theorem hear_from {I : PIm0} (hI : PtrI I) {w0 w : World} {v : Value} {k z n : Nat} {dr : Int} {F : List Drp} {M : Nat → Prop} (h : ESt I w v k z n dr F M) (hb : Below w0.heap.size w0 w) (hM : ∀ i, M i → w0.heap.size ≤ i) (seed : Nat) (data : ByteArray) (hf : eF k z F seed data.size = 0) (hdr : -9223372036854775808 ≤ dr ∧ dr ≤ 9223372036854775807) :
    Calls Tryz.prog 6 #[v, dropV seed data] w fun e w' => ∃ q M', Took (setL k) q (eAdd F seed data) ∧ e = .returned (.tuple #[heardV (wrap64 (dr + 1)) (eAdd F seed data).length (knows k q.known).length, .nilIface]) ∧ ESt I w' v k z n (wrap64 (dr + 1)) (eAdd F seed data) M' ∧ (∀ i, M' i → w0.heap.size ≤ i) ∧ Below w0.heap.size w0 w' ∧ Kept M w w' ∧ ∀ i, M' i → M i ∨ w.heap.size ≤ i :=
  (hear_ok hI h seed data hf hdr).mono fun e w' ⟨q, h1, h2, h3, h4⟩ => ⟨q, _, h1, h2, h3, fun i hi => hi.elim (hM i) fun e => Nat.le_trans hb.size e.1, kept_below hb h4 hM, h4, fun i hi => hi.imp id fun e => e.1⟩
theorem DropIn.kept {M : Nat → Prop} {w w' : World} {b : Nat} {seed : Int} {s : ByteArray} (h : DropIn w b seed s) (hk : Kept M w w') (hm : ¬ M b) : DropIn w' b seed s := h.of_block (hk.block b h.lt hm)
end Go.Proofs.YtjgifjkdgoijmaaGreatDoor
