/-
  Lemmas for the law above, joined into one text (DropW, EarA, Lib). No statement is proved here.
-/
import Derived.Test.YtjgifjkdgoijmaaGreatEG6
import Derived.Test.YtjgifjkdgoijmaaGreatEG30
import Derived.Test.YtjgifjkdgoijmaaGreatEG21
import Derived.Test.YtjgifjkdgoijmaaGreatEEarHearW
import Derived.Test.YtjgifjkdgoijmaaGreatEG29
import Derived.Shelf.Strings.OnBuilder
import Derived.Shelf.LaysM
import Derived.Test.YtjgifjkdgoijmaaGreatEG16
import Derived.WalkKit
namespace Go.Proofs.YtjgifjkdgoijmaaGreat
open Go.RowKit Go.Maps
set_option linter.unusedVariables false
set_option maxRecDepth 100000

/-- A drop is made, or a fault is told. -/
theorem make_ways {w : World} {v : Value} {len : Nat} {g : Nat → ByteArray} (hv : StrsAt w v len g) (seed : Int) :
    (∃ x : Int, ∀ w1, Below w.heap.size w w1 → Calls Tryz.prog 10 #[v, .int .i64 seed] w1 fun e w' => e = .returned (.tuple #[dropV 0 ⟨#[]⟩, .iface 54 (.int .i64 x)]) ∧ Below w1.heap.size w1 w') ∨
    ∃ b o cap, ∃ n : Nat, v = .slice (some ⟨b, o, none⟩) len cap ∧ len ≤ cap ∧ cap ≤ maxLen ∧ Blks w b o len g ∧ seed = (n : Int) ∧ 1 ≤ n ∧ n ≤ 10000 ∧
      ∀ w1, Below w.heap.size w w1 → Calls Tryz.prog 10 #[v, .int .i64 seed] w1 fun e w' => e = .returned (.tuple #[dropV n (dropB g len n), .nilIface]) ∧ Below w1.heap.size w1 w' := by
  rcases check_ways hv with ⟨x, hx⟩ | ⟨b, o, cap, rfl, hlc, hcm, hB⟩
  · exact Or.inl ⟨x, fun w1 hb => make_check v seed w1 x (fun w2 hb2 => hx w2 (below_two hb hb2))⟩
  · by_cases hs : 1 ≤ seed ∧ seed ≤ 10000
    · obtain ⟨n, rfl⟩ := Int.eq_ofNat_of_zero_le (show 0 ≤ seed by omega)
      exact Or.inr ⟨b, o, cap, n, rfl, hlc, hcm, hB, rfl, by omega, by omega, fun w1 hb => make_ok b o len cap g n w1 hB.pos hB.most (hB.below hb).cells hB.one hB.eight hB.same (by omega) (by omega)⟩
    · exact Or.inl ⟨1, fun w1 hb => make_seed b o len cap g seed w1 hB.pos hB.most (hB.below hb).cells hB.one hB.eight hB.same (by omega)⟩

/-- The set of a seed that is of one block. -/
theorem set_one (k seed : Nat) (hk2 : k ≤ 16) (h1 : 1 ≤ seed) (h2 : seed ≤ k) (w : World) :
    Calls Tryz.prog 29 #[.int .i64 k, .int .i64 seed] w fun e w' => ∃ p cap, e = .returned (.tuple #[.slice (some ⟨p, 0, none⟩) 1 cap, .nilIface]) ∧ w'.cell? ⟨p, 0 + 0, none⟩ = some (.int .i64 ((seed - 1 : Nat) : Int)) ∧ 1 ≤ cap ∧ cap ≤ maxLen ∧ Below w.heap.size w w' := by
  refine (set_ok k seed w (by omega) hk2 h1 (by omega)).mono ?_
  rintro e w' ⟨v, rfl, ⟨p, cap, rfl, hc1, hc2, hc⟩, hb⟩
  rw [setL_one h2] at hc hc1 ⊢
  exact ⟨p, cap, rfl, by simpa using hc 0 (by simp), hc1, hc2, hb⟩
theorem dropB_one {g : Nat → ByteArray} {len seed : Nat} (h1 : 1 ≤ seed) (h2 : seed ≤ len) (hs : (g (seed - 1)).size = (g 0).size) : dropB g len seed = g (seed - 1) := by
  unfold dropB
  rw [setL_one h2]
  refine bytesB_eq _ _ _ hs fun i hi => ?_
  simp [xsum]
end Go.Proofs.YtjgifjkdgoijmaaGreat

namespace Go.Proofs.YtjgifjkdgoijmaaGreat
open Go.RowKit Go.Maps
set_option linter.unusedVariables false
set_option maxRecDepth 100000

theorem peel_ptr : PtrI peelI0 := fun h => by
  obtain ⟨b, _, _, _, _, rfl, _⟩ := h
  exact ⟨_, rfl⟩
theorem mask_some {k s : Nat} (hk : 1 ≤ k ∧ k ≤ 16) (h1 : 1 ≤ s ∧ s ≤ 10000) : maskL (setL k s) ≠ 0 := fun e => by
  have hl := (setL_len hk.1 hk.2 h1.1 h1.2).1
  have h9 := maskL_bit (setL k s) ((setL k s)[0]'(by omega))
  rw [e] at h9
  simp at h9
theorem rk_one {v : Nat} (h : v ≠ 0) : rkL [v] = 1 := by
  have h9 := rkL_out (L := []) (v := v) (fun e => h e)
  rw [rkL_none] at h9
  exact h9
/-- The drop of a seed is fit for the Ear. -/
theorem eF_made {k z n : Nat} {F : List Drp} {s : Nat} {d : ByteArray} (h : FOk k z n F) (hs : 1 ≤ s ∧ s ≤ 10000) (hd : d.size = z) (hl : F.length < 60) : eF k z F (s : Int) d.size = 0 := by
  have h1 := h.nk
  have h2 := h.nz
  have hf : fD k z (s : Int) d.size = 0 := by unfold fD; rw [if_pos (by unfold OkD; omega), if_pos (by omega)]
  unfold eF
  rw [if_neg (by simp [hf]), if_neg (by omega)]
/-- Hear of a drop that is fit, seen from an earlier world. -/
theorem hear_from {I : PIm0} (hI : PtrI I) {w0 w : World} {v : Value} {k z n : Nat} {dr : Int} {F : List Drp} {M : Nat → Prop} (h : ESt I w v k z n dr F M) (hb : Below w0.heap.size w0 w) (hM : ∀ i, M i → w0.heap.size ≤ i) (seed : Nat) (data : ByteArray) (hf : eF k z F seed data.size = 0) (hdr : -9223372036854775808 ≤ dr ∧ dr ≤ 9223372036854775807) :
    Calls Tryz.prog 14 #[v, dropV seed data] w fun e w' => ∃ q M', Took (setL k) q (eAdd F seed data) ∧ e = .returned (.tuple #[heardV (wrap64 (dr + 1)) (eAdd F seed data).length (knows k q.known).length, .nilIface]) ∧ ESt I w' v k z n (wrap64 (dr + 1)) (eAdd F seed data) M' ∧ (∀ i, M' i → w0.heap.size ≤ i) ∧ Below w0.heap.size w0 w' ∧ Kept M w w' ∧ ∀ i, M' i → M i ∨ w.heap.size ≤ i :=
  (hear_ok hI h seed data hf hdr).mono fun e w' ⟨q, h1, h2, h3, h4⟩ => ⟨q, _, h1, h2, h3, fun i hi => hi.elim (hM i) fun e => Nat.le_trans hb.size e.1, kept_below hb h4 hM, h4, fun i hi => hi.imp id fun e => e.1⟩
theorem DropIn.kept {M : Nat → Prop} {w w' : World} {b : Nat} {seed : Int} {s : ByteArray} (h : DropIn w b seed s) (hk : Kept M w w') (hm : ¬ M b) : DropIn w' b seed s := h.of_block (hk.block b h.lt hm)
end Go.Proofs.YtjgifjkdgoijmaaGreat

namespace Go.Proofs.YtjgifjkdgoijmaaGreat
open Go.Shelf Go.RowKit
set_option linter.unusedVariables false
set_option maxRecDepth 100000
def renJoin : Go.Shelf.Ren := ⟨fun | 156 => 67 | 165 => 76 | 166 => 77 | 169 => 79 | 240 => 97 | 241 => 98 | 276 => 109 | 277 => 110 | n => n,
  fun | 31 => 24 | 9 => 9 | 3 => 3 | 4 => 4 | 0 => 0 | 20 => 20 | 72 => 128 | 76 => 51 | 70 => 126 | 37 => 86 | 75 => 26 | 127 => 140 | 164 => 164 | 5 => 5 | 80 => 130 | n => n, fun | n => n⟩
theorem laysJoin : Go.Proofs.Lays.n156 Tryz.prog renJoin := by constructor <;> (intros; kernel_rfl)
theorem extraJoin0 : Builder.X72 Tryz.prog renJoin := by constructor <;> (intros; kernel_rfl)
theorem extraJoin : Builder.Extra Tryz.prog renJoin :=
  Builder.Extra.mk extraJoin0 (by kernel_rfl) (fun _ => by kernel_rfl) (fun _ => by kernel_rfl) (fun _ => by kernel_rfl) (by kernel_rfl) (by kernel_rfl) (by kernel_rfl) (by decide)
theorem strings_Join (bk o c : Nat) (xs : List ByteArray) (sep : ByteArray) (w : World) (hcells : ∀ (j : Nat) x, xs[j]? = some x → w.cell? ⟨bk, o + j, none⟩ = some (.string x)) (hbk : bk < w.heap.size) (hN : xs.length ≤ 140737488355328) (hcap : xs.length ≤ c) (hlen : (Lib.join (xs.map (·.data.toList)) sep.data.toList).length ≤ 140737488355328) :
    Calls Tryz.prog 67 #[.slice (some ⟨bk, o, none⟩) xs.length c, .string sep] w fun e w' => e = .returned (.string ⟨(Lib.join (xs.map (·.data.toList)) sep.data.toList).toArray⟩) ∧ Below w.heap.size w w' :=
  Any.strings_Join laysJoin extraJoin bk o c xs sep w hcells hbk hN hcap hlen
end Go.Proofs.YtjgifjkdgoijmaaGreat
