/-
  Rows of Drops that a call builds by append; what Solve says of drops of blocks. Lemmas for the laws above; no statement is proved here.
-/
import Derived.Test.YtldjbampimbaeaaDoorSvSolve
import Derived.Test.YtldjbampimbaeaaDoorSvFit
import Derived.Deep.RegionLaw
import Derived.Deep.DrawnRows
namespace Go.Proofs.YtldjbampimbaeaaDoor
open Go.RowKit Go.Maps
set_option linter.unusedVariables false
set_option maxRecDepth 100000

/-- The cells of the first drops, j of them. -/
def dcells (s : Nat → Nat) (d : Nat → ByteArray) (j : Nat) : List Value := (List.range j).flatMap fun i => [.int .i64 (s i : Nat), .string (d i)]
theorem dcells_succ (s : Nat → Nat) (d : Nat → ByteArray) (j : Nat) : dcells s d (j + 1) = dcells s d j ++ [.int .i64 (s j : Nat), .string (d j)] := by unfold dcells; rw [List.range_succ, List.flatMap_append]; simp
theorem dcells_len (s : Nat → Nat) (d : Nat → ByteArray) : ∀ j, (dcells s d j).length = j * 2
  | 0 => rfl
  | j + 1 => by rw [dcells_succ, List.length_append, dcells_len s d j]; simp; omega
theorem dcells_at (s : Nat → Nat) (d : Nat → ByteArray) (i : Nat) : ∀ j, i < j → (dcells s d j)[i * 2]? = some (.int .i64 (s i : Nat)) ∧ (dcells s d j)[i * 2 + 1]? = some (.string (d i))
  | 0, h => absurd h (Nat.not_lt_zero _)
  | j + 1, h => by
    rw [dcells_succ]
    have hl := dcells_len s d j
    by_cases e : i = j
    · subst e
      rw [List.getElem?_append_right (by omega), List.getElem?_append_right (by omega), hl, Nat.sub_self, show i * 2 + 1 - i * 2 = 1 by omega]
      exact ⟨rfl, rfl⟩
    · rw [List.getElem?_append_left (by omega), List.getElem?_append_left (by omega)]
      exact dcells_at s d i j (by omega)
theorem own_dropsAt {w : World} {B : Nat} {v : Value} {n : Nat} {s : Nat → Nat} {d : Nat → ByteArray} (h : w.ownsRow B 38 2 v n (dcells s d n)) (hs : ∀ i, i < n → s i ≤ 10000) (hd : ∀ i, i < n → (d i).size ≤ maxLen) : DropsAt w v n (fun i => (s i : Int)) d := by
  have h' := h
  rcases h.2 with ⟨hv, h0⟩ | ⟨g, cap, cur, hv, _, hg, h1, h2, hcs, hcur⟩
  · exact Or.inl ⟨h0, _, _, hv⟩
  · rcases Nat.eq_zero_or_pos n with e | h0
    · exact Or.inl ⟨e, _, _, by rw [hv, e]⟩
    · refine Or.inr ⟨h0, g, 0, cap, hv, h1, h2, fun i hi => ?_⟩
      rw [hv] at h'
      rw [Nat.zero_add, h'.cellAt (i * 2) (by omega), h'.cellAt (i * 2 + 1) (by omega)]
      have := hs i hi
      have e : ((fun i => (s i : Int)) i) = (s i : Int) := rfl
      exact ⟨(dcells_at s d i n hi).1, (dcells_at s d i n hi).2, hd i hi, WalkArith.wf_i64 (by omega)⟩
theorem firstF_zero {g : Nat → Int} : ∀ {n : Nat}, (∀ i, i < n → g i = 0) → firstF g n = 0
  | 0, _ => rfl
  | n + 1, h => by
    unfold firstF
    rw [firstF_zero (n := n) (fun i hi => h i (by omega)), if_neg (by simp), h n (by omega)]
theorem fC_zero {k z len : Nat} {s : Nat → Nat} {d : Nat → ByteArray} (hl : len ≤ 60) (hk : 1 ≤ k ∧ k ≤ 16) (hz : 1 ≤ z ∧ z ≤ 8) (hs : ∀ i, i < len → 1 ≤ s i ∧ s i ≤ 10000 ∧ (d i).size = z) : fC k z len (fun i => (s i : Int)) d = 0 := by
  unfold fC
  rw [if_neg (by omega), if_pos (by omega)]
  refine firstF_zero fun i hi => ?_
  obtain ⟨h1, h2, h3⟩ := hs i hi
  show fD k z (s i : Int) (d i).size = 0
  unfold fD
  rw [if_pos (by unfold OkD; omega), if_pos (by omega)]
theorem DropIn.data {w : World} {b : Nat} {seed : Int} {s : ByteArray} (h : DropIn w b seed s) (t : ByteArray) : DropIn (w.setCell ⟨b, 0 + 1, none⟩ (.string t)) b seed t := by
  obtain ⟨⟨c0, f0⟩, c1, f1⟩ := h
  refine ⟨⟨?_, by rw [World.frozen?_setCell]; exact f0⟩, World.cell?_setCell_same _ _ _ c1, by rw [World.frozen?_setCell]; exact f1⟩
  rw [World.cell?_setCell_other _ _ _ _ (fun h => by cases h)]; exact c0
/-- Of drops of blocks, all of them alone among these, these come back. -/
theorem solved_right {L : List RV} {g : Nat → ByteArray} {k n : Nat} {e : Ending} {w' : World} (h : Solved L k n e w') (hf : ∀ v ∈ L, Fits g k v) (hu : ∀ p, p < k → Sp XV L (rv (2 ^ p) (g p))) (hz : ∀ p, p < k → (g p).size = n) :
    ∃ b : Nat, e = .returned (.tuple #[.slice (some ⟨b, 0, none⟩) k k, .nilIface]) ∧ ∀ p, p < k → w'.cell? ⟨b, p, none⟩ = some (.string (g p)) := by
  rcases h with ⟨hc, _⟩ | ⟨_, ⟨r, hr, hd⟩, _⟩ | ⟨_, _, b, G, he, hG⟩
  · exact absurd hc (fits_clash hf)
  · have := units_dim hu hd; omega
  · refine ⟨b, he, fun p hp => ?_⟩
    obtain ⟨h1, h2, h3⟩ := hG p hp
    rw [← fits_unit hf hp (by rw [h2, hz p hp]) h3]; exact h1
theorem solved_bent {L : List RV} {k n : Nat} {e : Ending} {w' : World} (h : Solved L k n e w') (hc : Clash L) : e = .returned (.tuple #[.slice none 0 0, .iface 52 (.int .i64 7)]) := by
  rcases h with ⟨_, he⟩ | ⟨hn, _⟩ | ⟨hn, _⟩
  · exact he
  · exact absurd hc hn
  · exact absurd hc hn
end Go.Proofs.YtldjbampimbaeaaDoor
