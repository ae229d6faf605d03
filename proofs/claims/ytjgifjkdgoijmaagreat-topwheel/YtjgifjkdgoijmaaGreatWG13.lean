/-
  Lemmas for the law above, joined into one text (SClone, PSort). No statement is proved here.
-/
import Derived.Shelf.LaysM
import Derived.Shelf.Strconv.Clone
import Derived.Test.YtjgifjkdgoijmaaGreatWG0
import Derived.Shelf.Sort.Plain
import Derived.Shelf.Slices.In.SortNone
import Derived.Sort.OwnSortedInts
import Derived.Test.YtjgifjkdgoijmaaGreatWG6
namespace Go.Proofs.YtjgifjkdgoijmaaGreat
open Go.Shelf Go.RowKit
set_option linter.unusedVariables false
set_option maxRecDepth 100000

def renClone : Go.Shelf.Ren := ⟨fun | 316 => 61 | n => n, fun | 9 => 9 | 3 => 3 | 4 => 4 | 37 => 86 | 0 => 0 | 127 => 140 | 5 => 5 | n => n, fun | n => n⟩
theorem laysClone0 : Go.Proofs.Lays.n316 Tryz.prog renClone := by constructor <;> (intros; kernel_rfl)
theorem laysClone : Go.Proofs.LaysM.n316 Tryz.prog renClone := by constructor <;> first | exact laysClone0 | (intros; kernel_rfl)
theorem stringslite_Clone (s : ByteArray) (w : World) (hlim : s.size ≤ 281474976710656) :
    Calls Tryz.prog 61 #[.string s] w fun e w' => e = .returned (.string s) ∧ Below w.heap.size w w' :=
  Any.stringslite_Clone laysClone s w hlim
theorem strings_Clone (s : ByteArray) (w : World) (hlim : s.size ≤ 281474976710656) :
    Calls Tryz.prog 37 #[.string s] w fun e w' => e = .returned (.string s) ∧ Below w.heap.size w w' := by
  go_enter Tryz.func37, Tryz.ntmps37
  go_wp2_with fail
  refine (stringslite_Clone _ _ hlim).mono ?_
  rintro e w1 ⟨rfl, hb⟩
  go_wp2
  go_ret
  exact ⟨rfl, hb⟩
end Go.Proofs.YtjgifjkdgoijmaaGreat

namespace Go.Proofs.YtjgifjkdgoijmaaGreat
open Go.Shelf Go.RowKit
set_option linter.unusedVariables false
set_option maxRecDepth 100000

def renSort : Go.Shelf.Ren := ⟨fun | 125 => 93 | 128 => 107 | 129 => 108 | 189 => 105 | 215 => 128 | 216 => 120 | 257 => 113 | 294 => 114 | 295 => 115 | 296 => 116 | 297 => 117 | 298 => 118 | 299 => 119 | 300 => 121 | 301 => 122 | 328 => 123 | 329 => 124 | 330 => 125 | 331 => 126 | 332 => 127 | 343 => 129 | n => n,
  fun | 0 => 0 | 3 => 3 | 4 => 4 | 5 => 5 | 9 => 9 | 28 => 22 | 46 => 116 | 51 => 145 | 53 => 148 | 131 => 176 | 182 => 171 | 183 => 172 | 218 => 178 | 222 => 182 | 228 => 184 | 229 => 185 | n => n, fun | n => n⟩
theorem laysSort : Go.Proofs.Lays.n189 Tryz.prog renSort := by constructor <;> (intros; kernel_rfl)

theorem sort_same {l l' : List Nat} (hp : l.Perm l') (hs : l'.Pairwise (· < ·)) : (l.map fun r : Nat => (r : Int)).mergeSort (fun x y => decide (x ≤ y)) = l'.map fun r : Nat => (r : Int) := by
  refine List.Perm.eq_of_pairwise (le := fun x y : Int => x ≤ y) (fun a b _ _ h1 h2 => by omega) ?_ ?_ ((List.mergeSort_perm _ _).trans (hp.map _))
  · exact (List.pairwise_mergeSort (le := fun x y : Int => decide (x ≤ y)) (fun a b c h1 h2 => by simp at h1 h2 ⊢; omega) (fun a b => by simp; omega) _).imp (fun h => by simpa using h)
  · exact List.pairwise_map.2 (hs.imp (fun h => by omega))
theorem sort_ok {w : World} (B : Nat) {v : Value} {l l' : List Nat} (h : w.ownsRow B 3 1 v l.length (toV l)) (hl : l.length ≤ 16) (hp : l.Perm l') (hs : l'.Pairwise (· < ·)) :
    Calls Tryz.prog 105 #[v] w fun e w' => e = .returned (.tuple #[]) ∧ w'.ownsRow B 3 1 v l'.length (toV l') ∧ w.grownBy w' v.ownBlock := by
  have hle := hp.length_eq
  rcases Nat.eq_zero_or_pos l.length with h0 | h0
  · have e1 : l = [] := List.eq_nil_of_length_eq_zero h0
    have e2 : l' = [] := List.eq_nil_of_length_eq_zero (by omega)
    subst e1 e2
    have hv : ∃ a cap, v = .slice a 0 cap := by
      rcases h.2 with ⟨hv, _⟩ | ⟨g, cap, _, hv, _⟩
      · exact ⟨_, _, hv⟩
      · exact ⟨_, _, hv⟩
    obtain ⟨a, cap, rfl⟩ := hv
    refine (Any.slices_Sort_int_none laysSort a cap w).mono ?_
    rintro e w' ⟨rfl, rfl⟩
    exact ⟨rfl, h, ⟨rfl, rfl, rfl, Nat.le_refl _, fun _ _ _ => rfl⟩⟩
  · have h' := h
    rcases h'.2 with ⟨_, hz⟩ | ⟨g, cap, cur, rfl, hB, hb, h1, h2, h3, h4⟩
    · omega
    · have ht : cur.toList.take (l.map fun r : Nat => (r : Int)).length = (l.map fun r : Nat => (r : Int)).map (Value.int .i64) := by
        rw [List.length_map]
        rw [Nat.mul_one] at h4
        rw [h4]; unfold toV; rw [List.map_map]; rfl
      have hgl := (h.lt g rfl).2
      have hso := Any.slices_Sort_int laysSort g 0 cap (l.map fun r : Nat => (r : Int)) w (holds_of_blockI hb ht) hgl (by rw [List.length_map]; omega)
      rw [sort_same hp hs, List.length_map] at hso
      refine hso.mono ?_
      rintro e w' ⟨rfl, n, os, rfl⟩
      refine ⟨rfl, ?_, grownBy_sortedI _⟩
      have h9 := ownsRow_sortedI (n := n) (os := os) (ss := l.map fun r : Nat => (r : Int)) (ts := l'.map fun r : Nat => (r : Int)) (by simp [hle]) hB hb (by simpa using h1) h2 h3
      rw [List.length_map, List.map_map, hle] at h9
      rw [hle]
      exact h9
end Go.Proofs.YtjgifjkdgoijmaaGreat
