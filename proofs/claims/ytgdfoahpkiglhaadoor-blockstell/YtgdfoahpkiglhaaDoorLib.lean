/-
  The library's contracts for strings.Join and internal/stringslite.Clone, laid at this seat's translation (each body is held against the contract's own by the kernel), and strings.Clone over it. Lemmas for the laws above; no statement is proved here.
-/
import Derived.Shelf.Strings.OnBuilder
import Derived.Shelf.LaysM
import Derived.Shelf.Strconv.Clone
import Derived.Test.YtgdfoahpkiglhaaDoorRows
import Derived.WalkKit
namespace Go.Proofs.YtgdfoahpkiglhaaDoor
open Go.Shelf Go.RowKit
set_option linter.unusedVariables false
set_option maxRecDepth 100000
def renJoin : Go.Shelf.Ren := ⟨fun | 156 => 28 | 165 => 34 | 166 => 35 | 169 => 36 | 240 => 42 | 241 => 43 | 276 => 48 | 277 => 49 | n => n,
  fun | 31 => 22 | 9 => 9 | 3 => 3 | 4 => 4 | 0 => 0 | 20 => 20 | 72 => 63 | 76 => 65 | 70 => 61 | 37 => 55 | 75 => 26 | 127 => 81 | 164 => 68 | 5 => 5 | 80 => 67 | n => n, fun | n => n⟩
theorem laysJoin : Go.Proofs.Lays.n156 Tryd.prog renJoin := by constructor <;> (intros; kernel_rfl)
theorem extraJoin0 : Builder.X72 Tryd.prog renJoin := by constructor <;> (intros; kernel_rfl)
theorem extraJoin : Builder.Extra Tryd.prog renJoin :=
  Builder.Extra.mk extraJoin0 (by kernel_rfl) (fun _ => by kernel_rfl) (fun _ => by kernel_rfl) (fun _ => by kernel_rfl) (by kernel_rfl) (by kernel_rfl) (by kernel_rfl) (by decide)
theorem strings_Join (bk o c : Nat) (xs : List ByteArray) (sep : ByteArray) (w : World) (hcells : ∀ (j : Nat) x, xs[j]? = some x → w.cell? ⟨bk, o + j, none⟩ = some (.string x)) (hbk : bk < w.heap.size) (hN : xs.length ≤ 140737488355328) (hcap : xs.length ≤ c) (hlen : (Lib.join (xs.map (·.data.toList)) sep.data.toList).length ≤ 140737488355328) :
    Calls Tryd.prog 28 #[.slice (some ⟨bk, o, none⟩) xs.length c, .string sep] w fun e w' => e = .returned (.string ⟨(Lib.join (xs.map (·.data.toList)) sep.data.toList).toArray⟩) ∧ Below w.heap.size w w' :=
  Any.strings_Join laysJoin extraJoin bk o c xs sep w hcells hbk hN hcap hlen
def renClone : Go.Shelf.Ren := ⟨fun | 316 => 33 | n => n, fun | 9 => 9 | 3 => 3 | 4 => 4 | 37 => 55 | 0 => 0 | 127 => 81 | 5 => 5 | n => n, fun | n => n⟩
theorem laysClone0 : Go.Proofs.Lays.n316 Tryd.prog renClone := by constructor <;> (intros; kernel_rfl)
theorem laysClone : Go.Proofs.LaysM.n316 Tryd.prog renClone := by constructor <;> first | exact laysClone0 | (intros; kernel_rfl)
theorem stringslite_Clone (s : ByteArray) (w : World) (hlim : s.size ≤ 281474976710656) :
    Calls Tryd.prog 33 #[.string s] w fun e w' => e = .returned (.string s) ∧ Below w.heap.size w w' :=
  Any.stringslite_Clone laysClone s w hlim
theorem strings_Clone (s : ByteArray) (w : World) (hlim : s.size ≤ 281474976710656) :
    Calls Tryd.prog 27 #[.string s] w fun e w' => e = .returned (.string s) ∧ Below w.heap.size w w' := by
  go_enter Tryd.func27, Tryd.ntmps27
  go_wp2_with fail
  refine (stringslite_Clone _ _ hlim).mono ?_
  rintro e w1 ⟨rfl, hb⟩
  go_wp2
  go_ret
  exact ⟨rfl, hb⟩
end Go.Proofs.YtgdfoahpkiglhaaDoor
