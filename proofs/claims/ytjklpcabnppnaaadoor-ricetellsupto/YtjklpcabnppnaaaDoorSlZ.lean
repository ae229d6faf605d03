/-
  How a slice of ints among a law's arguments is opened, with how long it may be: by the form's own reach, or by the second form's bound. Lemmas; no statement is proved here.
-/
import Derived.Test.YtjklpcabnppnaaaDoorRcSl
import Derived.ProofKit
import Derived.OpenShut
import Derived.ChangeSlices
import Derived.SizedLaws
namespace Go.Proofs.YtjklpcabnppnaaaDoor
open Go.ChangeShapes Go.WideShapes Go.ChangeAt Go.RowKit
set_option linter.unusedVariables false
set_option maxRecDepth 100000

theorem cellsIntZ : Tryd.prog.cellsOf 3 = 1 := by kernel_rfl
theorem bytesIntZ : Tryd.prog.bytesOf 3 = 8 := by kernel_rfl

/-- A datum that is a slice of so many. -/
def SlD {H : Type} (d : DataW H) (n : Nat) : Prop := (d = .nil ∧ n = 0) ∨ ∃ elems spare, d = .slice elems spare ∧ n = elems.length

theorem open_slZ {H : Type} {enc : TypeId × Value → H} {W : World} {base : Nat} {v : Value} {d : DataW H} {p : List MemPlace}
    (hv : Value.okWide Tryd.prog W .any base 22 v) (h : DataW.Trod enc Tryd.prog W 0 (fun _ => true) true 22 v d p) : ∃ n f, SlI W v n f ∧ SlD d n := by
  obtain ⟨a0, len, cap, rfl⟩ := okWide_slice Tryd.underlying22 hv
  obtain ⟨fuel, hf⟩ := h
  rcases open_ints Tryd.underlying22 Tryd.underlying3 cellsIntZ hf with ⟨hcs, hx⟩ | ⟨a, len', cap', ss, hcs, _, hl, hm, hz, hx, hcell, hws⟩
  · simp [Value.cells] at hcs
    obtain ⟨rfl, rfl, rfl⟩ := hcs
    cases hx
    exact ⟨0, fun _ => 0, nil_sl _ _, Or.inl ⟨rfl, rfl⟩⟩
  · simp [Value.cells] at hcs
    obtain ⟨rfl, rfl, rfl⟩ := hcs
    simp only [if_true] at hz
    refine ⟨len, fun i => ss.getD i 0, ⟨some a, cap, rfl, hl, hm, fun h0 => ?_⟩, Or.inr ⟨_, _, (congrArg Prod.fst hx), ?_⟩⟩
    · obtain ⟨b, off, spot⟩ := a
      have hspot : spot = none := by simpa [Addr.add] using World.cell?_spot (hcell 0 (by omega))
      subst hspot
      refine ⟨b, off, rfl, fun i hi => ?_⟩
      rw [← add_plain]; exact hcell i (by omega)
    · simp [lits]; omega

theorem slz_reach {H : Type} {ts : List TypeId} {ds : List (DataW H)} {d : DataW H} {n j : Nat} (hd : SlD d n) (hz : (DataW.weightsEach Tryd.prog ts ds).all (· ≤ reachBytes) = true) (ht : ts[j]? = some 22) (hdj : ds[j]? = some d) : n ≤ 17592186044416 := by
  rcases hd with ⟨_, rfl⟩ | ⟨e, s, rfl, rfl⟩
  · omega
  · have := sized_slice hz ht hdj Tryd.underlying22
    rw [bytesIntZ] at this
    unfold reachBytes at this
    omega

/-! The second form's bound. -/
theorem bulk_one {H : Type} (d : DataW H) : 1 ≤ Rows.uptoBulk d := by
  rcases d with (_ | _ | _) | _ | _ | _ | _ | _ | _ | _ <;> simp [Rows.uptoBulk]
theorem bulk_each {H : Type} : ∀ (l : List (DataW H)), l.length ≤ Rows.uptoBulkAll l ∧ ∀ d ∈ l, Rows.uptoBulk d ≤ Rows.uptoBulkAll l
  | [] => ⟨Nat.zero_le _, fun _ h => by cases h⟩
  | x :: l => by
    have ih := bulk_each l
    have h1 := bulk_one x
    simp only [Rows.uptoBulkAll, List.length_cons]
    refine ⟨by omega, fun d hd => ?_⟩
    rcases List.mem_cons.1 hd with rfl | hd
    · omega
    · have := ih.2 d hd; omega
theorem bulk_of {H : Type} {l : List (DataW H)} {d : DataW H} (hk : Rows.uptoSmall H l = true) (hd : d ∈ l) : Rows.uptoBulk d ≤ 1048576 :=
  Nat.le_trans ((bulk_each l).2 d hd) (of_decide_eq_true hk)
theorem slz_bulk {H : Type} {d : DataW H} {n : Nat} (hd : SlD d n) (h : Rows.uptoBulk d ≤ 1048576) : n ≤ 1048576 := by
  rcases hd with ⟨_, rfl⟩ | ⟨e, s, rfl, rfl⟩
  · omega
  · have := (bulk_each e).1
    simp only [Rows.uptoBulk] at h
    omega
end Go.Proofs.YtjklpcabnppnaaaDoor
