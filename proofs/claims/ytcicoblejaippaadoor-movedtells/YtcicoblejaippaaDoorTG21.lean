/-
  Lemmas for the law above, joined into one text (MvK, IRow). No statement is proved here.
-/
import Derived.Test.YtcicoblejaippaaDoorTG20
import Derived.Test.YtcicoblejaippaaDoorTG10
import Derived.Test.YtcicoblejaippaaDoorTG11
import Derived.Test.YtcicoblejaippaaDoorTG6
namespace Go.Proofs.YtcicoblejaippaaDoor
open Go.RowKit
set_option linter.unusedVariables false
set_option maxRecDepth 100000

theorem mvOk_two {x y : Int} : mvOk x y = (nearOk x && nearOk y) := rfl

set_option maxHeartbeats 1000000 in
theorem mcheck_ok {w : World} {v : Value} {n : Nat} {f : Nat → Int} (al : Bool) (x y m : Int) (h : IntsIn w v n f) (hm : m ≤ 1000) :
    Calls Tryd.prog 29 #[.agg #[.bool al, .int .i64 x, .int .i64 y, v], .int .i64 m] w fun e w' => e = .returned (errN (chkF al x y n f m)) ∧ Below w.heap.size w w' := by
  obtain ⟨W1, hW1⟩ : ∃ W1, W1 = w.alloc (.cells #[.bool al, .int .i64 x, .int .i64 y, v] 28) := ⟨_, rfl⟩
  have b1 : Below w.heap.size w W1 := hW1 ▸ (Below.refl _ _).alloc (Nat.le_refl _) _
  have P1 : CodIn W1 w.heap.size al x y v := hW1 ▸ codIn_new w al x y v
  obtain ⟨c0, c1, c2, c3, _, _, _, _⟩ := P1
  have B1 := hide b1
  have HI := hide (h.below b1)
  have S1 := hide (mnear_ok x)
  have S2 := hide (mnear_ok y)
  have HD : Hid (chkF al x y n f m = if al = true then 3 else if (nearOk x && nearOk y) = false then 1 else restsF n f m) := rfl
  obtain ⟨ad, cap, rfl⟩ := slice_shape h
  subst hW1
  clear h b1
  cases al with
  | true =>
    have HE : Hid (chkF true x y n f m = 3) := HD.out
    clear HD
    go_enter Tryd.func29, Tryd.ntmps29
    go_wp2
    go_ret
    exact ⟨by rw [HE.out]; rfl, B1.out⟩
  | false =>
    rw [if_neg (by simp)] at HD
    cases h1 : nearOk x with
    | false =>
      rw [h1] at S1
      have HE : Hid (chkF false x y n f m = 1) := by unfold Hid; rw [HD.out, h1, Bool.false_and, if_pos rfl]
      clear HD h1
      go_enter Tryd.func29, Tryd.ntmps29
      go_wp2_with fail
      refine (S1.out _).mono ?_
      rintro e w2 ⟨rfl, rfl⟩
      go_wp2
      go_ret
      exact ⟨by rw [HE.out]; rfl, B1.out⟩
    | true =>
      rw [h1] at S1
      cases h2 : nearOk y with
      | false =>
        rw [h2] at S2
        have HE : Hid (chkF false x y n f m = 1) := by unfold Hid; rw [HD.out, h2, Bool.and_false, if_pos rfl]
        clear HD h1 h2
        go_enter Tryd.func29, Tryd.ntmps29
        go_wp2_with fail
        refine (S1.out _).mono ?_
        rintro e w2 ⟨rfl, rfl⟩
        go_wp2_with fail
        refine (S2.out _).mono ?_
        rintro e w2 ⟨rfl, rfl⟩
        go_wp2
        go_ret
        exact ⟨by rw [HE.out]; rfl, B1.out⟩
      | true =>
        rw [h2] at S2
        rw [h1, h2, Bool.and_true, if_neg (by simp)] at HD
        have HR : Hid (restsF n f m = if (n : Int) ≠ m then 3 else if restsOk n f = false then 1 else 0) := rfl
        clear h1 h2
        by_cases hne : (n : Int) = m
        · subst hne
          have C := hide (mcont_ok HI.out (by omega))
          rw [if_neg (by simp)] at HR
          cases h3 : restsOk n f with
          | false =>
            rw [h3] at C
            have HE : Hid (chkF false x y n f n = 1) := by unfold Hid; rw [HD.out, HR.out, h3, if_pos rfl]
            clear HD HR h3
            go_enter Tryd.func29, Tryd.ntmps29
            go_wp2_with fail
            refine (S1.out _).mono ?_
            rintro e w2 ⟨rfl, rfl⟩
            go_wp2_with fail
            refine (S2.out _).mono ?_
            rintro e w2 ⟨rfl, rfl⟩
            go_wp2_with fail
            refine (C.out).mono ?_
            rintro e w2 ⟨rfl, rfl⟩
            go_wp2
            go_ret
            exact ⟨by rw [HE.out]; rfl, B1.out⟩
          | true =>
            rw [h3] at C
            have HE : Hid (chkF false x y n f n = 0) := by unfold Hid; rw [HD.out, HR.out, h3, if_neg (by simp)]
            clear HD HR h3
            go_enter Tryd.func29, Tryd.ntmps29
            go_wp2_with fail
            refine (S1.out _).mono ?_
            rintro e w2 ⟨rfl, rfl⟩
            go_wp2_with fail
            refine (S2.out _).mono ?_
            rintro e w2 ⟨rfl, rfl⟩
            go_wp2_with fail
            refine (C.out).mono ?_
            rintro e w2 ⟨rfl, rfl⟩
            go_wp2
            go_ret
            exact ⟨by rw [HE.out]; rfl, B1.out⟩
        · have hn1 : ((n : Int) == m) = false := by rw [beq_eq_false_iff_ne]; exact hne
          have hn3 : ((n : Int) != m) = true := by simp [bne, hn1]
          have HE : Hid (chkF false x y n f m = 3) := by unfold Hid; rw [HD.out, HR.out, if_pos hne]
          clear HD HR hne
          go_enter Tryd.func29, Tryd.ntmps29
          go_wp2_with fail
          refine (S1.out _).mono ?_
          rintro e w2 ⟨rfl, rfl⟩
          go_wp2_with fail
          refine (S2.out _).mono ?_
          rintro e w2 ⟨rfl, rfl⟩
          go_wp2
          go_ret
          exact ⟨by rw [HE.out]; rfl, B1.out⟩
end Go.Proofs.YtcicoblejaippaaDoor

namespace Go.Proofs.YtcicoblejaippaaDoor
open Go.RowKit
set_option linter.unusedVariables false
set_option maxRecDepth 100000

/-- A block whose first n cells are the numbers f 0, f 1, .., none of them frozen. -/
def IRow (w : World) (b n : Nat) (f : Nat → Int) : Prop :=
  ∀ i, i < n → w.cell? ⟨b, i, none⟩ = some (.int .i64 (f i)) ∧ w.frozen? ⟨b, i, none⟩ = false
theorem IRow.congr {w : World} {b n : Nat} {f g : Nat → Int} (h : IRow w b n f) (e : ∀ i, i < n → f i = g i) : IRow w b n g := fun i hi => by rw [← e i hi]; exact h i hi
theorem IRow.set {w : World} {b n : Nat} {f : Nat → Int} (h : IRow w b n f) (j : Nat) (v : Int) : IRow (w.setCell ⟨b, j, none⟩ (.int .i64 v)) b n (fun i => if i = j then v else f i) := fun i hi => by
  refine ⟨?_, by rw [World.frozen?_setCell]; exact (h i hi).2⟩
  have hc := (h i hi).1
  by_cases e : i = j
  · subst e
    rw [World.cell?_setCell_same _ _ _ hc]; simp
  · rw [World.cell?_setCell_other _ _ _ _ (fun h => e (by cases h; rfl))]; simp only [if_neg e]; exact hc

theorem irow_zero {w : World} {b n : Nat} {t : TypeId} (h : w.rowIs b t n (fun _ => .int .i64 0)) : IRow w b n (fun _ => 0) := fun i hi => ⟨h.cell hi, h.frozen i⟩
end Go.Proofs.YtcicoblejaippaaDoor
