/-
  Our own contracts of picture.Flat. Lemmas for the laws above; no statement is proved here.
-/
import Derived.Test.YtckjbecfhgheiaaPicR
import Derived.Test.YtckjbecfhgheiaaPicE
import Derived.Test.YtckjbecfhgheiaaPicB
namespace Go.Proofs.Ytckjbecfhgheiaa
open Go.RowKit
set_option linter.unusedVariables false
set_option maxRecDepth 100000

set_option maxHeartbeats 1000000 in
theorem pflat_bad {w : World} (a b k : Int) (hx : flatF a b k ≠ 0) :
    Calls Try.prog 10 #[.int .i64 a, .int .i64 b, .int .i64 k] w fun e w' => e = .returned (.tuple #[.agg #[.int .i64 0, .int .i64 0, .slice none 0 0], .iface 39 (.int .i64 1)]) ∧ Below w.heap.size w w' := by
  have p1 := picIn_new w 0 0 (.slice none 0 0)
  have b1 : Below w.heap.size w (w.alloc (.cells #[.int .i64 0, .int .i64 0, .slice none 0 0] 24)) := (Below.refl _ _).alloc (Nat.le_refl _) _
  obtain ⟨⟨c0, g0⟩, ⟨c1, g1⟩, c2, g2⟩ := p1
  have HB := hide b1
  have S := hide (fun x w => pside_ok x w)
  have K := hide (fun x w => ppixel_ok x w)
  have h : sideOk a = false ∨ (sideOk a = true ∧ sideOk b = false) ∨ (sideOk a = true ∧ sideOk b = true ∧ pixelOk k = false) := by
    unfold flatF at hx
    by_cases h1 : sideOk a = true
    · by_cases h2 : sideOk b = true
      · by_cases h3 : pixelOk k = true
        · rw [if_pos ⟨by rw [sides_two, h1, h2]; rfl, pixelOk_iff.1 h3⟩] at hx
          exact absurd rfl hx
        · exact Or.inr (Or.inr ⟨h1, h2, by simpa using h3⟩)
      · exact Or.inr (Or.inl ⟨h1, by simpa using h2⟩)
    · exact Or.inl (by simpa using h1)
  clear hx b1
  rcases h with h1 | ⟨h1, h2⟩ | ⟨h1, h2, h3⟩
  · have S1 := hide (S.out a)
    rw [h1] at S1
    clear h1 S
    go_enter Try.func10, Try.ntmps10
    go_wp2_with fail
    refine (S1.out _).mono ?_
    rintro e w2 ⟨rfl, rfl⟩
    go_wp2
    refine bodyPost_ret (v := .tuple #[.agg #[.int .i64 0, .int .i64 0, .slice none 0 0], .iface 39 (.int .i64 1)]) (by simp [results, Try.results10, go_sem, c0, c1, c2]) rfl ⟨rfl, ?_⟩
    first
      | exact HB.out
      | exact (((HB.out.setCell (Nat.le_refl _) _).setCell (Nat.le_refl _) _).setCell (Nat.le_refl _) _)
  · have S1 := hide (S.out a)
    rw [h1] at S1
    have S2 := hide (S.out b)
    rw [h2] at S2
    clear h1 h2 S
    go_enter Try.func10, Try.ntmps10
    go_wp2_with fail
    refine (S1.out _).mono ?_
    rintro e w2 ⟨rfl, rfl⟩
    go_wp2_with fail
    refine (S2.out _).mono ?_
    rintro e w2 ⟨rfl, rfl⟩
    go_wp2
    refine bodyPost_ret (v := .tuple #[.agg #[.int .i64 0, .int .i64 0, .slice none 0 0], .iface 39 (.int .i64 1)]) (by simp [results, Try.results10, go_sem, c0, c1, c2]) rfl ⟨rfl, ?_⟩
    first
      | exact HB.out
      | exact (((HB.out.setCell (Nat.le_refl _) _).setCell (Nat.le_refl _) _).setCell (Nat.le_refl _) _)
  · have S1 := hide (S.out a)
    rw [h1] at S1
    have S2 := hide (S.out b)
    rw [h2] at S2
    have S3 := hide (K.out k)
    rw [h3] at S3
    clear h1 h2 h3 S K
    go_enter Try.func10, Try.ntmps10
    go_wp2_with fail
    refine (S1.out _).mono ?_
    rintro e w2 ⟨rfl, rfl⟩
    go_wp2_with fail
    refine (S2.out _).mono ?_
    rintro e w2 ⟨rfl, rfl⟩
    go_wp2_with fail
    refine (S3.out _).mono ?_
    rintro e w2 ⟨rfl, rfl⟩
    go_wp2
    refine bodyPost_ret (v := .tuple #[.agg #[.int .i64 0, .int .i64 0, .slice none 0 0], .iface 39 (.int .i64 1)]) (by simp [results, Try.results10, go_sem, c0, c1, c2]) rfl ⟨rfl, ?_⟩
    first
      | exact HB.out
      | exact (((HB.out.setCell (Nat.le_refl _) _).setCell (Nat.le_refl _) _).setCell (Nat.le_refl _) _)

theorem intsIn_set {w : World} {v : Value} {n : Nat} {f : Nat → Int} {b : Nat} (h : IntsIn w v n f) (hne : ∀ g, v.ownBlock = some g → g ≠ b) (o : Nat) (u : Value) : IntsIn (w.setCell ⟨b, o, none⟩ u) v n f := by
  rcases h with h | ⟨h0, g, oo, cap, rfl, hc⟩
  · exact Or.inl h
  · have hg := hne g rfl
    exact Or.inr ⟨h0, g, oo, cap, rfl, fun i hi => by rw [World.cell?_setCell_other _ _ _ _ (fun e => hg (by cases e; rfl))]; exact hc i hi⟩

set_option maxHeartbeats 1000000 in
theorem pflat_new {w : World} (A B : Nat) (k : Int) (hA : 1 ≤ A ∧ A ≤ 6) (hB : 1 ≤ B ∧ B ≤ 6) (hk : 0 ≤ k ∧ k ≤ 255) :
    Calls Try.prog 10 #[.int .i64 A, .int .i64 B, .int .i64 k] w fun e w' => ∃ v, e = .returned (.tuple #[.agg #[.int .i64 A, .int .i64 B, v], .nilIface]) ∧ IntsIn w' v (A * B) (fun _ => k) ∧ Below w.heap.size w w' ∧ ∀ g, v.ownBlock = some g → w.heap.size ≤ g := by
  obtain ⟨W1, hW1⟩ : ∃ W1, W1 = w.alloc (.cells #[.int .i64 0, .int .i64 0, .slice none 0 0] 24) := ⟨_, rfl⟩
  obtain ⟨W2, hW2⟩ : ∃ W2, W2 = W1.alloc (.cells #[.int .i64 k] 3) := ⟨_, rfl⟩
  have z1 : W1.heap.size = w.heap.size + 1 := by rw [hW1]; simp
  have z2 : W2.heap.size = w.heap.size + 2 := by rw [hW2]; simp [z1]
  have b1 : Below w.heap.size w W1 := hW1 ▸ (Below.refl _ _).alloc (Nat.le_refl _) _
  have b12 : Below W1.heap.size W1 W2 := hW2 ▸ (Below.refl _ _).alloc (Nat.le_refl _) _
  have b2 := below_two b1 b12
  have p1 : PicIn W2 w.heap.size 0 0 (.slice none 0 0) := PicIn.below (hW1 ▸ picIn_new w 0 0 (.slice none 0 0)) b12
  have hcell : W2.cell? ⟨w.heap.size + 1, 0, none⟩ = some (.int .i64 k) := by
    rw [hW2, ← z1]; simp
  obtain ⟨m, hm⟩ : ∃ m, m = A * B := ⟨_, rfl⟩
  have hm1 : 1 ≤ m := by have := Nat.mul_le_mul hA.1 hB.1; omega
  have hm2 : m ≤ 36 := by have := Nat.mul_le_mul hA.2 hB.2; omega
  have hmi : (A : Int) * (B : Int) = (m : Int) := by rw [hm, Int.natCast_mul]
  have R := hide (prepeat_ok (w := W2) (c1 := 1) k m hm1 (by omega) hcell)
  have S1 := hide (pside_ok A)
  have S2 := hide (pside_ok B)
  have S3 := hide (ppixel_ok k)
  rw [sideOk_iff.2 (by omega)] at S1 S2
  rw [pixelOk_iff.2 hk] at S3
  rw [← hm]
  have P1 := hide p1
  have B2 := hide b2
  have Z2 := hide z2
  obtain ⟨hA1, hA2⟩ := hA
  obtain ⟨hB1, hB2⟩ := hB
  obtain ⟨hk1, hk2⟩ := hk
  subst hW2
  subst hW1
  clear z1 z2 b1 b12 b2 p1 hcell hm
  go_enter Try.func10, Try.ntmps10
  go_wp2_with fail
  refine (S1.out _).mono ?_
  rintro e w2 ⟨rfl, rfl⟩
  go_wp2_with fail
  refine (S2.out _).mono ?_
  rintro e w2 ⟨rfl, rfl⟩
  go_wp2_with fail
  refine (S3.out _).mono ?_
  rintro e w2 ⟨rfl, rfl⟩
  go_wp2_with fail
  refine (R.out).mono ?_
  rintro e w3 ⟨v, rfl, hv, hb3, hown⟩
  obtain ⟨⟨c0, g0⟩, ⟨c1, g1⟩, c2, g2⟩ := P1.out.below hb3
  have HV := hide hv
  have HO := hide hown
  obtain ⟨ad, cap, rfl⟩ : ∃ ad cap, v = .slice ad m cap := by
    rcases hv with ⟨rfl, a, c, rfl⟩ | ⟨_, b, o, c, rfl, _⟩
    · exact ⟨_, _, rfl⟩
    · exact ⟨_, _, rfl⟩
  have B3 := hide (below_two B2.out hb3)
  clear hv hb3 hown
  go_wp2
  refine bodyPost_ret (v := .tuple #[.agg #[.int .i64 A, .int .i64 B, .slice ad m cap], .nilIface]) (by simp [results, Try.results10, go_sem, c0, c1, c2]) rfl ⟨_, rfl, ?_, ?_, fun g hg => by have := HO.out g hg; have := Z2.out; omega⟩
  · have hne : ∀ g, (Value.slice ad m cap).ownBlock = some g → g ≠ w.heap.size := fun g hg => by have := HO.out g hg; have := Z2.out; omega
    exact intsIn_set (intsIn_set (intsIn_set HV.out hne _ _) hne _ _) hne _ _
  · exact ((B3.out.setCell (Nat.le_refl _) _).setCell (Nat.le_refl _) _).setCell (Nat.le_refl _) _
theorem pflat_ok {w : World} (A B : Nat) (k : Int) (hA : 1 ≤ A ∧ A ≤ 6) (hB : 1 ≤ B ∧ B ≤ 6) (hk : 0 ≤ k ∧ k ≤ 255) :
    Calls Try.prog 10 #[.int .i64 A, .int .i64 B, .int .i64 k] w fun e w' => ∃ v, e = .returned (.tuple #[.agg #[.int .i64 A, .int .i64 B, v], .nilIface]) ∧ IntsIn w' v (A * B) (fun _ => k) ∧ Below w.heap.size w w' :=
  (pflat_new A B k hA hB hk).mono fun _ _ ⟨v, h1, h2, h3, _⟩ => ⟨v, h1, h2, h3⟩
end Go.Proofs.Ytckjbecfhgheiaa
