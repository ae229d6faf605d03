/-
  Lemmas for the law above, joined into one text (PicF, Top, FlNrW). No statement is proved here.
-/
import Derived.Test.YtfgcngjggdjcjaaTG23
import Derived.Test.YtfgcngjggdjcjaaTG6
import Derived.Test.YtfgcngjggdjcjaaTG5
import Derived.Test.YtfgcngjggdjcjaaTG0
import Derived.ProofKit
import Derived.OpenShut
import Derived.ShutString
import Derived.Test.YtfgcngjggdjcjaaTG21
import Derived.Test.YtfgcngjggdjcjaaTG22
import Derived.Test.YtfgcngjggdjcjaaTG14
import Derived.Deep.RegionHeld3
import Derived.Deep.DeepCutAuto
namespace Go.Proofs.Ytfgcngjggdjcjaa
open Go.RowKit
set_option linter.unusedVariables false
set_option maxRecDepth 100000

set_option maxHeartbeats 1000000 in
theorem pflat_bad {w : World} (a b k : Int) (hx : flatF a b k ≠ 0) :
    Calls Try.prog 4 #[.int .i64 a, .int .i64 b, .int .i64 k] w fun e w' => e = .returned (.tuple #[.agg #[.int .i64 0, .int .i64 0, .slice none 0 0], .iface 44 (.int .i64 1)]) ∧ Below w.heap.size w w' := by
  have p1 := picIn_new w 0 0 (.slice none 0 0)
  have b1 : Below w.heap.size w (w.alloc (.cells #[.int .i64 0, .int .i64 0, .slice none 0 0] 25)) := (Below.refl _ _).alloc (Nat.le_refl _) _
  obtain ⟨⟨c0, g0⟩, ⟨c1, g1⟩, c2, g2⟩ := p1
  have HB := hide b1
  have S := hide (fun x w => pside_ok x w)
  have K := hide (fun x w => ppixel_ok x w)
  have h : sideOk a = false ∨ (sideOk a = true ∧ sideOk b = false) ∨ (sideOk a = true ∧ sideOk b = true ∧ pixelOk k = false) := by
    unfold flatF at hx
    by_cases h1 : sideOk a = true
    · by_cases h2 : sideOk b = true
      · by_cases h3 : pixelOk k = true
        · rw [if_pos ⟨by rw [sides_two, h1, h2]; rfl, pixelOk_iff.1 h3⟩] at hx
          exact absurd rfl hx
        · exact Or.inr (Or.inr ⟨h1, h2, by simpa using h3⟩)
      · exact Or.inr (Or.inl ⟨h1, by simpa using h2⟩)
    · exact Or.inl (by simpa using h1)
  clear hx b1
  rcases h with h1 | ⟨h1, h2⟩ | ⟨h1, h2, h3⟩
  · have S1 := hide (S.out a)
    rw [h1] at S1
    clear h1 S
    go_enter Try.func4, Try.ntmps4
    go_wp2_with fail
    refine (S1.out _).mono ?_
    rintro e w2 ⟨rfl, rfl⟩
    go_wp2
    refine bodyPost_ret (v := .tuple #[.agg #[.int .i64 0, .int .i64 0, .slice none 0 0], .iface 44 (.int .i64 1)]) (by simp [results, Try.results4, go_sem, c0, c1, c2]) rfl ⟨rfl, ?_⟩
    first
      | exact HB.out
      | exact (((HB.out.setCell (Nat.le_refl _) _).setCell (Nat.le_refl _) _).setCell (Nat.le_refl _) _)
  · have S1 := hide (S.out a)
    rw [h1] at S1
    have S2 := hide (S.out b)
    rw [h2] at S2
    clear h1 h2 S
    go_enter Try.func4, Try.ntmps4
    go_wp2_with fail
    refine (S1.out _).mono ?_
    rintro e w2 ⟨rfl, rfl⟩
    go_wp2_with fail
    refine (S2.out _).mono ?_
    rintro e w2 ⟨rfl, rfl⟩
    go_wp2
    refine bodyPost_ret (v := .tuple #[.agg #[.int .i64 0, .int .i64 0, .slice none 0 0], .iface 44 (.int .i64 1)]) (by simp [results, Try.results4, go_sem, c0, c1, c2]) rfl ⟨rfl, ?_⟩
    first
      | exact HB.out
      | exact (((HB.out.setCell (Nat.le_refl _) _).setCell (Nat.le_refl _) _).setCell (Nat.le_refl _) _)
  · have S1 := hide (S.out a)
    rw [h1] at S1
    have S2 := hide (S.out b)
    rw [h2] at S2
    have S3 := hide (K.out k)
    rw [h3] at S3
    clear h1 h2 h3 S K
    go_enter Try.func4, Try.ntmps4
    go_wp2_with fail
    refine (S1.out _).mono ?_
    rintro e w2 ⟨rfl, rfl⟩
    go_wp2_with fail
    refine (S2.out _).mono ?_
    rintro e w2 ⟨rfl, rfl⟩
    go_wp2_with fail
    refine (S3.out _).mono ?_
    rintro e w2 ⟨rfl, rfl⟩
    go_wp2
    refine bodyPost_ret (v := .tuple #[.agg #[.int .i64 0, .int .i64 0, .slice none 0 0], .iface 44 (.int .i64 1)]) (by simp [results, Try.results4, go_sem, c0, c1, c2]) rfl ⟨rfl, ?_⟩
    first
      | exact HB.out
      | exact (((HB.out.setCell (Nat.le_refl _) _).setCell (Nat.le_refl _) _).setCell (Nat.le_refl _) _)

theorem intsIn_set {w : World} {v : Value} {n : Nat} {f : Nat → Int} {b : Nat} (h : IntsIn w v n f) (hne : ∀ g, v.ownBlock = some g → g ≠ b) (o : Nat) (u : Value) : IntsIn (w.setCell ⟨b, o, none⟩ u) v n f := by
  rcases h with h | ⟨h0, g, oo, cap, rfl, hc⟩
  · exact Or.inl h
  · have hg := hne g rfl
    exact Or.inr ⟨h0, g, oo, cap, rfl, fun i hi => by rw [World.cell?_setCell_other _ _ _ _ (fun e => hg (by cases e; rfl))]; exact hc i hi⟩

set_option maxHeartbeats 1000000 in
theorem pflat_new {w : World} (A B : Nat) (k : Int) (hA : 1 ≤ A ∧ A ≤ 6) (hB : 1 ≤ B ∧ B ≤ 6) (hk : 0 ≤ k ∧ k ≤ 255) :
    Calls Try.prog 4 #[.int .i64 A, .int .i64 B, .int .i64 k] w fun e w' => ∃ v, e = .returned (.tuple #[.agg #[.int .i64 A, .int .i64 B, v], .nilIface]) ∧ IntsIn w' v (A * B) (fun _ => k) ∧ Below w.heap.size w w' ∧ ∀ g, v.ownBlock = some g → w.heap.size ≤ g := by
  obtain ⟨W1, hW1⟩ : ∃ W1, W1 = w.alloc (.cells #[.int .i64 0, .int .i64 0, .slice none 0 0] 25) := ⟨_, rfl⟩
  obtain ⟨W2, hW2⟩ : ∃ W2, W2 = W1.alloc (.cells #[.int .i64 k] 3) := ⟨_, rfl⟩
  have z1 : W1.heap.size = w.heap.size + 1 := by rw [hW1]; simp
  have z2 : W2.heap.size = w.heap.size + 2 := by rw [hW2]; simp [z1]
  have b1 : Below w.heap.size w W1 := hW1 ▸ (Below.refl _ _).alloc (Nat.le_refl _) _
  have b12 : Below W1.heap.size W1 W2 := hW2 ▸ (Below.refl _ _).alloc (Nat.le_refl _) _
  have b2 := below_two b1 b12
  have p1 : PicIn W2 w.heap.size 0 0 (.slice none 0 0) := PicIn.below (hW1 ▸ picIn_new w 0 0 (.slice none 0 0)) b12
  have hcell : W2.cell? ⟨w.heap.size + 1, 0, none⟩ = some (.int .i64 k) := by
    rw [hW2, ← z1]; simp
  obtain ⟨m, hm⟩ : ∃ m, m = A * B := ⟨_, rfl⟩
  have hm1 : 1 ≤ m := by have := Nat.mul_le_mul hA.1 hB.1; omega
  have hm2 : m ≤ 36 := by have := Nat.mul_le_mul hA.2 hB.2; omega
  have hmi : (A : Int) * (B : Int) = (m : Int) := by rw [hm, Int.natCast_mul]
  have R := hide (prepeat_ok (w := W2) (c1 := 1) k m hm1 (by omega) hcell)
  have S1 := hide (pside_ok A)
  have S2 := hide (pside_ok B)
  have S3 := hide (ppixel_ok k)
  rw [sideOk_iff.2 (by omega)] at S1 S2
  rw [pixelOk_iff.2 hk] at S3
  rw [← hm]
  have P1 := hide p1
  have B2 := hide b2
  have Z2 := hide z2
  obtain ⟨hA1, hA2⟩ := hA
  obtain ⟨hB1, hB2⟩ := hB
  obtain ⟨hk1, hk2⟩ := hk
  subst hW2
  subst hW1
  clear z1 z2 b1 b12 b2 p1 hcell hm
  go_enter Try.func4, Try.ntmps4
  go_wp2_with fail
  refine (S1.out _).mono ?_
  rintro e w2 ⟨rfl, rfl⟩
  go_wp2_with fail
  refine (S2.out _).mono ?_
  rintro e w2 ⟨rfl, rfl⟩
  go_wp2_with fail
  refine (S3.out _).mono ?_
  rintro e w2 ⟨rfl, rfl⟩
  go_wp2_with fail
  refine (R.out).mono ?_
  rintro e w3 ⟨v, rfl, hv, hb3, hown⟩
  obtain ⟨⟨c0, g0⟩, ⟨c1, g1⟩, c2, g2⟩ := P1.out.below hb3
  have HV := hide hv
  have HO := hide hown
  obtain ⟨ad, cap, rfl⟩ : ∃ ad cap, v = .slice ad m cap := by
    rcases hv with ⟨rfl, a, c, rfl⟩ | ⟨_, b, o, c, rfl, _⟩
    · exact ⟨_, _, rfl⟩
    · exact ⟨_, _, rfl⟩
  have B3 := hide (below_two B2.out hb3)
  clear hv hb3 hown
  go_wp2
  refine bodyPost_ret (v := .tuple #[.agg #[.int .i64 A, .int .i64 B, .slice ad m cap], .nilIface]) (by simp [results, Try.results4, go_sem, c0, c1, c2]) rfl ⟨_, rfl, ?_, ?_, fun g hg => by have := HO.out g hg; have := Z2.out; omega⟩
  · have hne : ∀ g, (Value.slice ad m cap).ownBlock = some g → g ≠ w.heap.size := fun g hg => by have := HO.out g hg; have := Z2.out; omega
    exact intsIn_set (intsIn_set (intsIn_set HV.out hne _ _) hne _ _) hne _ _
  · exact ((B3.out.setCell (Nat.le_refl _) _).setCell (Nat.le_refl _) _).setCell (Nat.le_refl _) _
theorem pflat_ok {w : World} (A B : Nat) (k : Int) (hA : 1 ≤ A ∧ A ≤ 6) (hB : 1 ≤ B ∧ B ≤ 6) (hk : 0 ≤ k ∧ k ≤ 255) :
    Calls Try.prog 4 #[.int .i64 A, .int .i64 B, .int .i64 k] w fun e w' => ∃ v, e = .returned (.tuple #[.agg #[.int .i64 A, .int .i64 B, v], .nilIface]) ∧ IntsIn w' v (A * B) (fun _ => k) ∧ Below w.heap.size w w' :=
  (pflat_new A B k hA hB hk).mono fun _ _ ⟨v, h1, h2, h3, _⟩ => ⟨v, h1, h2, h3⟩
end Go.Proofs.Ytfgcngjggdjcjaa

namespace Go.Proofs.Ytfgcngjggdjcjaa
open Go.ChangeShapes Go.WideShapes Go.ChangeAt Go.RowKit
open Go.ChangeMaps (open_string shut_string)
set_option linter.unusedVariables false
set_option maxRecDepth 100000

theorem own : ownKnob Try.prog.godebug = none := by kernel_rfl
theorem laidOut : laidOutB Try.prog = true := by kernel_rfl

theorem trodAll_below {H : Type} {enc : TypeId × Value → H} {W W' : World} (hb : Below W.heap.size W W') : ∀ (ts : List TypeId) (vs : List Value) (ds : List (DataW H)) (p : List MemPlace),
    (∀ t ∈ ts, Try.prog.readableRec t = true ∧ t < Try.prog.types.size) → DataW.TrodAll enc Try.prog W 0 (fun _ => true) true ts vs ds p → (∀ x ∈ p, x.block < W.heap.size) →
    DataW.TrodAll enc Try.prog W' 0 (fun b => decide (b < W.heap.size)) true ts vs ds p
  | [], _, _, _, _, h, _ => by
    obtain ⟨rfl, rfl, rfl⟩ := trodAll_nil h
    exact trodAll_mk0
  | t :: ts, _, _, _, ht, h, hlt => by
    obtain ⟨v, vs, d, ds, p, q, rfl, rfl, rfl, h1, h2⟩ := trodAll_cons h
    have hx := ht t (by simp)
    exact trodAll_cons_mk (Below.trod laidOut hx.1 hx.2 h1 hb (fun x hx => hlt x (by simp [hx]))) (trodAll_below hb ts vs ds q (fun t' h' => ht t' (by simp [h'])) h2 (fun x hx => hlt x (by simp [hx])))
end Go.Proofs.Ytfgcngjggdjcjaa

namespace Go.Proofs.Ytfgcngjggdjcjaa
open Go.ChangeShapes Go.WideShapes Go.ChangeAt Go.RowKit Go.Maps
set_option linter.unusedVariables false
set_option maxRecDepth 100000

theorem two_flat {W : World} {s : Value} {f : Nat → Int} (hI : IntsIn (W.alloc (.cells #[.int .i64 1, .int .i64 1, s, .int .i64 1, .int .i64 1, s] 25)) s 1 f) :
    PicsIn (W.alloc (.cells #[.int .i64 1, .int .i64 1, s, .int .i64 1, .int .i64 1, s] 25)) (.slice (some ⟨W.heap.size, 0, none⟩) 2 2) 2 (fun _ => ⟨1, 1, 1, f⟩) := by
  have hh := (MapKept.heap_alloc W (.cells #[.int .i64 1, .int .i64 1, s, .int .i64 1, .int .i64 1, s] 25)).1
  have hc : ∀ i, (W.alloc (.cells #[.int .i64 1, .int .i64 1, s, .int .i64 1, .int .i64 1, s] 25)).cell? ⟨W.heap.size, i, none⟩ = (#[.int .i64 1, .int .i64 1, s, .int .i64 1, .int .i64 1, s] : Array Value)[i]? := fun i => cell_of_row _ _ i _ _ (0, 0) hh
  refine ⟨_, 2, rfl, Nat.le_refl _, by unfold maxLen; omega, fun _ => ⟨_, 0, rfl, fun i hi => ⟨s, ?_⟩⟩⟩
  match i, hi with
  | 0, _ => exact ⟨hc 0, hc 1, hc 2, hI⟩
  | 1, _ => exact ⟨hc 3, hc 4, hc 5, hI⟩

set_option maxHeartbeats 8000000 in
theorem fnear_walk {w : World} {v : Value} (N : Nat) (P : Nat → Pc) (hs : PicsIn w v N P) (ev st cut : Int) :
    Calls Try.prog 3 #[v, .int .i64 ev, .int .i64 st, .int .i64 cut] w fun e w' => e = .returned (.bool true) ∧ Below w.heap.size w w' := by
  have K1 : Hid (Calls Try.prog 4 #[.int .i64 1, .int .i64 1, .int .i64 9] w fun e w' => ∃ v, e = .returned (.tuple #[.agg #[.int .i64 1, .int .i64 1, v], .nilIface]) ∧ IntsIn w' v 1 (fun _ => 9) ∧ Below w.heap.size w w') := pflat_ok (w := w) 1 1 9 ⟨by omega, by omega⟩ ⟨by omega, by omega⟩ ⟨by decide, by decide⟩
  have K2 := hide (fun (W : World) (v : Value) (h : PicsIn W v 2 fun _ => ⟨1, 1, 1, fun _ => 9⟩) => fenc_ok h fact_ok)
  have HFa : Hid ((filC 1 1 1 2 1 (fun _ _ => 9) 0).al = true) := rfl
  have HFb : Hid ((filC 1 1 1 2 1 (fun _ _ => 9) 1).al = false) := rfl
  have HFc : Hid ((filC 1 1 1 2 1 (fun _ _ => 9) 0).f 0 = -119) := fact_first
  have HFn : Hid ((filC 1 1 1 2 1 (fun _ _ => 9) 0).n = 1) := rfl
  have hto : (2 : Int).toNat = 2 := rfl
  rw [hto] at K2
  clear hto
  have HP := hide hs
  obtain ⟨adl, capl, rfl, hcl, hcm, h3⟩ := hs
  unfold maxLen at hcm
  have KB := hide (fun (W : World) (hb : Below w.heap.size w W) (hx : enfF N P ev st ≠ 0) => fenc_bad ev st (HP.out.below hb) hx)
  have KG := hide (fun (W : World) (hb : Below w.heap.size w W) A B (ok : FilOk N P ev st A B) => fenc_ok (HP.out.below hb) ok)
  generalize filC 1 1 1 2 1 (fun _ _ => 9) = D at *
  have H3 := hide h3
  clear h3
  go_enter Try.func3, Try.ntmps3
  go_wp2_with fail
  refine (K1.out).mono ?_
  rintro e w1 ⟨vf, rfl, hvf, hb1⟩
  obtain ⟨af, cf, rfl⟩ := slice_shape hvf
  have hba : Below w1.heap.size w1 (w1.alloc (.cells #[.int .i64 1, .int .i64 1, .slice af 1 cf] 25)) := (Below.refl _ _).alloc (Nat.le_refl _) _
  have hbb : Below w1.heap.size w1 ((w1.alloc (.cells #[.int .i64 1, .int .i64 1, .slice af 1 cf] 25)).alloc (.cells #[.int .i64 1, .int .i64 1, .slice af 1 cf, .int .i64 1, .int .i64 1, .slice af 1 cf] 25)) := below_two hba ((Below.refl _ _).alloc (Nat.le_refl _) _)
  have HIf := hide (hvf.below hbb)
  have B2 := hide (below_two hb1 hbb)
  clear hvf hb1 hba hbb K1
  go_wp2_with fail
  have hz1 : (w1.alloc (.cells #[.int .i64 1, .int .i64 1, .slice af 1 cf] 25)).heap.size = w1.heap.size + 1 := by simp
  have hpp := two_flat HIf.out
  rw [hz1] at hpp
  have K2' := hide (K2.out _ _ hpp)
  clear hz1 hpp K2 HIf
  refine (K2'.out).mono ?_
  rintro e w3 ⟨u, rfl, hu, hb3⟩
  have B3 := hide (below_two B2.out hb3)
  obtain ⟨ad3, cp3, rfl, _, _, h4⟩ := hu
  obtain ⟨gb, og, rfl, hc4⟩ := h4 (by omega)
  obtain ⟨q0, x0, _, _, x3, hi0⟩ := hc4 0 (by omega)
  obtain ⟨q1, y0, _, _, y3, _⟩ := hc4 1 (by omega)
  rw [show og + 0 * 4 = og by omega] at x0 x3
  rw [show og + 1 * 4 = og + 4 by omega] at y0 y3
  rw [HFa.out] at x0
  rw [HFb.out] at y0
  rw [HFn.out] at hi0
  obtain ⟨bq, oq, cq, rfl, hq0⟩ : ∃ b o c, q0 = .slice (some ⟨b, o, none⟩) 1 c ∧ w3.cell? ⟨b, o, none⟩ = some (.int .i64 (-119)) := by
    rcases hi0 with ⟨h, _⟩ | ⟨_, b, o, c, e, hc⟩
    · omega
    · exact ⟨b, o, c, e, by have h9 := hc 0 (by omega); rw [HFc.out, Nat.add_zero] at h9; exact h9⟩
  clear hc4 h4 hi0 hb3 K2' B2 HFa HFb HFc HFn y3
  by_cases hx : enfF N P ev st = 0
  · obtain ⟨A, B, ok⟩ := enfF_zero.1 hx
    have K := hide (KG.out w3 B3.out A B ok)
    have h1N := ok.one
    have h6N := ok.six
    have s1 := ok.s1
    have s2 := ok.s2
    have KD := hide (fun (W : World) v k (hk1 : 1 ≤ k) (hk : k ≤ N) (h : CodsIn W v k (filC A B (P 0).n ev.toNat st fun i => (P i).f)) => fdec_fil ok hk1 hk h)
    have HD : Hid (∀ i, i < N → mostN (filT A B (P 0).n ev.toNat st (fun i => (P i).f) i) (P i).f (P 0).n ≤ (st / 2).toNat) := fun i hi => mostN_le fun k hk => by
      have h9 := filT_near (A := A) (B := B) (n := (P 0).n) (ev := ev.toNat) (s := st) (g := fun i => (P i).f) (ok.pic 0 (by omega)).w1 s1 i (k := k) ((ok.like hi).1.pix k hk)
      have h8 : (P i).f k - filT A B (P 0).n ev.toNat st (fun i => (P i).f) i k = -(filT A B (P 0).n ev.toNat st (fun i => (P i).f) i k - (P i).f k) := by omega
      rw [h8, Int.natAbs_neg] at h9
      omega
    have KU := hide (fun (W : World) i (hi : i < N) s s' (h : IntsIn W s (P 0).n (filT A B (P 0).n ev.toNat st (fun i => (P i).f) i)) (h' : IntsIn W s' (P 0).n (P i).f) => punlike_ok h h' (filT_ok (ok.pic 0 (by omega)) ev.toNat st (fun i => (P i).f) i) (ok.like hi).1)
    obtain ⟨E, rfl⟩ := Int.eq_ofNat_of_zero_le (show 0 ≤ ev by have := ok.e1; omega)
    have hE1 : 1 ≤ E := by have := ok.e1; omega
    have hE6 : E ≤ 6 := by have := ok.e6; omega
    rw [Int.toNat_natCast] at K KD HD KU
    have HAl := hide (fun j => filC_alone (A := A) (B := B) (n := (P 0).n) (ev := E) (s := st) (g := fun i => (P i).f) (i := j))
    have HLk := hide (fun j (hj : j < N) => (ok.like hj).2)
    have HPn : Hid ((P 0).n ≤ 36) := (ok.pic 0 (by omega)).le
    obtain ⟨bb, o, rfl, hc⟩ := H3.out (by omega)
    have HC := hide hc
    obtain ⟨s0, hs0⟩ := hc 0 (by omega)
    rw [show o + 0 * 3 = o by omega] at hs0
    have HS0 : Hid (w.cell? ⟨bb, o, none⟩ = some (.int .i64 (P 0).a) ∧ w.cell? ⟨bb, o + 1, none⟩ = some (.int .i64 (P 0).b)) := ⟨hs0.1, hs0.2.1⟩
    generalize filT A B (P 0).n E st (fun i => (P i).f) = T at *
    generalize filC A B (P 0).n E st (fun i => (P i).f) = C at *
    generalize hpn : (P 0).n = pn at *
    generalize hpa : (P 0).a = pa at *
    generalize hpb : (P 0).b = pb at *
    have hE0 : ¬ (E : Int) = 0 := by omega
    clear hpn hpa hpb KB KG hx ok hc hs0 H3 HP
    go_wp2_with fail
    refine (K.out).mono ?_
    rintro e w4 ⟨u, rfl, hu, hb4⟩
    have B4 := hide (below_two B3.out hb4)
    have HU := hide hu
    obtain ⟨ad4, cp4, rfl, hcp4, _, h4⟩ := hu
    clear x0 x3 y0 hq0 K hb4 B3 h4
    have c0 := cell_below B4.out HS0.out.1
    have c1 := cell_below B4.out HS0.out.2
    have hN0 : ((N : Int) == 0) = false := by rw [beq_eq_false_iff_ne]; omega
    have h0N : (0 : Int) < (N : Int) := by omega
    have h0Nn : 0 < N := by omega
    have KD4 := hide (KD.out w4.drew _ N h1N (Nat.le_refl _) (HU.out.below (Below.refl _ w4).drew))
    go_wp2_with fail
    go_region_held3 (fun w' => w'.cell? ⟨bb, o, none⟩ = some (.int .i64 pa) ∧ w'.cell? ⟨bb, o + 1, none⟩ = some (.int .i64 pb)) (first | go_keep | exact ⟨cell_below hb5 c0, cell_below hb5 c1⟩)
      (first | (go_at_call 6; refine (KD4.out).mono ?_; rintro e w5 ⟨u5, rfl, hu5, hb5'⟩; have hb5 : Below w4.heap.size w4 w5 := ⟨hb5'.os, hb5'.tape, hb5'.output, hb5'.size, hb5'.block⟩))
    have HU5 := hide (HU.out.below hb5)
    have HP5 := hide hu5
    have B5 := hide (below_two B4.out hb5)
    obtain ⟨ad5, cp5, rfl, hcp5, hcm5, h5⟩ := hu5
    unfold maxLen at hcm5
    obtain ⟨gp, op, rfl, hpc⟩ := h5 (by omega)
    have HPC := hide hpc
    obtain ⟨_, _, e4, _, hcm4, h4⟩ := HU5.out
    cases e4
    unfold maxLen at hcm4
    obtain ⟨gc, oc, rfl, hcc⟩ := h4 (by omega)
    have HCC := hide hcc
    clear h5 h4 hpc hcc hb5 hb5' KD4 c0 c1 HU
    have g1 : st.tdiv 2 = st / 2 := Int.tdiv_eq_ediv_of_nonneg (by omega)
    have b1 : 0 ≤ st / 2 ∧ st / 2 ≤ 32 := by omega
    go_wp2
    go_loopw [16] (fun i wr => ∃ j : Nat, j ≤ N ∧ i = .int .i64 j ∧ Hid (Below w5.heap.size w5 wr)) (fun i _ => N - (intOf i).toNat)
    case atStart => exact ⟨0, Nat.zero_le _, rfl, Below.refl _ _⟩
    case round =>
      obtain ⟨j, hj, rfl, HB⟩ := hrel
      by_cases hlt : j < N
      · have BW := hide (below_two B5.out HB.out)
        obtain ⟨sp, hp0⟩ := HPC.out j hlt
        obtain ⟨c0, c1, c2, hi⟩ := hp0.below HB.out
        obtain ⟨sl, hl0⟩ := HC.out j hlt
        obtain ⟨d0, d1, d2, hj2⟩ := hl0.below BW.out
        obtain ⟨sc, hk0⟩ := HCC.out j hlt
        obtain ⟨z0, _, _, _, _⟩ := hk0.below HB.out
        obtain ⟨lea, leb, len⟩ := HLk.out j hlt
        rw [lea] at d0
        rw [leb] at d1
        rw [len] at hj2
        have hD : Below wr.heap.size wr wr.drew := (Below.refl _ wr).drew
        have K := hide (KU.out wr.drew j hlt sp sl (hi.below hD) (hj2.below hD))
        have hd := HD.out j hlt
        obtain ⟨adp, cpp, rfl⟩ := slice_shape hi
        obtain ⟨adq, cpq, rfl⟩ := slice_shape hj2
        have hal := HAl.out j
        have hq : ((j : Int)).tmod (E : Int) = ((j % E : Nat) : Int) := by rw [Int.tmod_eq_emod_of_nonneg (by omega)]; exact (Int.natCast_emod j E).symm
        have hqs : j % E < 6 := by have := Nat.mod_lt j (show 0 < E by omega); omega
        have hl : (((j % E : Nat) : Int) == 0) = (C j).al := by
          cases hC : (C j).al with
          | true => rw [hal.1 hC]; rfl
          | false =>
            rw [beq_eq_false_iff_ne]
            intro h0
            have h1 : j % E = 0 := by omega
            rw [hal.2 h1] at hC
            cases hC
        have hne : ((C j).al != (C j).al) = false := by cases (C j).al <;> rfl
        have hne2 : ((C j).al == (C j).al) = true := by cases (C j).al <;> rfl
        generalize (C j).al = al at *
        generalize j % E = q at *
        generalize mostN (T j) (P j).f pn = d at *
        have hdt : (d : Int) ≤ st / 2 := by omega
        have hjn : (0 : Int) ≤ (j : Int) ∧ (j : Int) < (N : Int) := by omega
        clear hp0 hl0 hk0 lea leb len hi hj2 hD hal hd
        go_wp2_with fail
        go_region_held3 (fun w' => w'.cell? ⟨gp, op + j * 3, none⟩ = some (.int .i64 pa) ∧ w'.cell? ⟨gp, op + j * 3 + 1, none⟩ = some (.int .i64 pb) ∧ w'.cell? ⟨gp, op + j * 3 + 2, none⟩ = some (.slice adp pn cpp) ∧ w'.cell? ⟨bb, o + j * 3, none⟩ = some (.int .i64 pa) ∧ w'.cell? ⟨bb, o + j * 3 + 1, none⟩ = some (.int .i64 pb) ∧ w'.cell? ⟨bb, o + j * 3 + 2, none⟩ = some (.slice adq pn cpq)) (first | go_keep | exact ⟨cell_below hb6 c0, cell_below hb6 c1, cell_below hb6 c2, cell_below hb6 d0, cell_below hb6 d1, cell_below hb6 d2⟩)
          (first | (go_at_call 7; refine (K.out).mono ?_; rintro e w6 ⟨rfl, hb6'⟩; have hb6 : Below wr.heap.size wr w6 := ⟨hb6'.os, hb6'.tape, hb6'.output, hb6'.size, hb6'.block⟩))
        have HB6 : Hid (Below w5.heap.size w5 w6) := HB.out.trans (hb6.mono HB.out.size)
        have zq : ∀ r, (w6.drewN r).cell? ⟨gc, oc + j * 4, none⟩ = some (.bool al) := fun r => cell_below (below_drewN hb6 r) z0
        clear hb6 hb6' K c0 c1 c2 d0 d1 d2 z0
        go_wp2_with fail
        generalize st / 2 = t at *
        have n1 : decide (t < (d : Int)) = false := decide_eq_false (by omega)
        have n2 : ¬ (t < (d : Int)) := by omega
        have n3 : IntKind.i64.wrap t = t := by rw [IntKind.wrap_i64]; omega
        go_quiet (fail)
        go_wp2
        go_roundw
        case rel => exact ⟨j + 1, by omega, by go_num, below_drewN HB6.out _⟩
        case measure => simp [intOf]; omega
      · obtain rfl : j = N := by omega
        have BW := hide (below_two B5.out HB.out)
        rcases Int.lt_or_le cut 1 with hc1 | hc1
        · go_wp2
          go_ret
          exact ⟨rfl, BW.out⟩
        · rcases Int.lt_or_le (j : Int) cut with hc2 | hc2
          · go_wp2
            go_ret
            exact ⟨rfl, BW.out⟩
          · obtain ⟨k, rfl⟩ := Int.eq_ofNat_of_zero_le (show 0 ≤ cut by omega)
            have hk1 : 1 ≤ k := by omega
            have hkj : k ≤ j := by omega
            have c0 := cell_below BW.out HS0.out.1
            have c1 := cell_below BW.out HS0.out.2
            have KDk := hide (KD.out wr.drew _ k hk1 hkj (((HU5.out.head hkj).below HB.out).below (Below.refl _ wr).drew))
            have HPk := hide ((HP5.out.head hkj).below HB.out)
            have q1 : (0 : Int) ≤ (k : Int) ∧ (k : Int) ≤ (cp4 : Int) := by omega
            have q2 : (0 : Int) ≤ (k : Int) ∧ (k : Int) ≤ (cp5 : Int) := by omega
            have q3 : 0 < cp4 := by omega
            have q4 : 0 < cp5 := by omega
            have q5 : k ≤ cp4 := by omega
            have q6 : k ≤ cp5 := by omega
            go_wp2_with fail
            go_region_held3 (fun w' => w'.cell? ⟨bb, o, none⟩ = some (.int .i64 pa) ∧ w'.cell? ⟨bb, o + 1, none⟩ = some (.int .i64 pb)) (first | go_keep | exact ⟨cell_below hb7 c0, cell_below hb7 c1⟩)
              (first | (go_at_call 6; refine (KDk.out).mono ?_; rintro e w7 ⟨u7, rfl, hu7, hb7'⟩; have hb7 : Below wr.heap.size wr w7 := ⟨hb7'.os, hb7'.tape, hb7'.output, hb7'.size, hb7'.block⟩))
            have KS := hide (picss_same (N := k) (P := fun i => ⟨pa, pb, pn, T i⟩) (by omega) (fun i _ => by have := HPn.out; show pn ≤ 1000000; omega) hu7 (HPk.out.below hb7))
            have B7 := hide (below_two BW.out hb7)
            obtain ⟨ad7, cp7, rfl, _, _, _⟩ := hu7
            clear hb7 hb7' c0 c1 KDk
            go_wp2_with fail
            refine (KS.out).mono ?_
            rintro e w8 ⟨rfl, hb8⟩
            have B8 := hide (below_two B7.out hb8)
            clear hb8
            go_wp2
            go_ret
            exact ⟨rfl, B8.out⟩
  · have K := hide (KB.out w3 B3.out hx)
    have HN := hide (errN_pos hx)
    clear KB KG hx
    go_wp2_with fail
    refine (K.out).mono ?_
    rintro e w4 ⟨rfl, hb4⟩
    rw [HN.out]
    have B4 := hide (below_two B3.out hb4)
    clear hb4
    go_wp2
    go_ret
    exact ⟨rfl, B4.out⟩
end Go.Proofs.Ytfgcngjggdjcjaa
