/-
  Lemmas for the law above, joined into one text (SvTellN, SvTell). No statement is proved here.
-/
import Derived.Test.YtldjbampimbaeaaDoorTG13
import Derived.Test.YtldjbampimbaeaaDoorTRClr
namespace Go.Proofs.YtldjbampimbaeaaDoor
open Go.RowKit
set_option linter.unusedVariables false
set_option maxRecDepth 100000

theorem IntsAt.below {w w' : World} {v : Value} {len : Nat} {f : Nat → Int} (h : IntsAt w v len f) (hb : Below w.heap.size w w') : IntsAt w' v len f := by
  rcases h with h | ⟨h0, b, o, cap, hv, h1, h2, h3, h4⟩
  · exact Or.inl h
  · exact Or.inr ⟨h0, b, o, cap, hv, h1, h2, fun i hi => cell_below hb (h3 i hi), h4⟩
theorem IntsAt.congr {w : World} {v : Value} {len : Nat} {f g : Nat → Int} (h : IntsAt w v len f) (e : ∀ i, i < len → f i = g i) : IntsAt w v len g := by
  rcases h with h | ⟨h0, b, o, cap, hv, h1, h2, h3, h4⟩
  · exact Or.inl h
  · exact Or.inr ⟨h0, b, o, cap, hv, h1, h2, fun i hi => by rw [← e i hi]; exact h3 i hi, fun i hi => by rw [← e i hi]; exact h4 i hi⟩
/-- The rank that is told of any seeds. -/
def RankOf (k : Int) (len : Nat) (f : Nat → Int) (r : Int) : Prop :=
  (fS k len f ≠ 0 ∧ r = 0) ∨ (fS k len f = 0 ∧ ∃ q : Nat, r = (q : Nat) ∧ Dim (Sp XN (masksD k.toNat (fun i => (f i).toNat) len)) q)
theorem RankOf.det {k : Int} {len : Nat} {f : Nat → Int} {r r' : Int} (h : RankOf k len f r) (h' : RankOf k len f r') : r = r' := by
  rcases h with ⟨a, rfl⟩ | ⟨a, q, rfl, hd⟩
  · rcases h' with ⟨_, rfl⟩ | ⟨b, _⟩
    · rfl
    · exact absurd b a
  · rcases h' with ⟨b, _⟩ | ⟨_, q', rfl, hd'⟩
    · exact absurd a b
    · rw [hd.det hd']
theorem fS_ok {k : Int} {len : Nat} {f : Nat → Int} (h : fS k len f = 0) : len ≤ 60 ∧ (1 ≤ k ∧ k ≤ 16) ∧ ∀ j, j < len → 1 ≤ f j ∧ f j ≤ 10000 := by
  unfold fS at h
  by_cases hl : 60 < len
  · rw [if_pos hl] at h; cases h
  rw [if_neg hl] at h
  by_cases hk : 1 ≤ k ∧ k ≤ 16
  · rw [if_pos hk] at h
    refine ⟨by omega, hk, fun j hj => ?_⟩
    refine Classical.byContradiction fun hc => ?_
    rw [if_pos ⟨j, hj, by unfold badS; simp; omega⟩] at h
    cases h
  · rw [if_neg hk] at h; cases h
theorem rrank_any {k : Int} {v : Value} {len : Nat} {f : Nat → Int} {w : World} (hv : IntsAt w v len f) (h : fS k len f = 0) :
    Calls Tryd.prog 6 #[.int .i64 k, v] w fun e w' => ∃ r : Int, e = .returned (.int .i64 r) ∧ RankOf k len f r ∧ Below w.heap.size w w' := by
  obtain ⟨hl, hk, hs⟩ := fS_ok h
  have ek : ((k.toNat : Nat) : Int) = k := by omega
  have hc := rrank_ok clearOk k.toNat v len (fun i => (f i).toNat) w (hv.congr fun i hi => by have := hs i hi; omega) hl (by omega) (by omega) (fun j hj => by have := hs j hj; omega)
  rw [ek] at hc
  exact hc.mono fun e w' ⟨r, he, hd, hb⟩ => ⟨r, he, Or.inr ⟨h, r, rfl, hd⟩, hb⟩
theorem rank_any {k : Int} {v : Value} {len : Nat} {f : Nat → Int} {w : World} (hv : IntsAt w v len f) :
    Calls Tryd.prog 7 #[.int .i64 k, v] w fun e w' => ∃ (r : Int) (err : Value), e = .returned (.tuple #[.int .i64 r, err]) ∧ ErrIs (fS k len f) err ∧ RankOf k len f r ∧ Below w.heap.size w w' := by
  by_cases h : fS k len f = 0
  · obtain ⟨hl, hk, hs⟩ := fS_ok h
    have ek : ((k.toNat : Nat) : Int) = k := by omega
    have hc := rank_ok k.toNat v len (fun i => (f i).toNat) w (hv.congr fun i hi => by have := hs i hi; omega) hl (by omega) (by omega) (fun j hj => by have := hs j hj; omega)
    rw [ek] at hc
    exact hc.mono fun e w' ⟨r, he, hd, _, hb⟩ => ⟨r, _, he, Or.inl ⟨h, rfl⟩, Or.inr ⟨h, r, rfl, hd⟩, hb⟩
  · obtain ⟨a, cap, rfl, _⟩ := hv.open
    by_cases hl : 60 < len
    · have e4 : fS k len f = 4 := by unfold fS; exact if_pos hl
      exact (rank_full k a len cap w hl).mono fun e w' ⟨he, hw⟩ => ⟨0, _, he, by rw [e4]; exact Or.inr rfl, Or.inl ⟨h, rfl⟩, hw ▸ Below.refl _ _⟩
    by_cases hk : 1 ≤ k ∧ k ≤ 16
    · by_cases hb : ∃ j, j < len ∧ badS (f j) = true
      · have e1 : fS k len f = 1 := by unfold fS; rw [if_neg hl, if_pos hk, if_pos hb]
        exact (rank_s k _ len f w hv (by omega) hk hb).mono fun e w' ⟨he, hw⟩ => ⟨0, _, he, by rw [e1]; exact Or.inr rfl, Or.inl ⟨h, rfl⟩, hw ▸ Below.refl _ _⟩
      · exact absurd (by unfold fS; rw [if_neg hl, if_pos hk, if_neg hb]) h
    · have e1 : fS k len f = 1 := by unfold fS; rw [if_neg hl, if_neg hk]
      exact (rank_k k a len cap w (by omega) (by omega)).mono fun e w' ⟨he, hw⟩ => ⟨0, _, he, by rw [e1]; exact Or.inr rfl, Or.inl ⟨h, rfl⟩, hw ▸ Below.refl _ _⟩

/-- What is told of any drops: a fault's number, and strings. -/
def AnsOf (k size : Int) (len : Nat) (s : Nat → Int) (d : Nat → ByteArray) (x : Int) (n : Nat) (G : Nat → ByteArray) : Prop :=
  (fC k size len s d ≠ 0 ∧ x = fC k size len s d ∧ n = 0) ∨
  (fC k size len s d = 0 ∧ ∃ L, L = rowsD k.toNat (fun i => (s i).toNat) d len ∧ n ≤ 16 ∧ ((Clash L ∧ x = 7 ∧ n = 0) ∨
    (¬ Clash L ∧ (∃ r, r < k.toNat ∧ Dim (Sp XN (L.map Prod.fst)) r) ∧ x = 8 ∧ n = 0) ∨
    (¬ Clash L ∧ Dim (Sp XN (L.map Prod.fst)) k.toNat ∧ x = 0 ∧ n = k.toNat ∧ ∀ p, p < k.toNat → (G p).size = size.toNat ∧ Sp XV L (rv (2 ^ p) (G p)))))
theorem AnsOf.few {k size : Int} {len : Nat} {s : Nat → Int} {d : Nat → ByteArray} {x : Int} {n : Nat} {G : Nat → ByteArray} (h : AnsOf k size len s d x n G) : n ≤ 16 := by
  rcases h with ⟨_, _, h⟩ | ⟨_, _, _, h, _⟩ <;> omega
theorem AnsOf.det {k size : Int} {len : Nat} {s : Nat → Int} {d : Nat → ByteArray} {x y : Int} {n m : Nat} {G H : Nat → ByteArray} (h : AnsOf k size len s d x n G) (h' : AnsOf k size len s d y m H) : x = y ∧ n = m ∧ ∀ p, p < n → G p = H p := by
  rcases h with ⟨a, rfl, rfl⟩ | ⟨a, L, rfl, _, h⟩
  · rcases h' with ⟨_, rfl, rfl⟩ | ⟨b, _⟩
    · exact ⟨rfl, rfl, fun p hp => absurd hp (Nat.not_lt_zero _)⟩
    · exact absurd b a
  · rcases h' with ⟨b, _⟩ | ⟨_, L', rfl, _, h'⟩
    · exact absurd a b
    · rcases h with ⟨c, rfl, rfl⟩ | ⟨c, ⟨r, hr, hd⟩, rfl, rfl⟩ | ⟨c, hd, rfl, rfl, hG⟩
      · rcases h' with ⟨c', rfl, rfl⟩ | ⟨c', _⟩ | ⟨c', _⟩
        · exact ⟨rfl, rfl, fun p hp => absurd hp (Nat.not_lt_zero _)⟩
        · exact absurd c c'
        · exact absurd c c'
      · rcases h' with ⟨c', _⟩ | ⟨c', _, rfl, rfl⟩ | ⟨c', hd', _⟩
        · exact absurd c' c
        · exact ⟨rfl, rfl, fun p hp => absurd hp (Nat.not_lt_zero _)⟩
        · have := hd.det hd'; omega
      · rcases h' with ⟨c', _⟩ | ⟨c', ⟨r, hr, hd'⟩, _⟩ | ⟨c', _, rfl, rfl, hH⟩
        · exact absurd c' c
        · have := hd.det hd'; omega
        · refine ⟨rfl, rfl, fun p hp => ?_⟩
          obtain ⟨g1, g2⟩ := hG p hp
          obtain ⟨h1, h2⟩ := hH p hp
          exact bytes_fun (by rw [g1, h1]) (one_of c g2 h2)
theorem fC_ok {k size : Int} {len : Nat} {s : Nat → Int} {d : Nat → ByteArray} (hf : fC k size len s d = 0) : (1 ≤ k ∧ k ≤ 16) ∧ (1 ≤ size ∧ size ≤ 8) ∧ ∀ i, i < len → 1 ≤ s i := by
  have hl : ¬ 60 < len := fun h => by unfold fC at hf; rw [if_pos h] at hf; cases hf
  have hkz : (1 ≤ k ∧ k ≤ 16) ∧ 1 ≤ size ∧ size ≤ 8 := Classical.byContradiction fun h => by unfold fC at hf; rw [if_neg hl, if_neg h] at hf; cases hf
  refine ⟨hkz.1, hkz.2, fun i hi => ?_⟩
  unfold fC at hf
  rw [if_neg hl, if_pos hkz] at hf
  have h9 := firstF_none hf i hi
  unfold fD at h9
  by_cases c : OkD k size (s i)
  · exact c.2.2.1
  · simp only [if_neg c] at h9; cases h9
theorem rsolve_any {k size : Int} {v : Value} {len : Nat} {s : Nat → Int} {d : Nat → ByteArray} {w : World} (hv : DropsAt w v len s d) :
    Calls Tryd.prog 9 #[.int .i64 k, .int .i64 size, v] w fun e w' => ∃ (x : Int) (u : Value) (n : Nat) (G : Nat → ByteArray), e = .returned (.tuple #[u, .int .i64 x]) ∧ AnsOf k size len s d x n G ∧ StrsIn w' u n G ∧ Below w.heap.size w w' := by
  by_cases hf : fC k size len s d = 0
  · obtain ⟨hk, hz, hs⟩ := fC_ok hf
    have ek : ((k.toNat : Nat) : Int) = k := by omega
    have ez : ((size.toNat : Nat) : Int) = size := by omega
    have es : ∀ i, i < len → s i = (((s i).toNat : Nat) : Int) := fun i hi => by have := hs i hi; omega
    have hf' : fC k.toNat size.toNat len (fun i => (((s i).toNat : Nat) : Int)) d = 0 := by
      rw [ek, ez, ← hf]
      unfold fC
      rw [firstF_congr (g' := fun i => fD k size (s i) (d i).size) (fun i hi => by simp only [← es i hi])]
    have hc := rsolve_ok clearOk k.toNat size.toNat v len (fun i => (s i).toNat) d w (hv.congr es (fun _ _ => rfl)) hf'
    rw [ek, ez] at hc
    refine hc.mono fun e w' ⟨hr, hb⟩ => ?_
    rcases hr with ⟨h1, he⟩ | ⟨h1, h2, he⟩ | ⟨h1, h2, u, G, he, h3, h4⟩
    · exact ⟨7, _, 0, fun _ => ⟨#[]⟩, he, Or.inr ⟨hf, _, rfl, by omega, Or.inl ⟨h1, rfl, rfl⟩⟩, Or.inl ⟨rfl, _, _, rfl⟩, hb⟩
    · exact ⟨8, _, 0, fun _ => ⟨#[]⟩, he, Or.inr ⟨hf, _, rfl, by omega, Or.inr (Or.inl ⟨h1, h2, rfl, rfl⟩)⟩, Or.inl ⟨rfl, _, _, rfl⟩, hb⟩
    · exact ⟨0, u, k.toNat, G, he, Or.inr ⟨hf, _, rfl, by omega, Or.inr (Or.inr ⟨h1, h2, rfl, rfl, h4⟩)⟩, h3, hb⟩
  · exact (rsolve_bad k size v len s d w hv hf).mono fun e w' ⟨he, hb⟩ => ⟨_, _, 0, fun _ => ⟨#[]⟩, he, Or.inl ⟨hf, rfl, rfl⟩, Or.inl ⟨rfl, _, _, rfl⟩, hb⟩
theorem solve_any {k size : Int} {v : Value} {len : Nat} {s : Nat → Int} {d : Nat → ByteArray} {w : World} (hv : DropsAt w v len s d) :
    Calls Tryd.prog 10 #[.int .i64 k, .int .i64 size, v] w fun e w' => ∃ (x : Int) (err u : Value) (n : Nat) (G : Nat → ByteArray), e = .returned (.tuple #[u, err]) ∧ ErrIs x err ∧ AnsOf k size len s d x n G ∧ StrsIn w' u n G ∧ Below w.heap.size w w' := by
  by_cases hf : fC k size len s d = 0
  · obtain ⟨hk, hz, hs⟩ := fC_ok hf
    have ek : ((k.toNat : Nat) : Int) = k := by omega
    have ez : ((size.toNat : Nat) : Int) = size := by omega
    have es : ∀ i, i < len → s i = (((s i).toNat : Nat) : Int) := fun i hi => by have := hs i hi; omega
    have hf' : fC k.toNat size.toNat len (fun i => (((s i).toNat : Nat) : Int)) d = 0 := by
      rw [ek, ez, ← hf]
      unfold fC
      rw [firstF_congr (g' := fun i => fD k size (s i) (d i).size) (fun i hi => by simp only [← es i hi])]
    have hc := solve_ok k.toNat size.toNat v len (fun i => (s i).toNat) d w (hv.congr es (fun _ _ => rfl)) hf'
    rw [ek, ez] at hc
    refine hc.mono fun e w' ⟨hr, hb⟩ => ?_
    rcases hr with ⟨h1, he⟩ | ⟨h1, h2, he⟩ | ⟨h1, h2, b, G, he, h3⟩
    · exact ⟨7, _, _, 0, fun _ => ⟨#[]⟩, he, Or.inr rfl, Or.inr ⟨hf, _, rfl, by omega, Or.inl ⟨h1, rfl, rfl⟩⟩, Or.inl ⟨rfl, _, _, rfl⟩, hb⟩
    · exact ⟨8, _, _, 0, fun _ => ⟨#[]⟩, he, Or.inr rfl, Or.inr ⟨hf, _, rfl, by omega, Or.inr (Or.inl ⟨h1, h2, rfl, rfl⟩)⟩, Or.inl ⟨rfl, _, _, rfl⟩, hb⟩
    · exact ⟨0, _, _, k.toNat, G, he, Or.inl ⟨rfl, rfl⟩, Or.inr ⟨hf, _, rfl, by omega, Or.inr (Or.inr ⟨h1, h2, rfl, rfl, fun p hp => (h3 p hp).2⟩)⟩, Or.inr ⟨by omega, b, 0, _, rfl, fun i hi => by rw [Nat.zero_add]; exact (h3 i hi).1⟩, hb⟩
  · exact (solve_bad k size v len s d w hv hf).mono fun e w' ⟨he, hb⟩ => ⟨_, _, _, 0, fun _ => ⟨#[]⟩, he, Or.inr rfl, Or.inl ⟨hf, rfl, rfl⟩, Or.inl ⟨rfl, _, _, rfl⟩, hb⟩
end Go.Proofs.YtldjbampimbaeaaDoor

namespace Go.Proofs.YtldjbampimbaeaaDoor
open Go.RowKit
set_option linter.unusedVariables false
set_option maxRecDepth 100000

set_option maxHeartbeats 4000000 in
theorem svtells_walk {w : World} (k size : Int) (v : Value) (len : Nat) (f : Nat → Int) (hv : IntsAt w v len f) (l : Value) (m : Nat) (s : Nat → Int) (d : Nat → ByteArray) (hl : DropsAt w l m s d) (hg : HasErr w) :
    Calls Tryd.prog 3 #[.int .i64 k, .int .i64 size, v, l] w fun e w' => e = .returned (.bool true) ∧ Below w.heap.size w w' := by
  have HG := hide hg
  have HGL := hide hg.lt
  have SD := hide (rseeds_ok k v len f w hv)
  have RR : Hid (∀ W, Below w.heap.size w W → fS k len f = 0 → Calls Tryd.prog 6 #[.int .i64 k, v] W fun e w' => ∃ r : Int, e = .returned (.int .i64 r) ∧ RankOf k len f r ∧ Below W.heap.size W w') := fun W hb h => rrank_any (hv.below hb) h
  have SR : Hid (∀ W, Below w.heap.size w W → Calls Tryd.prog 7 #[.int .i64 k, v] W fun e w' => ∃ (r : Int) (err : Value), e = .returned (.tuple #[.int .i64 r, err]) ∧ ErrIs (fS k len f) err ∧ RankOf k len f r ∧ Below W.heap.size W w') := fun W hb => rank_any (hv.below hb)
  have RS : Hid (∀ W, Below w.heap.size w W → Calls Tryd.prog 9 #[.int .i64 k, .int .i64 size, l] W fun e w' => ∃ (x : Int) (u : Value) (n : Nat) (G : Nat → ByteArray), e = .returned (.tuple #[u, .int .i64 x]) ∧ AnsOf k size m s d x n G ∧ StrsIn w' u n G ∧ Below W.heap.size W w') := fun W hb => rsolve_any (hl.below hb)
  have SS : Hid (∀ W, Below w.heap.size w W → Calls Tryd.prog 10 #[.int .i64 k, .int .i64 size, l] W fun e w' => ∃ (x : Int) (err u : Value) (n : Nat) (G : Nat → ByteArray), e = .returned (.tuple #[u, err]) ∧ ErrIs x err ∧ AnsOf k size m s d x n G ∧ StrsIn w' u n G ∧ Below W.heap.size W w') := fun W hb => solve_any (hl.below hb)
  have HB0 := hide (Below.refl w.heap.size w)
  obtain ⟨y, hy⟩ : ∃ y : Int, fS k len f = y := ⟨_, rfl⟩
  rw [hy] at SD
  have HY := hide hy
  clear hv hl hg hy
  go_enter Tryd.func3, Tryd.ntmps3
  go_wp2_with fail
  refine (SD.out).mono ?_
  rintro e w1 ⟨rfl, rfl⟩
  clear SD
  by_cases hy0 : y = 0
  · subst hy0
    go_wp2_with fail
    refine (RR.out _ HB0.out HY.out).mono ?_
    rintro e w1 ⟨r, rfl, hr1, hb1⟩
    have RO := hide hr1
    have HB1 := hide (below_two HB0.out hb1)
    clear hr1 hb1
    go_wp2_with fail
    refine (SR.out _ HB1.out).mono ?_
    rintro e w2 ⟨r2, err2, rfl, he2, hr2, hb2⟩
    have HB2 := hide (below_two HB1.out hb2)
    have heq : r2 = r := hr2.det RO.out
    have E2 := hide (error_right _ err2 w2 (HG.out.below HGL.out HB2.out) (by have h9 := he2; rw [HY.out] at h9; exact h9))
    subst heq
    clear hb2 hr2 he2
    go_wp2_with fail
    refine (E2.out).mono ?_
    rintro e w3 ⟨rfl, hb3⟩
    have HB3 := hide (below_two HB2.out hb3)
    clear hb3 E2
    go_wp2_with fail
    refine (RS.out _ HB3.out).mono ?_
    rintro e w4 ⟨x, u, n, G, rfl, ha4, hs4, hb4⟩
    have HB4 := hide (below_two HB3.out hb4)
    have HA4 := hide ha4
    have HS4 := hide hs4
    clear hb4 ha4 hs4
    go_wp2_with fail
    refine (SS.out _ HB4.out).mono ?_
    rintro e w5 ⟨x5, err5, u5, n5, G5, rfl, he5, ha5, hs5, hb5⟩
    have HB5 := hide (below_two HB4.out hb5)
    obtain ⟨hx, hn, hG⟩ := ha5.det HA4.out
    have HS4' := hide (HS4.out.below hb5)
    subst hx hn
    have HS5 := hide (hs5.congr hG)
    have h16 := ha5.few
    have E5 := hide (error_right _ err5 w5 (HG.out.below HGL.out HB5.out) he5)
    clear hb5 ha5 hs5 he5 hG HS4
    go_wp2_with fail
    refine (E5.out).mono ?_
    rintro e w6 ⟨rfl, hb6⟩
    have HB6 := hide (below_two HB5.out hb6)
    have ST := hide (sstrs_same _ _ _ _ w6 (by omega) (HS5.out.below hb6) (HS4'.out.below hb6))
    clear hb6 E5
    go_wp2_with fail
    refine (ST.out).mono ?_
    rintro e w7 ⟨rfl, hb7⟩
    have HB7 := hide (below_two HB6.out hb7)
    clear hb7
    go_wp2
    go_ret
    exact ⟨rfl, HB7.out⟩
  · have hyb : (y == 0) = false := by rw [beq_eq_false_iff_ne]; exact hy0
    have RO : Hid (RankOf k len f 0) := Or.inl ⟨by rw [HY.out]; exact hy0, rfl⟩
    clear hy0
    go_wp2_with fail
    refine (SR.out _ HB0.out).mono ?_
    rintro e w2 ⟨r2, err2, rfl, he2, hr2, hb2⟩
    have HB2 := hide (below_two HB0.out hb2)
    have heq : r2 = 0 := hr2.det RO.out
    have E2 := hide (error_right _ err2 w2 (HG.out.below HGL.out HB2.out) (by have h9 := he2; rw [HY.out] at h9; exact h9))
    subst heq
    clear hb2 hr2 he2
    go_wp2_with fail
    refine (E2.out).mono ?_
    rintro e w3 ⟨rfl, hb3⟩
    have HB3 := hide (below_two HB2.out hb3)
    clear hb3 E2
    go_wp2_with fail
    refine (RS.out _ HB3.out).mono ?_
    rintro e w4 ⟨x, u, n, G, rfl, ha4, hs4, hb4⟩
    have HB4 := hide (below_two HB3.out hb4)
    have HA4 := hide ha4
    have HS4 := hide hs4
    clear hb4 ha4 hs4
    go_wp2_with fail
    refine (SS.out _ HB4.out).mono ?_
    rintro e w5 ⟨x5, err5, u5, n5, G5, rfl, he5, ha5, hs5, hb5⟩
    have HB5 := hide (below_two HB4.out hb5)
    obtain ⟨hx, hn, hG⟩ := ha5.det HA4.out
    have HS4' := hide (HS4.out.below hb5)
    subst hx hn
    have HS5 := hide (hs5.congr hG)
    have h16 := ha5.few
    have E5 := hide (error_right _ err5 w5 (HG.out.below HGL.out HB5.out) he5)
    clear hb5 ha5 hs5 he5 hG HS4
    go_wp2_with fail
    refine (E5.out).mono ?_
    rintro e w6 ⟨rfl, hb6⟩
    have HB6 := hide (below_two HB5.out hb6)
    have ST := hide (sstrs_same _ _ _ _ w6 (by omega) (HS5.out.below hb6) (HS4'.out.below hb6))
    clear hb6 E5
    go_wp2_with fail
    refine (ST.out).mono ?_
    rintro e w7 ⟨rfl, hb7⟩
    have HB7 := hide (below_two HB6.out hb7)
    clear hb7
    go_wp2
    go_ret
    exact ⟨rfl, HB7.out⟩
end Go.Proofs.YtldjbampimbaeaaDoor
