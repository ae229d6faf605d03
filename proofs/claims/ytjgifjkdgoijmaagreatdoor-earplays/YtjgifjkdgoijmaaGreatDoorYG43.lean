/-
  Lemmas for the law above, joined into one text (SvTellN, EarPlN). No statement is proved here.
-/
import Derived.Test.YtjgifjkdgoijmaaGreatDoorYRSolve
import Derived.Test.YtjgifjkdgoijmaaGreatDoorYRClr
import Derived.Test.YtjgifjkdgoijmaaGreatDoorYG39
import Derived.Test.YtjgifjkdgoijmaaGreatDoorYG36
import Derived.Test.YtjgifjkdgoijmaaGreatDoorYRLk
namespace Go.Proofs.YtjgifjkdgoijmaaGreatDoor
open Go.RowKit
set_option linter.unusedVariables false
set_option maxRecDepth 100000

/-- The rank that is told of any seeds. -/
def RankOf (k : Int) (len : Nat) (f : Nat → Int) (r : Int) : Prop :=
  (fS k len f ≠ 0 ∧ r = 0) ∨ (fS k len f = 0 ∧ ∃ q : Nat, r = (q : Nat) ∧ Dim (Sp XN (masksD k.toNat (fun i => (f i).toNat) len)) q)
theorem RankOf.det {k : Int} {len : Nat} {f : Nat → Int} {r r' : Int} (h : RankOf k len f r) (h' : RankOf k len f r') : r = r' := by
  rcases h with ⟨a, rfl⟩ | ⟨a, q, rfl, hd⟩
  · rcases h' with ⟨_, rfl⟩ | ⟨b, _⟩
    · rfl
    · exact absurd b a
  · rcases h' with ⟨b, _⟩ | ⟨_, q', rfl, hd'⟩
    · exact absurd a b
    · rw [hd.det hd']
theorem rrank_any {k : Int} {v : Value} {len : Nat} {f : Nat → Int} {w : World} (hv : IntsAt w v len f) (h : fS k len f = 0) :
    Calls Tryz.prog 17 #[.int .i64 k, v] w fun e w' => ∃ r : Int, e = .returned (.int .i64 r) ∧ RankOf k len f r ∧ Below w.heap.size w w' := by
  obtain ⟨hl, hk, hs⟩ := fS_ok h
  have ek : ((k.toNat : Nat) : Int) = k := by omega
  have hc := rrank_ok clearOk k.toNat v len (fun i => (f i).toNat) w (hv.congr fun i hi => by have := hs i hi; omega) hl (by omega) (by omega) (fun j hj => by have := hs j hj; omega)
  rw [ek] at hc
  exact hc.mono fun e w' ⟨r, he, hd, hb⟩ => ⟨r, he, Or.inr ⟨h, r, rfl, hd⟩, hb⟩
theorem rank_any {k : Int} {v : Value} {len : Nat} {f : Nat → Int} {w : World} (hv : IntsAt w v len f) :
    Calls Tryz.prog 14 #[.int .i64 k, v] w fun e w' => ∃ (r : Int) (err : Value), e = .returned (.tuple #[.int .i64 r, err]) ∧ ErrIs (fS k len f) err ∧ RankOf k len f r ∧ Below w.heap.size w w' := by
  by_cases h : fS k len f = 0
  · obtain ⟨hl, hk, hs⟩ := fS_ok h
    have ek : ((k.toNat : Nat) : Int) = k := by omega
    have hc := rank_ok k.toNat v len (fun i => (f i).toNat) w (hv.congr fun i hi => by have := hs i hi; omega) hl (by omega) (by omega) (fun j hj => by have := hs j hj; omega)
    rw [ek] at hc
    exact hc.mono fun e w' ⟨r, he, hd, _, hb⟩ => ⟨r, _, he, Or.inl ⟨h, rfl⟩, Or.inr ⟨h, r, rfl, hd⟩, hb⟩
  · obtain ⟨a, cap, rfl, _⟩ := hv.open
    by_cases hl : 60 < len
    · have e4 : fS k len f = 4 := by unfold fS; exact if_pos hl
      exact (rank_full k a len cap w hl).mono fun e w' ⟨he, hw⟩ => ⟨0, _, he, by rw [e4]; exact Or.inr rfl, Or.inl ⟨h, rfl⟩, hw ▸ Below.refl _ _⟩
    by_cases hk : 1 ≤ k ∧ k ≤ 16
    · by_cases hb : ∃ j, j < len ∧ badS (f j) = true
      · have e1 : fS k len f = 1 := by unfold fS; rw [if_neg hl, if_pos hk, if_pos hb]
        exact (rank_s k _ len f w hv (by omega) hk hb).mono fun e w' ⟨he, hw⟩ => ⟨0, _, he, by rw [e1]; exact Or.inr rfl, Or.inl ⟨h, rfl⟩, hw ▸ Below.refl _ _⟩
      · exact absurd (by unfold fS; rw [if_neg hl, if_pos hk, if_neg hb]) h
    · have e1 : fS k len f = 1 := by unfold fS; rw [if_neg hl, if_neg hk]
      exact (rank_k k a len cap w (by omega) (by omega)).mono fun e w' ⟨he, hw⟩ => ⟨0, _, he, by rw [e1]; exact Or.inr rfl, Or.inl ⟨h, rfl⟩, hw ▸ Below.refl _ _⟩

/-- What is told of any drops: a fault's number, and strings. -/
def AnsOf (k size : Int) (len : Nat) (s : Nat → Int) (d : Nat → ByteArray) (x : Int) (n : Nat) (G : Nat → ByteArray) : Prop :=
  (fC k size len s d ≠ 0 ∧ x = fC k size len s d ∧ n = 0) ∨
  (fC k size len s d = 0 ∧ ∃ L, L = rowsD k.toNat (fun i => (s i).toNat) d len ∧ n ≤ 16 ∧ ((Clash L ∧ x = 7 ∧ n = 0) ∨
    (¬ Clash L ∧ (∃ r, r < k.toNat ∧ Dim (Sp XN (L.map Prod.fst)) r) ∧ x = 8 ∧ n = 0) ∨
    (¬ Clash L ∧ Dim (Sp XN (L.map Prod.fst)) k.toNat ∧ x = 0 ∧ n = k.toNat ∧ ∀ p, p < k.toNat → (G p).size = size.toNat ∧ Sp XV L (rv (2 ^ p) (G p)))))
theorem AnsOf.few {k size : Int} {len : Nat} {s : Nat → Int} {d : Nat → ByteArray} {x : Int} {n : Nat} {G : Nat → ByteArray} (h : AnsOf k size len s d x n G) : n ≤ 16 := by
  rcases h with ⟨_, _, h⟩ | ⟨_, _, _, h, _⟩ <;> omega
theorem AnsOf.det {k size : Int} {len : Nat} {s : Nat → Int} {d : Nat → ByteArray} {x y : Int} {n m : Nat} {G H : Nat → ByteArray} (h : AnsOf k size len s d x n G) (h' : AnsOf k size len s d y m H) : x = y ∧ n = m ∧ ∀ p, p < n → G p = H p := by
  rcases h with ⟨a, rfl, rfl⟩ | ⟨a, L, rfl, _, h⟩
  · rcases h' with ⟨_, rfl, rfl⟩ | ⟨b, _⟩
    · exact ⟨rfl, rfl, fun p hp => absurd hp (Nat.not_lt_zero _)⟩
    · exact absurd b a
  · rcases h' with ⟨b, _⟩ | ⟨_, L', rfl, _, h'⟩
    · exact absurd a b
    · rcases h with ⟨c, rfl, rfl⟩ | ⟨c, ⟨r, hr, hd⟩, rfl, rfl⟩ | ⟨c, hd, rfl, rfl, hG⟩
      · rcases h' with ⟨c', rfl, rfl⟩ | ⟨c', _⟩ | ⟨c', _⟩
        · exact ⟨rfl, rfl, fun p hp => absurd hp (Nat.not_lt_zero _)⟩
        · exact absurd c c'
        · exact absurd c c'
      · rcases h' with ⟨c', _⟩ | ⟨c', _, rfl, rfl⟩ | ⟨c', hd', _⟩
        · exact absurd c' c
        · exact ⟨rfl, rfl, fun p hp => absurd hp (Nat.not_lt_zero _)⟩
        · have := hd.det hd'; omega
      · rcases h' with ⟨c', _⟩ | ⟨c', ⟨r, hr, hd'⟩, _⟩ | ⟨c', _, rfl, rfl, hH⟩
        · exact absurd c' c
        · have := hd.det hd'; omega
        · refine ⟨rfl, rfl, fun p hp => ?_⟩
          obtain ⟨g1, g2⟩ := hG p hp
          obtain ⟨h1, h2⟩ := hH p hp
          exact bytes_fun (by rw [g1, h1]) (one_of c g2 h2)
theorem fC_ok {k size : Int} {len : Nat} {s : Nat → Int} {d : Nat → ByteArray} (hf : fC k size len s d = 0) : (1 ≤ k ∧ k ≤ 16) ∧ (1 ≤ size ∧ size ≤ 8) ∧ ∀ i, i < len → 1 ≤ s i := by
  have hl : ¬ 60 < len := fun h => by unfold fC at hf; rw [if_pos h] at hf; cases hf
  have hkz : (1 ≤ k ∧ k ≤ 16) ∧ 1 ≤ size ∧ size ≤ 8 := Classical.byContradiction fun h => by unfold fC at hf; rw [if_neg hl, if_neg h] at hf; cases hf
  refine ⟨hkz.1, hkz.2, fun i hi => ?_⟩
  unfold fC at hf
  rw [if_neg hl, if_pos hkz] at hf
  have h9 := firstF_none hf i hi
  unfold fD at h9
  by_cases c : OkD k size (s i)
  · exact c.2.2.1
  · simp only [if_neg c] at h9; cases h9
theorem rsolve_any {k size : Int} {v : Value} {len : Nat} {s : Nat → Int} {d : Nat → ByteArray} {w : World} (hv : DropsAt w v len s d) :
    Calls Tryz.prog 51 #[.int .i64 k, .int .i64 size, v] w fun e w' => ∃ (x : Int) (u : Value) (n : Nat) (G : Nat → ByteArray), e = .returned (.tuple #[u, .int .i64 x]) ∧ AnsOf k size len s d x n G ∧ StrsIn w' u n G ∧ Below w.heap.size w w' := by
  by_cases hf : fC k size len s d = 0
  · obtain ⟨hk, hz, hs⟩ := fC_ok hf
    have ek : ((k.toNat : Nat) : Int) = k := by omega
    have ez : ((size.toNat : Nat) : Int) = size := by omega
    have es : ∀ i, i < len → s i = (((s i).toNat : Nat) : Int) := fun i hi => by have := hs i hi; omega
    have hf' : fC k.toNat size.toNat len (fun i => (((s i).toNat : Nat) : Int)) d = 0 := by
      rw [ek, ez, ← hf]
      unfold fC
      rw [firstF_congr (g' := fun i => fD k size (s i) (d i).size) (fun i hi => by simp only [← es i hi])]
    have hc := rsolve_ok clearOk k.toNat size.toNat v len (fun i => (s i).toNat) d w (hv.congr es (fun _ _ => rfl)) hf'
    rw [ek, ez] at hc
    refine hc.mono fun e w' ⟨hr, hb⟩ => ?_
    rcases hr with ⟨h1, he⟩ | ⟨h1, h2, he⟩ | ⟨h1, h2, u, G, he, h3, h4⟩
    · exact ⟨7, _, 0, fun _ => ⟨#[]⟩, he, Or.inr ⟨hf, _, rfl, by omega, Or.inl ⟨h1, rfl, rfl⟩⟩, Or.inl ⟨rfl, _, _, rfl⟩, hb⟩
    · exact ⟨8, _, 0, fun _ => ⟨#[]⟩, he, Or.inr ⟨hf, _, rfl, by omega, Or.inr (Or.inl ⟨h1, h2, rfl, rfl⟩)⟩, Or.inl ⟨rfl, _, _, rfl⟩, hb⟩
    · exact ⟨0, u, k.toNat, G, he, Or.inr ⟨hf, _, rfl, by omega, Or.inr (Or.inr ⟨h1, h2, rfl, rfl, h4⟩)⟩, h3, hb⟩
  · exact (rsolve_bad k size v len s d w hv hf).mono fun e w' ⟨he, hb⟩ => ⟨_, _, 0, fun _ => ⟨#[]⟩, he, Or.inl ⟨hf, rfl, rfl⟩, Or.inl ⟨rfl, _, _, rfl⟩, hb⟩
theorem solve_any {k size : Int} {v : Value} {len : Nat} {s : Nat → Int} {d : Nat → ByteArray} {w : World} (hv : DropsAt w v len s d) :
    Calls Tryz.prog 29 #[.int .i64 k, .int .i64 size, v] w fun e w' => ∃ (x : Int) (err u : Value) (n : Nat) (G : Nat → ByteArray), e = .returned (.tuple #[u, err]) ∧ ErrIs x err ∧ AnsOf k size len s d x n G ∧ StrsIn w' u n G ∧ Below w.heap.size w w' := by
  by_cases hf : fC k size len s d = 0
  · obtain ⟨hk, hz, hs⟩ := fC_ok hf
    have ek : ((k.toNat : Nat) : Int) = k := by omega
    have ez : ((size.toNat : Nat) : Int) = size := by omega
    have es : ∀ i, i < len → s i = (((s i).toNat : Nat) : Int) := fun i hi => by have := hs i hi; omega
    have hf' : fC k.toNat size.toNat len (fun i => (((s i).toNat : Nat) : Int)) d = 0 := by
      rw [ek, ez, ← hf]
      unfold fC
      rw [firstF_congr (g' := fun i => fD k size (s i) (d i).size) (fun i hi => by simp only [← es i hi])]
    have hc := solve_ok k.toNat size.toNat v len (fun i => (s i).toNat) d w (hv.congr es (fun _ _ => rfl)) hf'
    rw [ek, ez] at hc
    refine hc.mono fun e w' ⟨hr, hb⟩ => ?_
    rcases hr with ⟨h1, he⟩ | ⟨h1, h2, he⟩ | ⟨h1, h2, b, G, he, h3⟩
    · exact ⟨7, _, _, 0, fun _ => ⟨#[]⟩, he, Or.inr rfl, Or.inr ⟨hf, _, rfl, by omega, Or.inl ⟨h1, rfl, rfl⟩⟩, Or.inl ⟨rfl, _, _, rfl⟩, hb⟩
    · exact ⟨8, _, _, 0, fun _ => ⟨#[]⟩, he, Or.inr rfl, Or.inr ⟨hf, _, rfl, by omega, Or.inr (Or.inl ⟨h1, h2, rfl, rfl⟩)⟩, Or.inl ⟨rfl, _, _, rfl⟩, hb⟩
    · exact ⟨0, _, _, k.toNat, G, he, Or.inl ⟨rfl, rfl⟩, Or.inr ⟨hf, _, rfl, by omega, Or.inr (Or.inr ⟨h1, h2, rfl, rfl, fun p hp => (h3 p hp).2⟩)⟩, Or.inr ⟨by omega, b, 0, _, rfl, fun i hi => by rw [Nat.zero_add]; exact (h3 i hi).1⟩, hb⟩
  · exact (solve_bad k size v len s d w hv hf).mono fun e w' ⟨he, hb⟩ => ⟨_, _, _, 0, fun _ => ⟨#[]⟩, he, Or.inr rfl, Or.inl ⟨hf, rfl, rfl⟩, Or.inl ⟨rfl, _, _, rfl⟩, hb⟩
end Go.Proofs.YtjgifjkdgoijmaaGreatDoor

namespace Go.Proofs.YtjgifjkdgoijmaaGreatDoor
open Go.RowKit Go.Maps
set_option linter.unusedVariables false
set_option maxRecDepth 100000

theorem DataOf.det {k z n : Nat} {F : List Drp} {x y : Int} {s t : ByteArray} (h : DataOf k z n F x s) (h' : DataOf k z n F y t) : x = y ∧ s = t := by
  rcases h with ⟨c, rfl, rfl⟩ | ⟨c, ⟨r, hr, hd⟩, rfl, rfl⟩ | ⟨c, hd, rfl, G, hG, rfl⟩
  · rcases h' with ⟨_, rfl, rfl⟩ | ⟨c', _⟩ | ⟨c', _⟩
    · exact ⟨rfl, rfl⟩
    · exact absurd c c'
    · exact absurd c c'
  · rcases h' with ⟨c', _⟩ | ⟨_, _, rfl, rfl⟩ | ⟨_, hd', _⟩
    · exact absurd c' c
    · exact ⟨rfl, rfl⟩
    · have := hd.det hd'; omega
  · rcases h' with ⟨c', _⟩ | ⟨_, ⟨r, hr, hd'⟩, _⟩ | ⟨_, _, rfl, H, hH, rfl⟩
    · exact absurd c' c
    · have := hd.det hd'; omega
    · refine ⟨rfl, ?_⟩
      have e : allL G k = allL H k := by
        unfold allL
        congr 1
        refine List.map_congr_left fun p hp => ?_
        have hp := List.mem_range.1 hp
        have : G p = H p := bytes_fun (by rw [(hG p hp).1, (hH p hp).1]) (one_of c (hG p hp).2 (hH p hp).2)
        rw [this]
      rw [e]
theorem RESt.ptr2 {w : World} {v : Value} {k z n : Nat} {dr : Int} {F : List Drp} {M : Nat → Prop} (h : RESt w v k z n dr F M) : ∃ a, v = .pointer a := h.ptr
theorem rseeds_st {w : World} {v : Value} {k z n : Nat} {dr : Int} {F : List Drp} {M : Nat → Prop} (h : RESt w v k z n dr F M) :
    Calls Tryz.prog 18 #[v] w fun e w' => ∃ v', e = .returned v' ∧ IntsAt w' v' F.length (fun i => (((sds F).getD i 0 : Nat) : Int)) ∧ Below w.heap.size w w' := by
  obtain ⟨b, bp, vF, vL, vT, p, rfl, hE, _, hO, _⟩ := h
  refine (rseeds2_ok hE hO.few).mono fun e w' ⟨v', he, ho, hb⟩ => ⟨v', he, ?_, hb⟩
  have h9 := intsAt_list (A := sds F) ho hO.seeds
  rw [sds_len] at h9
  exact h9
theorem rrank_st {w : World} {v : Value} {k z n : Nat} {F : List Drp} (hO : FOk k z n F) (hv : IntsAt w v F.length (fun i => (((sds F).getD i 0 : Nat) : Int))) :
    Calls Tryz.prog 17 #[.int .i64 k, v] w fun e w' => e = .returned (.int .i64 (rkL (mS k (sds F)) : Nat)) ∧ Below w.heap.size w w' := by
  refine (rrank_ok clearOk k v F.length (fun i => (sds F).getD i 0) w hv hO.few hO.nk.1 hO.nk.2 (fun j hj => hO.seeds _ (getD_mem (by rw [sds_len]; exact hj)))).mono fun e w' ⟨r, he, hd, hb⟩ => ⟨?_, hb⟩
  have h9 := masks_getD k (sds F)
  rw [sds_len] at h9
  rw [h9] at hd
  rw [he, rkL_eq hd]
theorem rlacks_st {w : World} {v : Value} {k z n : Nat} {F : List Drp} (hO : FOk k z n F) (hv : IntsAt w v F.length (fun i => (((sds F).getD i 0 : Nat) : Int))) :
    Calls Tryz.prog 20 #[.int .i64 k, v] w fun e w' => ∃ vo, e = .returned vo ∧ w'.ownsRow w.heap.size 3 1 vo (upL (mS k (sds F)) unit k).length (iV (upL (mS k (sds F)) unit k)) ∧ Below w.heap.size w w' := by
  have h8 := rlacks_ok k v F.length (fun i => (sds F).getD i 0) w hv hO.few hO.nk.1 hO.nk.2 (fun j hj => hO.seeds _ (getD_mem (by rw [sds_len]; exact hj)))
  have h9 := mL_getD k (sds F)
  rw [sds_len] at h9
  rw [h9] at h8
  exact h8
/-- Both Ears. -/
structure Pl (w wr : World) (k z n : Nat) (a1 a2 : Option Addr) (d1 d2 : Int) (F1 F2 : List Drp) (M1 M2 : Nat → Prop) : Prop where
  re : RESt wr (.pointer a1) k z n d1 F1 M1
  es : ESt peelI0 wr (.pointer a2) k z n d2 F2 M2
  i1 : ∀ i, M1 i → w.heap.size ≤ i
  i2 : ∀ i, M2 i → w.heap.size ≤ i
  ap : ∀ i, M1 i → ¬ M2 i
  below : Below w.heap.size w wr
variable {w wr w' : World} {k z n : Nat} {a1 a2 : Option Addr} {d1 d2 : Int} {F1 F2 : List Drp} {M1 M2 : Nat → Prop}
theorem Pl.grow (h : Pl w wr k z n a1 a2 d1 d2 F1 F2 M1 M2) (hb : Below wr.heap.size wr w') : Pl w w' k z n a1 a2 d1 d2 F1 F2 M1 M2 :=
  ⟨h.re.below hb, h.es.below hb, h.i1, h.i2, h.ap, below_two h.below hb⟩
theorem Pl.rhear (h : Pl w wr k z n a1 a2 d1 d2 F1 F2 M1 M2) (seed : Nat) (data : ByteArray) (hf : eF k z F1 seed data.size = 0) (hdr : 0 ≤ d1 ∧ d1 ≤ 1000) :
    Calls Tryz.prog 16 #[.pointer a1, .agg #[.int .i64 seed, .string data]] wr fun e w' => ∃ q M, Took (setL k) q (eAdd F1 seed data) ∧ e = .returned (.tuple #[.agg #[.int .i64 (d1 + 1), .int .i64 (eAdd F1 seed data).length, .int .i64 (knows k q.known).length], .int .i64 0]) ∧ Pl w w' k z n a1 a2 (d1 + 1) d2 (eAdd F1 seed data) F2 M M2 :=
  (rhear_ok h.re seed data hf hdr).mono fun e w' ⟨q, h1, h2, h3, h4⟩ => ⟨q, _, h1, h2, h3, h.es.kept h4 fun i hi h9 => h.ap i h9 hi, fun i hi => hi.elim (h.i1 i) fun e => Nat.le_trans h.below.size e.1, h.i2, fun i hi h9 => hi.elim (fun e => h.ap i e h9) fun e => by have := h.es.lt i h9; omega, kept_below h.below h4 h.i1⟩
theorem Pl.xhear (h : Pl w wr k z n a1 a2 d1 d2 F1 F2 M1 M2) (seed : Nat) (data : ByteArray) (hf : eF k z F2 seed data.size = 0) (hdr : 0 ≤ d2 ∧ d2 ≤ 1000) :
    Calls Tryz.prog 6 #[.pointer a2, .agg #[.int .i64 seed, .string data]] wr fun e w' => ∃ q M, Took (setL k) q (eAdd F2 seed data) ∧ e = .returned (.tuple #[.agg #[.int .i64 (d2 + 1), .int .i64 (eAdd F2 seed data).length, .int .i64 (knows k q.known).length], .nilIface]) ∧ Pl w w' k z n a1 a2 d1 (d2 + 1) F1 (eAdd F2 seed data) M1 M ∧ Kept M2 wr w' := by
  have hw : wrap64 (d2 + 1) = d2 + 1 := by unfold wrap64; omega
  have h0 := hear_ok peel_ptr h.es seed data hf ⟨by omega, by omega⟩
  rw [hw] at h0
  exact h0.mono fun e w' ⟨q, h1, h2, h3, h4⟩ => ⟨q, _, h1, h2, ⟨h.re.kept h4 fun i hi h9 => h.ap i hi h9, h3, h.i1, fun i hi => hi.elim (h.i2 i) fun e => Nat.le_trans h.below.size e.1, fun i hi h9 => h9.elim (fun e => h.ap i hi e) fun e => by have := h.re.lt i hi; omega, kept_below h.below h4 h.i2⟩, h4⟩
theorem took_count {q q' : PS} {F : List Drp} (h : Took (setL k) q F) (h' : Took (setL k) q' F) : (knows k q.known).length = (knows k q'.known).length := by
  rw [h.same h' fun d => Iff.rfl]
end Go.Proofs.YtjgifjkdgoijmaaGreatDoor
