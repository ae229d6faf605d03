/-
  Rows of drops of blocks: what they make are blocks over one another; when they clash. Lemmas for the laws above; no statement is proved here.
-/
import Derived.Test.YtldjbampimbaeaaDoorSvN
import Derived.Test.YtldjbampimbaeaaDoorPeelN
namespace Go.Proofs.YtldjbampimbaeaaDoor
open Go.RowKit
set_option linter.unusedVariables false
set_option maxRecDepth 100000

/-- The bytes at i of the blocks of a set, one over the other. -/
def phi (g : Nat → ByteArray) (i : Nat) : Nat → Nat → UInt8
  | 0, _ => 0
  | k + 1, m => (if m.testBit k then atB (g k) i else 0) ^^^ phi g i k m
theorem phi_add (g : Nat → ByteArray) (i a b : Nat) : ∀ k, phi g i k (a ^^^ b) = phi g i k a ^^^ phi g i k b
  | 0 => by simp [phi]
  | k + 1 => by
    unfold phi
    rw [phi_add g i a b k, Nat.testBit_xor]
    have e : (if (a.testBit k ^^ b.testBit k) = true then atB (g k) i else 0) = (if a.testBit k then atB (g k) i else 0) ^^^ (if b.testBit k then atB (g k) i else 0) := by
      cases a.testBit k <;> cases b.testBit k <;> simp
    rw [e]
    simp only [UInt8.xor_assoc]
    rw [← UInt8.xor_assoc (if b.testBit k then atB (g k) i else 0), UInt8.xor_comm (if b.testBit k then atB (g k) i else 0), UInt8.xor_assoc]
theorem phi_zero (g : Nat → ByteArray) (i : Nat) : ∀ k, phi g i k 0 = 0
  | 0 => rfl
  | k + 1 => by unfold phi; rw [phi_zero g i k]; simp
theorem phi_unit (g : Nat → ByteArray) (i p : Nat) : ∀ k, phi g i k (2 ^ p) = if p < k then atB (g p) i else 0
  | 0 => by simp [phi]
  | k + 1 => by
    unfold phi
    rw [phi_unit g i p k, Nat.testBit_two_pow]
    by_cases e : p = k
    · subst e
      rw [if_pos (by simp), if_neg (Nat.lt_irrefl _), if_pos (by omega)]; simp
    · rw [decide_eq_false e]
      by_cases c : p < k
      · rw [if_pos c, if_pos (show p < k + 1 by omega)]; simp
      · rw [if_neg c, if_neg (show ¬ p < k + 1 by omega)]; simp
/-- A row that is of the blocks g. -/
def Fits (g : Nat → ByteArray) (k : Nat) (v : RV) : Prop := v.2 = fun i => phi g i k v.1
theorem Fits.sp {g : Nat → ByteArray} {k : Nat} {L : List RV} (h : ∀ v ∈ L, Fits g k v) {v : RV} (hv : Sp XV L v) : Fits g k v :=
  Sp.ind (G := XV) (C := Fits g k) (funext fun i => (phi_zero g i k).symm) (fun x y hx hy => by
    have hx : x.2 = _ := hx
    have hy : y.2 = _ := hy
    show (fun i => x.2 i ^^^ y.2 i) = fun i => phi g i k (x.1 ^^^ y.1)
    rw [hx, hy]
    exact funext fun i => (phi_add g i x.1 y.1 k).symm) h hv
theorem fits_clash {g : Nat → ByteArray} {k : Nat} {L : List RV} (h : ∀ v ∈ L, Fits g k v) : ¬ Clash L := fun ⟨x, hx, hne⟩ => hne (by
  have h9 : x = _ := Fits.sp h hx
  rw [h9]
  exact funext fun i => phi_zero g i k)
theorem fits_unit {g : Nat → ByteArray} {k p : Nat} {L : List RV} (h : ∀ v ∈ L, Fits g k v) (hp : p < k) {s : ByteArray} (hz : s.size = (g p).size) (hs : Sp XV L (rv (2 ^ p) s)) : s = g p := by
  have h9 : atB s = _ := Fits.sp h hs
  refine bytes_fun hz ?_
  rw [h9]
  exact funext fun i => by show phi g i k (2 ^ p) = _; rw [phi_unit, if_pos hp]
theorem maskL_cons {r : Nat} {s : List Nat} (h : r ∉ s) : maskL (r :: s) = 2 ^ r ^^^ maskL s := Nat.eq_of_testBit_eq fun j => by
  rw [maskL_bit, Nat.testBit_xor, Nat.testBit_two_pow, maskL_bit]
  by_cases e : j = r
  · subst e; simp [h]
  · have e' : ¬ r = j := fun h => e h.symm
    simp [e, e']
theorem phi_xl (g : Nat → ByteArray) (i k : Nat) : ∀ s : List Nat, s.Nodup → (∀ p ∈ s, p < k) → phi g i k (maskL s) = xl g i s
  | [], _, _ => phi_zero g i k
  | r :: s, hn, hk => by
    rw [maskL_cons (List.nodup_cons.1 hn).1, phi_add, phi_unit, if_pos (hk r (by simp)), phi_xl g i k s (List.nodup_cons.1 hn).2 (fun p hp => hk p (by simp [hp]))]
    rfl
/-- The row of a drop of the blocks g. -/
theorem drop_fits {g : Nat → ByteArray} {k seed : Nat} (hk : 1 ≤ k) (h1 : 1 ≤ seed) (hz : ∀ p, p < k → (g p).size = (g 0).size) : Fits g k (rv (maskL (setL k seed)) (dropB g k seed)) := by
  have hn : (setL k seed).Nodup := (setL_rise k seed).imp (fun h => by omega)
  have hl : ∀ p ∈ setL k seed, p < k := fun p hp => setL_lt hk h1 hp
  refine funext fun i => ?_
  show atB (dropB g k seed) i = phi g i k (maskL (setL k seed))
  rw [phi_xl g i k _ hn hl]
  have hd := dropB_size g k seed
  rcases Nat.lt_or_ge i (g 0).size with hi | hi
  · unfold dropB
    rw [sumB_at _ _ _ _ hi, xsum_xl g (setL k seed) i _ (Nat.le_refl _), List.take_length]
  · rw [atB_out _ _ (by rw [hd]; exact hi)]
    have h0 : ∀ s : List Nat, (∀ p ∈ s, p < k) → xl g i s = 0 := fun s => by
      induction s with
      | nil => intro _; rfl
      | cons r s ih =>
        intro hs
        show atB (g r) i ^^^ xl g i s = 0
        rw [ih (fun p hp => hs p (by simp [hp])), atB_out _ _ (by rw [hz r (hs r (by simp))]; exact hi)]; rfl
    exact (h0 _ hl).symm
theorem maskL_one (p : Nat) : maskL [p] = 2 ^ p := by rw [maskL_cons (by simp)]; simp [maskL]
theorem unit_fits {g : Nat → ByteArray} {k p : Nat} (hp : p < k) : Fits g k (rv (2 ^ p) (g p)) := funext fun i => by
  show atB (g p) i = phi g i k (2 ^ p)
  rw [phi_unit, if_pos hp]
/-- With all blocks alone all that is of them is made. -/
theorem units_make {g : Nat → ByteArray} {L : List RV} {m : Nat} : ∀ {k : Nat}, (∀ p, p < k → Sp XV L (rv (2 ^ p) (g p))) → Sp XV L (m % 2 ^ k, fun i => phi g i k m)
  | 0, _ => by
    rw [Nat.pow_zero, Nat.mod_one]
    exact Sp.zero XV L
  | k + 1, h => by
    have ih := units_make (m := m) (k := k) (fun p hp => h p (by omega))
    have e : m % 2 ^ (k + 1) = m % 2 ^ k ^^^ if m.testBit k then 2 ^ k else 0 := Nat.eq_of_testBit_eq fun j => by
      rw [Nat.testBit_mod_two_pow, Nat.testBit_xor, Nat.testBit_mod_two_pow]
      by_cases c : m.testBit k = true
      · rw [if_pos c, Nat.testBit_two_pow]
        by_cases e : k = j
        · subst e; simp [c]
        · rw [decide_eq_false e]
          have e2 : decide (j < k + 1) = decide (j < k) := decide_eq_decide.2 (by omega)
          rw [e2]; simp
      · rw [if_neg c, Nat.zero_testBit]
        by_cases e : j = k
        · subst e; simp [c]
        · have e2 : decide (j < k + 1) = decide (j < k) := decide_eq_decide.2 (by omega)
          rw [e2]; simp
    by_cases c : m.testBit k = true
    · have h9 := Sp.add ih (h k (by omega))
      rw [XV_add] at h9
      have e3 : ((m % 2 ^ (k + 1), fun i => phi g i (k + 1) m) : RV) = (m % 2 ^ k ^^^ 2 ^ k, fun i => phi g i k m ^^^ atB (g k) i) := by
        rw [e, if_pos c]
        refine Prod.ext rfl (funext fun i => ?_)
        show (if m.testBit k then atB (g k) i else 0) ^^^ phi g i k m = _
        rw [if_pos c, UInt8.xor_comm]
      rw [e3]; exact h9
    · have e3 : ((m % 2 ^ (k + 1), fun i => phi g i (k + 1) m) : RV) = (m % 2 ^ k, fun i => phi g i k m) := by
        rw [e, if_neg c, Nat.xor_zero]
        refine Prod.ext rfl (funext fun i => ?_)
        show (if m.testBit k then atB (g k) i else 0) ^^^ phi g i k m = _
        rw [if_neg c, UInt8.zero_xor]
      rw [e3]; exact ih
/-- One that is not of them clashes. -/
theorem bent_clash {g : Nat → ByteArray} {L : List RV} {m k : Nat} {s : ByteArray} (h : ∀ p, p < k → Sp XV L (rv (2 ^ p) (g p))) (hm : m < 2 ^ k) (hs : Sp XV L (rv m s)) (hne : ¬ Fits g k (rv m s)) : Clash L := by
  have h9 := Sp.add hs (units_make (m := m) h)
  rw [Nat.mod_eq_of_lt hm, XV_add] at h9
  have e : (rv m s).1 ^^^ m = 0 := Nat.xor_self m
  simp only [e] at h9
  refine ⟨_, h9, fun h0 => hne (funext fun i => ?_)⟩
  have h8 := congrFun h0 i
  have h7 : (rv m s).2 i = phi g i k m := by simpa using h8
  exact h7
theorem units_dim {L : List RV} {k r : Nat} {g : Nat → ByteArray} (h : ∀ p, p < k → Sp XV L (rv (2 ^ p) (g p))) (hd : Dim (Sp XN (L.map Prod.fst)) r) : k ≤ r := by
  have hled : Led (fun _ => true) (fun b => 2 ^ b) k := fun b _ _ => ⟨by rw [Nat.testBit_two_pow]; simp, fun c hc _ => by rw [Nat.testBit_two_pow]; exact decide_eq_false (by omega)⟩
  have h9 := hd.least (piv_indep hled) (fun v hv => by
    obtain ⟨b, hb, _, rfl⟩ := mem_piv.1 hv
    exact Sp.fst.2 ⟨_, h b hb⟩)
  rw [piv_len, cntB_all.2 (fun _ _ => rfl)] at h9
  exact h9
end Go.Proofs.YtldjbampimbaeaaDoor
