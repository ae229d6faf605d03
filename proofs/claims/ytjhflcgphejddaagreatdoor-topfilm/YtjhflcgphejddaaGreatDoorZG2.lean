/-
  Lemmas for the law above, joined into one text (Ints, FlE, RcN, BmN, LayN, XorN, BmU). No statement is proved here.
-/
import Derived.Test.YtjhflcgphejddaaGreatDoorZG0
import Derived.ProofKit
import Derived.OpenShut
import Derived.ChangeSlices
import Derived.Test.YtjhflcgphejddaaGreatDoorZG1
import Derived.Lib.Strings
import Derived.Laws.MakeOwn
import Derived.Laws.IdiomStrings
import Derived.Laws.BitsAll
import Derived.RegionTactic
import Derived.BigRegion
namespace Go.Proofs.YtjhflcgphejddaaGreatDoor
open Go.ChangeShapes Go.WideShapes Go.ChangeAt Go.RowKit
set_option linter.unusedVariables false
set_option maxRecDepth 100000

theorem cellsInt : Tryz.prog.cellsOf 3 = 1 := by kernel_rfl

/-- A slice of ints as it lies: len numbers f 0, f 1, .. -/
def IntsAt (W : World) (v : Value) (len : Nat) (f : Nat → Int) : Prop :=
  (len = 0 ∧ ∃ a cap, v = .slice a 0 cap) ∨ (0 < len ∧ ∃ b o cap, v = .slice (some ⟨b, o, none⟩) len cap ∧ len ≤ cap ∧ cap ≤ maxLen ∧ (∀ i, i < len → W.cell? ⟨b, o + i, none⟩ = some (.int .i64 (f i))) ∧ ∀ i, i < len → (Lit.int .i64 (f i)).wf = true)

theorem open_intsAt {H : Type} {enc : TypeId × Value → H} {W : World} {base : Nat} {v : Value} {d : DataW H} {p : List MemPlace}
    (hv : Value.okWide Tryz.prog W .any base 23 v) (h : DataW.Trod enc Tryz.prog W 0 (fun _ => true) true 23 v d p) : ∃ len f, IntsAt W v len f := by
  obtain ⟨a0, len, cap, rfl⟩ := okWide_slice Tryz.underlying23 hv
  obtain ⟨fuel, hf⟩ := h
  rcases open_ints Tryz.underlying23 Tryz.underlying3 cellsInt hf with ⟨hcs, hx⟩ | ⟨a, len', cap', ss, hcs, _, hl, hm, hz, hx, hcell, hws⟩
  · simp [Value.cells] at hcs
    obtain ⟨rfl, rfl, rfl⟩ := hcs
    exact ⟨0, fun _ => 0, Or.inl ⟨rfl, none, 0, rfl⟩⟩
  · simp [Value.cells] at hcs
    obtain ⟨rfl, rfl, rfl⟩ := hcs
    simp only [if_true] at hz
    by_cases h0 : len = 0
    · subst h0
      exact ⟨0, fun _ => 0, Or.inl ⟨rfl, some a, cap, rfl⟩⟩
    · obtain ⟨b, off, spot⟩ := a
      have hspot : spot = none := by simpa [Addr.add] using World.cell?_spot (hcell 0 (by omega))
      subst hspot
      refine ⟨len, fun i => ss.getD i 0, Or.inr ⟨by omega, b, off, cap, rfl, hl, hm, fun i hi => ?_, fun i hi => ?_⟩⟩
      · rw [← add_plain]; exact hcell i (by omega)
      · have hi' : i < ss.length := by omega
        have e : ss.getD i 0 = ss[i] := by simp [List.getD, List.getElem?_eq_getElem hi']
        show (Lit.int .i64 (ss.getD i 0)).wf = true
        rw [e]; exact hws _ (List.getElem_mem hi')
end Go.Proofs.YtjhflcgphejddaaGreatDoor

namespace Go.Proofs.YtjhflcgphejddaaGreatDoor
set_option linter.unusedVariables false
set_option maxRecDepth 100000

/-- The first of the first so many numbers that is not 0. -/
def fstF (F : Nat → Nat) : Nat → Nat
  | 0 => 0
  | i + 1 => if fstF F i ≠ 0 then fstF F i else F i
theorem fstF_step (F : Nat → Nat) (i : Nat) : fstF F (i + 1) = if fstF F i ≠ 0 then fstF F i else F i := rfl
theorem fstF_keep {F : Nat → Nat} {i : Nat} (h : fstF F i ≠ 0) : ∀ {j}, i ≤ j → fstF F j = fstF F i := fun {j} hj => by
  induction j with
  | zero => have : i = 0 := by omega
            subst this; rfl
  | succ j ih =>
    by_cases c : i = j + 1
    · subst c; rfl
    · have e := ih (by omega)
      rw [fstF_step, e, if_pos h]
theorem fstF_zero {F : Nat → Nat} : ∀ {N}, fstF F N = 0 ↔ ∀ i, i < N → F i = 0
  | 0 => ⟨fun _ i hi => absurd hi (Nat.not_lt_zero _), fun _ => rfl⟩
  | N + 1 => by
    rw [fstF_step]
    constructor
    · intro h
      split at h
      · rename_i c; exact absurd h c
      · rename_i c
        have h0 := fstF_zero.1 (show fstF F N = 0 by omega)
        intro i hi
        by_cases e : i = N
        · subst e; exact h
        · exact h0 i (by omega)
    · intro h
      rw [if_neg (by rw [fstF_zero.2 (fun i hi => h i (by omega))]; simp)]
      exact h N (by omega)
theorem fstF_at {F : Nat → Nat} {N j : Nat} (h : fstF F j = 0) (hj : j < N) (hf : F j ≠ 0) : fstF F N = F j := by
  have e : fstF F (j + 1) = F j := by rw [fstF_step, if_neg (by omega)]
  rw [fstF_keep (i := j + 1) (by omega) (by omega), e]
theorem fstF_go {F : Nat → Nat} {j : Nat} (h : fstF F j = 0) (hf : F j = 0) : fstF F (j + 1) = 0 := by rw [fstF_step, if_neg (by omega)]; exact hf
def allP (P : Nat → Pc) (i : Nat) : Nat := picF (P i).a (P i).b (P i).n (P i).f
def samP (P : Nat → Pc) (i : Nat) : Nat := if (P i).a = (P 0).a ∧ (P i).b = (P 0).b then 0 else 3
def cntF (N : Nat) : Nat := if N = 0 then 5 else if 6 < N then 4 else 0
/-- What is wrong with pictures; with a film. -/
def chqF (N : Nat) (P : Nat → Pc) : Nat := if cntF N ≠ 0 then cntF N else if fstF (allP P) N ≠ 0 then fstF (allP P) N else fstF (samP P) N
def enfF (N : Nat) (P : Nat → Pc) (ev st : Int) : Nat := if chqF N P ≠ 0 then chqF N P else rngF ev st
theorem cntF_zero {N : Nat} : cntF N = 0 ↔ 1 ≤ N ∧ N ≤ 6 := by
  unfold cntF
  split
  · constructor
    · intro h; cases h
    · omega
  · split
    · constructor
      · intro h; cases h
      · omega
    · constructor
      · intro _; omega
      · intro _; rfl
theorem chqF_zero {N : Nat} {P : Nat → Pc} : chqF N P = 0 ↔ (1 ≤ N ∧ N ≤ 6) ∧ ∀ i, i < N → allP P i = 0 ∧ samP P i = 0 := by
  unfold chqF
  constructor
  · intro h
    split at h
    · rename_i c; exact absurd h c
    · rename_i c
      split at h
      · rename_i c2; exact absurd h c2
      · rename_i c2
        have h1 := fstF_zero.1 (show fstF (allP P) N = 0 by omega)
        have h2 := fstF_zero.1 h
        exact ⟨cntF_zero.1 (by omega), fun i hi => ⟨h1 i hi, h2 i hi⟩⟩
  · rintro ⟨h1, h2⟩
    rw [cntF_zero.2 h1, if_neg (by simp), fstF_zero.2 (fun i hi => (h2 i hi).1), if_neg (by simp)]
    exact fstF_zero.2 fun i hi => (h2 i hi).2
theorem enfF_zero {N : Nat} {P : Nat → Pc} {ev st : Int} : enfF N P ev st = 0 ↔ ∃ A B, FilOk N P ev st A B := by
  unfold enfF
  constructor
  · intro h
    split at h
    · rename_i c; exact absurd h c
    · rename_i c
      obtain ⟨⟨h1, h6⟩, hf⟩ := chqF_zero.1 (show chqF N P = 0 by omega)
      unfold rngF at h
      split at h
      · rename_i h4
        obtain ⟨A, B, o0⟩ := picF_zero.1 (hf 0 (by omega)).1
        refine ⟨A, B, h1, h6, fun i hi => ?_, h4.1, h4.2.1, h4.2.2.1, h4.2.2.2⟩
        obtain ⟨A', B', o⟩ := picF_zero.1 (hf i hi).1
        have hs := (hf i hi).2
        unfold samP at hs
        split at hs
        · rename_i c2
          obtain ⟨rfl, rfl⟩ := o.same o0 c2
          exact o
        · cases hs
      · cases h
  · rintro ⟨A, B, o⟩
    have h0 : chqF N P = 0 := chqF_zero.2 ⟨⟨o.one, o.six⟩, fun i hi => ⟨picF_zero.2 ⟨A, B, o.pic i hi⟩, by
      unfold samP
      have o0 := o.pic 0 (by omega)
      have oi := o.pic i hi
      rw [if_pos ⟨oi.wide.trans o0.wide.symm, oi.high.trans o0.high.symm⟩]⟩⟩
    rw [h0, if_neg (by simp)]
    unfold rngF
    rw [if_pos ⟨o.e1, o.e6, o.s1, o.s2⟩]
theorem enfF_range {N : Nat} {P : Nat → Pc} {ev st : Int} (h : chqF N P = 0) : enfF N P ev st = rngF ev st := by unfold enfF; rw [if_neg (by omega)]
theorem enfF_first {N : Nat} {P : Nat → Pc} {ev st : Int} (h : chqF N P ≠ 0) : enfF N P ev st = chqF N P := by unfold enfF; rw [if_pos h]

/-- One coded picture told behind the one ahead, whose sides are known. -/
def stpK (s : Int) (c : Cd) (p : Pc) : Nat × Pc := stpC p.a p.b s c p
theorem stpC_sides {a b s : Int} {c : Cd} {p : Pc} (h : (stpC a b s c p).1 = 0) (ha : p.a = a) (hb : p.b = b) : (stpC a b s c p).2.a = a ∧ (stpC a b s c p).2.b = b := by
  unfold stpC at h ⊢
  split at h
  · rename_i c1
    rw [if_pos c1]
    split at h
    · cases h
    · rename_i c2
      rw [if_neg c2]
      exact ⟨if_pos h, if_pos h⟩
  · rename_i c1
    rw [if_neg c1]
    exact ⟨(if_pos h).trans ha, (if_pos h).trans hb⟩
theorem stpC_alone {a b s : Int} {c : Cd} (p q : Pc) (h : c.al = true) : stpC a b s c p = stpC a b s c q := by
  unfold stpC; rw [if_pos h, if_pos h]
theorem stpC_pos {a b s : Int} {c : Cd} {p : Pc} (h : (stpC a b s c p).1 = 0) : 0 < (stpC a b s c p).2.n := by
  unfold stpC at h ⊢
  split at h
  · rename_i c1
    rw [if_pos c1]
    split at h
    · cases h
    · rename_i c2
      rw [if_neg c2]
      obtain ⟨A, B, o⟩ := decF_zero.1 h
      have e : deM a b s c.n c.f = c.n := if_pos h
      show 0 < deM a b s c.n c.f
      rw [e]; exact o.pos
  · rename_i c1
    rw [if_neg c1]
    obtain ⟨A, B, o⟩ := picF_zero.1 (mdeF_zero.1 h).1
    have e : mdM p.a p.b p.n p.f c.al c.x c.y c.n c.f s = p.n := if_pos h
    show 0 < mdM p.a p.b p.n p.f c.al c.x c.y c.n c.f s
    rw [e]; exact o.pos
theorem seeS_sides {a b s : Int} {C : Nat → Cd} (h0 : (C 0).al = true) : ∀ {i}, (seeS a b s C (i + 1)).1 = 0 → (seeS a b s C (i + 1)).2.a = a ∧ (seeS a b s C (i + 1)).2.b = b
  | 0, h => by
    rw [seeS_step rfl] at h ⊢
    rw [stpC_alone (seeS a b s C 0).2 ⟨a, b, 0, fun _ => 0⟩ h0] at h ⊢
    exact stpC_sides h rfl rfl
  | i + 1, h => by
    have h1 := seeS_back h (show i + 1 ≤ i + 1 + 1 by omega)
    rw [seeS_step h1] at h ⊢
    obtain ⟨e1, e2⟩ := seeS_sides h0 h1
    exact stpC_sides h e1 e2
/-- What stands ahead of the picture at a place. -/
def ahdP (a b s : Int) (C : Nat → Cd) (i : Nat) : Pc := if i = 0 then ⟨a, b, 0, fun _ => 0⟩ else (seeS a b s C i).2
theorem ahdP_step {a b s : Int} {C : Nat → Cd} (h0 : (C 0).al = true) {i : Nat} (h : (seeS a b s C i).1 = 0) : stpK s (C i) (ahdP a b s C i) = seeS a b s C (i + 1) := by
  rw [seeS_step h]
  unfold stpK ahdP
  split
  · rename_i c
    subst c
    exact stpC_alone _ _ h0
  · rename_i c
    obtain ⟨p, rfl⟩ : ∃ p, i = p + 1 := ⟨i - 1, by omega⟩
    obtain ⟨e1, e2⟩ := seeS_sides h0 h
    rw [e1, e2]
theorem ahdP_next {a b s : Int} {C : Nat → Cd} {i : Nat} : ahdP a b s C (i + 1) = (seeS a b s C (i + 1)).2 := if_neg (Nat.succ_ne_zero i)
end Go.Proofs.YtjhflcgphejddaaGreatDoor

namespace Go.Proofs.YtjhflcgphejddaaGreatDoor
set_option linter.unusedVariables false
set_option maxRecDepth 100000

/-- The first numbers of a row. -/
def lst (f : Nat → Int) (n : Nat) : List Int := (List.range n).map f
theorem lst_zero (f : Nat → Int) : lst f 0 = [] := rfl
theorem lst_succ (f : Nat → Int) (n : Nat) : lst f (n + 1) = lst f n ++ [f n] := by simp [lst, List.range_succ]
theorem lst_len (f : Nat → Int) (n : Nat) : (lst f n).length = n := by simp [lst]
theorem lst_get {f : Nat → Int} {n i : Nat} (h : i < n) : (lst f n).getD i 0 = f i := by simp [lst, List.getD, h]
theorem lst_congr {f g : Nat → Int} : ∀ {n}, (∀ i, i < n → f i = g i) → lst f n = lst g n := fun {n} h => by
  apply List.map_congr_left
  intro i hi
  exact h i (List.mem_range.1 hi)
theorem lst_self (l : List Int) : lst (fun i => l.getD i 0) l.length = l := by
  apply List.ext_getElem
  · simp [lst]
  · intro i h1 h2
    simp [lst, List.getD, h2]
theorem lst_inj {f g : Nat → Int} {n : Nat} (h : lst f n = lst g n) {i : Nat} (hi : i < n) : f i = g i := by
  have := congrArg (fun l : List Int => l.getD i 0) h
  simpa only [lst_get hi] using this

theorem getD_left {l r : List Int} {i : Nat} (h : i < l.length) : (l ++ r).getD i 0 = l.getD i 0 := by simp [List.getD, List.getElem?_append_left h]
theorem getD_right {l r : List Int} {i : Nat} (h : l.length ≤ i) : (l ++ r).getD i 0 = r.getD (i - l.length) 0 := by simp [List.getD, List.getElem?_append_right h]

/-- What a number is told as. -/
def zz (n : Int) : Nat := if n < 0 then (-2 * n - 1).toNat else (2 * n).toNat
/-- The number that is told as this. -/
def uz (v : Int) : Int := if v % 2 = 1 then -(v / 2) - 1 else v / 2
theorem zz_le {n : Int} (h : -255 ≤ n ∧ n ≤ 255) : zz n ≤ 510 := by unfold zz; split <;> omega
theorem uz_zz (n : Int) : uz (zz n) = n := by unfold uz zz; split <;> split <;> omega
theorem zz_uz {v : Nat} : zz (uz v) = v := by unfold uz zz; split <;> split <;> omega
theorem uz_in {v : Nat} (h : v ≤ 510) : -255 ≤ uz v ∧ uz v ≤ 255 := by unfold uz; split <;> omega

/-- The low bits, the high ones first. -/
def lb (low x i : Nat) : Int := ((x / 2 ^ (low - 1 - i) % 2 : Nat) : Int)
theorem lb_in (low x i : Nat) : lb low x i = 0 ∨ lb low x i = 1 := by unfold lb; omega
theorem lb_step {low x i : Nat} (h : i < low) : lb low x i = ((x % 2 ^ (low - i) / 2 ^ (low - 1 - i) : Nat) : Int) := by
  unfold lb
  have e : low - i = (low - 1 - i) + 1 := by omega
  rw [e, Nat.pow_succ, Nat.mod_mul_right_div_self]
/-- The bits of one. -/
def bitsN (low x : Nat) : List Int := (List.replicate (x / 2 ^ low) 1 ++ [0]) ++ lst (lb low x) low
theorem bitsN_len (low x : Nat) : (bitsN low x).length = x / 2 ^ low + 1 + low := by simp [bitsN, lst_len]; omega
/-- The bits of some. -/
def rowB (low : Nat) (l : List Int) : List Int := l.flatMap fun n => bitsN low (zz n)
theorem rowB_nil (low : Nat) : rowB low [] = [] := rfl
theorem rowB_snoc (low : Nat) (l : List Int) (n : Int) : rowB low (l ++ [n]) = rowB low l ++ bitsN low (zz n) := by simp [rowB]
theorem rowB_succ (low : Nat) (f : Nat → Int) (n : Nat) : rowB low (lst f (n + 1)) = rowB low (lst f n) ++ bitsN low (zz (f n)) := by rw [lst_succ, rowB_snoc]
/-- How many these are. -/
def lenN (low : Nat) (f : Nat → Int) : Nat → Nat
  | 0 => 0
  | n + 1 => lenN low f n + (zz (f n) / 2 ^ low + 1 + low)
theorem lenN_succ (low : Nat) (f : Nat → Int) (n : Nat) : lenN low f (n + 1) = lenN low f n + (zz (f n) / 2 ^ low + 1 + low) := rfl
theorem rowB_len (low : Nat) (f : Nat → Int) : ∀ n, (rowB low (lst f n)).length = lenN low f n
  | 0 => rfl
  | n + 1 => by rw [rowB_succ, List.length_append, rowB_len low f n, bitsN_len]; rfl
theorem lenN_le {low : Nat} {f : Nat → Int} (hl : low ≤ 7) : ∀ {n}, (∀ i, i < n → -255 ≤ f i ∧ f i ≤ 255) → lenN low f n ≤ n * 518
  | 0, _ => Nat.zero_le _
  | n + 1, h => by
    have h1 := lenN_le hl (n := n) (fun i hi => h i (by omega))
    have h2 := zz_le (h n (by omega))
    have h3 := Nat.div_le_self (zz (f n)) (2 ^ low)
    rw [lenN_succ, Nat.succ_mul]
    omega
theorem lenN_ge {low : Nat} {f : Nat → Int} : ∀ n, n ≤ lenN low f n
  | 0 => Nat.zero_le _
  | n + 1 => by have := lenN_ge (low := low) (f := f) n; rw [lenN_succ]; generalize zz (f n) / 2 ^ low = c; omega
theorem lenN_mono {low : Nat} {f : Nat → Int} {n m : Nat} (h : n ≤ m) : lenN low f n ≤ lenN low f m := by
  induction m with
  | zero => have : n = 0 := by omega
            subst this; exact Nat.le_refl _
  | succ m ih =>
    by_cases c : n = m + 1
    · subst c; exact Nat.le_refl _
    · have := ih (by omega); rw [lenN_succ]; generalize zz (f m) / 2 ^ low = c; omega
theorem lenN_zero {low : Nat} : ∀ n, lenN low (fun _ => 0) n = n * (low + 1)
  | 0 => by simp [lenN]
  | n + 1 => by
    have e : zz 0 = 0 := rfl
    rw [lenN_succ, lenN_zero n, Nat.succ_mul]
    simp only [e, Nat.zero_div]
    omega
theorem bits_zero (low : Nat) : ∀ b ∈ bitsN low (zz 0), b = 0 := by
  have e : zz 0 = 0 := rfl
  rw [e]
  intro b hb
  simp only [bitsN, Nat.zero_div, List.replicate_zero, List.nil_append, List.mem_append, List.mem_singleton] at hb
  rcases hb with rfl | hb
  · rfl
  · simp only [lst, List.mem_map] at hb
    obtain ⟨i, _, rfl⟩ := hb
    simp [lb]
theorem rowB_zero (low : Nat) : ∀ n, ∀ b ∈ rowB low (lst (fun _ => 0) n), b = 0
  | 0, b, hb => by cases hb
  | n + 1, b, hb => by
    rw [rowB_succ, List.mem_append] at hb
    rcases hb with hb | hb
    · exact rowB_zero low n b hb
    · exact bits_zero low b hb
theorem bitsN_in {low x : Nat} : ∀ b ∈ bitsN low x, b = 0 ∨ b = 1 := by
  intro b hb
  simp only [bitsN, List.mem_append, List.mem_singleton] at hb
  rcases hb with (hb | rfl) | hb
  · exact Or.inr (List.eq_of_mem_replicate hb)
  · exact Or.inl rfl
  · simp only [lst, List.mem_map] at hb
    obtain ⟨i, _, rfl⟩ := hb
    exact lb_in low x i
theorem rowB_in {low : Nat} {l : List Int} : ∀ b ∈ rowB low l, b = 0 ∨ b = 1 := by
  intro b hb
  simp only [rowB, List.mem_flatMap] at hb
  obtain ⟨n, _, hb⟩ := hb
  exact bitsN_in b hb

/-- How many are no noughts, of so many from here on. -/
def ones (g : Nat → Int) (a : Nat) : Nat → Nat
  | 0 => 0
  | k + 1 => if g a = 0 then 0 else ones g (a + 1) k + 1
theorem ones_le (g : Nat → Int) : ∀ (k a : Nat), ones g a k ≤ k
  | 0, _ => Nat.le_refl _
  | k + 1, a => by
    have := ones_le g k (a + 1)
    simp only [ones]
    split <;> omega
theorem ones_before {g : Nat → Int} : ∀ {k a j : Nat}, j < ones g a k → g (a + j) ≠ 0
  | 0, a, j, h => absurd h (Nat.not_lt_zero _)
  | k + 1, a, j, h => by
    simp only [ones] at h
    split at h
    · omega
    · cases j with
      | zero => assumption
      | succ j =>
        have := ones_before (g := g) (k := k) (a := a + 1) (j := j) (by omega)
        rwa [show a + (j + 1) = a + 1 + j by omega]
theorem ones_at {g : Nat → Int} : ∀ {k a : Nat}, ones g a k < k → g (a + ones g a k) = 0
  | 0, a, h => absurd h (Nat.not_lt_zero _)
  | k + 1, a, h => by
    simp only [ones] at h ⊢
    split
    · assumption
    · rename_i c
      rw [if_neg c] at h
      have := ones_at (g := g) (k := k) (a := a + 1) (by omega)
      rwa [show a + (ones g (a + 1) k + 1) = a + 1 + ones g (a + 1) k by omega]
theorem ones_eq {g : Nat → Int} {k a q : Nat} (h1 : ∀ j, j < q → g (a + j) ≠ 0) (h2 : q < k → g (a + q) = 0) (h3 : q ≤ k) : ones g a k = q := by
  by_cases c : ones g a k = q
  · exact c
  · have hle := ones_le g k a
    rcases Nat.lt_or_ge (ones g a k) q with h | h
    · exact absurd (ones_at (g := g) (k := k) (a := a) (by omega)) (h1 _ h)
    · exact absurd (h2 (by omega)) (ones_before (g := g) (k := k) (a := a) (j := q) (by omega))
/-- A number, and so many bits behind. -/
def valN (g : Nat → Int) (p : Nat) (v : Nat) : Nat → Nat
  | 0 => v
  | k + 1 => 2 * valN g p v k + (g (p + k)).toNat
theorem valN_succ (g : Nat → Int) (p v k : Nat) : valN g p v (k + 1) = 2 * valN g p v k + (g (p + k)).toNat := rfl
theorem valN_lt {g : Nat → Int} {p v : Nat} : ∀ {k}, (∀ i, i < k → g (p + i) = 0 ∨ g (p + i) = 1) → v * 2 ^ k ≤ valN g p v k ∧ valN g p v k < (v + 1) * 2 ^ k
  | 0, _ => by simp [valN]
  | k + 1, h => by
    have h1 := valN_lt (g := g) (p := p) (v := v) (k := k) (fun i hi => h i (by omega))
    have h2 := h k (by omega)
    have e1 : v * 2 ^ (k + 1) = 2 * (v * 2 ^ k) := by rw [Nat.pow_succ, ← Nat.mul_assoc, Nat.mul_comm]
    have e2 : (v + 1) * 2 ^ (k + 1) = 2 * ((v + 1) * 2 ^ k) := by rw [Nat.pow_succ, ← Nat.mul_assoc, Nat.mul_comm]
    rw [valN_succ, e1, e2]
    omega
theorem valN_congr {g h : Nat → Int} {p v : Nat} : ∀ {k}, (∀ i, i < k → g (p + i) = h (p + i)) → valN g p v k = valN h p v k
  | 0, _ => rfl
  | k + 1, e => by rw [valN_succ, valN_succ, valN_congr (k := k) (fun i hi => e i (by omega)), e k (by omega)]
/-- The number that is told from here on: it, and where it ends. -/
def fstN (g : Nat → Int) (m low a : Nat) : Option (Int × Nat) :=
  if a + ones g a (m - a) + 1 + low ≤ m then
    if valN g (a + ones g a (m - a) + 1) (ones g a (m - a)) low ≤ 510 then some (uz (valN g (a + ones g a (m - a) + 1) (ones g a (m - a)) low : Nat), a + ones g a (m - a) + 1 + low) else none
  else none
/-- So many numbers, one behind the other. -/
def stpN (g : Nat → Int) (m low : Nat) : Nat → Option (List Int × Nat)
  | 0 => some ([], 0)
  | i + 1 => (stpN g m low i).bind fun p => (fstN g m low p.2).map fun q => (p.1 ++ [q.1], q.2)
theorem stpN_zero (g : Nat → Int) (m low : Nat) : stpN g m low 0 = some ([], 0) := rfl
theorem stpN_some {g : Nat → Int} {m low i : Nat} {xs : List Int} {a : Nat} {n : Int} {b : Nat} (h : stpN g m low i = some (xs, a)) (h2 : fstN g m low a = some (n, b)) : stpN g m low (i + 1) = some (xs ++ [n], b) := by
  simp [stpN, h, h2]
theorem stpN_none {g : Nat → Int} {m low i : Nat} {xs : List Int} {a : Nat} (h : stpN g m low i = some (xs, a)) (h2 : fstN g m low a = none) : stpN g m low (i + 1) = none := by
  simp [stpN, h, h2]
theorem stpN_past {g : Nat → Int} {m low i : Nat} (h : stpN g m low i = none) : ∀ {j}, i ≤ j → stpN g m low j = none := fun {j} hj => by
  induction j with
  | zero => have : i = 0 := by omega
            subst this; cases h
  | succ j ih =>
    by_cases c : i = j + 1
    · subst c; exact h
    · simp [stpN, ih (by omega)]
theorem fstN_end {g : Nat → Int} {m low a : Nat} {n : Int} {b : Nat} (h : fstN g m low a = some (n, b)) : a + 1 + low ≤ b ∧ b ≤ m ∧ -255 ≤ n ∧ n ≤ 255 := by
  unfold fstN at h
  split at h
  · split at h
    · rename_i h1 h2
      simp only [Option.some.injEq, Prod.mk.injEq] at h
      obtain ⟨rfl, rfl⟩ := h
      have := uz_in h2
      omega
    · cases h
  · cases h
theorem stpN_len {g : Nat → Int} {m low : Nat} : ∀ {i : Nat} {xs : List Int} {a : Nat}, stpN g m low i = some (xs, a) → xs.length = i ∧ a ≤ m ∧ ∀ x ∈ xs, -255 ≤ x ∧ x ≤ 255
  | 0, xs, a, h => by
    simp only [stpN, Option.some.injEq, Prod.mk.injEq] at h
    obtain ⟨rfl, rfl⟩ := h
    exact ⟨rfl, Nat.zero_le _, by simp⟩
  | i + 1, xs, a, h => by
    cases h1 : stpN g m low i with
    | none => simp [stpN, h1] at h
    | some p =>
      obtain ⟨ys, b⟩ := p
      have hi := stpN_len h1
      cases h2 : fstN g m low b with
      | none => simp [stpN, h1, h2] at h
      | some q =>
        obtain ⟨n, c⟩ := q
        rw [stpN_some h1 h2] at h
        simp only [Option.some.injEq, Prod.mk.injEq] at h
        obtain ⟨rfl, rfl⟩ := h
        have hf := fstN_end h2
        refine ⟨by simp [hi.1], hf.2.1, fun x hx => ?_⟩
        rw [List.mem_append, List.mem_singleton] at hx
        rcases hx with hx | rfl
        · exact hi.2.2 x hx
        · exact hf.2.2
/-- The numbers that just these bits tell. -/
def getN (g : Nat → Int) (m low many : Nat) : Option (List Int) := (stpN g m low many).bind fun p => if p.2 = m then some p.1 else none
theorem getN_some {g : Nat → Int} {m low many : Nat} {xs : List Int} (h : getN g m low many = some xs) : stpN g m low many = some (xs, m) := by
  unfold getN at h
  cases h1 : stpN g m low many with
  | none => simp [h1] at h
  | some p =>
    obtain ⟨ys, a⟩ := p
    rw [h1] at h
    by_cases c : a = m
    · subst c
      simp at h
      rw [h]
    · simp [c] at h
theorem getN_of {g : Nat → Int} {m low many : Nat} {xs : List Int} (h : stpN g m low many = some (xs, m)) : getN g m low many = some xs := by simp [getN, h]

/-- Bits that tell one: these are its bits. -/
theorem fstN_bits {g : Nat → Int} {m low a : Nat} {n : Int} {b : Nat} (hg : ∀ i, i < m → g i = 0 ∨ g i = 1) (h : fstN g m low a = some (n, b)) : lst g b = lst g a ++ bitsN low (zz n) := by
  have hb := fstN_end h
  unfold fstN at h
  have h3 : ∀ j, j < ones g a (m - a) → g (a + j) ≠ 0 := fun j hj => ones_before hj
  have h4 : ones g a (m - a) < m - a → g (a + ones g a (m - a)) = 0 := ones_at
  generalize ones g a (m - a) = q at *
  split at h
  · split at h
    · rename_i h1 h2
      simp only [Option.some.injEq, Prod.mk.injEq] at h
      obtain ⟨rfl, rfl⟩ := h
      rw [zz_uz]
      have hv := valN_lt (g := g) (p := a + q + 1) (v := q) (k := low) (fun i hi => hg _ (by omega))
      have hlb : ∀ k, k ≤ low → valN g (a + q + 1) q k = valN g (a + q + 1) q low / 2 ^ (low - k) := by
        intro k hk
        have : ∀ d, d ≤ low → valN g (a + q + 1) q (low - d) = valN g (a + q + 1) q low / 2 ^ d := by
          intro d
          induction d with
          | zero => intro _; simp
          | succ d ih =>
            intro hd
            have hi := ih (by omega)
            rw [Nat.pow_succ, ← Nat.div_div_eq_div_mul, ← hi]
            have e : low - d = (low - (d + 1)) + 1 := by omega
            rw [e, valN_succ]
            have := hg (a + q + 1 + (low - (d + 1))) (by omega)
            omega
        have := this (low - k) (by omega)
        rwa [show low - (low - k) = k by omega] at this
      have hq : valN g (a + q + 1) q low / 2 ^ low = q := by
        have := hlb 0 (Nat.zero_le _)
        simpa [valN] using this.symm
      have hbit : ∀ i, i < low → g (a + q + 1 + i) = lb low (valN g (a + q + 1) q low) i := by
        intro i hi
        have e1 := hlb (i + 1) (by omega)
        rw [valN_succ] at e1
        unfold lb
        rw [show low - 1 - i = low - (i + 1) by omega, ← e1]
        have := hg (a + q + 1 + i) (by omega)
        omega
      generalize valN g (a + q + 1) q low = x at *
      have hone : ∀ j, j < q → g (a + j) = 1 := fun j hj => (hg (a + j) (by omega)).resolve_left (h3 j hj)
      have hnil : g (a + q) = 0 := h4 (by omega)
      apply List.ext_getElem
      · simp [lst_len, bitsN_len, hq]; omega
      · intro i i1 i2
        rw [lst_len] at i1
        simp only [bitsN, hq]
        have el : ∀ (f : Nat → Int) (n i : Nat) (h : i < (lst f n).length), (lst f n)[i] = f i := fun f n i h => by simp [lst]
        rw [el]
        by_cases c1 : i < a
        · rw [List.getElem_append_left (by simpa [lst_len] using c1), el]
        · rw [List.getElem_append_right (by simp [lst_len]; omega)]
          simp only [lst_len]
          by_cases c2 : i < a + q
          · rw [List.getElem_append_left (by simp; omega), List.getElem_append_left (by simp; omega), List.getElem_replicate]
            have := hone (i - a) (by omega)
            rwa [show a + (i - a) = i by omega] at this
          · by_cases c3 : i = a + q
            · subst c3
              rw [List.getElem_append_left (by simp)]
              simp [hnil]
            · rw [List.getElem_append_right (by simp; omega)]
              rw [el]
              simp only [List.length_append, List.length_replicate, List.length_singleton]
              have := hbit (i - a - (q + 1)) (by omega)
              rwa [show a + q + 1 + (i - a - (q + 1)) = i by omega] at this
    · cases h
  · cases h
theorem stpN_bits {g : Nat → Int} {m low : Nat} (hg : ∀ i, i < m → g i = 0 ∨ g i = 1) : ∀ {i : Nat} {xs : List Int} {a : Nat}, stpN g m low i = some (xs, a) → rowB low xs = lst g a
  | 0, xs, a, h => by
    simp only [stpN, Option.some.injEq, Prod.mk.injEq] at h
    obtain ⟨rfl, rfl⟩ := h
    rfl
  | i + 1, xs, a, h => by
    cases h1 : stpN g m low i with
    | none => simp [stpN, h1] at h
    | some p =>
      obtain ⟨ys, b⟩ := p
      cases h2 : fstN g m low b with
      | none => simp [stpN, h1, h2] at h
      | some q =>
        obtain ⟨n, c⟩ := q
        rw [stpN_some h1 h2] at h
        simp only [Option.some.injEq, Prod.mk.injEq] at h
        obtain ⟨rfl, rfl⟩ := h
        rw [rowB_snoc, stpN_bits hg h1, fstN_bits hg h2]
/-- GOT, AND PUT. -/
theorem getN_put {g : Nat → Int} {m low many : Nat} {xs : List Int} (hg : ∀ i, i < m → g i = 0 ∨ g i = 1) (h : getN g m low many = some xs) : rowB low xs = lst g m ∧ xs.length = many ∧ ∀ x ∈ xs, -255 ≤ x ∧ x ≤ 255 := by
  have h1 := getN_some h
  exact ⟨stpN_bits hg h1, (stpN_len h1).1, (stpN_len h1).2.2⟩

theorem bitsN_one {low x j : Nat} (h : j < x / 2 ^ low) : (bitsN low x).getD j 0 = 1 := by
  simp only [bitsN, List.append_assoc]
  rw [getD_left (by simpa using h)]
  simp [List.getD, h]
theorem bitsN_nil {low x : Nat} : (bitsN low x).getD (x / 2 ^ low) 0 = 0 := by
  simp only [bitsN, List.append_assoc]
  rw [getD_right (by simp)]
  simp [List.getD]
theorem bitsN_low {low x i : Nat} (h : i < low) : (bitsN low x).getD (x / 2 ^ low + 1 + i) 0 = lb low x i := by
  simp only [bitsN]
  rw [getD_right (by simp)]
  simp only [List.length_append, List.length_replicate, List.length_singleton]
  rw [show x / 2 ^ low + 1 + i - (x / 2 ^ low + 1) = i by omega, lst_get h]
theorem valN_bits {g : Nat → Int} {p low x : Nat} (hb : ∀ i, i < low → g (p + i) = lb low x i) : valN g p (x / 2 ^ low) low = x := by
  have : ∀ k, k ≤ low → valN g p (x / 2 ^ low) k = x / 2 ^ (low - k) := by
    intro k
    induction k with
    | zero => intro _; rfl
    | succ k ih =>
      intro hk
      rw [valN_succ, ih (by omega), hb k (by omega)]
      unfold lb
      have e : low - k = (low - (k + 1)) + 1 := by omega
      rw [e, Nat.pow_succ, ← Nat.div_div_eq_div_mul, show low - 1 - k = low - (k + 1) by omega]
      omega
  simpa using this low (Nat.le_refl _)
/-- A number's own bits, from here on, tell it. -/
theorem fstN_of {g : Nat → Int} {m low a x : Nat} (hx : x ≤ 510) (hm : a + (bitsN low x).length ≤ m) (hb : ∀ j, j < (bitsN low x).length → g (a + j) = (bitsN low x).getD j 0) : fstN g m low a = some (uz x, a + (bitsN low x).length) := by
  rw [bitsN_len] at *
  have hq : ones g a (m - a) = x / 2 ^ low := ones_eq (fun j hj => by rw [hb j (by omega), bitsN_one hj]; decide) (fun _ => by rw [hb _ (by omega), bitsN_nil]) (by omega)
  have hv : valN g (a + x / 2 ^ low + 1) (x / 2 ^ low) low = x := valN_bits fun i hi => by
    have := hb (x / 2 ^ low + 1 + i) (by omega)
    rw [bitsN_low hi] at this
    rw [← this]; congr 1; omega
  unfold fstN
  rw [hq, hv, if_pos (by omega), if_pos hx, Nat.add_assoc, Nat.add_assoc, Nat.add_assoc]
/-- PUT, AND GOT. -/
theorem stpN_row {low : Nat} {f g : Nat → Int} {n m : Nat} (hf : ∀ i, i < n → -255 ≤ f i ∧ f i ≤ 255) (hg : lst g m = rowB low (lst f n)) : ∀ i, i ≤ n → stpN g m low i = some (lst f i, lenN low f i)
  | 0, _ => rfl
  | i + 1, hi => by
    have hm : m = lenN low f n := by have := congrArg List.length hg; rwa [lst_len, rowB_len] at this
    have hle : lenN low f (i + 1) ≤ lenN low f n := lenN_mono hi
    have hpre : ∀ k, k ≤ n → ∃ t, rowB low (lst f n) = rowB low (lst f k) ++ t := by
      intro k hk
      have : ∀ d, k + d ≤ n → ∃ t, rowB low (lst f (k + d)) = rowB low (lst f k) ++ t := by
        intro d
        induction d with
        | zero => intro _; exact ⟨[], by simp⟩
        | succ d ih =>
          intro hd
          obtain ⟨t, ht⟩ := ih (by omega)
          exact ⟨t ++ bitsN low (zz (f (k + d))), by rw [show k + (d + 1) = (k + d) + 1 by omega, rowB_succ, ht, List.append_assoc]⟩
      have := this (n - k) (by omega)
      rwa [show k + (n - k) = n by omega] at this
    obtain ⟨t, ht⟩ := hpre (i + 1) hi
    rw [rowB_succ] at ht
    have h1 := stpN_row hf hg i (by omega)
    have hz := zz_le (hf i (by omega))
    rw [lenN_succ] at hle
    have h2 : fstN g m low (lenN low f i) = some (uz (zz (f i)), lenN low f i + (bitsN low (zz (f i))).length) := fstN_of hz (by rw [bitsN_len]; omega) fun j hj => by
      have hj' := hj
      rw [bitsN_len] at hj'
      have e : g (lenN low f i + j) = (lst g m).getD (lenN low f i + j) 0 := by rw [lst_get (by omega)]
      rw [e, hg, ht, List.append_assoc, getD_right (by rw [rowB_len]; omega), rowB_len, getD_left (by rw [show lenN low f i + j - lenN low f i = j by omega]; exact hj)]
      congr 1
      omega
    have h3 := stpN_some h1 h2
    rw [uz_zz, bitsN_len, ← lst_succ] at h3
    exact h3
theorem getN_row {low : Nat} {f g : Nat → Int} {n m : Nat} (hf : ∀ i, i < n → -255 ≤ f i ∧ f i ≤ 255) (hg : lst g m = rowB low (lst f n)) : getN g m low n = some (lst f n) := by
  have hm : m = lenN low f n := by have := congrArg List.length hg; rwa [lst_len, rowB_len] at this
  have := stpN_row hf hg n (Nat.le_refl _)
  rw [← hm] at this
  exact getN_of this
/-- What fewer bits tell, more tell too. -/
theorem fstN_more {g : Nat → Int} {m m' low a : Nat} (hm : m ≤ m') {p : Int × Nat} (h : fstN g m low a = some p) : fstN g m' low a = some p := by
  have hq : a + ones g a (m - a) + 1 + low ≤ m → ones g a (m' - a) = ones g a (m - a) := fun h => ones_eq (fun j hj => ones_before hj) (fun _ => ones_at (by omega)) (by omega)
  unfold fstN at h ⊢
  by_cases c : a + ones g a (m - a) + 1 + low ≤ m
  · rw [hq c]
    rw [if_pos c] at h
    rw [if_pos (by omega)]
    exact h
  · rw [if_neg c] at h; cases h
theorem stpN_more {g : Nat → Int} {m m' low : Nat} (hm : m ≤ m') : ∀ {i : Nat} {p : List Int × Nat}, stpN g m low i = some p → stpN g m' low i = some p
  | 0, p, h => h
  | i + 1, p, h => by
    cases h1 : stpN g m low i with
    | none => simp [stpN, h1] at h
    | some q =>
      obtain ⟨ys, b⟩ := q
      cases h2 : fstN g m low b with
      | none => simp [stpN, h1, h2] at h
      | some r =>
        obtain ⟨n, c⟩ := r
        rw [stpN_some h1 h2] at h
        rw [stpN_some (stpN_more hm h1) (fstN_more hm h2)]
        exact h
/-- With one bit less they are none. -/
theorem getN_less {low : Nat} {f g : Nat → Int} {n m m' : Nat} (hf : ∀ i, i < n → -255 ≤ f i ∧ f i ≤ 255) (hg : lst g m = rowB low (lst f n)) (h : m' < m) : getN g m' low n = none := by
  cases h1 : getN g m' low n with
  | none => rfl
  | some xs =>
    have h2 := stpN_more (Nat.le_of_lt h) (getN_some h1)
    have h3 := getN_some (getN_row hf hg)
    rw [h3] at h2
    simp only [Option.some.injEq, Prod.mk.injEq] at h2
    omega

/-- The best low. -/
def bestL (f : Nat → Int) (n : Nat) : Nat := bestI (fun low => lenN low f n) 8
theorem bestL_lt (f : Nat → Int) (n : Nat) : bestL f n ≤ 7 := by have := bestI_lt' (D := fun low => lenN low f n) (n := 8) (by omega); unfold bestL; omega
theorem bestL_le {f : Nat → Int} {n low : Nat} (h : low ≤ 7) : lenN (bestL f n) f n ≤ lenN low f n := bestI_le (D := fun low => lenN low f n) (n := 8) (k := low) (by omega)
theorem bestL_zero (n : Nat) : bestL (fun _ => 0) n = 0 := bestI_none (D := fun low => lenN low (fun _ => 0) n) (fun i => by
  show lenN 0 _ n ≤ lenN i _ n
  rw [lenN_zero, lenN_zero]
  exact Nat.mul_le_mul (Nat.le_refl _) (by omega)) 8
end Go.Proofs.YtjhflcgphejddaaGreatDoor

namespace Go.Proofs.YtjhflcgphejddaaGreatDoor
set_option linter.unusedVariables false
set_option maxRecDepth 100000

/-- A coded picture of k rests that may be. -/
structure CdOk (k : Nat) (c : Cd) : Prop where
  al : c.al = true → c.x = 0 ∧ c.y = 0
  x : -1 ≤ c.x ∧ c.x ≤ 1
  y : -1 ≤ c.y ∧ c.y ≤ 1
  n : c.n = k
  f : ∀ i, i < k → -255 ≤ c.f i ∧ c.f i ≤ 255
/-- What is ahead of the rests; a coded picture; some. -/
def hdB (c : Cd) : List Int := if c.al = true then [1] else [0, (c.x + 1) / 2, (c.x + 1) % 2, (c.y + 1) / 2, (c.y + 1) % 2]
def codB (c : Cd) : List Int := hdB c ++ rowB 2 (lst c.f c.n)
def flmB (C : Nat → Cd) : Nat → List Int
  | 0 => []
  | i + 1 => flmB C i ++ codB (C i)
theorem flmB_step (C : Nat → Cd) (i : Nat) : flmB C (i + 1) = flmB C i ++ codB (C i) := rfl
theorem hdB_in {k : Nat} {c : Cd} (o : CdOk k c) : ∀ b ∈ hdB c, b = 0 ∨ b = 1 := by
  intro b hb
  have hx := o.x
  have hy := o.y
  unfold hdB at hb
  split at hb
  · simp at hb; right; exact hb
  · simp at hb
    rcases hb with rfl | rfl | rfl | rfl | rfl <;> omega
theorem codB_in {k : Nat} {c : Cd} (o : CdOk k c) : ∀ b ∈ codB c, b = 0 ∨ b = 1 := by
  intro b hb
  rcases List.mem_append.1 hb with h | h
  · exact hdB_in o b h
  · exact rowB_in b h
theorem flmB_in {k : Nat} {C : Nat → Cd} : ∀ {N}, (∀ i, i < N → CdOk k (C i)) → ∀ b ∈ flmB C N, b = 0 ∨ b = 1
  | 0, _, b, hb => by simp [flmB] at hb
  | N + 1, h, b, hb => by
    rcases List.mem_append.1 hb with h1 | h1
    · exact flmB_in (fun i hi => h i (by omega)) b h1
    · exact codB_in (h N (by omega)) b h1
theorem hdB_len (c : Cd) : (hdB c).length = if c.al = true then 1 else 5 := by unfold hdB; split <;> rfl
theorem codB_len {k : Nat} {c : Cd} (o : CdOk k c) (hk : k ≤ 36) : (codB c).length ≤ 18653 := by
  have h := lenN_le (low := 2) (f := c.f) (by omega) (n := c.n) (fun i hi => o.f i (by rw [← o.n]; exact hi))
  have hn := o.n
  unfold codB
  rw [List.length_append, rowB_len, hdB_len]
  split <;> omega
theorem flmB_len {k : Nat} {C : Nat → Cd} (hk : k ≤ 36) : ∀ {N}, (∀ i, i < N → CdOk k (C i)) → (flmB C N).length ≤ N * 18653
  | 0, _ => by simp [flmB]
  | N + 1, h => by
    rw [flmB_step, List.length_append, Nat.succ_mul]
    have h1 := flmB_len hk (N := N) (fun i hi => h i (by omega))
    have h2 := codB_len (h N (by omega)) hk
    omega

/-- The byte at a place, of bits; how many bytes they want. -/
def octN (L : List Int) (i : Nat) : Nat := valN (fun j => L.getD j 0) (8 * i) 0 8
def octs (L : List Int) : Nat := (L.length + 7) / 8
theorem bits_getD {L : List Int} (h : ∀ b ∈ L, b = 0 ∨ b = 1) (i : Nat) : L.getD i 0 = 0 ∨ L.getD i 0 = 1 := by
  by_cases c : i < L.length
  · have e : L.getD i 0 = L[i] := by simp [List.getD, List.getElem?_eq_getElem c]
    rw [e]; exact h _ (List.getElem_mem c)
  · left; simp [List.getD, List.getElem?_eq_none (Nat.le_of_not_lt c)]
theorem octN_lt {L : List Int} (h : ∀ b ∈ L, b = 0 ∨ b = 1) (i : Nat) : octN L i < 256 := by
  have := (valN_lt (g := fun j => L.getD j 0) (p := 8 * i) (v := 0) (k := 8) (fun j _ => bits_getD h _)).2
  simpa [octN] using this
/-- A bit of a byte. -/
def bitU (n k : Nat) : Int := ((n / 2 ^ (7 - k) % 2 : Nat) : Int)
theorem bitU_in (n k : Nat) : bitU n k = 0 ∨ bitU n k = 1 := by unfold bitU; omega
/-- The bits of some bytes. -/
def unO (o : Nat → Nat) (j : Nat) : Int := bitU (o (j / 8)) (j % 8)
theorem unO_in (o : Nat → Nat) (j : Nat) : unO o j = 0 ∨ unO o j = 1 := bitU_in _ _
theorem valN_split {g : Nat → Int} {p : Nat} : ∀ {k : Nat}, (∀ i, i < k → g (p + i) = 0 ∨ g (p + i) = 1) → ∀ i, i < k → ((valN g p 0 k / 2 ^ (k - 1 - i) % 2 : Nat) : Int) = g (p + i)
  | 0, _, i, hi => absurd hi (Nat.not_lt_zero _)
  | k + 1, h, i, hi => by
    rw [valN_succ]
    have hb := h k (by omega)
    by_cases c : i = k
    · subst c
      rw [show i + 1 - 1 - i = 0 by omega, Nat.pow_zero, Nat.div_one]
      omega
    · have ih := valN_split (k := k) (fun j hj => h j (by omega)) i (by omega)
      rw [← ih]
      have e : k + 1 - 1 - i = (k - 1 - i) + 1 := by omega
      rw [e, Nat.pow_succ, Nat.mul_comm (2 ^ (k - 1 - i)) 2, ← Nat.div_div_eq_div_mul]
      have e2 : (2 * valN g p 0 k + (g (p + k)).toNat) / 2 = valN g p 0 k := by omega
      rw [e2]
theorem unO_octN {L : List Int} (h : ∀ b ∈ L, b = 0 ∨ b = 1) (j : Nat) : unO (octN L) j = L.getD j 0 := by
  unfold unO bitU octN
  have h9 := valN_split (g := fun j => L.getD j 0) (p := 8 * (j / 8)) (k := 8) (fun i _ => bits_getD h _) (j % 8) (Nat.mod_lt _ (by decide))
  rw [show 8 - 1 - j % 8 = 7 - j % 8 by omega] at h9
  rw [h9]
  show L.getD (8 * (j / 8) + j % 8) 0 = _
  rw [Nat.div_add_mod]

/-! How a film is read: bit by bit, from a place on, of m bits. -/
/-- Some rests from a place on. -/
def rsP (g : Nat → Int) (m a : Nat) : Nat → Option (List Int × Nat)
  | 0 => some ([], a)
  | i + 1 => (rsP g m a i).bind fun p => (fstN g m 2 p.2).map fun q => (p.1 ++ [q.1], q.2)
/-- What is ahead of the rests. -/
def hdP (g : Nat → Int) (m a : Nat) : Option (Bool × Int × Int × Nat) :=
  if a < m then (if g a = 1 then some (true, 0, 0, a + 1) else if a + 5 ≤ m then some (false, 2 * g (a + 1) + g (a + 2) - 1, 2 * g (a + 3) + g (a + 4) - 1, a + 5) else none) else none
/-- A coded picture of k rests. -/
def cdP (g : Nat → Int) (m k a : Nat) : Option (Cd × Nat) :=
  (hdP g m a).bind fun h => (rsP g m h.2.2.2 k).map fun r => (⟨h.1, h.2.1, h.2.2.1, k, fun i => r.1.getD i 0⟩, r.2)
/-- Some of them, one behind the other. -/
def flP (g : Nat → Int) (m k : Nat) : Nat → Option (List Cd × Nat)
  | 0 => some ([], 0)
  | i + 1 => (flP g m k i).bind fun p => (cdP g m k p.2).map fun q => (p.1 ++ [q.1], q.2)
theorem rsP_len {g : Nat → Int} {m a : Nat} : ∀ {i : Nat} {xs : List Int} {b : Nat}, rsP g m a i = some (xs, b) → xs.length = i
  | 0, xs, b, h => by simp [rsP] at h; rw [h.1]; rfl
  | i + 1, xs, b, h => by
    unfold rsP at h
    obtain ⟨p, hp, h2⟩ := Option.bind_eq_some_iff.1 h
    obtain ⟨q, hq, h3⟩ := Option.map_eq_some_iff.1 h2
    cases h3
    rw [List.length_append, rsP_len (show rsP g m a i = some (p.1, p.2) from hp)]
    rfl
theorem flP_len {g : Nat → Int} {m k : Nat} : ∀ {i : Nat} {l : List Cd} {b : Nat}, flP g m k i = some (l, b) → l.length = i
  | 0, xs, b, h => by simp [flP] at h; rw [h.1]; rfl
  | i + 1, xs, b, h => by
    unfold flP at h
    obtain ⟨p, hp, h2⟩ := Option.bind_eq_some_iff.1 h
    obtain ⟨q, hq, h3⟩ := Option.map_eq_some_iff.1 h2
    cases h3
    rw [List.length_append, flP_len (show flP g m k i = some (p.1, p.2) from hp)]
    rfl
theorem flP_past {g : Nat → Int} {m k i : Nat} (h : flP g m k i = none) : ∀ {j}, i ≤ j → flP g m k j = none := fun {j} hj => by
  induction j with
  | zero => have : i = 0 := by omega
            subst this; exact h
  | succ j ih =>
    by_cases c : i = j + 1
    · subst c; exact h
    · show (flP g m k j).bind _ = none
      rw [ih (by omega)]; rfl
/-- Bits that lie from a place on are read. -/
theorem rsP_of {g : Nat → Int} {m a : Nat} {f : Nat → Int} : ∀ {k : Nat}, (∀ i, i < k → -255 ≤ f i ∧ f i ≤ 255) → a + (rowB 2 (lst f k)).length ≤ m → (∀ j, j < (rowB 2 (lst f k)).length → g (a + j) = (rowB 2 (lst f k)).getD j 0) → rsP g m a k = some (lst f k, a + (rowB 2 (lst f k)).length)
  | 0, _, _, _ => rfl
  | k + 1, hf, hm, hg => by
    rw [rowB_succ] at hm hg ⊢
    rw [List.length_append] at hm hg ⊢
    have ih := rsP_of (g := g) (m := m) (a := a) (f := f) (k := k) (fun i hi => hf i (by omega)) (by omega) (fun j hj => by rw [hg j (by omega), getD_left hj])
    unfold rsP
    rw [ih]
    have hfk := hf k (by omega)
    have hz := zz_le hfk
    have h1 : fstN g m 2 (a + (rowB 2 (lst f k)).length) = some (uz (zz (f k)), a + (rowB 2 (lst f k)).length + (bitsN 2 (zz (f k))).length) := by
      refine fstN_of hz (by omega) (fun j hj => ?_)
      rw [Nat.add_assoc, hg _ (by omega), getD_right (by omega)]
      congr 1
      omega
    show (Option.map _ _) = _
    rw [h1, uz_zz]
    simp [lst_succ, Nat.add_assoc]
theorem cdP_of {g : Nat → Int} {m k a : Nat} {c : Cd} (o : CdOk k c) (hm : a + (codB c).length ≤ m) (hg : ∀ j, j < (codB c).length → g (a + j) = (codB c).getD j 0) :
    cdP g m k a = some (⟨c.al, c.x, c.y, k, fun i => (lst c.f k).getD i 0⟩, a + (codB c).length) := by
  have hx := o.x
  have hy := o.y
  have hn := o.n
  unfold codB at hm hg ⊢
  rw [List.length_append] at hm hg ⊢
  have hh : hdP g m a = some (c.al, c.x, c.y, a + (hdB c).length) := by
    unfold hdP
    have hl := hdB_len c
    cases hal : c.al with
    | true =>
      obtain ⟨e1, e2⟩ := o.al hal
      rw [hal, if_pos rfl] at hl
      have h0 : g a = 1 := by
        have h9 := hg 0 (by omega)
        rw [Nat.add_zero, getD_left (by omega)] at h9
        rw [h9]; unfold hdB; rw [if_pos hal]; rfl
      rw [if_pos (by omega), if_pos h0, e1, e2, hl]
    | false =>
      rw [hal, if_neg (by simp)] at hl
      have hb : ∀ j, j < 5 → g (a + j) = [0, (c.x + 1) / 2, (c.x + 1) % 2, (c.y + 1) / 2, (c.y + 1) % 2].getD j 0 := fun j hj => by
        rw [hg j (by omega), getD_left (by omega)]
        unfold hdB; rw [if_neg (by rw [hal]; simp)]
      have h0 := hb 0 (by omega)
      have h1 := hb 1 (by omega)
      have h2 := hb 2 (by omega)
      have h3 := hb 3 (by omega)
      have h4 := hb 4 (by omega)
      simp at h0 h1 h2 h3 h4
      rw [if_pos (by omega), if_neg (by omega), if_pos (by omega), hl, h1, h2, h3, h4]
      congr 1
      simp
      omega
  unfold cdP
  rw [hh]
  have hr := rsP_of (g := g) (m := m) (a := a + (hdB c).length) (f := c.f) (k := k) o.f (by rw [hn] at hm; omega) (fun j hj => by
    rw [Nat.add_assoc, hg _ (by rw [hn]; omega), getD_right (by omega), hn]
    congr 1
    omega)
  show Option.map _ (rsP g m (a + (hdB c).length) k) = _
  rw [hr, hn]
  simp [Nat.add_assoc]
/-- A coded picture as it is read. -/
def cutC (k : Nat) (c : Cd) : Cd := ⟨c.al, c.x, c.y, k, fun i => (lst c.f k).getD i 0⟩
theorem flP_of {g : Nat → Int} {m k : Nat} {C : Nat → Cd} : ∀ {N : Nat}, (∀ i, i < N → CdOk k (C i)) → (flmB C N).length ≤ m → (∀ j, j < (flmB C N).length → g j = (flmB C N).getD j 0) → flP g m k N = some ((List.range N).map fun i => cutC k (C i), (flmB C N).length)
  | 0, _, _, _ => rfl
  | N + 1, h, hm, hg => by
    rw [flmB_step] at hm hg ⊢
    rw [List.length_append] at hm hg ⊢
    have ih := flP_of (g := g) (m := m) (k := k) (C := C) (N := N) (fun i hi => h i (by omega)) (by omega) (fun j hj => by rw [hg j (by omega), getD_left hj])
    unfold flP
    rw [ih]
    have h1 := cdP_of (g := g) (m := m) (k := k) (a := (flmB C N).length) (c := C N) (h N (by omega)) hm (fun j hj => by
      rw [hg _ (by omega), getD_right (by omega)]
      congr 1
      omega)
    show (Option.map _ _) = _
    rw [h1]
    simp [List.range_succ, cutC]
end Go.Proofs.YtjhflcgphejddaaGreatDoor

namespace Go.Proofs.YtjhflcgphejddaaGreatDoor
open Go.RowKit
set_option linter.unusedVariables false
set_option maxRecDepth 100000

/-- Byte i of a string. -/
def atB (s : ByteArray) (i : Nat) : UInt8 := s.data.toList.getD i 0
/-- A block whose first n cells are the bytes f 0, f 1, .., none of them frozen. -/
def BRow (w : World) (b n : Nat) (f : Nat → UInt8) : Prop :=
  ∀ i, i < n → w.cell? ⟨b, i, none⟩ = some (.int .u8 ((f i).toNat : Int)) ∧ w.frozen? ⟨b, i, none⟩ = false
theorem BRow.congr {w : World} {b n : Nat} {f g : Nat → UInt8} (h : BRow w b n f) (e : ∀ i, i < n → f i = g i) : BRow w b n g := fun i hi => by rw [← e i hi]; exact h i hi
theorem BRow.set {w : World} {b n : Nat} {f : Nat → UInt8} (h : BRow w b n f) (j : Nat) (v : UInt8) : BRow (w.setCell ⟨b, j, none⟩ (.int .u8 (v.toNat : Int))) b n (fun i => if i = j then v else f i) := fun i hi => by
  refine ⟨?_, by rw [World.frozen?_setCell]; exact (h i hi).2⟩
  have hc := (h i hi).1
  by_cases e : i = j
  · subst e
    rw [World.cell?_setCell_same _ _ _ hc]; simp
  · rw [World.cell?_setCell_other _ _ _ _ (fun h => e (by cases h; rfl))]; simp only [if_neg e]; exact hc
theorem atB_eq (s : ByteArray) (i : Nat) (h : i < s.size) : atB s i = s[i] := by
  have h' : i < s.data.size := h
  simp only [atB, List.getD, Array.getElem?_toList, Array.getElem?_eq_getElem h']
  rfl
theorem xor_bits (a b : UInt8) : bits .xor .u8 (a.toNat : Int) (b.toNat : Int) = ((a ^^^ b).toNat : Int) := by
  have ha := a.toNat_lt
  have hb := b.toNat_lt
  rw [u8_xor_nat _ _ (by omega) (by omega), UInt8.toNat_xor]
end Go.Proofs.YtjhflcgphejddaaGreatDoor

namespace Go.Proofs.YtjhflcgphejddaaGreatDoor
open Go.RowKit
set_option linter.unusedVariables false
set_option maxRecDepth 100000

/-- The bytes f 0, .., f (n-1) as a string. -/
def bytesB (n : Nat) (f : Nat → UInt8) : ByteArray := ⟨((List.range n).map f).toArray⟩
theorem bytesB_size (n : Nat) (f : Nat → UInt8) : (bytesB n f).size = n := by rw [Lib.size_eq, bytesB, List.toList_toArray]; simp
theorem bytesB_at (n : Nat) (f : Nat → UInt8) (i : Nat) (h : i < n) : atB (bytesB n f) i = f i := by simp [atB, bytesB, List.getD, h]
theorem bytes_ext {a b : ByteArray} (hs : a.size = b.size) (h : ∀ i, i < a.size → atB a i = atB b i) : a = b := by
  apply ByteArray.ext
  rw [← Array.toList_inj]
  rw [Lib.size_eq, Lib.size_eq] at hs
  apply List.ext_getElem hs
  intro i h1 h2
  have := h i (by rw [Lib.size_eq]; exact h1)
  simpa [atB, List.getD, List.getElem?_eq_getElem h1, List.getElem?_eq_getElem h2] using this
theorem bytesB_eq (a : ByteArray) (n : Nat) (f : Nat → UInt8) (hs : a.size = n) (h : ∀ i, i < n → f i = atB a i) : bytesB n f = a :=
  bytes_ext (by rw [bytesB_size, hs]) (fun i hi => by rw [bytesB_size] at hi; rw [bytesB_at _ _ _ hi, h i hi])
theorem bytesB_congr {n : Nat} {f g : Nat → UInt8} (h : ∀ i, i < n → f i = g i) : bytesB n f = bytesB n g :=
  bytes_ext (by rw [bytesB_size, bytesB_size]) (fun i hi => by rw [bytesB_size] at hi; rw [bytesB_at _ _ _ hi, bytesB_at _ _ _ hi, h i hi])
/-- One over the other. -/
def xorB (a b : ByteArray) : ByteArray := bytesB a.size (fun i => atB a i ^^^ atB b i)
theorem xorB_size (a b : ByteArray) : (xorB a b).size = a.size := bytesB_size _ _
theorem xorB_at (a b : ByteArray) (i : Nat) (h : i < a.size) : atB (xorB a b) i = atB a i ^^^ atB b i := bytesB_at _ _ _ h
/-- 'string(row)'. -/
theorem back_row {w : World} {b n cap : Nat} {f : Nat → UInt8} (h : BRow w b n f) :
    (convert 74 9 (.slice (some ⟨b, 0, none⟩) n cap)).run Tryz.prog w = .ok (.string (bytesB n f)) w := by
  have hl : ((List.range n).map f).length = n := by simp
  have h1 := run_convert_bytes_back (P := Tryz.prog) w 74 9 5 ⟨b, 0, none⟩ cap ((List.range n).map f) Tryz.underlying74 Tryz.underlying5 Tryz.underlying9
    (fun j hj => by
      rw [hl] at hj
      have := (h j hj).1
      have e : (Addr.mk b 0 none).add j = ⟨b, j, none⟩ := by simp [Addr.add]; intro h; rw [h]
      rw [e]; simpa using this)
  rw [hl] at h1
  exact h1
/-- '[]byte(s)' as a row. -/
theorem row_new (w : World) (s : ByteArray) (c t : Nat) : BRow (w.drew.alloc (.cells (bytesRow s c) t ((bytesRow s c).size, (bytesRow s c).size + 1))) w.heap.size s.size (atB s) := fun i hi => by
  have hi' : i < s.data.size := hi
  have e : w.heap.size = w.drew.heap.size := rfl
  rw [e, World.cell?_alloc_mark, World.frozen?_alloc_mark, bytesRow_at _ _ _ hi', atB_eq s i hi]
  refine ⟨rfl, ?_⟩
  have : i < (bytesRow s c).size := by simp [bytesRow]; omega
  simp [Nat.not_le.2 this]
end Go.Proofs.YtjhflcgphejddaaGreatDoor

namespace Go.Proofs.YtjhflcgphejddaaGreatDoor
set_option linter.unusedVariables false
set_option maxRecDepth 100000

/-- What is right of a coded film. -/
structure SeeOk (a b s : Int) (N : Nat) (C : Nat → Cd) (A B : Nat) : Prop where
  one : 1 ≤ N
  six : N ≤ 6
  wide : a = (A : Int)
  high : b = (B : Int)
  w1 : 1 ≤ A
  w6 : A ≤ 6
  h1 : 1 ≤ B
  h6 : B ≤ 6
  s1 : 1 ≤ s
  s2 : s ≤ 64
  each : ∀ i, i < N → CdOk (A * B) (C i)
theorem SeeOk.le {a b s : Int} {N : Nat} {C : Nat → Cd} {A B : Nat} (o : SeeOk a b s N C A B) : A * B ≤ 36 := by
  have := Nat.mul_le_mul o.w6 o.h6
  omega
theorem SeeOk.pos {a b s : Int} {N : Nat} {C : Nat → Cd} {A B : Nat} (o : SeeOk a b s N C A B) : 1 ≤ A * B := by
  have := Nat.mul_le_mul o.w1 o.h1
  omega
theorem stpC_ok {a b s : Int} {c : Cd} {p : Pc} {A B : Nat} (ha : a = (A : Int)) (hb : b = (B : Int)) (h : (stpC a b s c p).1 = 0) (hp : c.al = false → p.a = a ∧ p.b = b) : CdOk (A * B) c := by
  unfold stpC at h
  split at h
  · rename_i c1
    split at h
    · cases h
    · rename_i c2
      have hx : c.x = 0 := by
        by_cases e : c.x = 0
        · exact e
        · exact absurd (Or.inl e) c2
      have hy : c.y = 0 := by
        by_cases e : c.y = 0
        · exact e
        · exact absurd (Or.inr e) c2
      obtain ⟨A', B', o⟩ := decF_zero.1 h
      have e1 : A' = A := by have := o.wide; omega
      have e2 : B' = B := by have := o.high; omega
      subst e1 e2
      exact ⟨fun _ => ⟨hx, hy⟩, by omega, by omega, o.many, fun i hi => o.rest i (by rw [o.many]; exact hi)⟩
  · rename_i c1
    have hal : c.al = false := by cases hc : c.al <;> simp_all
    obtain ⟨ea, eb⟩ := hp hal
    obtain ⟨hpf, _, hchk⟩ := mdeF_zero.1 h
    obtain ⟨_, hm, hn, hr⟩ := chkF_zero.1 hchk
    obtain ⟨A', B', o⟩ := picF_zero.1 hpf
    have e1 : A' = A := by have := o.wide; omega
    have e2 : B' = B := by have := o.high; omega
    subst e1 e2
    have hnn : c.n = A' * B' := by have := o.many; omega
    refine ⟨fun h9 => (by rw [hal] at h9; cases h9), ⟨hm.1, hm.2.1⟩, ⟨hm.2.2.1, hm.2.2.2⟩, hnn, fun i hi => hr i (by omega)⟩
theorem see_ok {a b s : Int} {N : Nat} {C : Nat → Cd} (h : seeF a b s N C = 0) : ∃ A B, SeeOk a b s N C A B := by
  unfold seeF at h
  split at h
  · cases h
  · rename_i c1
    split at h
    · cases h
    · rename_i c2
      split at h
      · cases h
      · rename_i c3
        split at h
        · cases h
        · rename_i c4
          have hal : (C 0).al = true := by cases hc : (C 0).al <;> simp_all
          have hsd : 1 ≤ a ∧ a ≤ 6 ∧ 1 ≤ b ∧ b ≤ 6 ∧ 1 ≤ s ∧ s ≤ 64 := by
            unfold sidF at c3
            split at c3
            · rename_i q; exact q
            · simp at c3
          obtain ⟨A, rfl⟩ := Int.eq_ofNat_of_zero_le (show 0 ≤ a by omega)
          obtain ⟨B, rfl⟩ := Int.eq_ofNat_of_zero_le (show 0 ≤ b by omega)
          refine ⟨A, B, by omega, by omega, rfl, rfl, by omega, by omega, by omega, by omega, by omega, by omega, fun i hi => ?_⟩
          have hi0 := seeS_back h (show i ≤ N by omega)
          have hi1 := seeS_back h (show i + 1 ≤ N by omega)
          rw [seeS_step hi0] at hi1
          refine stpC_ok rfl rfl hi1 (fun hf => ?_)
          obtain ⟨p, rfl⟩ : ∃ p, i = p + 1 := ⟨i - 1, by
            have : i ≠ 0 := fun e => by rw [e, hal] at hf; cases hf
            omega⟩
          exact seeS_sides hal hi0

/-- What is wrong with a film that is to be bytes; a byte of it; its bytes. -/
def bytF (a b s : Int) (N : Nat) (C : Nat → Cd) : Nat := if seeF a b s N C ≠ 0 then seeF a b s N C else if 116 < octs (flmB C N) then 4 else 0
def byU (a b s : Int) (N : Nat) (L : List Int) (i : Nat) : UInt8 := if i = 0 then UInt8.ofNat a.toNat else if i = 1 then UInt8.ofNat b.toNat else if i = 2 then UInt8.ofNat s.toNat else if i = 3 then UInt8.ofNat N else UInt8.ofNat (octN L (i - 4))
def bytT (a b s : Int) (N : Nat) (L : List Int) : ByteArray := bytesB (4 + octs L) (byU a b s N L)
def bytS (a b s : Int) (N : Nat) (C : Nat → Cd) : ByteArray := if bytF a b s N C = 0 then bytT a b s N (flmB C N) else ByteArray.empty
theorem bytF_zero {a b s : Int} {N : Nat} {C : Nat → Cd} : bytF a b s N C = 0 ↔ seeF a b s N C = 0 ∧ octs (flmB C N) ≤ 116 := by
  unfold bytF
  constructor
  · intro h
    split at h
    · rename_i c; exact absurd h c
    · rename_i c
      split at h
      · cases h
      · exact ⟨by omega, by omega⟩
  · rintro ⟨h1, h2⟩
    rw [if_neg (by omega), if_neg (by omega)]
/-- The bits that lie behind the first four bytes of a text. -/
def bitB (t : ByteArray) (j : Nat) : Int := unO (fun i => (atB t (4 + i)).toNat) j
theorem bitB_in (t : ByteArray) (j : Nat) : bitB t j = 0 ∨ bitB t j = 1 := unO_in _ _
theorem u8_of {n : Nat} (h : n < 256) : (UInt8.ofNat n).toNat = n := by rw [UInt8.toNat_ofNat']; exact Nat.mod_eq_of_lt h
/-- What the bytes of a film say. -/
structure Says (t : ByteArray) (a b s : Int) (N : Nat) (L : List Int) : Prop where
  size : t.size = 4 + octs L
  b0 : (atB t 0).toNat = a.toNat
  b1 : (atB t 1).toNat = b.toNat
  b2 : (atB t 2).toNat = s.toNat
  b3 : (atB t 3).toNat = N
  bits : ∀ j, j < 8 * octs L → bitB t j = L.getD j 0
theorem says_of {a b s : Int} {N : Nat} {C : Nat → Cd} (h : bytF a b s N C = 0) : Says (bytS a b s N C) a b s N (flmB C N) := by
  obtain ⟨h1, h2⟩ := bytF_zero.1 h
  obtain ⟨A, B, o⟩ := see_ok h1
  have e : bytS a b s N C = bytT a b s N (flmB C N) := by unfold bytS; rw [if_pos h]
  have hin := flmB_in o.each
  have ha := o.wide
  have hb := o.high
  have hw := o.w6
  have hh := o.h6
  have hs1 := o.s1
  have hs2 := o.s2
  have h6 := o.six
  rw [e]
  generalize flmB C N = L at *
  unfold bytT
  refine ⟨bytesB_size _ _, ?_, ?_, ?_, ?_, fun j hj => ?_⟩
  · rw [bytesB_at _ _ _ (by omega)]; show (UInt8.ofNat a.toNat).toNat = _; exact u8_of (by omega)
  · rw [bytesB_at _ _ _ (by omega)]; show (UInt8.ofNat b.toNat).toNat = _; exact u8_of (by omega)
  · rw [bytesB_at _ _ _ (by omega)]; show (UInt8.ofNat s.toNat).toNat = _; exact u8_of (by omega)
  · rw [bytesB_at _ _ _ (by omega)]; show (UInt8.ofNat N).toNat = _; exact u8_of (by omega)
  · rw [← unO_octN hin j]
    unfold bitB unO
    have h9 : (atB (bytesB (4 + octs L) (byU a b s N L)) (4 + j / 8)).toNat = octN L (j / 8) := by
      rw [bytesB_at _ _ _ (by omega)]
      unfold byU
      rw [if_neg (by omega), if_neg (by omega), if_neg (by omega), if_neg (by omega), show 4 + j / 8 - 4 = j / 8 by omega]
      exact u8_of (octN_lt hin _)
    show bitU (atB _ (4 + j / 8)).toNat (j % 8) = _
    rw [h9]
theorem octs_ge (L : List Int) : L.length ≤ 8 * octs L := by unfold octs; omega
/-- What is read off the bytes of a film is that film. -/
theorem says_read {t : ByteArray} {a b s : Int} {N : Nat} {C : Nat → Cd} {A B m : Nat} (o : SeeOk a b s N C A B) (h : Says t a b s N (flmB C N)) (hm : m = 8 * (t.size - 4)) : flP (bitB t) m (A * B) N = some ((List.range N).map fun i => cutC (A * B) (C i), (flmB C N).length) := by
  have hz := h.size
  have hg := octs_ge (flmB C N)
  refine flP_of o.each (by omega) (fun j hj => h.bits j (by omega))
theorem cutC_inj {k : Nat} {c d : Cd} (h : cutC k c = cutC k d) : c.al = d.al ∧ c.x = d.x ∧ c.y = d.y ∧ ∀ i, i < k → c.f i = d.f i := by
  unfold cutC at h
  injection h with h1 h2 h3 h4 h5
  refine ⟨h1, h2, h3, fun i hi => ?_⟩
  have h9 := congrFun h5 i
  simp only [lst_get hi] at h9
  exact h9
/-- A film is known by its bytes. -/
theorem bytS_one {a b s a' b' s' : Int} {N N' : Nat} {C C' : Nat → Cd} (h : bytF a b s N C = 0) (h' : bytF a' b' s' N' C' = 0) (e : bytS a b s N C = bytS a' b' s' N' C') :
    a = a' ∧ b = b' ∧ s = s' ∧ N = N' ∧ ∀ i, i < N → (C i).al = (C' i).al ∧ (C i).x = (C' i).x ∧ (C i).y = (C' i).y ∧ (C i).n = (C' i).n ∧ ∀ k, k < (C i).n → (C i).f k = (C' i).f k := by
  have h1 := says_of h
  have h2 := says_of h'
  obtain ⟨A, B, o⟩ := see_ok (bytF_zero.1 h).1
  obtain ⟨A', B', o'⟩ := see_ok (bytF_zero.1 h').1
  rw [← e] at h2
  have q0 := h1.b0.symm.trans h2.b0
  have q1 := h1.b1.symm.trans h2.b1
  have q2 := h1.b2.symm.trans h2.b2
  have q3 := h1.b3.symm.trans h2.b3
  have ea := o.wide
  have eb := o.high
  have ea' := o'.wide
  have eb' := o'.high
  have es := o.s1
  have es' := o'.s1
  obtain rfl : A = A' := by omega
  obtain rfl : B = B' := by omega
  subst q3
  have r1 := says_read o h1 rfl
  have r2 := says_read o' h2 rfl
  rw [r1] at r2
  have r3 := congrArg Prod.fst (Option.some.inj r2)
  refine ⟨by omega, by omega, by omega, rfl, fun i hi => ?_⟩
  have r4 : cutC (A * B) (C i) = cutC (A * B) (C' i) := by
    have h9 := congrArg (fun l => l[i]?) r3
    simpa [hi] using h9
  obtain ⟨x1, x2, x3, x4⟩ := cutC_inj r4
  have n1 := (o.each i hi).n
  have n2 := (o'.each i hi).n
  exact ⟨x1, x2, x3, by omega, fun k hk => x4 k (by omega)⟩
end Go.Proofs.YtjhflcgphejddaaGreatDoor
