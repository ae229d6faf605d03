/-
  guard.Heal's numbers, and its boxes as they lie. Lemmas for the laws above; no function is walked, and no statement is proved here.
-/
import Derived.Test.YtmmlcomfkikomaaDoorGdAddW
import Derived.Test.YtmmlcomfkikomaaDoorGdMendW
namespace Go.Proofs.YtmmlcomfkikomaaDoor
open Go.RowKit Go.Shelf
set_option linter.unusedVariables false
set_option maxRecDepth 100000

theorem gL_in {n each q r : Nat} (h : r ∈ gL n each q) : q * each ≤ r ∧ r < q * each + each ∧ r < n := by
  unfold gL at h
  rw [List.mem_range'] at h
  obtain ⟨i, hi, rfl⟩ := h
  omega
theorem gL_div {n each q r : Nat} (h : r ∈ gL n each q) : r / each = q := by
  have := gL_in h
  exact Nat.div_eq_of_lt_le this.1 (by rw [Nat.succ_mul]; omega)
theorem mem_gL {n each r : Nat} (he : 1 ≤ each) (h : r < n) : r ∈ gL n each (r / each) := by
  unfold gL
  rw [List.mem_range']
  refine ⟨r % each, ?_, ?_⟩
  · have := Nat.mod_lt r he
    have := Nat.div_add_mod r each
    have h3 : each * (r / each) = r / each * each := Nat.mul_comm _ _
    omega
  · have := Nat.div_add_mod r each
    have h3 : each * (r / each) = r / each * each := Nat.mul_comm _ _
    omega
theorem grpOk {n each len q : Nat} (he : 1 ≤ each) (hn : n < len) (hs : n + gN n each = len) (hl : len ≤ 16) (hq : q < gN n each) : GrpOk len (gL n each q) (n + q) := by
  refine ⟨gL_pos he ((gN_lt he q).1 hq), ?_, ?_, ?_⟩
  · rw [gL_len]; omega
  · intro r hr
    rcases List.mem_append.1 hr with h | h
    · have := gL_lt h; omega
    · simp at h; omega
  · rw [List.nodup_append]
    refine ⟨gL_nodup _ _ _, by simp, ?_⟩
    intro a ha b hb e
    have := gL_lt ha
    simp at hb
    omega
theorem mPl_in (lk : Nat → Bool) (of : List Nat) (bh : Nat) : mPl lk of bh ∈ of ++ [bh] := by
  unfold mPl
  cases e : mGone lk of bh with
  | nil => simp
  | cons x l =>
    have h9 : x ∈ mGone lk of bh := by rw [e]; simp
    exact (List.mem_filter.1 h9).1
theorem mPl_of {lk : Nat → Bool} {of : List Nat} {bh : Nat} (h : mPl lk of bh ≠ bh) : mPl lk of bh ∈ of := by
  rcases List.mem_append.1 (mPl_in lk of bh) with h1 | h1
  · exact h1
  · simp at h1; exact absurd h1 h

/-- The fault of group q. -/
noncomputable def hFlt (g : Nat → ByteArray) (lk : Nat → Bool) (n each q : Nat) : Nat := mFlt g lk (gL n each q) (n + q)
/-- What Heal has when q groups are done. -/
def healF (g : Nat → ByteArray) (lk : Nat → Bool) (n each q i : Nat) : ByteArray :=
  if i / each < q ∧ mPl lk (gL n each (i / each)) (n + i / each) = i then mDat g lk (gL n each (i / each)) (n + i / each) else g i
theorem healF_zero (g : Nat → ByteArray) (lk : Nat → Bool) (n each i : Nat) : healF g lk n each 0 i = g i := by unfold healF; rw [if_neg (fun h => Nat.not_lt_zero _ h.1)]
theorem healF_step {g : Nat → ByteArray} {lk : Nat → Bool} {n each q p : Nat} (hp : p = mPl lk (gL n each q) (n + q)) (hne : p ≠ n + q) (i : Nat) :
    (if i = p then mDat g lk (gL n each q) (n + q) else healF g lk n each q i) = healF g lk n each (q + 1) i := by
  have hd : p / each = q := gL_div (n := n) (by rw [hp]; exact mPl_of (by rw [← hp]; exact hne))
  unfold healF
  by_cases e : i = p
  · rw [if_pos e, e, hd, if_pos ⟨by omega, hp.symm⟩]
  · rw [if_neg e]
    by_cases e2 : i / each = q
    · rw [e2, if_neg (by omega), if_neg (fun h => e (by rw [hp, h.2]))]
    · have : (i / each < q + 1) ↔ (i / each < q) := by omega
      simp only [this]
theorem healF_same {g : Nat → ByteArray} {lk : Nat → Bool} {n each q : Nat} (hp : mPl lk (gL n each q) (n + q) = n + q) {i : Nat} (hi : i < n) :
    healF g lk n each q i = healF g lk n each (q + 1) i := by
  unfold healF
  by_cases e2 : i / each = q
  · rw [e2, if_neg (by omega), if_neg (fun h => by have := h.2; omega)]
  · have : (i / each < q + 1) ↔ (i / each < q) := by omega
    simp only [this]

/-- The boxes of Heal as they lie at its head. -/
def healW (w : World) (v u : Value) : World := (((w.alloc (.cells #[v] 22)).alloc (.cells #[u] 23)).alloc (.cells #[.slice none 0 0] 22)).alloc (.cells #[.nilIface] 28)
structure HealB (W : World) (h : Nat) (v u : Value) : Prop where
  l : Boxed W h 22 v
  k : Boxed W (h + 1) 23 u
  r1 : Boxed W (h + 2) 22 (.slice none 0 0)
  r2 : Boxed W (h + 3) 28 .nilIface
theorem HealB.below {W W' : World} {h : Nat} {v u : Value} (k : HealB W h v u) (hb : Below W.heap.size W W') : HealB W' h v u := ⟨Boxed.below k.l hb, Boxed.below k.k hb, Boxed.below k.r1 hb, Boxed.below k.r2 hb⟩
theorem healB_new (w : World) (v u : Value) : HealB (healW w v u) w.heap.size v u ∧ Below w.heap.size w (healW w v u) ∧ (healW w v u).heap.size = w.heap.size + 4 := by
  have b1 := Boxed.new w 22 v
  have b2 := Boxed.new (w.alloc (.cells #[v] 22)) 23 u
  have b3 := Boxed.new ((w.alloc (.cells #[v] 22)).alloc (.cells #[u] 23)) 22 (.slice none 0 0)
  have b4 := Boxed.new (((w.alloc (.cells #[v] 22)).alloc (.cells #[u] 23)).alloc (.cells #[.slice none 0 0] 22)) 28 .nilIface
  rw [World.size_alloc] at b2
  rw [World.size_alloc, World.size_alloc] at b3
  rw [World.size_alloc, World.size_alloc, World.size_alloc] at b4
  refine ⟨⟨((b1.alloc _).alloc _).alloc _, (b2.alloc _).alloc _, b3.alloc _, b4⟩, ((((Below.refl _ w).alloc (Nat.le_refl _) _).alloc (by simp) _).alloc (by simp <;> omega) _).alloc (by simp <;> omega) _, by simp [healW]⟩
theorem HealB.own {h : Nat} {v u : Value} (B : Nat) : OwnFrom B (fun (_ : Nat) W => HealB W h v u) := fun q X Y row hs hg hr =>
  ⟨boxed_own (β := Nat) h _ (fun _ => v) q X Y row hs.l hg (fun r e => (hr r e).2), boxed_own (β := Nat) (h + 1) _ (fun _ => u) q X Y row hs.k hg (fun r e => (hr r e).2),
    boxed_own (β := Nat) (h + 2) _ (fun _ => .slice none 0 0) q X Y row hs.r1 hg (fun r e => (hr r e).2), boxed_own (β := Nat) (h + 3) _ (fun _ => .nilIface) q X Y row hs.r2 hg (fun r e => (hr r e).2)⟩

/-- Heal between two rounds, q having come. -/
structure HealI (w : World) (g : Nat → ByteArray) (lk : Nat → Bool) (n each h Bo gb : Nat) (v u : Value) (q : Nat) (W : World) : Prop where
  box : HealB W h v u
  out : ∃ x, Boxed W Bo 22 x ∧ W.ownsRow w.heap.size 9 1 x n (strV (healF g lk n each q) n) ∧ True
  below : Below w.heap.size w W
  it : ItB W gb n each
  good : ∀ p, p < q → hFlt g lk n each p = 0
theorem HealI.own {w : World} {g : Nat → ByteArray} {lk : Nat → Bool} {n each h Bo gb : Nat} {v u : Value} {B : Nat} (hB : w.heap.size ≤ B) : OwnFrom B (HealI w g lk n each h Bo gb v u) := fun q X Y row hs hg hr =>
  ⟨HealB.own B q X Y row hs.box hg hr, holdsRow_own w.heap.size Bo _ _ 1 (fun _ => n) (fun q => strV (healF g lk n each q) n) (fun _ _ => True) q X Y row hs.out hg (fun r e => (hr r e).2),
    ownFrom_below (β := Nat) (Nat.le_refl _) hB q X Y row hs.below hg hr, ItB.own B gb n each q X Y row hs.it hg hr, hs.good⟩
/-- Heal where round q has told a fault. -/
structure HealX (w : World) (g : Nat → ByteArray) (lk : Nat → Bool) (n each h q : Nat) (W : World) : Prop where
  r1 : Boxed W (h + 2) 22 (.slice none 0 0)
  r2 : Boxed W (h + 3) 28 (.iface 42 (.int .i64 (hFlt g lk n each q : Nat)))
  below : Below w.heap.size w W
  bad : hFlt g lk n each q ≠ 0
  good : ∀ p, p < q → hFlt g lk n each p = 0
theorem HealX.own {w : World} {g : Nat → ByteArray} {lk : Nat → Bool} {n each h : Nat} {B : Nat} (hB : w.heap.size ≤ B) : OwnFrom B (HealX w g lk n each h) := fun q X Y row hs hg hr =>
  ⟨boxed_own (β := Nat) (h + 2) _ (fun _ => .slice none 0 0) q X Y row hs.r1 hg (fun r e => (hr r e).2), boxed_own (β := Nat) (h + 3) _ (fun q => .iface 42 (.int .i64 (hFlt g lk n each q : Nat))) q X Y row hs.r2 hg (fun r e => (hr r e).2),
    ownFrom_below (β := Nat) (Nat.le_refl _) hB q X Y row hs.below hg hr, hs.bad, hs.good⟩
end Go.Proofs.YtmmlcomfkikomaaDoor
