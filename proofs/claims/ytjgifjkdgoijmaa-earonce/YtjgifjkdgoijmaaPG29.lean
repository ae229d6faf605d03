/-
  Lemmas for the law above, joined into one text (IRow, GF). No statement is proved here.
-/
import Derived.Test.YtjgifjkdgoijmaaPG0
namespace Go.Proofs.Ytjgifjkdgoijmaa
open Go.RowKit
set_option linter.unusedVariables false
set_option maxRecDepth 100000

/-- A block whose first n cells are the numbers f 0, f 1, .., none of them frozen. -/
def IRow (w : World) (b n : Nat) (f : Nat → Int) : Prop :=
  ∀ i, i < n → w.cell? ⟨b, i, none⟩ = some (.int .i64 (f i)) ∧ w.frozen? ⟨b, i, none⟩ = false
theorem IRow.congr {w : World} {b n : Nat} {f g : Nat → Int} (h : IRow w b n f) (e : ∀ i, i < n → f i = g i) : IRow w b n g := fun i hi => by rw [← e i hi]; exact h i hi
theorem IRow.set {w : World} {b n : Nat} {f : Nat → Int} (h : IRow w b n f) (j : Nat) (v : Int) : IRow (w.setCell ⟨b, j, none⟩ (.int .i64 v)) b n (fun i => if i = j then v else f i) := fun i hi => by
  refine ⟨?_, by rw [World.frozen?_setCell]; exact (h i hi).2⟩
  have hc := (h i hi).1
  by_cases e : i = j
  · subst e
    rw [World.cell?_setCell_same _ _ _ hc]; simp
  · rw [World.cell?_setCell_other _ _ _ _ (fun h => e (by cases h; rfl))]; simp only [if_neg e]; exact hc

theorem irow_zero {w : World} {b n : Nat} {t : TypeId} (h : w.rowIs b t n (fun _ => .int .i64 0)) : IRow w b n (fun _ => 0) := fun i hi => ⟨h.cell hi, h.frozen i⟩
end Go.Proofs.Ytjgifjkdgoijmaa

namespace Go.Proofs.Ytjgifjkdgoijmaa
set_option linter.unusedVariables false
set_option maxRecDepth 100000

/-- Things that go over one another, each twice being none. -/
structure XG (α : Type) where
  add : α → α → α
  zero : α
  assoc : ∀ a b c, add (add a b) c = add a (add b c)
  comm : ∀ a b, add a b = add b a
  self : ∀ a, add a a = zero
  left : ∀ a, add zero a = a
theorem XG.right {α : Type} (G : XG α) (a : α) : G.add a G.zero = a := by rw [G.comm, G.left]
theorem XG.twice {α : Type} (G : XG α) (a b : α) : G.add a (G.add a b) = b := by rw [← G.assoc, G.self, G.left]
theorem XG.same {α : Type} (G : XG α) {a b : α} (h : G.add a b = G.zero) : a = b := by
  have := G.twice a b
  rw [h, G.right] at this
  exact this
theorem XG.four {α : Type} (G : XG α) (a b c d : α) : G.add (G.add a b) (G.add c d) = G.add (G.add a c) (G.add b d) := by
  rw [G.assoc, ← G.assoc b, G.comm b c, G.assoc c, ← G.assoc]

/-- What some of a list make, one over the other. -/
def Sp {α : Type} (G : XG α) : List α → α → Prop
  | [], x => x = G.zero
  | v :: L, x => Sp G L x ∨ Sp G L (G.add v x)
theorem Sp.zero {α : Type} (G : XG α) : ∀ L : List α, Sp G L G.zero
  | [] => rfl
  | v :: L => Or.inl (Sp.zero G L)
theorem Sp.add {α : Type} {G : XG α} : ∀ {L : List α} {x y : α}, Sp G L x → Sp G L y → Sp G L (G.add x y)
  | [], x, y, h, k => by
    have h : x = G.zero := h
    have k : y = G.zero := k
    rw [h, k]; exact G.left _
  | v :: L, x, y, h, k => by
    rcases h with h | h <;> rcases k with k | k
    · exact Or.inl (Sp.add h k)
    · refine Or.inr ?_
      have := Sp.add h k
      rwa [← G.assoc, G.comm x v, G.assoc] at this
    · refine Or.inr ?_
      have := Sp.add h k
      rwa [G.assoc] at this
    · refine Or.inl ?_
      have := Sp.add h k
      rwa [G.four, G.self, G.left] at this
theorem Sp.mem {α : Type} {G : XG α} : ∀ {L : List α} {v : α}, v ∈ L → Sp G L v
  | u :: L, v, h => by
    rcases List.mem_cons.1 h with rfl | h
    · exact Or.inr (by rw [G.self]; exact Sp.zero G L)
    · exact Or.inl (Sp.mem h)
theorem Sp.ind {α : Type} {G : XG α} {C : α → Prop} (h0 : C G.zero) (ha : ∀ x y, C x → C y → C (G.add x y)) : ∀ {L : List α}, (∀ v ∈ L, C v) → ∀ {x : α}, Sp G L x → C x
  | [], _, x, h => by
    have h : x = G.zero := h
    rw [h]; exact h0
  | v :: L, hL, x, h => by
    have ih := fun {x} => Sp.ind h0 ha (L := L) (fun v hv => hL v (List.mem_cons_of_mem _ hv)) (x := x)
    rcases h with h | h
    · exact ih h
    · have := ha v _ (hL v (by simp)) (ih h)
      rwa [G.twice] at this
theorem Sp.sub {α : Type} {G : XG α} {L M : List α} (h : ∀ v ∈ L, Sp G M v) {x : α} (hx : Sp G L x) : Sp G M x := Sp.ind (Sp.zero G M) (fun _ _ => Sp.add) h hx
theorem Sp.same {α : Type} {G : XG α} {L M : List α} (h : ∀ v ∈ L, Sp G M v) (k : ∀ v ∈ M, Sp G L v) (x : α) : Sp G L x ↔ Sp G M x := ⟨Sp.sub h, Sp.sub k⟩
theorem Sp.mono {α : Type} {G : XG α} {L M : List α} (h : ∀ v ∈ L, v ∈ M) {x : α} (hx : Sp G L x) : Sp G M x := Sp.sub (fun v hv => Sp.mem (h v hv)) hx
theorem Sp.map {α β : Type} {G : XG α} {K : XG β} (f : α → β) (h0 : f G.zero = K.zero) (ha : ∀ x y, f (G.add x y) = K.add (f x) (f y)) {L : List α} {x : α} (h : Sp G L x) : Sp K (L.map f) (f x) :=
  Sp.ind (C := fun x => Sp K (L.map f) (f x)) (by rw [h0]; exact Sp.zero _ _) (fun x y hx hy => by rw [ha]; exact Sp.add hx hy) (fun v hv => Sp.mem (List.mem_map_of_mem hv)) h
theorem Sp.of_map {α β : Type} {G : XG α} {K : XG β} (f : α → β) (h0 : f G.zero = K.zero) (ha : ∀ x y, f (G.add x y) = K.add (f x) (f y)) {L : List α} {y : β} (h : Sp K (L.map f) y) : ∃ x, Sp G L x ∧ f x = y :=
  Sp.ind (C := fun y => ∃ x, Sp G L x ∧ f x = y) ⟨_, Sp.zero _ _, h0⟩ (fun x y ⟨a, ha1, ha2⟩ ⟨b, hb1, hb2⟩ => ⟨G.add a b, Sp.add ha1 hb1, by rw [ha, ha2, hb2]⟩) (fun v hv => by
    obtain ⟨x, hx, rfl⟩ := List.mem_map.1 hv
    exact ⟨x, Sp.mem hx, rfl⟩) h

/-- Sets of places, a bit each. -/
def XN : XG Nat := ⟨(· ^^^ ·), 0, Nat.xor_assoc, Nat.xor_comm, Nat.xor_self, Nat.zero_xor⟩
/-- None of them is what those behind it make. -/
def Indep : List Nat → Prop
  | [] => True
  | v :: L => Indep L ∧ ¬ Sp XN L v
def combos : List Nat → List Nat
  | [] => [0]
  | v :: L => combos L ++ (combos L).map (v ^^^ ·)
theorem combos_len : ∀ L : List Nat, (combos L).length = 2 ^ L.length
  | [] => rfl
  | v :: L => by
    show (combos L ++ (combos L).map (v ^^^ ·)).length = 2 ^ (L.length + 1)
    rw [List.length_append, List.length_map, combos_len L, Nat.pow_succ]; omega
theorem mem_combos : ∀ {L : List Nat} {x : Nat}, x ∈ combos L ↔ Sp XN L x
  | [], x => by simp [combos, Sp, XN]
  | v :: L, x => by
    show x ∈ combos L ++ (combos L).map (v ^^^ ·) ↔ Sp XN L x ∨ Sp XN L (v ^^^ x)
    rw [List.mem_append, List.mem_map, mem_combos]
    refine or_congr Iff.rfl ⟨fun ⟨a, ha, e⟩ => ?_, fun h => ⟨v ^^^ x, mem_combos.2 h, XN.twice v x⟩⟩
    subst e
    have e2 : v ^^^ (v ^^^ a) = a := XN.twice v a
    rw [e2]; exact mem_combos.1 ha
theorem combos_nodup : ∀ {L : List Nat}, Indep L → (combos L).Nodup
  | [], _ => by simp [combos]
  | v :: L, h => by
    have ih := combos_nodup h.1
    show (combos L ++ (combos L).map (v ^^^ ·)).Nodup
    rw [List.nodup_append]
    refine ⟨ih, ?_, ?_⟩
    · refine List.Pairwise.map _ (fun a b hab => ?_) ih
      intro e
      have e2 := congrArg (fun t => v ^^^ t) e
      have h1 : v ^^^ (v ^^^ a) = a := XN.twice v a
      have h2 : v ^^^ (v ^^^ b) = b := XN.twice v b
      simp only [h1, h2] at e2
      exact hab e2
    · intro a ha b hb e
      subst e
      obtain ⟨c, hc, e⟩ := List.mem_map.1 hb
      refine h.2 ?_
      have hs := Sp.add (mem_combos.1 ha) (mem_combos.1 hc)
      have e3 : a ^^^ c = v := by
        rw [← e]
        show v ^^^ c ^^^ c = v
        rw [Nat.xor_assoc, Nat.xor_self, Nat.xor_zero]
      exact e3 ▸ hs
theorem nodup_le : ∀ {l m : List Nat}, l.Nodup → (∀ x ∈ l, x ∈ m) → l.length ≤ m.length
  | [], _, _, _ => Nat.zero_le _
  | a :: l, m, hn, hm => by
    have ha := hm a (by simp)
    have h1 := nodup_le (l := l) (m := m.erase a) (List.nodup_cons.1 hn).2 (fun x hx => (List.mem_erase_of_ne (fun (e : x = a) => (List.nodup_cons.1 hn).1 (e ▸ hx))).2 (hm x (by simp [hx])))
    rw [List.length_erase_of_mem ha] at h1
    have := List.length_pos_of_mem ha
    simp; omega
/-- The rank of a space. -/
def Dim (S : Nat → Prop) (r : Nat) : Prop := ∃ B : List Nat, B.length = r ∧ Indep B ∧ ∀ x, Sp XN B x ↔ S x
theorem Dim.least {S : Nat → Prop} {r : Nat} (h : Dim S r) {I : List Nat} (hi : Indep I) (hs : ∀ v ∈ I, S v) : I.length ≤ r := by
  obtain ⟨B, rfl, hB, hx⟩ := h
  have h1 := nodup_le (combos_nodup hi) (m := combos B) (fun x hx' => mem_combos.2 (Sp.sub (fun v hv => (hx v).2 (hs v hv)) (mem_combos.1 hx')))
  rw [combos_len, combos_len] at h1
  exact (Nat.pow_le_pow_iff_right (by decide)).1 h1
theorem Dim.det {S : Nat → Prop} {r q : Nat} (h : Dim S r) (k : Dim S q) : r = q := by
  obtain ⟨B, h1, h2, h3⟩ := h
  obtain ⟨C, k1, k2, k3⟩ := k
  have a := Dim.least ⟨B, h1, h2, h3⟩ k2 (fun v hv => (k3 v).1 (Sp.mem hv))
  have b := Dim.least ⟨C, k1, k2, k3⟩ h2 (fun v hv => (h3 v).1 (Sp.mem hv))
  omega
theorem Dim.congr {S T : Nat → Prop} {r : Nat} (h : Dim S r) (e : ∀ x, S x ↔ T x) : Dim T r := by
  obtain ⟨B, h1, h2, h3⟩ := h
  exact ⟨B, h1, h2, fun x => (h3 x).trans (e x)⟩
/-- One more raises it by one at most. -/
theorem Dim.more {L : List Nat} {r : Nat} (h : Dim (Sp XN L) r) (v : Nat) : Dim (Sp XN (L ++ [v])) r ∧ Sp XN L v ∨ Dim (Sp XN (L ++ [v])) (r + 1) ∧ ¬ Sp XN L v := by
  obtain ⟨B, h1, h2, h3⟩ := h
  by_cases c : Sp XN L v
  · refine Or.inl ⟨⟨B, h1, h2, fun x => (h3 x).trans (Sp.same (fun u hu => Sp.mem (List.mem_append_left _ hu)) (fun u hu => ?_) x)⟩, c⟩
    rcases List.mem_append.1 hu with hu | hu
    · exact Sp.mem hu
    · rw [List.mem_singleton.1 hu]; exact c
  · refine Or.inr ⟨⟨v :: B, by simp [h1], ⟨h2, fun k => c ((h3 v).1 k)⟩, fun x => Sp.same (fun u hu => ?_) (fun u hu => ?_) x⟩, c⟩
    · rcases List.mem_cons.1 hu with rfl | hu
      · exact Sp.mem (by simp)
      · exact Sp.mono (fun _ h => List.mem_append_left _ h) ((h3 u).1 (Sp.mem hu))
    · rcases List.mem_append.1 hu with hu | hu
      · exact Or.inl ((h3 u).2 (Sp.mem hu))
      · rw [List.mem_singleton.1 hu]; exact Sp.mem (by simp)
/-- A place that none of them has none of what they make has. -/
theorem Sp.bit {L : List Nat} {b : Nat} (h : ∀ v ∈ L, v.testBit b = false) {x : Nat} (hx : Sp XN L x) : x.testBit b = false :=
  Sp.ind (G := XN) (C := fun x => x.testBit b = false) (Nat.zero_testBit b) (fun x y h1 h2 => by show (x ^^^ y).testBit b = false; rw [Nat.testBit_xor, h1, h2]; rfl) h hx
theorem Sp.lt {L : List Nat} {k : Nat} (h : ∀ v ∈ L, v < 2 ^ k) {x : Nat} (hx : Sp XN L x) : x < 2 ^ k :=
  Sp.ind (G := XN) (C := fun x => x < 2 ^ k) (Nat.pow_pos (by decide)) (fun x y h1 h2 => Nat.xor_lt_two_pow h1 h2) h hx

/-- Rows by their places: those that there are, the last place first. -/
def piv {α : Type} (has : Nat → Bool) (row : Nat → α) : Nat → List α
  | 0 => []
  | b + 1 => if has b then row b :: piv has row b else piv has row b
theorem mem_piv {α : Type} {has : Nat → Bool} {row : Nat → α} {v : α} : ∀ {k : Nat}, v ∈ piv has row k ↔ ∃ b, b < k ∧ has b = true ∧ row b = v
  | 0 => by simp [piv]
  | k + 1 => by
    unfold piv
    by_cases c : has k = true
    · rw [if_pos c, List.mem_cons, mem_piv]
      constructor
      · rintro (rfl | ⟨b, h1, h2, h3⟩)
        · exact ⟨k, by omega, c, rfl⟩
        · exact ⟨b, by omega, h2, h3⟩
      · rintro ⟨b, h1, h2, h3⟩
        by_cases e : b = k
        · subst e; exact Or.inl h3.symm
        · exact Or.inr ⟨b, by omega, h2, h3⟩
    · rw [if_neg c, mem_piv]
      constructor
      · rintro ⟨b, h1, h2, h3⟩
        exact ⟨b, by omega, h2, h3⟩
      · rintro ⟨b, h1, h2, h3⟩
        by_cases e : b = k
        · subst e; exact absurd h2 c
        · exact ⟨b, by omega, h2, h3⟩
def cntB (has : Nat → Bool) (k : Nat) : Nat := ((List.range k).filter has).length
theorem cntB_succ (has : Nat → Bool) (k : Nat) : cntB has (k + 1) = cntB has k + if has k then 1 else 0 := by
  unfold cntB
  rw [List.range_succ, List.filter_append, List.length_append]
  cases e : has k <;> simp [e]
theorem piv_len {α : Type} (has : Nat → Bool) (row : Nat → α) : ∀ k : Nat, (piv has row k).length = cntB has k
  | 0 => rfl
  | k + 1 => by
    unfold piv
    rw [cntB_succ]
    by_cases c : has k = true
    · rw [if_pos c, if_pos c]; simp [piv_len has row k]
    · rw [if_neg c, if_neg c, piv_len has row k]; rfl
theorem piv_map {α β : Type} (f : α → β) (has : Nat → Bool) (row : Nat → α) : ∀ k : Nat, (piv has row k).map f = piv has (fun b => f (row b)) k
  | 0 => rfl
  | k + 1 => by
    unfold piv
    by_cases c : has k = true
    · rw [if_pos c, if_pos c, List.map_cons, piv_map f has row k]
    · rw [if_neg c, if_neg c, piv_map f has row k]
theorem cntB_le (has : Nat → Bool) (k : Nat) : cntB has k ≤ k := Nat.le_trans (List.length_filter_le _ _) (by simp)
theorem cntB_all {has : Nat → Bool} {k : Nat} : cntB has k = k ↔ ∀ b, b < k → has b = true := by
  induction k with
  | zero => simp [cntB]
  | succ k ih =>
    rw [cntB_succ]
    have := cntB_le has k
    constructor
    · intro h b hb
      have hk : has k = true := by
        cases e : has k with
        | true => rfl
        | false => rw [e] at h; simp at h; omega
      rw [hk] at h
      by_cases c : b = k
      · rw [c]; exact hk
      · exact ih.1 (by simp at h; omega) b (by omega)
    · intro h
      rw [h k (by omega), ih.2 (fun b hb => h b (by omega))]; rfl
/-- Each has its own place, and those ahead have not. -/
def Led (has : Nat → Bool) (row : Nat → Nat) (k : Nat) : Prop := ∀ b, b < k → has b = true → (row b).testBit b = true ∧ ∀ c, c < b → has c = true → (row c).testBit b = false
theorem piv_indep {has : Nat → Bool} {row : Nat → Nat} : ∀ {k : Nat}, Led has row k → Indep (piv has row k)
  | 0, _ => trivial
  | k + 1, h => by
    have ih := piv_indep (k := k) (fun b hb h1 => h b (by omega) h1)
    unfold piv
    by_cases c : has k = true
    · rw [if_pos c]
      refine ⟨ih, fun hs => ?_⟩
      obtain ⟨h1, h2⟩ := h k (by omega) c
      have := Sp.bit (b := k) (fun v hv => by
        obtain ⟨b, hb, hb2, rfl⟩ := mem_piv.1 hv
        exact h2 b hb hb2) hs
      rw [this] at h1; cases h1
    · rw [if_neg c]; exact ih
end Go.Proofs.Ytjgifjkdgoijmaa
