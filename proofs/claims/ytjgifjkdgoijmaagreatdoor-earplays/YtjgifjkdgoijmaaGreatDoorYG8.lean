/-
  Lemmas for the law above, joined into one text (IRow, GF, RV, ZeroN, ZeroA). No statement is proved here.
-/
import Derived.Test.YtjgifjkdgoijmaaGreatDoorYG0
import Derived.Lib.Strings
import Derived.Test.YtjgifjkdgoijmaaGreatDoorYG3
namespace Go.Proofs.YtjgifjkdgoijmaaGreatDoor
open Go.RowKit
set_option linter.unusedVariables false
set_option maxRecDepth 100000

/-- A block whose first n cells are the numbers f 0, f 1, .., none of them frozen. -/
def IRow (w : World) (b n : Nat) (f : Nat → Int) : Prop :=
  ∀ i, i < n → w.cell? ⟨b, i, none⟩ = some (.int .i64 (f i)) ∧ w.frozen? ⟨b, i, none⟩ = false
theorem IRow.congr {w : World} {b n : Nat} {f g : Nat → Int} (h : IRow w b n f) (e : ∀ i, i < n → f i = g i) : IRow w b n g := fun i hi => by rw [← e i hi]; exact h i hi
theorem IRow.set {w : World} {b n : Nat} {f : Nat → Int} (h : IRow w b n f) (j : Nat) (v : Int) : IRow (w.setCell ⟨b, j, none⟩ (.int .i64 v)) b n (fun i => if i = j then v else f i) := fun i hi => by
  refine ⟨?_, by rw [World.frozen?_setCell]; exact (h i hi).2⟩
  have hc := (h i hi).1
  by_cases e : i = j
  · subst e
    rw [World.cell?_setCell_same _ _ _ hc]; simp
  · rw [World.cell?_setCell_other _ _ _ _ (fun h => e (by cases h; rfl))]; simp only [if_neg e]; exact hc

theorem irow_zero {w : World} {b n : Nat} {t : TypeId} (h : w.rowIs b t n (fun _ => .int .i64 0)) : IRow w b n (fun _ => 0) := fun i hi => ⟨h.cell hi, h.frozen i⟩
end Go.Proofs.YtjgifjkdgoijmaaGreatDoor

namespace Go.Proofs.YtjgifjkdgoijmaaGreatDoor
set_option linter.unusedVariables false
set_option maxRecDepth 100000

/-- Things that go over one another, each twice being none. -/
structure XG (α : Type) where
  add : α → α → α
  zero : α
  assoc : ∀ a b c, add (add a b) c = add a (add b c)
  comm : ∀ a b, add a b = add b a
  self : ∀ a, add a a = zero
  left : ∀ a, add zero a = a
theorem XG.right {α : Type} (G : XG α) (a : α) : G.add a G.zero = a := by rw [G.comm, G.left]
theorem XG.twice {α : Type} (G : XG α) (a b : α) : G.add a (G.add a b) = b := by rw [← G.assoc, G.self, G.left]
theorem XG.same {α : Type} (G : XG α) {a b : α} (h : G.add a b = G.zero) : a = b := by
  have := G.twice a b
  rw [h, G.right] at this
  exact this
theorem XG.four {α : Type} (G : XG α) (a b c d : α) : G.add (G.add a b) (G.add c d) = G.add (G.add a c) (G.add b d) := by
  rw [G.assoc, ← G.assoc b, G.comm b c, G.assoc c, ← G.assoc]

/-- What some of a list make, one over the other. -/
def Sp {α : Type} (G : XG α) : List α → α → Prop
  | [], x => x = G.zero
  | v :: L, x => Sp G L x ∨ Sp G L (G.add v x)
theorem Sp.zero {α : Type} (G : XG α) : ∀ L : List α, Sp G L G.zero
  | [] => rfl
  | v :: L => Or.inl (Sp.zero G L)
theorem Sp.add {α : Type} {G : XG α} : ∀ {L : List α} {x y : α}, Sp G L x → Sp G L y → Sp G L (G.add x y)
  | [], x, y, h, k => by
    have h : x = G.zero := h
    have k : y = G.zero := k
    rw [h, k]; exact G.left _
  | v :: L, x, y, h, k => by
    rcases h with h | h <;> rcases k with k | k
    · exact Or.inl (Sp.add h k)
    · refine Or.inr ?_
      have := Sp.add h k
      rwa [← G.assoc, G.comm x v, G.assoc] at this
    · refine Or.inr ?_
      have := Sp.add h k
      rwa [G.assoc] at this
    · refine Or.inl ?_
      have := Sp.add h k
      rwa [G.four, G.self, G.left] at this
theorem Sp.mem {α : Type} {G : XG α} : ∀ {L : List α} {v : α}, v ∈ L → Sp G L v
  | u :: L, v, h => by
    rcases List.mem_cons.1 h with rfl | h
    · exact Or.inr (by rw [G.self]; exact Sp.zero G L)
    · exact Or.inl (Sp.mem h)
theorem Sp.ind {α : Type} {G : XG α} {C : α → Prop} (h0 : C G.zero) (ha : ∀ x y, C x → C y → C (G.add x y)) : ∀ {L : List α}, (∀ v ∈ L, C v) → ∀ {x : α}, Sp G L x → C x
  | [], _, x, h => by
    have h : x = G.zero := h
    rw [h]; exact h0
  | v :: L, hL, x, h => by
    have ih := fun {x} => Sp.ind h0 ha (L := L) (fun v hv => hL v (List.mem_cons_of_mem _ hv)) (x := x)
    rcases h with h | h
    · exact ih h
    · have := ha v _ (hL v (by simp)) (ih h)
      rwa [G.twice] at this
theorem Sp.sub {α : Type} {G : XG α} {L M : List α} (h : ∀ v ∈ L, Sp G M v) {x : α} (hx : Sp G L x) : Sp G M x := Sp.ind (Sp.zero G M) (fun _ _ => Sp.add) h hx
theorem Sp.same {α : Type} {G : XG α} {L M : List α} (h : ∀ v ∈ L, Sp G M v) (k : ∀ v ∈ M, Sp G L v) (x : α) : Sp G L x ↔ Sp G M x := ⟨Sp.sub h, Sp.sub k⟩
theorem Sp.mono {α : Type} {G : XG α} {L M : List α} (h : ∀ v ∈ L, v ∈ M) {x : α} (hx : Sp G L x) : Sp G M x := Sp.sub (fun v hv => Sp.mem (h v hv)) hx
theorem Sp.map {α β : Type} {G : XG α} {K : XG β} (f : α → β) (h0 : f G.zero = K.zero) (ha : ∀ x y, f (G.add x y) = K.add (f x) (f y)) {L : List α} {x : α} (h : Sp G L x) : Sp K (L.map f) (f x) :=
  Sp.ind (C := fun x => Sp K (L.map f) (f x)) (by rw [h0]; exact Sp.zero _ _) (fun x y hx hy => by rw [ha]; exact Sp.add hx hy) (fun v hv => Sp.mem (List.mem_map_of_mem hv)) h
theorem Sp.of_map {α β : Type} {G : XG α} {K : XG β} (f : α → β) (h0 : f G.zero = K.zero) (ha : ∀ x y, f (G.add x y) = K.add (f x) (f y)) {L : List α} {y : β} (h : Sp K (L.map f) y) : ∃ x, Sp G L x ∧ f x = y :=
  Sp.ind (C := fun y => ∃ x, Sp G L x ∧ f x = y) ⟨_, Sp.zero _ _, h0⟩ (fun x y ⟨a, ha1, ha2⟩ ⟨b, hb1, hb2⟩ => ⟨G.add a b, Sp.add ha1 hb1, by rw [ha, ha2, hb2]⟩) (fun v hv => by
    obtain ⟨x, hx, rfl⟩ := List.mem_map.1 hv
    exact ⟨x, Sp.mem hx, rfl⟩) h

/-- Sets of places, a bit each. -/
def XN : XG Nat := ⟨(· ^^^ ·), 0, Nat.xor_assoc, Nat.xor_comm, Nat.xor_self, Nat.zero_xor⟩
/-- None of them is what those behind it make. -/
def Indep : List Nat → Prop
  | [] => True
  | v :: L => Indep L ∧ ¬ Sp XN L v
def combos : List Nat → List Nat
  | [] => [0]
  | v :: L => combos L ++ (combos L).map (v ^^^ ·)
theorem combos_len : ∀ L : List Nat, (combos L).length = 2 ^ L.length
  | [] => rfl
  | v :: L => by
    show (combos L ++ (combos L).map (v ^^^ ·)).length = 2 ^ (L.length + 1)
    rw [List.length_append, List.length_map, combos_len L, Nat.pow_succ]; omega
theorem mem_combos : ∀ {L : List Nat} {x : Nat}, x ∈ combos L ↔ Sp XN L x
  | [], x => by simp [combos, Sp, XN]
  | v :: L, x => by
    show x ∈ combos L ++ (combos L).map (v ^^^ ·) ↔ Sp XN L x ∨ Sp XN L (v ^^^ x)
    rw [List.mem_append, List.mem_map, mem_combos]
    refine or_congr Iff.rfl ⟨fun ⟨a, ha, e⟩ => ?_, fun h => ⟨v ^^^ x, mem_combos.2 h, XN.twice v x⟩⟩
    subst e
    have e2 : v ^^^ (v ^^^ a) = a := XN.twice v a
    rw [e2]; exact mem_combos.1 ha
theorem combos_nodup : ∀ {L : List Nat}, Indep L → (combos L).Nodup
  | [], _ => by simp [combos]
  | v :: L, h => by
    have ih := combos_nodup h.1
    show (combos L ++ (combos L).map (v ^^^ ·)).Nodup
    rw [List.nodup_append]
    refine ⟨ih, ?_, ?_⟩
    · refine List.Pairwise.map _ (fun a b hab => ?_) ih
      intro e
      have e2 := congrArg (fun t => v ^^^ t) e
      have h1 : v ^^^ (v ^^^ a) = a := XN.twice v a
      have h2 : v ^^^ (v ^^^ b) = b := XN.twice v b
      simp only [h1, h2] at e2
      exact hab e2
    · intro a ha b hb e
      subst e
      obtain ⟨c, hc, e⟩ := List.mem_map.1 hb
      refine h.2 ?_
      have hs := Sp.add (mem_combos.1 ha) (mem_combos.1 hc)
      have e3 : a ^^^ c = v := by
        rw [← e]
        show v ^^^ c ^^^ c = v
        rw [Nat.xor_assoc, Nat.xor_self, Nat.xor_zero]
      exact e3 ▸ hs
theorem nodup_le : ∀ {l m : List Nat}, l.Nodup → (∀ x ∈ l, x ∈ m) → l.length ≤ m.length
  | [], _, _, _ => Nat.zero_le _
  | a :: l, m, hn, hm => by
    have ha := hm a (by simp)
    have h1 := nodup_le (l := l) (m := m.erase a) (List.nodup_cons.1 hn).2 (fun x hx => (List.mem_erase_of_ne (fun (e : x = a) => (List.nodup_cons.1 hn).1 (e ▸ hx))).2 (hm x (by simp [hx])))
    rw [List.length_erase_of_mem ha] at h1
    have := List.length_pos_of_mem ha
    simp; omega
/-- The rank of a space. -/
def Dim (S : Nat → Prop) (r : Nat) : Prop := ∃ B : List Nat, B.length = r ∧ Indep B ∧ ∀ x, Sp XN B x ↔ S x
theorem Dim.least {S : Nat → Prop} {r : Nat} (h : Dim S r) {I : List Nat} (hi : Indep I) (hs : ∀ v ∈ I, S v) : I.length ≤ r := by
  obtain ⟨B, rfl, hB, hx⟩ := h
  have h1 := nodup_le (combos_nodup hi) (m := combos B) (fun x hx' => mem_combos.2 (Sp.sub (fun v hv => (hx v).2 (hs v hv)) (mem_combos.1 hx')))
  rw [combos_len, combos_len] at h1
  exact (Nat.pow_le_pow_iff_right (by decide)).1 h1
theorem Dim.det {S : Nat → Prop} {r q : Nat} (h : Dim S r) (k : Dim S q) : r = q := by
  obtain ⟨B, h1, h2, h3⟩ := h
  obtain ⟨C, k1, k2, k3⟩ := k
  have a := Dim.least ⟨B, h1, h2, h3⟩ k2 (fun v hv => (k3 v).1 (Sp.mem hv))
  have b := Dim.least ⟨C, k1, k2, k3⟩ h2 (fun v hv => (h3 v).1 (Sp.mem hv))
  omega
theorem Dim.congr {S T : Nat → Prop} {r : Nat} (h : Dim S r) (e : ∀ x, S x ↔ T x) : Dim T r := by
  obtain ⟨B, h1, h2, h3⟩ := h
  exact ⟨B, h1, h2, fun x => (h3 x).trans (e x)⟩
/-- One more raises it by one at most. -/
theorem Dim.more {L : List Nat} {r : Nat} (h : Dim (Sp XN L) r) (v : Nat) : Dim (Sp XN (L ++ [v])) r ∧ Sp XN L v ∨ Dim (Sp XN (L ++ [v])) (r + 1) ∧ ¬ Sp XN L v := by
  obtain ⟨B, h1, h2, h3⟩ := h
  by_cases c : Sp XN L v
  · refine Or.inl ⟨⟨B, h1, h2, fun x => (h3 x).trans (Sp.same (fun u hu => Sp.mem (List.mem_append_left _ hu)) (fun u hu => ?_) x)⟩, c⟩
    rcases List.mem_append.1 hu with hu | hu
    · exact Sp.mem hu
    · rw [List.mem_singleton.1 hu]; exact c
  · refine Or.inr ⟨⟨v :: B, by simp [h1], ⟨h2, fun k => c ((h3 v).1 k)⟩, fun x => Sp.same (fun u hu => ?_) (fun u hu => ?_) x⟩, c⟩
    · rcases List.mem_cons.1 hu with rfl | hu
      · exact Sp.mem (by simp)
      · exact Sp.mono (fun _ h => List.mem_append_left _ h) ((h3 u).1 (Sp.mem hu))
    · rcases List.mem_append.1 hu with hu | hu
      · exact Or.inl ((h3 u).2 (Sp.mem hu))
      · rw [List.mem_singleton.1 hu]; exact Sp.mem (by simp)
/-- A place that none of them has none of what they make has. -/
theorem Sp.bit {L : List Nat} {b : Nat} (h : ∀ v ∈ L, v.testBit b = false) {x : Nat} (hx : Sp XN L x) : x.testBit b = false :=
  Sp.ind (G := XN) (C := fun x => x.testBit b = false) (Nat.zero_testBit b) (fun x y h1 h2 => by show (x ^^^ y).testBit b = false; rw [Nat.testBit_xor, h1, h2]; rfl) h hx
theorem Sp.lt {L : List Nat} {k : Nat} (h : ∀ v ∈ L, v < 2 ^ k) {x : Nat} (hx : Sp XN L x) : x < 2 ^ k :=
  Sp.ind (G := XN) (C := fun x => x < 2 ^ k) (Nat.pow_pos (by decide)) (fun x y h1 h2 => Nat.xor_lt_two_pow h1 h2) h hx

/-- Rows by their places: those that there are, the last place first. -/
def piv {α : Type} (has : Nat → Bool) (row : Nat → α) : Nat → List α
  | 0 => []
  | b + 1 => if has b then row b :: piv has row b else piv has row b
theorem mem_piv {α : Type} {has : Nat → Bool} {row : Nat → α} {v : α} : ∀ {k : Nat}, v ∈ piv has row k ↔ ∃ b, b < k ∧ has b = true ∧ row b = v
  | 0 => by simp [piv]
  | k + 1 => by
    unfold piv
    by_cases c : has k = true
    · rw [if_pos c, List.mem_cons, mem_piv]
      constructor
      · rintro (rfl | ⟨b, h1, h2, h3⟩)
        · exact ⟨k, by omega, c, rfl⟩
        · exact ⟨b, by omega, h2, h3⟩
      · rintro ⟨b, h1, h2, h3⟩
        by_cases e : b = k
        · subst e; exact Or.inl h3.symm
        · exact Or.inr ⟨b, by omega, h2, h3⟩
    · rw [if_neg c, mem_piv]
      constructor
      · rintro ⟨b, h1, h2, h3⟩
        exact ⟨b, by omega, h2, h3⟩
      · rintro ⟨b, h1, h2, h3⟩
        by_cases e : b = k
        · subst e; exact absurd h2 c
        · exact ⟨b, by omega, h2, h3⟩
def cntB (has : Nat → Bool) (k : Nat) : Nat := ((List.range k).filter has).length
theorem cntB_succ (has : Nat → Bool) (k : Nat) : cntB has (k + 1) = cntB has k + if has k then 1 else 0 := by
  unfold cntB
  rw [List.range_succ, List.filter_append, List.length_append]
  cases e : has k <;> simp [e]
theorem piv_len {α : Type} (has : Nat → Bool) (row : Nat → α) : ∀ k : Nat, (piv has row k).length = cntB has k
  | 0 => rfl
  | k + 1 => by
    unfold piv
    rw [cntB_succ]
    by_cases c : has k = true
    · rw [if_pos c, if_pos c]; simp [piv_len has row k]
    · rw [if_neg c, if_neg c, piv_len has row k]; rfl
theorem piv_map {α β : Type} (f : α → β) (has : Nat → Bool) (row : Nat → α) : ∀ k : Nat, (piv has row k).map f = piv has (fun b => f (row b)) k
  | 0 => rfl
  | k + 1 => by
    unfold piv
    by_cases c : has k = true
    · rw [if_pos c, if_pos c, List.map_cons, piv_map f has row k]
    · rw [if_neg c, if_neg c, piv_map f has row k]
theorem cntB_le (has : Nat → Bool) (k : Nat) : cntB has k ≤ k := Nat.le_trans (List.length_filter_le _ _) (by simp)
theorem cntB_all {has : Nat → Bool} {k : Nat} : cntB has k = k ↔ ∀ b, b < k → has b = true := by
  induction k with
  | zero => simp [cntB]
  | succ k ih =>
    rw [cntB_succ]
    have := cntB_le has k
    constructor
    · intro h b hb
      have hk : has k = true := by
        cases e : has k with
        | true => rfl
        | false => rw [e] at h; simp at h; omega
      rw [hk] at h
      by_cases c : b = k
      · rw [c]; exact hk
      · exact ih.1 (by simp at h; omega) b (by omega)
    · intro h
      rw [h k (by omega), ih.2 (fun b hb => h b (by omega))]; rfl
/-- Each has its own place, and those ahead have not. -/
def Led (has : Nat → Bool) (row : Nat → Nat) (k : Nat) : Prop := ∀ b, b < k → has b = true → (row b).testBit b = true ∧ ∀ c, c < b → has c = true → (row c).testBit b = false
theorem piv_indep {has : Nat → Bool} {row : Nat → Nat} : ∀ {k : Nat}, Led has row k → Indep (piv has row k)
  | 0, _ => trivial
  | k + 1, h => by
    have ih := piv_indep (k := k) (fun b hb h1 => h b (by omega) h1)
    unfold piv
    by_cases c : has k = true
    · rw [if_pos c]
      refine ⟨ih, fun hs => ?_⟩
      obtain ⟨h1, h2⟩ := h k (by omega) c
      have := Sp.bit (b := k) (fun v hv => by
        obtain ⟨b, hb, hb2, rfl⟩ := mem_piv.1 hv
        exact h2 b hb hb2) hs
      rw [this] at h1; cases h1
    · rw [if_neg c]; exact ih
end Go.Proofs.YtjgifjkdgoijmaaGreatDoor

namespace Go.Proofs.YtjgifjkdgoijmaaGreatDoor
set_option linter.unusedVariables false
set_option maxRecDepth 100000
/-- A row: of which blocks it is, a bit each, and its bytes. -/
abbrev RV := Nat × (Nat → UInt8)
def XV : XG RV := ⟨fun a b => (a.1 ^^^ b.1, fun i => a.2 i ^^^ b.2 i), (0, fun _ => 0),
  fun a b c => by simp only [Nat.xor_assoc, UInt8.xor_assoc], fun a b => by simp only [Nat.xor_comm a.1, UInt8.xor_comm (a.2 _)], fun a => by simp only [Nat.xor_self, UInt8.xor_self], fun a => by simp only [Nat.zero_xor, UInt8.zero_xor]⟩
theorem XV_add (a b : RV) : XV.add a b = (a.1 ^^^ b.1, fun i => a.2 i ^^^ b.2 i) := rfl
theorem XV_fst (a b : RV) : (XV.add a b).1 = a.1 ^^^ b.1 := rfl
theorem Sp.fst {L : List RV} {m : Nat} : Sp XN (L.map Prod.fst) m ↔ ∃ x, Sp XV L (m, x) :=
  ⟨fun h => by
    obtain ⟨⟨a, x⟩, h1, h2⟩ := Sp.of_map (G := XV) (K := XN) Prod.fst rfl (fun _ _ => rfl) h
    exact ⟨x, by rw [← h2]; exact h1⟩, fun ⟨x, h⟩ => Sp.map (G := XV) (K := XN) Prod.fst rfl (fun _ _ => rfl) h⟩
/-- There are no blocks of which all are. -/
def Clash (L : List RV) : Prop := ∃ x, Sp XV L (0, x) ∧ x ≠ fun _ => 0
theorem one_of {L : List RV} (h : ¬ Clash L) {m : Nat} {x y : Nat → UInt8} (hx : Sp XV L (m, x)) (hy : Sp XV L (m, y)) : x = y := by
  have hs := Sp.add hx hy
  have e : XV.add (m, x) (m, y) = (0, fun i => x i ^^^ y i) := by rw [XV_add]; simp
  rw [e] at hs
  refine Classical.byContradiction fun hne => h ⟨_, hs, fun h0 => hne (funext fun i => ?_)⟩
  have := congrFun h0 i
  simpa using this
theorem Clash.congr {L M : List RV} (h : ∀ x, Sp XV L x ↔ Sp XV M x) : Clash L ↔ Clash M := by
  unfold Clash
  simp only [h]
theorem Led.at {has : Nat → Bool} {row : Nat → RV} {k : Nat} (hl : Led has (fun b => (row b).1) k) {m : Nat} (hm : m ≤ k) : Led has (fun b => (row b).1) m := fun b hb h1 => hl b (by omega) h1
theorem piv_none {has : Nat → Bool} {row : Nat → RV} : ∀ {k : Nat}, Led has (fun b => (row b).1) k → ∀ {x : Nat → UInt8}, Sp XV (piv has row k) (0, x) → x = fun _ => 0
  | 0, _, x, h => by
    have h : ((0, x) : RV) = (0, fun _ => 0) := h
    exact (Prod.mk.inj h).2
  | k + 1, hl, x, h => by
    have hl' := hl.at (m := k) (by omega)
    unfold piv at h
    by_cases c : has k = true
    · rw [if_pos c] at h
      rcases h with h | h
      · exact piv_none hl' h
      · exfalso
        obtain ⟨h1, h2⟩ := hl k (by omega) c
        have h3 : Sp XN ((piv has row k).map Prod.fst) (row k).1 := by
          refine Sp.fst.2 ⟨fun i => (row k).2 i ^^^ x i, ?_⟩
          have e : XV.add (row k) (0, x) = ((row k).1, fun i => (row k).2 i ^^^ x i) := by rw [XV_add]; simp
          rw [e] at h
          exact h
        rw [piv_map] at h3
        have := Sp.bit (b := k) (fun v hv => by
          obtain ⟨b, hb, hb2, rfl⟩ := mem_piv.1 hv
          exact h2 b hb hb2) h3
        have h1' : (row k).1.testBit k = true := h1
        rw [this] at h1'; cases h1'
    · rw [if_neg c] at h
      exact piv_none hl' h
/-- What a clearing leaves: rows that each have a place of their own, and rows of no place. -/
structure Cleared (L : List RV) (k : Nat) (has : Nat → Bool) (row : Nat → RV) (ov : List (Nat → UInt8)) : Prop where
  led : Led has (fun b => (row b).1) k
  span : ∀ x, Sp XV (piv has row k ++ ov.map fun o => (0, o)) x ↔ Sp XV L x
theorem Cleared.clash {L : List RV} {k : Nat} {has : Nat → Bool} {row : Nat → RV} {ov : List (Nat → UInt8)} (h : Cleared L k has row ov) : Clash L ↔ ∃ o ∈ ov, o ≠ fun _ => 0 := by
  rw [← Clash.congr h.span]
  constructor
  · rintro ⟨x, hx, hne⟩
    refine Classical.byContradiction fun hno => hne (piv_none h.led (x := x) (Sp.sub (fun v hv => ?_) hx))
    rcases List.mem_append.1 hv with hv | hv
    · exact Sp.mem hv
    · obtain ⟨o, ho, rfl⟩ := List.mem_map.1 hv
      have e : o = fun _ => 0 := Classical.byContradiction fun hc => hno ⟨o, ho, hc⟩
      rw [e]; exact Sp.zero XV _
  · rintro ⟨o, ho, hne⟩
    exact ⟨o, Sp.mem (List.mem_append_right _ (List.mem_map.2 ⟨o, ho, rfl⟩)), hne⟩
theorem Cleared.dim {L : List RV} {k : Nat} {has : Nat → Bool} {row : Nat → RV} {ov : List (Nat → UInt8)} (h : Cleared L k has row ov) : Dim (Sp XN (L.map Prod.fst)) (cntB has k) := by
  refine ⟨piv has (fun b => (row b).1) k, piv_len _ _ _, piv_indep h.led, fun m => ?_⟩
  rw [← piv_map, Sp.fst, Sp.fst]
  constructor
  · rintro ⟨x, hx⟩
    exact ⟨x, (h.span _).1 (Sp.mono (fun _ h => List.mem_append_left _ h) hx)⟩
  · rintro ⟨x, hx⟩
    have hx := (h.span _).2 hx
    refine Sp.ind (G := XV) (C := fun v => ∃ x, Sp XV (piv has row k) (v.1, x)) ⟨_, Sp.zero XV _⟩ ?_ ?_ hx
    · rintro v u ⟨x, hx⟩ ⟨y, hy⟩
      have h9 := Sp.add hx hy
      exact ⟨_, h9⟩
    · intro v hv
      rcases List.mem_append.1 hv with hv | hv
      · exact ⟨v.2, Sp.mem hv⟩
      · obtain ⟨o, _, rfl⟩ := List.mem_map.1 hv
        exact ⟨_, Sp.zero XV _⟩
theorem Cleared.row {L : List RV} {k : Nat} {has : Nat → Bool} {row : Nat → RV} {ov : List (Nat → UInt8)} (h : Cleared L k has row ov) {x : RV} (hx : Sp XV (piv has row k) x) : Sp XV L x :=
  (h.span x).1 (Sp.mono (fun _ h => List.mem_append_left _ h) hx)

/-! Row by row, by the last place. -/
/-- Rows by their last places. -/
structure Table (L : List RV) (k : Nat) (has : Nat → Bool) (row : Nat → RV) (ov : List (Nat → UInt8)) : Prop where
  lt : ∀ p, has p = true → p < k
  top : ∀ p, has p = true → (row p).1.testBit p = true ∧ (row p).1 < 2 ^ (p + 1)
  span : ∀ x, Sp XV (piv has row k ++ ov.map fun o => (0, o)) x ↔ Sp XV L x
theorem bit_big {m p : Nat} (h : m < 2 ^ p) {q : Nat} (hq : p ≤ q) : m.testBit q = false := Nat.testBit_lt_two_pow (Nat.lt_of_lt_of_le h (Nat.pow_le_pow_right (by decide) hq))
theorem Table.cleared {L : List RV} {k : Nat} {has : Nat → Bool} {row : Nat → RV} {ov : List (Nat → UInt8)} (h : Table L k has row ov) : Cleared L k has row ov :=
  ⟨fun b hb h1 => ⟨(h.top b h1).1, fun c hc h2 => bit_big (h.top c h2).2 (by omega)⟩, h.span⟩
theorem table_none (k : Nat) (row : Nat → RV) : Table [] k (fun _ => false) row [] := by
  have e : ∀ k, piv (fun _ => false) row k = [] := fun k => List.eq_nil_iff_forall_not_mem.2 fun v hv => by
    obtain ⟨b, _, h, _⟩ := mem_piv.1 hv
    cases h
  exact ⟨fun p h => by simp at h, fun p h => by simp at h, fun x => by rw [e]; rfl⟩
theorem Table.over {L : List RV} {k : Nat} {has : Nat → Bool} {row : Nat → RV} {ov : List (Nat → UInt8)} (h : Table L k has row ov) {r : RV} {d : Nat → UInt8} (hr : Sp XV (piv has row k) (XV.add r (0, d))) : Table (L ++ [r]) k has row (ov ++ [d]) := by
  refine ⟨h.lt, h.top, fun x => Sp.same (fun v hv => ?_) (fun v hv => ?_) x⟩
  · rcases List.mem_append.1 hv with hv | hv
    · exact Sp.mono (fun _ h => List.mem_append_left _ h) ((h.span v).1 (Sp.mem (List.mem_append_left _ hv)))
    · rw [List.map_append] at hv
      rcases List.mem_append.1 hv with hv | hv
      · exact Sp.mono (fun _ h => List.mem_append_left _ h) ((h.span v).1 (Sp.mem (List.mem_append_right _ hv)))
      · obtain rfl : v = (0, d) := by simpa using hv
        have h1 : Sp XV (L ++ [r]) (XV.add r (0, d)) := Sp.mono (fun _ h => List.mem_append_left _ h) (h.cleared.row hr)
        have h2 := Sp.add (Sp.mem (G := XV) (L := L ++ [r]) (v := r) (by simp)) h1
        rwa [XV.twice] at h2
  · rcases List.mem_append.1 hv with hv | hv
    · refine Sp.mono (fun u hu => ?_) ((h.span v).2 (Sp.mem hv))
      rw [List.map_append]
      rcases List.mem_append.1 hu with hu | hu
      · exact List.mem_append_left _ hu
      · exact List.mem_append_right _ (List.mem_append_left _ hu)
    · obtain rfl : v = r := by simpa using hv
      have h1 : Sp XV (piv has row k ++ (ov ++ [d]).map fun o => (0, o)) (XV.add v (0, d)) := Sp.mono (fun _ h => List.mem_append_left _ h) hr
      have h2 := Sp.add h1 (Sp.mem (G := XV) (L := piv has row k ++ (ov ++ [d]).map fun o => (0, o)) (v := (0, d)) (by simp))
      rwa [XV.assoc, XV.self, XV.right] at h2
theorem Table.put {L : List RV} {k : Nat} {has has' : Nat → Bool} {row row' : Nat → RV} {ov : List (Nat → UInt8)} (h : Table L k has row ov) {r r' : RV} {p : Nat} (hr : Sp XV (piv has row k) (XV.add r r')) (hp : has p = false) (hpk : p < k) (ht : r'.1.testBit p = true ∧ r'.1 < 2 ^ (p + 1))
    (hh : ∀ q, has' q = if q = p then true else has q) (hw : ∀ q, row' q = if q = p then r' else row q) : Table (L ++ [r]) k has' row' ov := by
  have hold : ∀ v ∈ piv has row k, v ∈ piv has' row' k := fun v hv => by
    obtain ⟨b, h1, h2, h3⟩ := mem_piv.1 hv
    have hbp : b ≠ p := fun e => by rw [e, hp] at h2; cases h2
    exact mem_piv.2 ⟨b, h1, by rw [hh, if_neg hbp]; exact h2, by rw [hw, if_neg hbp]; exact h3⟩
  have hnew : r' ∈ piv has' row' k := mem_piv.2 ⟨p, hpk, by rw [hh, if_pos rfl], by rw [hw, if_pos rfl]⟩
  refine ⟨fun q hq => ?_, fun q hq => ?_, fun x => Sp.same (fun v hv => ?_) (fun v hv => ?_) x⟩
  · rw [hh] at hq
    by_cases c : q = p
    · omega
    · rw [if_neg c] at hq; exact h.lt q hq
  · rw [hh] at hq
    rw [hw]
    by_cases c : q = p
    · rw [if_pos c, c]; exact ht
    · rw [if_neg c] at hq ⊢; exact h.top q hq
  · rcases List.mem_append.1 hv with hv | hv
    · obtain ⟨b, h1, h2, h3⟩ := mem_piv.1 hv
      rw [hh] at h2
      rw [hw] at h3
      by_cases c : b = p
      · rw [if_pos c] at h3
        subst h3
        have h1 : Sp XV (L ++ [r]) (XV.add r r') := Sp.mono (fun _ h => List.mem_append_left _ h) (h.cleared.row hr)
        have h2 := Sp.add (Sp.mem (G := XV) (L := L ++ [r]) (v := r) (by simp)) h1
        rwa [XV.twice] at h2
      · rw [if_neg c] at h2 h3
        exact Sp.mono (fun _ h => List.mem_append_left _ h) (h.cleared.row (Sp.mem (mem_piv.2 ⟨b, h1, h2, h3⟩)))
    · exact Sp.mono (fun _ h => List.mem_append_left _ h) ((h.span v).1 (Sp.mem (List.mem_append_right _ hv)))
  · rcases List.mem_append.1 hv with hv | hv
    · refine Sp.mono (fun u hu => ?_) ((h.span v).2 (Sp.mem hv))
      rcases List.mem_append.1 hu with hu | hu
      · exact List.mem_append_left _ (hold u hu)
      · exact List.mem_append_right _ hu
    · obtain rfl : v = r := by simpa using hv
      have h1 : Sp XV (piv has' row' k ++ ov.map fun o => (0, o)) (XV.add v r') := Sp.mono (fun u hu => List.mem_append_left _ (hold u hu)) hr
      have h2 := Sp.add h1 (Sp.mem (G := XV) (L := piv has' row' k ++ ov.map fun o => (0, o)) (v := r') (List.mem_append_left _ hnew))
      rwa [XV.assoc, XV.self, XV.right] at h2

/-! Place by place, as the document clears. -/
structure Clr (L : List RV) (k N b : Nat) (R : Nat → RV) (at_ : Nat → Option Nat) (used : Nat → Bool) : Prop where
  span : ∀ x, Sp XV ((List.range N).map R) x ↔ Sp XV L x
  lt : ∀ i, i < N → (R i).1 < 2 ^ k
  found : ∀ c, c < b → ∀ i, at_ c = some i → i < N ∧ used i = true ∧ (R i).1.testBit c = true ∧ ∀ j, j < N → j ≠ i → (R j).1.testBit c = false
  lost : ∀ c, c < b → at_ c = none → ∀ i, i < N → used i = false → (R i).1.testBit c = false
  used : ∀ i, used i = true → ∃ c, c < b ∧ at_ c = some i
  apart : ∀ c d i, c < b → d < b → at_ c = some i → at_ d = some i → c = d
theorem clr_none {L : List RV} {k N : Nat} {R : Nat → RV} {at_ : Nat → Option Nat} {used : Nat → Bool} (hL : L = (List.range N).map R) (hlt : ∀ i, i < N → (R i).1 < 2 ^ k) (hu : ∀ i, used i = false) : Clr L k N 0 R at_ used :=
  ⟨fun x => by rw [hL], hlt, fun c hc => absurd hc (Nat.not_lt_zero _), fun c hc => absurd hc (Nat.not_lt_zero _), (fun i h => by rw [hu] at h; cases h), fun c d i hc => absurd hc (Nat.not_lt_zero _)⟩
theorem Clr.skip {L : List RV} {k N b : Nat} {R : Nat → RV} {at_ : Nat → Option Nat} {used : Nat → Bool} (h : Clr L k N b R at_ used) (ha : at_ b = none) (hno : ∀ i, i < N → used i = false → (R i).1.testBit b = false) : Clr L k N (b + 1) R at_ used := by
  refine ⟨h.span, h.lt, fun c hc i hi => ?_, fun c hc hn => ?_, fun i hi => ?_, fun c d i hc hd h1 h2 => ?_⟩
  · by_cases e : c = b
    · subst e; rw [ha] at hi; cases hi
    · exact h.found c (by omega) i hi
  · by_cases e : c = b
    · subst e; exact hno
    · exact h.lost c (by omega) hn
  · obtain ⟨c, hc, hc2⟩ := h.used i hi
    exact ⟨c, by omega, hc2⟩
  · by_cases e : c = b
    · subst e; rw [ha] at h1; cases h1
    · by_cases e2 : d = b
      · subst e2; rw [ha] at h2; cases h2
      · exact h.apart c d i (by omega) (by omega) h1 h2
theorem Clr.take {L : List RV} {k N b : Nat} {R R' : Nat → RV} {at_ at' : Nat → Option Nat} {used used' : Nat → Bool} (h : Clr L k N b R at_ used) {i : Nat} (hi : i < N) (hb : (R i).1.testBit b = true) (hu : used i = false)
    (hR : ∀ j, j < N → R' j = if j ≠ i ∧ (R j).1.testBit b = true then XV.add (R j) (R i) else R j) (ha : ∀ c, at' c = if c = b then some i else at_ c) (hus : ∀ j, used' j = if j = i then true else used j) : Clr L k N (b + 1) R' at' used' := by
  have hRi : R' i = R i := by rw [hR i hi, if_neg (by simp)]
  have hlow : ∀ c, c < b → (R i).1.testBit c = false := fun c hc => by
    cases e : at_ c with
    | none => exact h.lost c hc e i hi hu
    | some j =>
      obtain ⟨_, h2, _, h4⟩ := h.found c hc j e
      exact h4 i hi (fun e2 => by rw [← e2, hu] at h2; cases h2)
  have hbit : ∀ j, j < N → ∀ c, c < b → (R' j).1.testBit c = (R j).1.testBit c := fun j hj c hc => by
    rw [hR j hj]
    by_cases q : j ≠ i ∧ (R j).1.testBit b = true
    · rw [if_pos q, XV_fst, Nat.testBit_xor, hlow c hc]; simp
    · rw [if_neg q]
  refine ⟨fun x => ?_, fun j hj => ?_, fun c hc j hj => ?_, fun c hc hn j hj hju => ?_, fun j hj => ?_, fun c d j hc hd h1 h2 => ?_⟩
  · rw [← h.span x]
    have hi2 : Sp XV ((List.range N).map R') (R i) := Sp.mem (List.mem_map.2 ⟨i, List.mem_range.2 hi, hRi⟩)
    refine Sp.same (fun v hv => ?_) (fun v hv => ?_) x
    · obtain ⟨j, hj, rfl⟩ := List.mem_map.1 hv
      have hj := List.mem_range.1 hj
      have hj2 : Sp XV ((List.range N).map R) (R j) := Sp.mem (List.mem_map.2 ⟨j, List.mem_range.2 hj, rfl⟩)
      rw [hR j hj]
      by_cases q : j ≠ i ∧ (R j).1.testBit b = true
      · rw [if_pos q]; exact Sp.add hj2 (Sp.mem (List.mem_map.2 ⟨i, List.mem_range.2 hi, rfl⟩))
      · rw [if_neg q]; exact hj2
    · obtain ⟨j, hj, rfl⟩ := List.mem_map.1 hv
      have hj := List.mem_range.1 hj
      have hj2 : Sp XV ((List.range N).map R') (R' j) := Sp.mem (List.mem_map.2 ⟨j, List.mem_range.2 hj, rfl⟩)
      by_cases q : j ≠ i ∧ (R j).1.testBit b = true
      · have h3 := Sp.add hj2 hi2
        rwa [hR j hj, if_pos q, XV.assoc, XV.self, XV.right] at h3
      · rwa [hR j hj, if_neg q] at hj2
  · rw [hR j hj]
    by_cases q : j ≠ i ∧ (R j).1.testBit b = true
    · rw [if_pos q, XV_fst]; exact Nat.xor_lt_two_pow (h.lt j hj) (h.lt i hi)
    · rw [if_neg q]; exact h.lt j hj
  · by_cases e : c = b
    · subst e
      rw [ha, if_pos rfl] at hj
      cases hj
      refine ⟨hi, by rw [hus, if_pos rfl], by rw [hRi]; exact hb, fun q hq hne => ?_⟩
      rw [hR q hq]
      by_cases z : q ≠ i ∧ (R q).1.testBit c = true
      · rw [if_pos z, XV_fst, Nat.testBit_xor, z.2, hb]; rfl
      · rw [if_neg z]
        cases e : (R q).1.testBit c with
        | false => rfl
        | true => exact absurd ⟨hne, e⟩ z
    · rw [ha, if_neg e] at hj
      obtain ⟨h1, h2, h3, h4⟩ := h.found c (by omega) j hj
      refine ⟨h1, ?_, by rw [hbit j h1 c (by omega)]; exact h3, fun q hq hne => by rw [hbit q hq c (by omega)]; exact h4 q hq hne⟩
      rw [hus]; split
      · rfl
      · exact h2
  · by_cases e : c = b
    · subst e; rw [ha, if_pos rfl] at hn; cases hn
    · rw [ha, if_neg e] at hn
      rw [hus] at hju
      by_cases q : j = i
      · rw [if_pos q] at hju; cases hju
      · rw [if_neg q] at hju
        rw [hbit j hj c (by omega)]
        exact h.lost c (by omega) hn j hj hju
  · rw [hus] at hj
    by_cases q : j = i
    · exact ⟨b, by omega, by rw [ha, if_pos rfl, q]⟩
    · rw [if_neg q] at hj
      obtain ⟨c, hc, hc2⟩ := h.used j hj
      exact ⟨c, by omega, by rw [ha, if_neg (by omega)]; exact hc2⟩
  · have key : ∀ c, c < b → at_ c ≠ some i := fun c hc e => by
      have := (h.found c hc i e).2.1
      rw [hu] at this; cases this
    rw [ha] at h1 h2
    by_cases e : c = b
    · by_cases e2 : d = b
      · omega
      · rw [if_pos e] at h1
        rw [if_neg e2] at h2
        cases h1
        exact absurd h2 (key d (by omega))
    · by_cases e2 : d = b
      · rw [if_neg e] at h1
        rw [if_pos e2] at h2
        cases h2
        exact absurd h1 (key c (by omega))
      · rw [if_neg e] at h1
        rw [if_neg e2] at h2
        exact h.apart c d j (by omega) (by omega) h1 h2
theorem no_bits {m k : Nat} (hm : m < 2 ^ k) (h : ∀ c, c < k → m.testBit c = false) : m = 0 := Nat.eq_of_testBit_eq fun c => by
  rw [Nat.zero_testBit]
  rcases Nat.lt_or_ge c k with hc | hc
  · exact h c hc
  · exact bit_big hm hc
theorem Clr.rest {L : List RV} {k N : Nat} {R : Nat → RV} {at_ : Nat → Option Nat} {used : Nat → Bool} (h : Clr L k N k R at_ used) {i : Nat} (hi : i < N) (hu : used i = false) : (R i).1 = 0 := no_bits (h.lt i hi) fun c hc => by
  cases e : at_ c with
  | none => exact h.lost c hc e i hi hu
  | some j =>
    obtain ⟨_, h2, _, h4⟩ := h.found c hc j e
    exact h4 i hi (fun e2 => by rw [← e2, hu] at h2; cases h2)
theorem Clr.cleared {L : List RV} {k N : Nat} {R : Nat → RV} {at_ : Nat → Option Nat} {used : Nat → Bool} (h : Clr L k N k R at_ used) : Cleared L k (fun b => (at_ b).isSome) (fun b => R ((at_ b).getD 0)) (((List.range N).filter fun i => decide ((R i).1 = 0)).map fun i => (R i).2) := by
  refine ⟨fun b hb h1 => ?_, fun x => ?_⟩
  · obtain ⟨i, hi⟩ := Option.isSome_iff_exists.1 h1
    obtain ⟨h2, h3, h4, h5⟩ := h.found b hb i hi
    refine ⟨by simp only [hi, Option.getD_some]; exact h4, fun c hc h6 => ?_⟩
    obtain ⟨j, hj⟩ := Option.isSome_iff_exists.1 h6
    simp only [hj, Option.getD_some]
    refine h5 j (h.found c (by omega) j hj).1 fun e => ?_
    subst e
    have := h.apart c b j (by omega) hb hj hi
    omega
  · rw [← h.span x]
    refine Sp.same (fun v hv => ?_) (fun v hv => ?_) x
    · rcases List.mem_append.1 hv with hv | hv
      · obtain ⟨b, hb, h1, rfl⟩ := mem_piv.1 hv
        obtain ⟨i, hi⟩ := Option.isSome_iff_exists.1 h1
        simp only [hi, Option.getD_some]
        exact Sp.mem (List.mem_map.2 ⟨i, List.mem_range.2 (h.found b hb i hi).1, rfl⟩)
      · obtain ⟨o, ho, rfl⟩ := List.mem_map.1 hv
        obtain ⟨i, hi, rfl⟩ := List.mem_map.1 ho
        obtain ⟨h1, h2⟩ := List.mem_filter.1 hi
        have e : ((0, (R i).2) : RV) = R i := Prod.ext (of_decide_eq_true h2).symm rfl
        rw [e]
        exact Sp.mem (List.mem_map.2 ⟨i, h1, rfl⟩)
    · obtain ⟨i, hi, rfl⟩ := List.mem_map.1 hv
      have hi := List.mem_range.1 hi
      cases hu : used i with
      | true =>
        obtain ⟨c, hc, hc2⟩ := h.used i hu
        exact Sp.mem (List.mem_append_left _ (mem_piv.2 ⟨c, hc, by simp [hc2], by simp [hc2]⟩))
      | false =>
        have h0 := h.rest hi hu
        refine Sp.mem (List.mem_append_right _ (List.mem_map.2 ⟨(R i).2, List.mem_map.2 ⟨i, List.mem_filter.2 ⟨List.mem_range.2 hi, decide_eq_true h0⟩, rfl⟩, ?_⟩))
        exact Prod.ext h0.symm rfl
/-- Where each place has a row, that is of it alone. -/
theorem Clr.alone {L : List RV} {k N : Nat} {R : Nat → RV} {at_ : Nat → Option Nat} {used : Nat → Bool} (h : Clr L k N k R at_ used) (hall : ∀ b, b < k → at_ b ≠ none) {b i : Nat} (hb : b < k) (hi : at_ b = some i) : (R i).1 = 2 ^ b := Nat.eq_of_testBit_eq fun c => by
  rw [Nat.testBit_two_pow]
  obtain ⟨h1, h2, h3, h4⟩ := h.found b hb i hi
  by_cases e : b = c
  · subst e; simp [h3]
  · rw [decide_eq_false e]
    rcases Nat.lt_or_ge c k with hc | hc
    · cases e2 : at_ c with
      | none => exact absurd e2 (hall c hc)
      | some j =>
        refine (h.found c hc j e2).2.2.2 i h1 fun e3 => ?_
        subst e3
        exact e (h.apart b c i hb hc hi e2)
    · exact bit_big (h.lt i h1) hc
end Go.Proofs.YtjgifjkdgoijmaaGreatDoor

namespace Go.Proofs.YtjgifjkdgoijmaaGreatDoor
open Go.RowKit
set_option linter.unusedVariables false
set_option maxRecDepth 100000

/-- n bytes 0. -/
def zerosB (n : Nat) : ByteArray := ⟨(List.replicate n 0).toArray⟩
theorem zerosB_size (n : Nat) : (zerosB n).size = n := by rw [Lib.size_eq, zerosB, List.toList_toArray, List.length_replicate]
theorem zerosB_succ (n : Nat) : zerosB n ++ ⟨#[0]⟩ = zerosB (n + 1) := by
  apply ByteArray.ext
  rw [ByteArray.data_append, ← Array.toList_inj, Array.toList_append]
  simp [zerosB, List.replicate_succ']
end Go.Proofs.YtjgifjkdgoijmaaGreatDoor

namespace Go.Proofs.YtjgifjkdgoijmaaGreatDoor
open Go.RowKit
set_option linter.unusedVariables false
set_option maxRecDepth 100000

theorem zerosB_at (n i : Nat) : atB (zerosB n) i = 0 := by
  rw [atB, zerosB, List.toList_toArray, List.getD, List.getElem?_replicate]; split <;> rfl
end Go.Proofs.YtjgifjkdgoijmaaGreatDoor
