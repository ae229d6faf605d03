/-
  Lemmas for the law above, joined into one text (Base, GF, RV, ZeroN, Lay, XorN, ZeroA, ChN, Full, DegN, SetN, SvN, NdN, RkN). No statement is proved here.
-/
import Derived.Test.YtakaeikobahaoaaDoorRows
import Derived.WalkKit
import Derived.WalkSpells
import Derived.WalkLawsBesides
import Derived.Lib.Strings
import Derived.Laws.MakeOwn
import Derived.Laws.IdiomStrings
import Derived.Laws.BitsAll
import Derived.RegionTactic
import Derived.BigRegion
import Derived.Lib.BitFns
namespace Go.Proofs.YtakaeikobahaoaaDoor
open Go.RowKit
set_option linter.unusedVariables false
set_option maxRecDepth 100000

theorem hide {p : Prop} (h : p) : Hid p := h
theorem ret_int {k : IntKind} {a b : Int} (h : a = b) : Ending.returned (.int k a) = .returned (.int k b) := by rw [h]
theorem ret_bool {a b : Bool} (h : a = b) : Ending.returned (.bool a) = .returned (.bool b) := by rw [h]
theorem ret_two {a a' b b' : Value} (h : a = a') (h' : b = b') : Ending.returned (.tuple #[a, b]) = .returned (.tuple #[a', b']) := by rw [h, h']
theorem cell_lt {w : World} {a : Addr} {v : Value} (h : w.cell? a = some v) : a.block < w.heap.size := by
  rcases Nat.lt_or_ge a.block w.heap.size with h' | h'
  · exact h'
  · simp [World.cell?, Array.getElem?_eq_none h'] at h
theorem cell_below {w w1 : World} {a : Addr} {v : Value} (hb : Below w.heap.size w w1) (h : w.cell? a = some v) : w1.cell? a = some v :=
  (hb.cell (p := a) (cell_lt h)).trans h
/-- Two calls, one behind the other. -/
theorem below_two {w w1 w2 : World} (h : Below w.heap.size w w1) (k : Below w1.heap.size w1 w2) : Below w.heap.size w w2 := h.trans (k.mono h.size)
theorem below_drewN {B : Nat} {a w : World} (h : Below B a w) (n : Nat) : Below B a (w.drewN n) := h.trans ⟨rfl, rfl, rfl, Nat.le_refl _, fun _ _ => rfl⟩
end Go.Proofs.YtakaeikobahaoaaDoor

namespace Go.Proofs.YtakaeikobahaoaaDoor
set_option linter.unusedVariables false
set_option maxRecDepth 100000

/-- Things that go over one another, each twice being none. -/
structure XG (α : Type) where
  add : α → α → α
  zero : α
  assoc : ∀ a b c, add (add a b) c = add a (add b c)
  comm : ∀ a b, add a b = add b a
  self : ∀ a, add a a = zero
  left : ∀ a, add zero a = a
theorem XG.right {α : Type} (G : XG α) (a : α) : G.add a G.zero = a := by rw [G.comm, G.left]
theorem XG.twice {α : Type} (G : XG α) (a b : α) : G.add a (G.add a b) = b := by rw [← G.assoc, G.self, G.left]
theorem XG.same {α : Type} (G : XG α) {a b : α} (h : G.add a b = G.zero) : a = b := by
  have := G.twice a b
  rw [h, G.right] at this
  exact this
theorem XG.four {α : Type} (G : XG α) (a b c d : α) : G.add (G.add a b) (G.add c d) = G.add (G.add a c) (G.add b d) := by
  rw [G.assoc, ← G.assoc b, G.comm b c, G.assoc c, ← G.assoc]

/-- What some of a list make, one over the other. -/
def Sp {α : Type} (G : XG α) : List α → α → Prop
  | [], x => x = G.zero
  | v :: L, x => Sp G L x ∨ Sp G L (G.add v x)
theorem Sp.zero {α : Type} (G : XG α) : ∀ L : List α, Sp G L G.zero
  | [] => rfl
  | v :: L => Or.inl (Sp.zero G L)
theorem Sp.add {α : Type} {G : XG α} : ∀ {L : List α} {x y : α}, Sp G L x → Sp G L y → Sp G L (G.add x y)
  | [], x, y, h, k => by
    have h : x = G.zero := h
    have k : y = G.zero := k
    rw [h, k]; exact G.left _
  | v :: L, x, y, h, k => by
    rcases h with h | h <;> rcases k with k | k
    · exact Or.inl (Sp.add h k)
    · refine Or.inr ?_
      have := Sp.add h k
      rwa [← G.assoc, G.comm x v, G.assoc] at this
    · refine Or.inr ?_
      have := Sp.add h k
      rwa [G.assoc] at this
    · refine Or.inl ?_
      have := Sp.add h k
      rwa [G.four, G.self, G.left] at this
theorem Sp.mem {α : Type} {G : XG α} : ∀ {L : List α} {v : α}, v ∈ L → Sp G L v
  | u :: L, v, h => by
    rcases List.mem_cons.1 h with rfl | h
    · exact Or.inr (by rw [G.self]; exact Sp.zero G L)
    · exact Or.inl (Sp.mem h)
theorem Sp.ind {α : Type} {G : XG α} {C : α → Prop} (h0 : C G.zero) (ha : ∀ x y, C x → C y → C (G.add x y)) : ∀ {L : List α}, (∀ v ∈ L, C v) → ∀ {x : α}, Sp G L x → C x
  | [], _, x, h => by
    have h : x = G.zero := h
    rw [h]; exact h0
  | v :: L, hL, x, h => by
    have ih := fun {x} => Sp.ind h0 ha (L := L) (fun v hv => hL v (List.mem_cons_of_mem _ hv)) (x := x)
    rcases h with h | h
    · exact ih h
    · have := ha v _ (hL v (by simp)) (ih h)
      rwa [G.twice] at this
theorem Sp.sub {α : Type} {G : XG α} {L M : List α} (h : ∀ v ∈ L, Sp G M v) {x : α} (hx : Sp G L x) : Sp G M x := Sp.ind (Sp.zero G M) (fun _ _ => Sp.add) h hx
theorem Sp.same {α : Type} {G : XG α} {L M : List α} (h : ∀ v ∈ L, Sp G M v) (k : ∀ v ∈ M, Sp G L v) (x : α) : Sp G L x ↔ Sp G M x := ⟨Sp.sub h, Sp.sub k⟩
theorem Sp.mono {α : Type} {G : XG α} {L M : List α} (h : ∀ v ∈ L, v ∈ M) {x : α} (hx : Sp G L x) : Sp G M x := Sp.sub (fun v hv => Sp.mem (h v hv)) hx
theorem Sp.map {α β : Type} {G : XG α} {K : XG β} (f : α → β) (h0 : f G.zero = K.zero) (ha : ∀ x y, f (G.add x y) = K.add (f x) (f y)) {L : List α} {x : α} (h : Sp G L x) : Sp K (L.map f) (f x) :=
  Sp.ind (C := fun x => Sp K (L.map f) (f x)) (by rw [h0]; exact Sp.zero _ _) (fun x y hx hy => by rw [ha]; exact Sp.add hx hy) (fun v hv => Sp.mem (List.mem_map_of_mem hv)) h
theorem Sp.of_map {α β : Type} {G : XG α} {K : XG β} (f : α → β) (h0 : f G.zero = K.zero) (ha : ∀ x y, f (G.add x y) = K.add (f x) (f y)) {L : List α} {y : β} (h : Sp K (L.map f) y) : ∃ x, Sp G L x ∧ f x = y :=
  Sp.ind (C := fun y => ∃ x, Sp G L x ∧ f x = y) ⟨_, Sp.zero _ _, h0⟩ (fun x y ⟨a, ha1, ha2⟩ ⟨b, hb1, hb2⟩ => ⟨G.add a b, Sp.add ha1 hb1, by rw [ha, ha2, hb2]⟩) (fun v hv => by
    obtain ⟨x, hx, rfl⟩ := List.mem_map.1 hv
    exact ⟨x, Sp.mem hx, rfl⟩) h

/-- Sets of places, a bit each. -/
def XN : XG Nat := ⟨(· ^^^ ·), 0, Nat.xor_assoc, Nat.xor_comm, Nat.xor_self, Nat.zero_xor⟩
/-- None of them is what those behind it make. -/
def Indep : List Nat → Prop
  | [] => True
  | v :: L => Indep L ∧ ¬ Sp XN L v
def combos : List Nat → List Nat
  | [] => [0]
  | v :: L => combos L ++ (combos L).map (v ^^^ ·)
theorem combos_len : ∀ L : List Nat, (combos L).length = 2 ^ L.length
  | [] => rfl
  | v :: L => by
    show (combos L ++ (combos L).map (v ^^^ ·)).length = 2 ^ (L.length + 1)
    rw [List.length_append, List.length_map, combos_len L, Nat.pow_succ]; omega
theorem mem_combos : ∀ {L : List Nat} {x : Nat}, x ∈ combos L ↔ Sp XN L x
  | [], x => by simp [combos, Sp, XN]
  | v :: L, x => by
    show x ∈ combos L ++ (combos L).map (v ^^^ ·) ↔ Sp XN L x ∨ Sp XN L (v ^^^ x)
    rw [List.mem_append, List.mem_map, mem_combos]
    refine or_congr Iff.rfl ⟨fun ⟨a, ha, e⟩ => ?_, fun h => ⟨v ^^^ x, mem_combos.2 h, XN.twice v x⟩⟩
    subst e
    have e2 : v ^^^ (v ^^^ a) = a := XN.twice v a
    rw [e2]; exact mem_combos.1 ha
theorem combos_nodup : ∀ {L : List Nat}, Indep L → (combos L).Nodup
  | [], _ => by simp [combos]
  | v :: L, h => by
    have ih := combos_nodup h.1
    show (combos L ++ (combos L).map (v ^^^ ·)).Nodup
    rw [List.nodup_append]
    refine ⟨ih, ?_, ?_⟩
    · refine List.Pairwise.map _ (fun a b hab => ?_) ih
      intro e
      have e2 := congrArg (fun t => v ^^^ t) e
      have h1 : v ^^^ (v ^^^ a) = a := XN.twice v a
      have h2 : v ^^^ (v ^^^ b) = b := XN.twice v b
      simp only [h1, h2] at e2
      exact hab e2
    · intro a ha b hb e
      subst e
      obtain ⟨c, hc, e⟩ := List.mem_map.1 hb
      refine h.2 ?_
      have hs := Sp.add (mem_combos.1 ha) (mem_combos.1 hc)
      have e3 : a ^^^ c = v := by
        rw [← e]
        show v ^^^ c ^^^ c = v
        rw [Nat.xor_assoc, Nat.xor_self, Nat.xor_zero]
      exact e3 ▸ hs
theorem nodup_le : ∀ {l m : List Nat}, l.Nodup → (∀ x ∈ l, x ∈ m) → l.length ≤ m.length
  | [], _, _, _ => Nat.zero_le _
  | a :: l, m, hn, hm => by
    have ha := hm a (by simp)
    have h1 := nodup_le (l := l) (m := m.erase a) (List.nodup_cons.1 hn).2 (fun x hx => (List.mem_erase_of_ne (fun (e : x = a) => (List.nodup_cons.1 hn).1 (e ▸ hx))).2 (hm x (by simp [hx])))
    rw [List.length_erase_of_mem ha] at h1
    have := List.length_pos_of_mem ha
    simp; omega
/-- The rank of a space. -/
def Dim (S : Nat → Prop) (r : Nat) : Prop := ∃ B : List Nat, B.length = r ∧ Indep B ∧ ∀ x, Sp XN B x ↔ S x
theorem Dim.least {S : Nat → Prop} {r : Nat} (h : Dim S r) {I : List Nat} (hi : Indep I) (hs : ∀ v ∈ I, S v) : I.length ≤ r := by
  obtain ⟨B, rfl, hB, hx⟩ := h
  have h1 := nodup_le (combos_nodup hi) (m := combos B) (fun x hx' => mem_combos.2 (Sp.sub (fun v hv => (hx v).2 (hs v hv)) (mem_combos.1 hx')))
  rw [combos_len, combos_len] at h1
  exact (Nat.pow_le_pow_iff_right (by decide)).1 h1
theorem Dim.det {S : Nat → Prop} {r q : Nat} (h : Dim S r) (k : Dim S q) : r = q := by
  obtain ⟨B, h1, h2, h3⟩ := h
  obtain ⟨C, k1, k2, k3⟩ := k
  have a := Dim.least ⟨B, h1, h2, h3⟩ k2 (fun v hv => (k3 v).1 (Sp.mem hv))
  have b := Dim.least ⟨C, k1, k2, k3⟩ h2 (fun v hv => (h3 v).1 (Sp.mem hv))
  omega
theorem Dim.congr {S T : Nat → Prop} {r : Nat} (h : Dim S r) (e : ∀ x, S x ↔ T x) : Dim T r := by
  obtain ⟨B, h1, h2, h3⟩ := h
  exact ⟨B, h1, h2, fun x => (h3 x).trans (e x)⟩
/-- One more raises it by one at most. -/
theorem Dim.more {L : List Nat} {r : Nat} (h : Dim (Sp XN L) r) (v : Nat) : Dim (Sp XN (L ++ [v])) r ∧ Sp XN L v ∨ Dim (Sp XN (L ++ [v])) (r + 1) ∧ ¬ Sp XN L v := by
  obtain ⟨B, h1, h2, h3⟩ := h
  by_cases c : Sp XN L v
  · refine Or.inl ⟨⟨B, h1, h2, fun x => (h3 x).trans (Sp.same (fun u hu => Sp.mem (List.mem_append_left _ hu)) (fun u hu => ?_) x)⟩, c⟩
    rcases List.mem_append.1 hu with hu | hu
    · exact Sp.mem hu
    · rw [List.mem_singleton.1 hu]; exact c
  · refine Or.inr ⟨⟨v :: B, by simp [h1], ⟨h2, fun k => c ((h3 v).1 k)⟩, fun x => Sp.same (fun u hu => ?_) (fun u hu => ?_) x⟩, c⟩
    · rcases List.mem_cons.1 hu with rfl | hu
      · exact Sp.mem (by simp)
      · exact Sp.mono (fun _ h => List.mem_append_left _ h) ((h3 u).1 (Sp.mem hu))
    · rcases List.mem_append.1 hu with hu | hu
      · exact Or.inl ((h3 u).2 (Sp.mem hu))
      · rw [List.mem_singleton.1 hu]; exact Sp.mem (by simp)
/-- A place that none of them has none of what they make has. -/
theorem Sp.bit {L : List Nat} {b : Nat} (h : ∀ v ∈ L, v.testBit b = false) {x : Nat} (hx : Sp XN L x) : x.testBit b = false :=
  Sp.ind (G := XN) (C := fun x => x.testBit b = false) (Nat.zero_testBit b) (fun x y h1 h2 => by show (x ^^^ y).testBit b = false; rw [Nat.testBit_xor, h1, h2]; rfl) h hx
theorem Sp.lt {L : List Nat} {k : Nat} (h : ∀ v ∈ L, v < 2 ^ k) {x : Nat} (hx : Sp XN L x) : x < 2 ^ k :=
  Sp.ind (G := XN) (C := fun x => x < 2 ^ k) (Nat.pow_pos (by decide)) (fun x y h1 h2 => Nat.xor_lt_two_pow h1 h2) h hx

/-- Rows by their places: those that there are, the last place first. -/
def piv {α : Type} (has : Nat → Bool) (row : Nat → α) : Nat → List α
  | 0 => []
  | b + 1 => if has b then row b :: piv has row b else piv has row b
theorem mem_piv {α : Type} {has : Nat → Bool} {row : Nat → α} {v : α} : ∀ {k : Nat}, v ∈ piv has row k ↔ ∃ b, b < k ∧ has b = true ∧ row b = v
  | 0 => by simp [piv]
  | k + 1 => by
    unfold piv
    by_cases c : has k = true
    · rw [if_pos c, List.mem_cons, mem_piv]
      constructor
      · rintro (rfl | ⟨b, h1, h2, h3⟩)
        · exact ⟨k, by omega, c, rfl⟩
        · exact ⟨b, by omega, h2, h3⟩
      · rintro ⟨b, h1, h2, h3⟩
        by_cases e : b = k
        · subst e; exact Or.inl h3.symm
        · exact Or.inr ⟨b, by omega, h2, h3⟩
    · rw [if_neg c, mem_piv]
      constructor
      · rintro ⟨b, h1, h2, h3⟩
        exact ⟨b, by omega, h2, h3⟩
      · rintro ⟨b, h1, h2, h3⟩
        by_cases e : b = k
        · subst e; exact absurd h2 c
        · exact ⟨b, by omega, h2, h3⟩
def cntB (has : Nat → Bool) (k : Nat) : Nat := ((List.range k).filter has).length
theorem cntB_succ (has : Nat → Bool) (k : Nat) : cntB has (k + 1) = cntB has k + if has k then 1 else 0 := by
  unfold cntB
  rw [List.range_succ, List.filter_append, List.length_append]
  cases e : has k <;> simp [e]
theorem piv_len {α : Type} (has : Nat → Bool) (row : Nat → α) : ∀ k : Nat, (piv has row k).length = cntB has k
  | 0 => rfl
  | k + 1 => by
    unfold piv
    rw [cntB_succ]
    by_cases c : has k = true
    · rw [if_pos c, if_pos c]; simp [piv_len has row k]
    · rw [if_neg c, if_neg c, piv_len has row k]; rfl
theorem piv_map {α β : Type} (f : α → β) (has : Nat → Bool) (row : Nat → α) : ∀ k : Nat, (piv has row k).map f = piv has (fun b => f (row b)) k
  | 0 => rfl
  | k + 1 => by
    unfold piv
    by_cases c : has k = true
    · rw [if_pos c, if_pos c, List.map_cons, piv_map f has row k]
    · rw [if_neg c, if_neg c, piv_map f has row k]
theorem cntB_le (has : Nat → Bool) (k : Nat) : cntB has k ≤ k := Nat.le_trans (List.length_filter_le _ _) (by simp)
theorem cntB_all {has : Nat → Bool} {k : Nat} : cntB has k = k ↔ ∀ b, b < k → has b = true := by
  induction k with
  | zero => simp [cntB]
  | succ k ih =>
    rw [cntB_succ]
    have := cntB_le has k
    constructor
    · intro h b hb
      have hk : has k = true := by
        cases e : has k with
        | true => rfl
        | false => rw [e] at h; simp at h; omega
      rw [hk] at h
      by_cases c : b = k
      · rw [c]; exact hk
      · exact ih.1 (by simp at h; omega) b (by omega)
    · intro h
      rw [h k (by omega), ih.2 (fun b hb => h b (by omega))]; rfl
/-- Each has its own place, and those ahead have not. -/
def Led (has : Nat → Bool) (row : Nat → Nat) (k : Nat) : Prop := ∀ b, b < k → has b = true → (row b).testBit b = true ∧ ∀ c, c < b → has c = true → (row c).testBit b = false
theorem piv_indep {has : Nat → Bool} {row : Nat → Nat} : ∀ {k : Nat}, Led has row k → Indep (piv has row k)
  | 0, _ => trivial
  | k + 1, h => by
    have ih := piv_indep (k := k) (fun b hb h1 => h b (by omega) h1)
    unfold piv
    by_cases c : has k = true
    · rw [if_pos c]
      refine ⟨ih, fun hs => ?_⟩
      obtain ⟨h1, h2⟩ := h k (by omega) c
      have := Sp.bit (b := k) (fun v hv => by
        obtain ⟨b, hb, hb2, rfl⟩ := mem_piv.1 hv
        exact h2 b hb hb2) hs
      rw [this] at h1; cases h1
    · rw [if_neg c]; exact ih
end Go.Proofs.YtakaeikobahaoaaDoor

namespace Go.Proofs.YtakaeikobahaoaaDoor
set_option linter.unusedVariables false
set_option maxRecDepth 100000
/-- A row: of which blocks it is, a bit each, and its bytes. -/
abbrev RV := Nat × (Nat → UInt8)
def XV : XG RV := ⟨fun a b => (a.1 ^^^ b.1, fun i => a.2 i ^^^ b.2 i), (0, fun _ => 0),
  fun a b c => by simp only [Nat.xor_assoc, UInt8.xor_assoc], fun a b => by simp only [Nat.xor_comm a.1, UInt8.xor_comm (a.2 _)], fun a => by simp only [Nat.xor_self, UInt8.xor_self], fun a => by simp only [Nat.zero_xor, UInt8.zero_xor]⟩
theorem XV_add (a b : RV) : XV.add a b = (a.1 ^^^ b.1, fun i => a.2 i ^^^ b.2 i) := rfl
theorem XV_fst (a b : RV) : (XV.add a b).1 = a.1 ^^^ b.1 := rfl
theorem Sp.fst {L : List RV} {m : Nat} : Sp XN (L.map Prod.fst) m ↔ ∃ x, Sp XV L (m, x) :=
  ⟨fun h => by
    obtain ⟨⟨a, x⟩, h1, h2⟩ := Sp.of_map (G := XV) (K := XN) Prod.fst rfl (fun _ _ => rfl) h
    exact ⟨x, by rw [← h2]; exact h1⟩, fun ⟨x, h⟩ => Sp.map (G := XV) (K := XN) Prod.fst rfl (fun _ _ => rfl) h⟩
/-- There are no blocks of which all are. -/
def Clash (L : List RV) : Prop := ∃ x, Sp XV L (0, x) ∧ x ≠ fun _ => 0
theorem one_of {L : List RV} (h : ¬ Clash L) {m : Nat} {x y : Nat → UInt8} (hx : Sp XV L (m, x)) (hy : Sp XV L (m, y)) : x = y := by
  have hs := Sp.add hx hy
  have e : XV.add (m, x) (m, y) = (0, fun i => x i ^^^ y i) := by rw [XV_add]; simp
  rw [e] at hs
  refine Classical.byContradiction fun hne => h ⟨_, hs, fun h0 => hne (funext fun i => ?_)⟩
  have := congrFun h0 i
  simpa using this
theorem Clash.congr {L M : List RV} (h : ∀ x, Sp XV L x ↔ Sp XV M x) : Clash L ↔ Clash M := by
  unfold Clash
  simp only [h]
theorem Led.at {has : Nat → Bool} {row : Nat → RV} {k : Nat} (hl : Led has (fun b => (row b).1) k) {m : Nat} (hm : m ≤ k) : Led has (fun b => (row b).1) m := fun b hb h1 => hl b (by omega) h1
theorem piv_none {has : Nat → Bool} {row : Nat → RV} : ∀ {k : Nat}, Led has (fun b => (row b).1) k → ∀ {x : Nat → UInt8}, Sp XV (piv has row k) (0, x) → x = fun _ => 0
  | 0, _, x, h => by
    have h : ((0, x) : RV) = (0, fun _ => 0) := h
    exact (Prod.mk.inj h).2
  | k + 1, hl, x, h => by
    have hl' := hl.at (m := k) (by omega)
    unfold piv at h
    by_cases c : has k = true
    · rw [if_pos c] at h
      rcases h with h | h
      · exact piv_none hl' h
      · exfalso
        obtain ⟨h1, h2⟩ := hl k (by omega) c
        have h3 : Sp XN ((piv has row k).map Prod.fst) (row k).1 := by
          refine Sp.fst.2 ⟨fun i => (row k).2 i ^^^ x i, ?_⟩
          have e : XV.add (row k) (0, x) = ((row k).1, fun i => (row k).2 i ^^^ x i) := by rw [XV_add]; simp
          rw [e] at h
          exact h
        rw [piv_map] at h3
        have := Sp.bit (b := k) (fun v hv => by
          obtain ⟨b, hb, hb2, rfl⟩ := mem_piv.1 hv
          exact h2 b hb hb2) h3
        have h1' : (row k).1.testBit k = true := h1
        rw [this] at h1'; cases h1'
    · rw [if_neg c] at h
      exact piv_none hl' h
/-- What a clearing leaves: rows that each have a place of their own, and rows of no place. -/
structure Cleared (L : List RV) (k : Nat) (has : Nat → Bool) (row : Nat → RV) (ov : List (Nat → UInt8)) : Prop where
  led : Led has (fun b => (row b).1) k
  span : ∀ x, Sp XV (piv has row k ++ ov.map fun o => (0, o)) x ↔ Sp XV L x
theorem Cleared.clash {L : List RV} {k : Nat} {has : Nat → Bool} {row : Nat → RV} {ov : List (Nat → UInt8)} (h : Cleared L k has row ov) : Clash L ↔ ∃ o ∈ ov, o ≠ fun _ => 0 := by
  rw [← Clash.congr h.span]
  constructor
  · rintro ⟨x, hx, hne⟩
    refine Classical.byContradiction fun hno => hne (piv_none h.led (x := x) (Sp.sub (fun v hv => ?_) hx))
    rcases List.mem_append.1 hv with hv | hv
    · exact Sp.mem hv
    · obtain ⟨o, ho, rfl⟩ := List.mem_map.1 hv
      have e : o = fun _ => 0 := Classical.byContradiction fun hc => hno ⟨o, ho, hc⟩
      rw [e]; exact Sp.zero XV _
  · rintro ⟨o, ho, hne⟩
    exact ⟨o, Sp.mem (List.mem_append_right _ (List.mem_map.2 ⟨o, ho, rfl⟩)), hne⟩
theorem Cleared.dim {L : List RV} {k : Nat} {has : Nat → Bool} {row : Nat → RV} {ov : List (Nat → UInt8)} (h : Cleared L k has row ov) : Dim (Sp XN (L.map Prod.fst)) (cntB has k) := by
  refine ⟨piv has (fun b => (row b).1) k, piv_len _ _ _, piv_indep h.led, fun m => ?_⟩
  rw [← piv_map, Sp.fst, Sp.fst]
  constructor
  · rintro ⟨x, hx⟩
    exact ⟨x, (h.span _).1 (Sp.mono (fun _ h => List.mem_append_left _ h) hx)⟩
  · rintro ⟨x, hx⟩
    have hx := (h.span _).2 hx
    refine Sp.ind (G := XV) (C := fun v => ∃ x, Sp XV (piv has row k) (v.1, x)) ⟨_, Sp.zero XV _⟩ ?_ ?_ hx
    · rintro v u ⟨x, hx⟩ ⟨y, hy⟩
      have h9 := Sp.add hx hy
      exact ⟨_, h9⟩
    · intro v hv
      rcases List.mem_append.1 hv with hv | hv
      · exact ⟨v.2, Sp.mem hv⟩
      · obtain ⟨o, _, rfl⟩ := List.mem_map.1 hv
        exact ⟨_, Sp.zero XV _⟩
theorem Cleared.row {L : List RV} {k : Nat} {has : Nat → Bool} {row : Nat → RV} {ov : List (Nat → UInt8)} (h : Cleared L k has row ov) {x : RV} (hx : Sp XV (piv has row k) x) : Sp XV L x :=
  (h.span x).1 (Sp.mono (fun _ h => List.mem_append_left _ h) hx)

/-! Row by row, by the last place. -/
/-- Rows by their last places. -/
structure Table (L : List RV) (k : Nat) (has : Nat → Bool) (row : Nat → RV) (ov : List (Nat → UInt8)) : Prop where
  lt : ∀ p, has p = true → p < k
  top : ∀ p, has p = true → (row p).1.testBit p = true ∧ (row p).1 < 2 ^ (p + 1)
  span : ∀ x, Sp XV (piv has row k ++ ov.map fun o => (0, o)) x ↔ Sp XV L x
theorem bit_big {m p : Nat} (h : m < 2 ^ p) {q : Nat} (hq : p ≤ q) : m.testBit q = false := Nat.testBit_lt_two_pow (Nat.lt_of_lt_of_le h (Nat.pow_le_pow_right (by decide) hq))
theorem Table.cleared {L : List RV} {k : Nat} {has : Nat → Bool} {row : Nat → RV} {ov : List (Nat → UInt8)} (h : Table L k has row ov) : Cleared L k has row ov :=
  ⟨fun b hb h1 => ⟨(h.top b h1).1, fun c hc h2 => bit_big (h.top c h2).2 (by omega)⟩, h.span⟩
theorem table_none (k : Nat) (row : Nat → RV) : Table [] k (fun _ => false) row [] := by
  have e : ∀ k, piv (fun _ => false) row k = [] := fun k => List.eq_nil_iff_forall_not_mem.2 fun v hv => by
    obtain ⟨b, _, h, _⟩ := mem_piv.1 hv
    cases h
  exact ⟨fun p h => by simp at h, fun p h => by simp at h, fun x => by rw [e]; rfl⟩
theorem Table.over {L : List RV} {k : Nat} {has : Nat → Bool} {row : Nat → RV} {ov : List (Nat → UInt8)} (h : Table L k has row ov) {r : RV} {d : Nat → UInt8} (hr : Sp XV (piv has row k) (XV.add r (0, d))) : Table (L ++ [r]) k has row (ov ++ [d]) := by
  refine ⟨h.lt, h.top, fun x => Sp.same (fun v hv => ?_) (fun v hv => ?_) x⟩
  · rcases List.mem_append.1 hv with hv | hv
    · exact Sp.mono (fun _ h => List.mem_append_left _ h) ((h.span v).1 (Sp.mem (List.mem_append_left _ hv)))
    · rw [List.map_append] at hv
      rcases List.mem_append.1 hv with hv | hv
      · exact Sp.mono (fun _ h => List.mem_append_left _ h) ((h.span v).1 (Sp.mem (List.mem_append_right _ hv)))
      · obtain rfl : v = (0, d) := by simpa using hv
        have h1 : Sp XV (L ++ [r]) (XV.add r (0, d)) := Sp.mono (fun _ h => List.mem_append_left _ h) (h.cleared.row hr)
        have h2 := Sp.add (Sp.mem (G := XV) (L := L ++ [r]) (v := r) (by simp)) h1
        rwa [XV.twice] at h2
  · rcases List.mem_append.1 hv with hv | hv
    · refine Sp.mono (fun u hu => ?_) ((h.span v).2 (Sp.mem hv))
      rw [List.map_append]
      rcases List.mem_append.1 hu with hu | hu
      · exact List.mem_append_left _ hu
      · exact List.mem_append_right _ (List.mem_append_left _ hu)
    · obtain rfl : v = r := by simpa using hv
      have h1 : Sp XV (piv has row k ++ (ov ++ [d]).map fun o => (0, o)) (XV.add v (0, d)) := Sp.mono (fun _ h => List.mem_append_left _ h) hr
      have h2 := Sp.add h1 (Sp.mem (G := XV) (L := piv has row k ++ (ov ++ [d]).map fun o => (0, o)) (v := (0, d)) (by simp))
      rwa [XV.assoc, XV.self, XV.right] at h2
theorem Table.put {L : List RV} {k : Nat} {has has' : Nat → Bool} {row row' : Nat → RV} {ov : List (Nat → UInt8)} (h : Table L k has row ov) {r r' : RV} {p : Nat} (hr : Sp XV (piv has row k) (XV.add r r')) (hp : has p = false) (hpk : p < k) (ht : r'.1.testBit p = true ∧ r'.1 < 2 ^ (p + 1))
    (hh : ∀ q, has' q = if q = p then true else has q) (hw : ∀ q, row' q = if q = p then r' else row q) : Table (L ++ [r]) k has' row' ov := by
  have hold : ∀ v ∈ piv has row k, v ∈ piv has' row' k := fun v hv => by
    obtain ⟨b, h1, h2, h3⟩ := mem_piv.1 hv
    have hbp : b ≠ p := fun e => by rw [e, hp] at h2; cases h2
    exact mem_piv.2 ⟨b, h1, by rw [hh, if_neg hbp]; exact h2, by rw [hw, if_neg hbp]; exact h3⟩
  have hnew : r' ∈ piv has' row' k := mem_piv.2 ⟨p, hpk, by rw [hh, if_pos rfl], by rw [hw, if_pos rfl]⟩
  refine ⟨fun q hq => ?_, fun q hq => ?_, fun x => Sp.same (fun v hv => ?_) (fun v hv => ?_) x⟩
  · rw [hh] at hq
    by_cases c : q = p
    · omega
    · rw [if_neg c] at hq; exact h.lt q hq
  · rw [hh] at hq
    rw [hw]
    by_cases c : q = p
    · rw [if_pos c, c]; exact ht
    · rw [if_neg c] at hq ⊢; exact h.top q hq
  · rcases List.mem_append.1 hv with hv | hv
    · obtain ⟨b, h1, h2, h3⟩ := mem_piv.1 hv
      rw [hh] at h2
      rw [hw] at h3
      by_cases c : b = p
      · rw [if_pos c] at h3
        subst h3
        have h1 : Sp XV (L ++ [r]) (XV.add r r') := Sp.mono (fun _ h => List.mem_append_left _ h) (h.cleared.row hr)
        have h2 := Sp.add (Sp.mem (G := XV) (L := L ++ [r]) (v := r) (by simp)) h1
        rwa [XV.twice] at h2
      · rw [if_neg c] at h2 h3
        exact Sp.mono (fun _ h => List.mem_append_left _ h) (h.cleared.row (Sp.mem (mem_piv.2 ⟨b, h1, h2, h3⟩)))
    · exact Sp.mono (fun _ h => List.mem_append_left _ h) ((h.span v).1 (Sp.mem (List.mem_append_right _ hv)))
  · rcases List.mem_append.1 hv with hv | hv
    · refine Sp.mono (fun u hu => ?_) ((h.span v).2 (Sp.mem hv))
      rcases List.mem_append.1 hu with hu | hu
      · exact List.mem_append_left _ (hold u hu)
      · exact List.mem_append_right _ hu
    · obtain rfl : v = r := by simpa using hv
      have h1 : Sp XV (piv has' row' k ++ ov.map fun o => (0, o)) (XV.add v r') := Sp.mono (fun u hu => List.mem_append_left _ (hold u hu)) hr
      have h2 := Sp.add h1 (Sp.mem (G := XV) (L := piv has' row' k ++ ov.map fun o => (0, o)) (v := r') (List.mem_append_left _ hnew))
      rwa [XV.assoc, XV.self, XV.right] at h2

/-! Place by place, as the document clears. -/
structure Clr (L : List RV) (k N b : Nat) (R : Nat → RV) (at_ : Nat → Option Nat) (used : Nat → Bool) : Prop where
  span : ∀ x, Sp XV ((List.range N).map R) x ↔ Sp XV L x
  lt : ∀ i, i < N → (R i).1 < 2 ^ k
  found : ∀ c, c < b → ∀ i, at_ c = some i → i < N ∧ used i = true ∧ (R i).1.testBit c = true ∧ ∀ j, j < N → j ≠ i → (R j).1.testBit c = false
  lost : ∀ c, c < b → at_ c = none → ∀ i, i < N → used i = false → (R i).1.testBit c = false
  used : ∀ i, used i = true → ∃ c, c < b ∧ at_ c = some i
  apart : ∀ c d i, c < b → d < b → at_ c = some i → at_ d = some i → c = d
theorem clr_none {L : List RV} {k N : Nat} {R : Nat → RV} {at_ : Nat → Option Nat} {used : Nat → Bool} (hL : L = (List.range N).map R) (hlt : ∀ i, i < N → (R i).1 < 2 ^ k) (hu : ∀ i, used i = false) : Clr L k N 0 R at_ used :=
  ⟨fun x => by rw [hL], hlt, fun c hc => absurd hc (Nat.not_lt_zero _), fun c hc => absurd hc (Nat.not_lt_zero _), (fun i h => by rw [hu] at h; cases h), fun c d i hc => absurd hc (Nat.not_lt_zero _)⟩
theorem Clr.skip {L : List RV} {k N b : Nat} {R : Nat → RV} {at_ : Nat → Option Nat} {used : Nat → Bool} (h : Clr L k N b R at_ used) (ha : at_ b = none) (hno : ∀ i, i < N → used i = false → (R i).1.testBit b = false) : Clr L k N (b + 1) R at_ used := by
  refine ⟨h.span, h.lt, fun c hc i hi => ?_, fun c hc hn => ?_, fun i hi => ?_, fun c d i hc hd h1 h2 => ?_⟩
  · by_cases e : c = b
    · subst e; rw [ha] at hi; cases hi
    · exact h.found c (by omega) i hi
  · by_cases e : c = b
    · subst e; exact hno
    · exact h.lost c (by omega) hn
  · obtain ⟨c, hc, hc2⟩ := h.used i hi
    exact ⟨c, by omega, hc2⟩
  · by_cases e : c = b
    · subst e; rw [ha] at h1; cases h1
    · by_cases e2 : d = b
      · subst e2; rw [ha] at h2; cases h2
      · exact h.apart c d i (by omega) (by omega) h1 h2
theorem Clr.take {L : List RV} {k N b : Nat} {R R' : Nat → RV} {at_ at' : Nat → Option Nat} {used used' : Nat → Bool} (h : Clr L k N b R at_ used) {i : Nat} (hi : i < N) (hb : (R i).1.testBit b = true) (hu : used i = false)
    (hR : ∀ j, j < N → R' j = if j ≠ i ∧ (R j).1.testBit b = true then XV.add (R j) (R i) else R j) (ha : ∀ c, at' c = if c = b then some i else at_ c) (hus : ∀ j, used' j = if j = i then true else used j) : Clr L k N (b + 1) R' at' used' := by
  have hRi : R' i = R i := by rw [hR i hi, if_neg (by simp)]
  have hlow : ∀ c, c < b → (R i).1.testBit c = false := fun c hc => by
    cases e : at_ c with
    | none => exact h.lost c hc e i hi hu
    | some j =>
      obtain ⟨_, h2, _, h4⟩ := h.found c hc j e
      exact h4 i hi (fun e2 => by rw [← e2, hu] at h2; cases h2)
  have hbit : ∀ j, j < N → ∀ c, c < b → (R' j).1.testBit c = (R j).1.testBit c := fun j hj c hc => by
    rw [hR j hj]
    by_cases q : j ≠ i ∧ (R j).1.testBit b = true
    · rw [if_pos q, XV_fst, Nat.testBit_xor, hlow c hc]; simp
    · rw [if_neg q]
  refine ⟨fun x => ?_, fun j hj => ?_, fun c hc j hj => ?_, fun c hc hn j hj hju => ?_, fun j hj => ?_, fun c d j hc hd h1 h2 => ?_⟩
  · rw [← h.span x]
    have hi2 : Sp XV ((List.range N).map R') (R i) := Sp.mem (List.mem_map.2 ⟨i, List.mem_range.2 hi, hRi⟩)
    refine Sp.same (fun v hv => ?_) (fun v hv => ?_) x
    · obtain ⟨j, hj, rfl⟩ := List.mem_map.1 hv
      have hj := List.mem_range.1 hj
      have hj2 : Sp XV ((List.range N).map R) (R j) := Sp.mem (List.mem_map.2 ⟨j, List.mem_range.2 hj, rfl⟩)
      rw [hR j hj]
      by_cases q : j ≠ i ∧ (R j).1.testBit b = true
      · rw [if_pos q]; exact Sp.add hj2 (Sp.mem (List.mem_map.2 ⟨i, List.mem_range.2 hi, rfl⟩))
      · rw [if_neg q]; exact hj2
    · obtain ⟨j, hj, rfl⟩ := List.mem_map.1 hv
      have hj := List.mem_range.1 hj
      have hj2 : Sp XV ((List.range N).map R') (R' j) := Sp.mem (List.mem_map.2 ⟨j, List.mem_range.2 hj, rfl⟩)
      by_cases q : j ≠ i ∧ (R j).1.testBit b = true
      · have h3 := Sp.add hj2 hi2
        rwa [hR j hj, if_pos q, XV.assoc, XV.self, XV.right] at h3
      · rwa [hR j hj, if_neg q] at hj2
  · rw [hR j hj]
    by_cases q : j ≠ i ∧ (R j).1.testBit b = true
    · rw [if_pos q, XV_fst]; exact Nat.xor_lt_two_pow (h.lt j hj) (h.lt i hi)
    · rw [if_neg q]; exact h.lt j hj
  · by_cases e : c = b
    · subst e
      rw [ha, if_pos rfl] at hj
      cases hj
      refine ⟨hi, by rw [hus, if_pos rfl], by rw [hRi]; exact hb, fun q hq hne => ?_⟩
      rw [hR q hq]
      by_cases z : q ≠ i ∧ (R q).1.testBit c = true
      · rw [if_pos z, XV_fst, Nat.testBit_xor, z.2, hb]; rfl
      · rw [if_neg z]
        cases e : (R q).1.testBit c with
        | false => rfl
        | true => exact absurd ⟨hne, e⟩ z
    · rw [ha, if_neg e] at hj
      obtain ⟨h1, h2, h3, h4⟩ := h.found c (by omega) j hj
      refine ⟨h1, ?_, by rw [hbit j h1 c (by omega)]; exact h3, fun q hq hne => by rw [hbit q hq c (by omega)]; exact h4 q hq hne⟩
      rw [hus]; split
      · rfl
      · exact h2
  · by_cases e : c = b
    · subst e; rw [ha, if_pos rfl] at hn; cases hn
    · rw [ha, if_neg e] at hn
      rw [hus] at hju
      by_cases q : j = i
      · rw [if_pos q] at hju; cases hju
      · rw [if_neg q] at hju
        rw [hbit j hj c (by omega)]
        exact h.lost c (by omega) hn j hj hju
  · rw [hus] at hj
    by_cases q : j = i
    · exact ⟨b, by omega, by rw [ha, if_pos rfl, q]⟩
    · rw [if_neg q] at hj
      obtain ⟨c, hc, hc2⟩ := h.used j hj
      exact ⟨c, by omega, by rw [ha, if_neg (by omega)]; exact hc2⟩
  · have key : ∀ c, c < b → at_ c ≠ some i := fun c hc e => by
      have := (h.found c hc i e).2.1
      rw [hu] at this; cases this
    rw [ha] at h1 h2
    by_cases e : c = b
    · by_cases e2 : d = b
      · omega
      · rw [if_pos e] at h1
        rw [if_neg e2] at h2
        cases h1
        exact absurd h2 (key d (by omega))
    · by_cases e2 : d = b
      · rw [if_neg e] at h1
        rw [if_pos e2] at h2
        cases h2
        exact absurd h1 (key c (by omega))
      · rw [if_neg e] at h1
        rw [if_neg e2] at h2
        exact h.apart c d j (by omega) (by omega) h1 h2
theorem no_bits {m k : Nat} (hm : m < 2 ^ k) (h : ∀ c, c < k → m.testBit c = false) : m = 0 := Nat.eq_of_testBit_eq fun c => by
  rw [Nat.zero_testBit]
  rcases Nat.lt_or_ge c k with hc | hc
  · exact h c hc
  · exact bit_big hm hc
theorem Clr.rest {L : List RV} {k N : Nat} {R : Nat → RV} {at_ : Nat → Option Nat} {used : Nat → Bool} (h : Clr L k N k R at_ used) {i : Nat} (hi : i < N) (hu : used i = false) : (R i).1 = 0 := no_bits (h.lt i hi) fun c hc => by
  cases e : at_ c with
  | none => exact h.lost c hc e i hi hu
  | some j =>
    obtain ⟨_, h2, _, h4⟩ := h.found c hc j e
    exact h4 i hi (fun e2 => by rw [← e2, hu] at h2; cases h2)
theorem Clr.cleared {L : List RV} {k N : Nat} {R : Nat → RV} {at_ : Nat → Option Nat} {used : Nat → Bool} (h : Clr L k N k R at_ used) : Cleared L k (fun b => (at_ b).isSome) (fun b => R ((at_ b).getD 0)) (((List.range N).filter fun i => decide ((R i).1 = 0)).map fun i => (R i).2) := by
  refine ⟨fun b hb h1 => ?_, fun x => ?_⟩
  · obtain ⟨i, hi⟩ := Option.isSome_iff_exists.1 h1
    obtain ⟨h2, h3, h4, h5⟩ := h.found b hb i hi
    refine ⟨by simp only [hi, Option.getD_some]; exact h4, fun c hc h6 => ?_⟩
    obtain ⟨j, hj⟩ := Option.isSome_iff_exists.1 h6
    simp only [hj, Option.getD_some]
    refine h5 j (h.found c (by omega) j hj).1 fun e => ?_
    subst e
    have := h.apart c b j (by omega) hb hj hi
    omega
  · rw [← h.span x]
    refine Sp.same (fun v hv => ?_) (fun v hv => ?_) x
    · rcases List.mem_append.1 hv with hv | hv
      · obtain ⟨b, hb, h1, rfl⟩ := mem_piv.1 hv
        obtain ⟨i, hi⟩ := Option.isSome_iff_exists.1 h1
        simp only [hi, Option.getD_some]
        exact Sp.mem (List.mem_map.2 ⟨i, List.mem_range.2 (h.found b hb i hi).1, rfl⟩)
      · obtain ⟨o, ho, rfl⟩ := List.mem_map.1 hv
        obtain ⟨i, hi, rfl⟩ := List.mem_map.1 ho
        obtain ⟨h1, h2⟩ := List.mem_filter.1 hi
        have e : ((0, (R i).2) : RV) = R i := Prod.ext (of_decide_eq_true h2).symm rfl
        rw [e]
        exact Sp.mem (List.mem_map.2 ⟨i, h1, rfl⟩)
    · obtain ⟨i, hi, rfl⟩ := List.mem_map.1 hv
      have hi := List.mem_range.1 hi
      cases hu : used i with
      | true =>
        obtain ⟨c, hc, hc2⟩ := h.used i hu
        exact Sp.mem (List.mem_append_left _ (mem_piv.2 ⟨c, hc, by simp [hc2], by simp [hc2]⟩))
      | false =>
        have h0 := h.rest hi hu
        refine Sp.mem (List.mem_append_right _ (List.mem_map.2 ⟨(R i).2, List.mem_map.2 ⟨i, List.mem_filter.2 ⟨List.mem_range.2 hi, decide_eq_true h0⟩, rfl⟩, ?_⟩))
        exact Prod.ext h0.symm rfl
/-- Where each place has a row, that is of it alone. -/
theorem Clr.alone {L : List RV} {k N : Nat} {R : Nat → RV} {at_ : Nat → Option Nat} {used : Nat → Bool} (h : Clr L k N k R at_ used) (hall : ∀ b, b < k → at_ b ≠ none) {b i : Nat} (hb : b < k) (hi : at_ b = some i) : (R i).1 = 2 ^ b := Nat.eq_of_testBit_eq fun c => by
  rw [Nat.testBit_two_pow]
  obtain ⟨h1, h2, h3, h4⟩ := h.found b hb i hi
  by_cases e : b = c
  · subst e; simp [h3]
  · rw [decide_eq_false e]
    rcases Nat.lt_or_ge c k with hc | hc
    · cases e2 : at_ c with
      | none => exact absurd e2 (hall c hc)
      | some j =>
        refine (h.found c hc j e2).2.2.2 i h1 fun e3 => ?_
        subst e3
        exact e (h.apart b c i hb hc hi e2)
    · exact bit_big (h.lt i h1) hc
end Go.Proofs.YtakaeikobahaoaaDoor

namespace Go.Proofs.YtakaeikobahaoaaDoor
open Go.RowKit
set_option linter.unusedVariables false
set_option maxRecDepth 100000

/-- n bytes 0. -/
def zerosB (n : Nat) : ByteArray := ⟨(List.replicate n 0).toArray⟩
theorem zerosB_size (n : Nat) : (zerosB n).size = n := by rw [Lib.size_eq, zerosB, List.toList_toArray, List.length_replicate]
theorem zerosB_succ (n : Nat) : zerosB n ++ ⟨#[0]⟩ = zerosB (n + 1) := by
  apply ByteArray.ext
  rw [ByteArray.data_append, ← Array.toList_inj, Array.toList_append]
  simp [zerosB, List.replicate_succ']
end Go.Proofs.YtakaeikobahaoaaDoor

namespace Go.Proofs.YtakaeikobahaoaaDoor
open Go.RowKit
set_option linter.unusedVariables false
set_option maxRecDepth 100000

/-- Byte i of a string. -/
def atB (s : ByteArray) (i : Nat) : UInt8 := s.data.toList.getD i 0
/-- A block whose first n cells are the bytes f 0, f 1, .., none of them frozen. -/
def BRow (w : World) (b n : Nat) (f : Nat → UInt8) : Prop :=
  ∀ i, i < n → w.cell? ⟨b, i, none⟩ = some (.int .u8 ((f i).toNat : Int)) ∧ w.frozen? ⟨b, i, none⟩ = false
theorem BRow.congr {w : World} {b n : Nat} {f g : Nat → UInt8} (h : BRow w b n f) (e : ∀ i, i < n → f i = g i) : BRow w b n g := fun i hi => by rw [← e i hi]; exact h i hi
theorem BRow.set {w : World} {b n : Nat} {f : Nat → UInt8} (h : BRow w b n f) (j : Nat) (v : UInt8) : BRow (w.setCell ⟨b, j, none⟩ (.int .u8 (v.toNat : Int))) b n (fun i => if i = j then v else f i) := fun i hi => by
  refine ⟨?_, by rw [World.frozen?_setCell]; exact (h i hi).2⟩
  have hc := (h i hi).1
  by_cases e : i = j
  · subst e
    rw [World.cell?_setCell_same _ _ _ hc]; simp
  · rw [World.cell?_setCell_other _ _ _ _ (fun h => e (by cases h; rfl))]; simp only [if_neg e]; exact hc
theorem atB_eq (s : ByteArray) (i : Nat) (h : i < s.size) : atB s i = s[i] := by
  have h' : i < s.data.size := h
  simp only [atB, List.getD, Array.getElem?_toList, Array.getElem?_eq_getElem h']
  rfl
theorem xor_bits (a b : UInt8) : bits .xor .u8 (a.toNat : Int) (b.toNat : Int) = ((a ^^^ b).toNat : Int) := by
  have ha := a.toNat_lt
  have hb := b.toNat_lt
  rw [u8_xor_nat _ _ (by omega) (by omega), UInt8.toNat_xor]

set_option maxHeartbeats 1000000 in
theorem lay_any (b n cap : Nat) (s : ByteArray) (f : Nat → UInt8) (w : World) (hn : n ≤ 1000) (hs : s.size = n) (hr : BRow w b n f) :
    Calls Tryd.prog 60 #[.slice (some ⟨b, 0, none⟩) n cap, .string s] w fun e w' => e = .returned (.tuple #[]) ∧ BRow w' b n (fun i => f i ^^^ atB s i) ∧ Below b w w' := by
  go_enter Tryd.func60, Tryd.ntmps60
  go_wp2
  go_loopw [7] (fun i wr => ∃ j : Nat, j ≤ n ∧ i = .int .i64 j ∧ BRow wr b n (fun i => if i < j then f i ^^^ atB s i else f i) ∧ Below b w wr) (fun i _ => n - (intOf i).toNat)
  case atStart => exact ⟨0, Nat.zero_le _, rfl, hr.congr (fun i _ => by simp), Below.refl _ _⟩
  case round =>
    obtain ⟨j, hj, rfl, hrow, hb⟩ := hrel
    by_cases hlt : j < n
    · obtain ⟨hcell, hfr⟩ := hrow j hlt
      simp only [Nat.lt_irrefl, if_false] at hcell
      have hset := hrow.set j (f j ^^^ atB s j)
      go_wp2
      go_region
      all_goals go_wp2
      all_goals go_roundw
      case rel =>
        rw [← atB_eq s j (by omega), xor_bits]
        refine ⟨j + 1, by omega, by go_num, hset.congr (fun i hi => ?_), (hb.setCell (Nat.le_refl _) _).drew⟩
        by_cases e1 : i = j
        · subst e1; simp
        · by_cases e2 : i < j
          · simp [e1, e2, show i < j + 1 by omega]
          · simp [e1, e2, show ¬ i < j + 1 by omega]
      case measure => simp [intOf]; omega
    · go_wp2
      go_end0
      obtain rfl : j = n := by omega
      exact ⟨rfl, hrow.congr (fun i hi => by simp [hi]), hb⟩
end Go.Proofs.YtakaeikobahaoaaDoor

namespace Go.Proofs.YtakaeikobahaoaaDoor
open Go.RowKit
set_option linter.unusedVariables false
set_option maxRecDepth 100000

/-- The bytes f 0, .., f (n-1) as a string. -/
def bytesB (n : Nat) (f : Nat → UInt8) : ByteArray := ⟨((List.range n).map f).toArray⟩
theorem bytesB_size (n : Nat) (f : Nat → UInt8) : (bytesB n f).size = n := by rw [Lib.size_eq, bytesB, List.toList_toArray]; simp
theorem bytesB_at (n : Nat) (f : Nat → UInt8) (i : Nat) (h : i < n) : atB (bytesB n f) i = f i := by simp [atB, bytesB, List.getD, h]
theorem bytes_ext {a b : ByteArray} (hs : a.size = b.size) (h : ∀ i, i < a.size → atB a i = atB b i) : a = b := by
  apply ByteArray.ext
  rw [← Array.toList_inj]
  rw [Lib.size_eq, Lib.size_eq] at hs
  apply List.ext_getElem hs
  intro i h1 h2
  have := h i (by rw [Lib.size_eq]; exact h1)
  simpa [atB, List.getD, List.getElem?_eq_getElem h1, List.getElem?_eq_getElem h2] using this
theorem bytesB_eq (a : ByteArray) (n : Nat) (f : Nat → UInt8) (hs : a.size = n) (h : ∀ i, i < n → f i = atB a i) : bytesB n f = a :=
  bytes_ext (by rw [bytesB_size, hs]) (fun i hi => by rw [bytesB_size] at hi; rw [bytesB_at _ _ _ hi, h i hi])
theorem bytesB_congr {n : Nat} {f g : Nat → UInt8} (h : ∀ i, i < n → f i = g i) : bytesB n f = bytesB n g :=
  bytes_ext (by rw [bytesB_size, bytesB_size]) (fun i hi => by rw [bytesB_size] at hi; rw [bytesB_at _ _ _ hi, bytesB_at _ _ _ hi, h i hi])
/-- One over the other. -/
def xorB (a b : ByteArray) : ByteArray := bytesB a.size (fun i => atB a i ^^^ atB b i)
theorem xorB_size (a b : ByteArray) : (xorB a b).size = a.size := bytesB_size _ _
theorem xorB_at (a b : ByteArray) (i : Nat) (h : i < a.size) : atB (xorB a b) i = atB a i ^^^ atB b i := bytesB_at _ _ _ h
/-- 'string(row)'. -/
theorem back_row {w : World} {b n cap : Nat} {f : Nat → UInt8} (h : BRow w b n f) :
    (convert 97 9 (.slice (some ⟨b, 0, none⟩) n cap)).run Tryd.prog w = .ok (.string (bytesB n f)) w := by
  have hl : ((List.range n).map f).length = n := by simp
  have h1 := run_convert_bytes_back (P := Tryd.prog) w 97 9 5 ⟨b, 0, none⟩ cap ((List.range n).map f) Tryd.underlying97 Tryd.underlying5 Tryd.underlying9
    (fun j hj => by
      rw [hl] at hj
      have := (h j hj).1
      have e : (Addr.mk b 0 none).add j = ⟨b, j, none⟩ := by simp [Addr.add]; intro h; rw [h]
      rw [e]; simpa using this)
  rw [hl] at h1
  exact h1
/-- '[]byte(s)' as a row. -/
theorem row_new (w : World) (s : ByteArray) (c t : Nat) : BRow (w.drew.alloc (.cells (bytesRow s c) t ((bytesRow s c).size, (bytesRow s c).size + 1))) w.heap.size s.size (atB s) := fun i hi => by
  have hi' : i < s.data.size := hi
  have e : w.heap.size = w.drew.heap.size := rfl
  rw [e, World.cell?_alloc_mark, World.frozen?_alloc_mark, bytesRow_at _ _ _ hi', atB_eq s i hi]
  refine ⟨rfl, ?_⟩
  have : i < (bytesRow s c).size := by simp [bytesRow]; omega
  simp [Nat.not_le.2 this]
end Go.Proofs.YtakaeikobahaoaaDoor

namespace Go.Proofs.YtakaeikobahaoaaDoor
open Go.RowKit
set_option linter.unusedVariables false
set_option maxRecDepth 100000

theorem zerosB_at (n i : Nat) : atB (zerosB n) i = 0 := by
  rw [atB, zerosB, List.toList_toArray, List.getD, List.getElem?_replicate]; split <;> rfl
end Go.Proofs.YtakaeikobahaoaaDoor

namespace Go.Proofs.YtakaeikobahaoaaDoor
set_option linter.unusedVariables false
set_option maxRecDepth 100000

/-- The number behind n. -/
def nxt (n : Int) : Int := 16807 * n % 2147483647
/-- A number that has one behind it. -/
def Num (n : Int) : Prop := 1 ≤ n ∧ n ≤ 2147483646
theorem Num.nxt {n : Int} (h : Num n) : Num (nxt n) := by
  obtain ⟨h1, h2⟩ := h
  unfold Num Proofs.YtakaeikobahaoaaDoor.nxt
  omega
theorem nxt_back {n : Int} (h : Num n) : nxt n * 1407677000 % 2147483647 = n := by
  obtain ⟨h1, h2⟩ := h
  unfold nxt
  omega
/-- The k-th number behind n. -/
def rowV (n : Int) : Nat → Int
  | 0 => n
  | k + 1 => nxt (rowV n k)
theorem Num.rowV {n : Int} (h : Num n) : ∀ k, Num (rowV n k)
  | 0 => h
  | k + 1 => (Num.rowV h k).nxt
end Go.Proofs.YtakaeikobahaoaaDoor

namespace Go.Proofs.YtakaeikobahaoaaDoor
set_option linter.unusedVariables false
set_option maxRecDepth 100000

/-- As many holes as pigeons, no two in one: none is empty. -/
theorem php : ∀ (n : Nat) (f : Nat → Nat), (∀ i, i < n → f i < n) → (∀ i j, i < n → j < n → f i = f j → i = j) → ∀ y, y < n → ∃ i, i < n ∧ f i = y
  | 0, _, _, _, y, h => absurd h (Nat.not_lt_zero _)
  | n + 1, f, hf, hi, y, hy => by
    have ha := hf n (by omega)
    have g1 : ∀ i, i < n → (if f i = n then f n else f i) < n := fun i h => by
      have h1 := hf i (by omega)
      split
      · rename_i h2
        have : f n ≠ n := fun h3 => by have := hi i n (by omega) (by omega) (h2.trans h3.symm); omega
        omega
      · omega
    have g2 : ∀ i j, i < n → j < n → (if f i = n then f n else f i) = (if f j = n then f n else f j) → i = j := fun i j h1 h2 h => by
      by_cases c1 : f i = n
      · by_cases c2 : f j = n
        · exact hi i j (by omega) (by omega) (c1.trans c2.symm)
        · rw [if_pos c1, if_neg c2] at h
          have := hi n j (by omega) (by omega) h; omega
      · by_cases c2 : f j = n
        · rw [if_neg c1, if_pos c2] at h
          have := hi i n (by omega) (by omega) h; omega
        · rw [if_neg c1, if_neg c2] at h
          exact hi i j (by omega) (by omega) h
    have ih := php n (fun i => if f i = n then f n else f i) g1 g2
    by_cases c : y = f n
    · exact ⟨n, by omega, c.symm⟩
    · by_cases c2 : y = n
      · obtain ⟨i, h1, h2⟩ := ih (f n) (by omega)
        refine ⟨i, by omega, ?_⟩
        by_cases c3 : f i = n
        · omega
        · simp only [if_neg c3] at h2
          have := hi i n (by omega) (by omega) h2; omega
      · obtain ⟨i, h1, h2⟩ := ih y (by omega)
        refine ⟨i, by omega, ?_⟩
        by_cases c3 : f i = n
        · simp only [if_pos c3] at h2; omega
        · simpa only [if_neg c3] using h2

theorem rowV_add (x : Int) (i : Nat) : ∀ j, rowV x (i + j) = rowV (rowV x i) j
  | 0 => rfl
  | j + 1 => by show nxt (rowV x (i + j)) = nxt (rowV (rowV x i) j); rw [rowV_add x i j]
theorem nxt_inj {x y : Int} (hx : Num x) (hy : Num y) (h : nxt x = nxt y) : x = y := by
  have h1 := nxt_back hx
  have h2 := nxt_back hy
  rw [h, h2] at h1
  exact h1.symm
theorem rowV_inj {x y : Int} (hx : Num x) (hy : Num y) : ∀ i, rowV x i = rowV y i → x = y
  | 0, h => h
  | i + 1, h => rowV_inj hx hy i (nxt_inj (hx.rowV i) (hy.rowV i) h)
theorem num_one : Num 1 := ⟨by decide, by decide⟩
/-- A row of 1 that has come back to 1. -/
def Per (m : Nat) : Prop := rowV 1 m = 1
theorem Per.sub {m n : Nat} (h1 : Per m) (h2 : Per n) (h : m ≤ n) : Per (n - m) := by
  have h3 := rowV_add 1 m (n - m)
  rw [show m + (n - m) = n by omega, h1] at h3
  exact h3.symm.trans h2
theorem Per.mod {m : Nat} (h1 : Per m) (h0 : 0 < m) : ∀ (n : Nat), Per n → Per (n % m) := fun n => by
  induction n using Nat.strongRecOn with
  | _ n ih =>
    intro h2
    by_cases h : n < m
    · rw [Nat.mod_eq_of_lt h]; exact h2
    · rw [Nat.mod_eq_sub_mod (by omega)]
      exact ih (n - m) (by omega) (h1.sub h2 (by omega))
theorem Per.gcd : ∀ (m n : Nat), Per m → Per n → Per (Nat.gcd m n) := fun m => by
  induction m using Nat.strongRecOn with
  | _ m ih =>
    intro n h1 h2
    rcases Nat.eq_zero_or_pos m with rfl | h0
    · rw [Nat.gcd_zero_left]; exact h2
    · rw [Nat.gcd_rec]
      exact ih (n % m) (Nat.mod_lt _ h0) m (h1.mod h0 n h2) h1
theorem Per.mul {m : Nat} (h : Per m) : ∀ c, Per (m * c)
  | 0 => rfl
  | c + 1 => by
    show rowV 1 (m * c + m) = 1
    rw [rowV_add, Per.mul h c]; exact h

theorem rowV_mul {x : Int} (hx : Num x) : ∀ j, rowV x j = x * rowV 1 j % 2147483647
  | 0 => by
    obtain ⟨h1, h2⟩ := hx
    show x = x * 1 % 2147483647
    omega
  | j + 1 => by
    show nxt (rowV x j) = x * nxt (rowV 1 j) % 2147483647
    rw [rowV_mul hx j]
    unfold nxt
    have e1 : 16807 * rowV 1 j % 2147483647 = 16807 * rowV 1 j - 2147483647 * (16807 * rowV 1 j / 2147483647) := by omega
    rw [e1, Int.mul_sub, Int.mul_left_comm x 16807, Int.mul_left_comm x 2147483647]
    generalize x * rowV 1 j = a
    generalize x * (16807 * rowV 1 j / 2147483647) = b
    omega
theorem rowV_both (i j : Nat) : rowV 1 (i + j) = rowV 1 i * rowV 1 j % 2147483647 := by
  rw [rowV_add, rowV_mul (num_one.rowV i)]
/-- The n-th number behind 1, by squares. -/
def pm : Nat → Nat → Nat
  | 0, _ => 1
  | f + 1, n => if n % 2 = 0 then pm f (n / 2) * pm f (n / 2) % 2147483647 else 16807 * (pm f (n / 2) * pm f (n / 2) % 2147483647) % 2147483647
theorem pm_right : ∀ f n, n < 2 ^ f → rowV 1 n = (pm f n : Int)
  | 0, n, h => by
    obtain rfl : n = 0 := by simpa using h
    rfl
  | f + 1, n, h => by
    have ih := pm_right f (n / 2) (by rw [Nat.pow_succ] at h; omega)
    have hs : rowV 1 (n / 2 + n / 2) = ((pm f (n / 2) * pm f (n / 2) % 2147483647 : Nat) : Int) := by
      rw [rowV_both, ih]; simp
    unfold pm
    by_cases h2 : n % 2 = 0
    · rw [if_pos h2, ← hs, show n / 2 + n / 2 = n by omega]
    · have e : rowV 1 n = nxt (rowV 1 (n / 2 + n / 2)) := by
        show _ = rowV 1 (n / 2 + n / 2 + 1)
        rw [show n / 2 + n / 2 + 1 = n by omega]
      rw [if_neg h2, e, hs]
      unfold nxt
      omega
theorem per_all : Per 2147483646 := by
  unfold Per
  rw [pm_right 31 2147483646 (by decide), show pm 31 2147483646 = 1 by decide +kernel]; rfl
theorem per_not {m : Nat} (h : m < 2 ^ 31) (hp : pm 31 m ≠ 1) : ¬ Per m := fun h1 => by
  unfold Per at h1
  rw [pm_right 31 m h] at h1
  omega
theorem prime_cop {q c : Nat} (hq : ∀ d, d < q + 1 → d ∣ q → d = 1 ∨ d = q) (h : ¬ q ∣ c) (h0 : 0 < q) : Nat.Coprime c q := by
  have h1 : Nat.gcd c q ∣ q := Nat.gcd_dvd_right c q
  rcases hq _ (Nat.lt_succ_of_le (Nat.le_of_dvd h0 h1)) h1 with h2 | h2
  · exact h2
  · exact absurd (h2 ▸ Nat.gcd_dvd_left c q) h
/-- A part of 2147483646 that is not 1 has one of its primes. -/
theorem has_prime {c : Nat} (h : c ∣ 2147483646) (h1 : c ≠ 1) : 2 ∣ c ∨ 3 ∣ c ∨ 7 ∣ c ∨ 11 ∣ c ∨ 31 ∣ c ∨ 151 ∣ c ∨ 331 ∣ c := by
  by_cases p2 : 2 ∣ c; · exact Or.inl p2
  by_cases p3 : 3 ∣ c; · exact Or.inr (Or.inl p3)
  by_cases p7 : 7 ∣ c; · exact Or.inr (Or.inr (Or.inl p7))
  by_cases p11 : 11 ∣ c; · exact Or.inr (Or.inr (Or.inr (Or.inl p11)))
  by_cases p31 : 31 ∣ c; · exact Or.inr (Or.inr (Or.inr (Or.inr (Or.inl p31))))
  by_cases p151 : 151 ∣ c; · exact Or.inr (Or.inr (Or.inr (Or.inr (Or.inr (Or.inl p151)))))
  by_cases p331 : 331 ∣ c; · exact Or.inr (Or.inr (Or.inr (Or.inr (Or.inr (Or.inr p331)))))
  have k2 := prime_cop (q := 2) (by decide +kernel) p2 (by decide)
  have k3 := prime_cop (q := 3) (by decide +kernel) p3 (by decide)
  have k7 := prime_cop (q := 7) (by decide +kernel) p7 (by decide)
  have k11 := prime_cop (q := 11) (by decide +kernel) p11 (by decide)
  have k31 := prime_cop (q := 31) (by decide +kernel) p31 (by decide)
  have k151 := prime_cop (q := 151) (by decide +kernel) p151 (by decide)
  have k331 := prime_cop (q := 331) (by decide +kernel) p331 (by decide)
  have s1 : c ∣ 2 * 1073741823 := h
  have s2 : c ∣ 3 * 357913941 := k2.dvd_of_dvd_mul_left s1
  have s3 : c ∣ 3 * 119304647 := k3.dvd_of_dvd_mul_left s2
  have s4 : c ∣ 7 * 17043521 := k3.dvd_of_dvd_mul_left s3
  have s5 : c ∣ 11 * 1549411 := k7.dvd_of_dvd_mul_left s4
  have s6 : c ∣ 31 * 49981 := k11.dvd_of_dvd_mul_left s5
  have s7 : c ∣ 151 * 331 := k31.dvd_of_dvd_mul_left s6
  have s8 : c ∣ 331 * 1 := k151.dvd_of_dvd_mul_left s7
  have s9 : c ∣ 1 := k331.dvd_of_dvd_mul_left s8
  exact absurd (Nat.dvd_one.1 s9) h1
theorem per_least {m : Nat} (h0 : 0 < m) (h1 : m < 2147483646) : ¬ Per m := fun h => by
  have hg := Per.gcd m 2147483646 h per_all
  have hd : Nat.gcd m 2147483646 ∣ 2147483646 := Nat.gcd_dvd_right _ _
  have hl : Nat.gcd m 2147483646 ≤ m := Nat.gcd_le_left _ h0
  obtain ⟨c, hc⟩ := hd
  generalize Nat.gcd m 2147483646 = g at *
  have c1 : c ≠ 1 := fun h => by rw [h] at hc; omega
  have key : ∀ q, q ∣ c → Per (2147483646 / q) := fun q ⟨d, hd⟩ => by
    have hq : 0 < q := Nat.pos_of_ne_zero fun h => by rw [h, Nat.zero_mul] at hd; rw [hd] at hc; omega
    have e : 2147483646 / q = g * d := by
      rw [hc, hd, Nat.mul_left_comm, Nat.mul_div_cancel_left _ hq]
    rw [e]; exact hg.mul d
  rcases has_prime ⟨g, by rw [Nat.mul_comm]; exact hc⟩ c1 with h | h | h | h | h | h | h
  · exact per_not (m := 2147483646 / 2) (by decide) (by decide +kernel) (key 2 h)
  · exact per_not (m := 2147483646 / 3) (by decide) (by decide +kernel) (key 3 h)
  · exact per_not (m := 2147483646 / 7) (by decide) (by decide +kernel) (key 7 h)
  · exact per_not (m := 2147483646 / 11) (by decide) (by decide +kernel) (key 11 h)
  · exact per_not (m := 2147483646 / 31) (by decide) (by decide +kernel) (key 31 h)
  · exact per_not (m := 2147483646 / 151) (by decide) (by decide +kernel) (key 151 h)
  · exact per_not (m := 2147483646 / 331) (by decide) (by decide +kernel) (key 331 h)
/-- Every number is behind 1. -/
theorem from_one {y : Int} (hy : Num y) : ∃ i, i < 2147483646 ∧ rowV 1 i = y := by
  have hn : ∀ i, 1 ≤ rowV 1 i ∧ rowV 1 i ≤ 2147483646 := fun i => num_one.rowV i
  have inj : ∀ i j, i < j → j < 2147483646 → rowV 1 i ≠ rowV 1 j := fun i j h1 h2 h => by
    have e : rowV 1 j = rowV (rowV 1 (j - i)) i := by rw [← rowV_add, show j - i + i = j by omega]
    rw [e] at h
    exact per_least (m := j - i) (by omega) (by omega) (rowV_inj num_one (num_one.rowV _) i h).symm
  obtain ⟨h1, h2⟩ := hy
  obtain ⟨i, hi, he⟩ := php 2147483646 (fun i => (rowV 1 i - 1).toNat) (fun i _ => by have := hn i; omega) (fun i j hi hj h => by
    have a := hn i
    have b := hn j
    rcases Nat.lt_trichotomy i j with c | c | c
    · exact absurd (by omega) (inj i j c hj)
    · exact c
    · exact absurd (by omega) (inj j i c hi)) (y - 1).toNat (by omega)
  refine ⟨i, hi, ?_⟩
  have := hn i
  omega
/-- Every number is behind every number. -/
theorem from_all {x y : Int} (hx : Num x) (hy : Num y) : ∃ m, 1 ≤ m ∧ rowV x m = y := by
  obtain ⟨i, hi, rfl⟩ := from_one hx
  obtain ⟨j, hj, rfl⟩ := from_one hy
  refine ⟨2147483646 + j - i, by omega, ?_⟩
  rw [← rowV_add, show i + (2147483646 + j - i) = 2147483646 + j by omega, rowV_add, show rowV 1 2147483646 = 1 from per_all]
/-- Every rest is left, and all of them soon enough. -/
theorem rest_all {x : Int} (hx : Num x) {k : Nat} (hk : 1 ≤ k) (hk2 : k ≤ 1000) : ∀ n, n ≤ k → ∃ T, ∀ r : Nat, r < n → ∃ m, 1 ≤ m ∧ m ≤ T ∧ rowV x m % (k : Int) = r
  | 0, _ => ⟨0, fun r h => absurd h (Nat.not_lt_zero _)⟩
  | n + 1, h => by
    obtain ⟨T, hT⟩ := rest_all hx hk hk2 n (by omega)
    obtain ⟨m, h1, h2⟩ := from_all hx (y := if n = 0 then (k : Int) else n) (by unfold Num; split <;> omega)
    have h3 : rowV x m % (k : Int) = n := by
      rw [h2]
      split
      · rename_i h0; subst h0; simp
      · exact Int.emod_eq_of_lt (by omega) (by omega)
    refine ⟨T + m, fun r hr => ?_⟩
    by_cases c : r = n
    · exact ⟨m, h1, by omega, by rw [c]; exact h3⟩
    · obtain ⟨m', a, b, d⟩ := hT r (by omega)
      exact ⟨m', a, by omega, d⟩
end Go.Proofs.YtakaeikobahaoaaDoor

namespace Go.Proofs.YtakaeikobahaoaaDoor
set_option linter.unusedVariables false
set_option maxRecDepth 100000

/-- n of a thousand is under the share of degree d. -/
def Under (k n d : Nat) : Prop := (n : Int) * (k : Int) * (d : Int) < 1000 * ((d : Int) + (k : Int) * ((d : Int) - 1))
instance (k n d : Nat) : Decidable (Under k n d) := inferInstanceAs (Decidable (_ < _))
def degF (k n : Nat) : Nat → Nat → Nat
  | 0, d => d
  | f + 1, d => if Under k n d then d else degF k n f (d + 1)
/-- Of how many of k blocks a drop of the number n is. -/
def deg (k n : Nat) : Nat := degF k n (k - 1) 1
theorem degF_ge (k n : Nat) : ∀ f d, d ≤ degF k n f d
  | 0, d => Nat.le_refl _
  | f + 1, d => by
    unfold degF
    split
    · exact Nat.le_refl _
    · exact Nat.le_trans (Nat.le_succ d) (degF_ge k n f (d + 1))
theorem degF_le (k n : Nat) : ∀ f d, degF k n f d ≤ d + f
  | 0, d => Nat.le_refl _
  | f + 1, d => by
    unfold degF
    split
    · omega
    · have := degF_le k n f (d + 1); omega
theorem deg_ge (k n : Nat) : 1 ≤ deg k n := degF_ge k n _ 1
theorem deg_le (k n : Nat) (h : 1 ≤ k) : deg k n ≤ k := by have := degF_le k n (k - 1) 1; unfold deg; omega
theorem under_mono {k n m d : Nat} (h : n ≤ m) (hu : Under k m d) : Under k n d := by
  have h1 : (n : Int) * (k : Int) * (d : Int) ≤ (m : Int) * (k : Int) * (d : Int) :=
    Int.mul_le_mul_of_nonneg_right (Int.mul_le_mul_of_nonneg_right (by omega) (by omega)) (by omega)
  unfold Under at *
  omega
theorem degF_mono {k n m : Nat} (h : n ≤ m) : ∀ f d, degF k n f d ≤ degF k m f d
  | 0, d => Nat.le_refl _
  | f + 1, d => by
    by_cases hu : Under k m d
    · have e1 : degF k m (f + 1) d = d := if_pos hu
      have e2 : degF k n (f + 1) d = d := if_pos (under_mono h hu)
      omega
    · have e1 : degF k m (f + 1) d = degF k m f (d + 1) := if_neg hu
      have h1 := degF_mono (k := k) h f (d + 1)
      have h2 := degF_ge k m f (d + 1)
      rw [e1]
      by_cases hv : Under k n d
      · have e2 : degF k n (f + 1) d = d := if_pos hv
        omega
      · have e2 : degF k n (f + 1) d = degF k n f (d + 1) := if_neg hv
        omega
theorem deg_mono (k : Nat) {n m : Nat} (h : n ≤ m) : deg k n ≤ deg k m := degF_mono h _ _
theorem degF_stop {k n d : Nat} (h : d < k) (hu : Under k n d) : degF k n (k - d) d = d := by
  obtain ⟨f, hf⟩ : ∃ f, k - d = f + 1 := ⟨k - d - 1, by omega⟩
  rw [hf]; exact if_pos hu
theorem degF_on {k n d : Nat} (h : d < k) (hu : ¬ Under k n d) : degF k n (k - d) d = degF k n (k - (d + 1)) (d + 1) := by
  obtain ⟨f, hf⟩ : ∃ f, k - d = f + 1 := ⟨k - d - 1, by omega⟩
  rw [hf, show k - (d + 1) = f by omega]; exact if_neg hu
theorem degF_end (k n : Nat) : degF k n (k - k) k = k := by rw [Nat.sub_self]; rfl
theorem under_one {k n : Nat} : Under k n 1 ↔ (n : Int) * (k : Int) < 1000 := by
  unfold Under
  omega
/-- The products that the program makes, bounded. -/
theorem prods {k n d : Nat} (hk : k ≤ 16) (hn : n < 1000) (hd : 1 ≤ d) (hdk : d ≤ 16) :
    (0 ≤ (n : Int) * (k : Int) ∧ (n : Int) * (k : Int) ≤ 15984) ∧ (0 ≤ (n : Int) * (k : Int) * (d : Int) ∧ (n : Int) * (k : Int) * (d : Int) ≤ 255744) ∧ (0 ≤ (k : Int) * ((d : Int) - 1) ∧ (k : Int) * ((d : Int) - 1) ≤ 256) := by
  have a0 : 0 ≤ (n : Int) * (k : Int) := Int.mul_nonneg (by omega) (by omega)
  have a1 : (n : Int) * (k : Int) ≤ 999 * 16 := Int.mul_le_mul (by omega) (by omega) (by omega) (by omega)
  have b0 : 0 ≤ (n : Int) * (k : Int) * (d : Int) := Int.mul_nonneg a0 (by omega)
  have b1 : (n : Int) * (k : Int) * (d : Int) ≤ 15984 * 16 := Int.mul_le_mul (by omega) (by omega) (by omega) (by omega)
  have c0 : 0 ≤ (k : Int) * ((d : Int) - 1) := Int.mul_nonneg (by omega) (by omega)
  have c1 : (k : Int) * ((d : Int) - 1) ≤ 16 * 16 := Int.mul_le_mul (by omega) (by omega) (by omega) (by omega)
  omega

/-- How many of the numbers below n are told degree i + 1. -/
def cnt (k i : Nat) : Nat → Nat
  | 0 => 0
  | n + 1 => cnt k i n + if deg k n = i + 1 then 1 else 0
theorem cnt_le (k i : Nat) : ∀ n, cnt k i n ≤ n
  | 0 => Nat.le_refl _
  | n + 1 => by
    have := cnt_le k i n
    unfold cnt
    split <;> omega
/-- The first j counts together. -/
def csum (k n : Nat) : Nat → Nat
  | 0 => 0
  | j + 1 => csum k n j + cnt k j n
theorem csum_zero (k : Nat) : ∀ j, csum k 0 j = 0
  | 0 => rfl
  | j + 1 => by unfold csum; rw [csum_zero k j]; rfl
theorem csum_succ (k n : Nat) : ∀ j, csum k (n + 1) j = csum k n j + if deg k n ≤ j then 1 else 0
  | 0 => by
    have := deg_ge k n
    rw [if_neg (by omega)]; rfl
  | j + 1 => by
    show csum k (n + 1) j + (cnt k j n + if deg k n = j + 1 then 1 else 0) = csum k n j + cnt k j n + if deg k n ≤ j + 1 then 1 else 0
    rw [csum_succ k n j]
    by_cases h1 : deg k n ≤ j
    · rw [if_pos h1, if_neg (show ¬ deg k n = j + 1 by omega), if_pos (show deg k n ≤ j + 1 by omega)]; omega
    · by_cases h2 : deg k n = j + 1
      · rw [if_neg h1, if_pos h2, if_pos (show deg k n ≤ j + 1 by omega)]; omega
      · rw [if_neg h1, if_neg h2, if_neg (show ¬ deg k n ≤ j + 1 by omega)]; omega
theorem csum_all (k : Nat) (h : 1 ≤ k) : ∀ n, csum k n k = n
  | 0 => csum_zero k k
  | n + 1 => by rw [csum_succ, csum_all k h n, if_pos (deg_le k n h)]
theorem csum_le (k : Nat) (n : Nat) : ∀ j, csum k n j ≤ j * n
  | 0 => by simp [csum]
  | j + 1 => by
    have h1 := csum_le k n j
    have h2 := cnt_le k j n
    show csum k n j + cnt k j n ≤ (j + 1) * n
    rw [Nat.succ_mul]; omega
theorem deg_two {k n : Nat} (hk : 2 ≤ k) (hn : n < 500) : deg k n ≤ 2 := by
  unfold deg
  by_cases h2 : k = 2
  · subst h2; have := degF_le 2 n 1 1; omega
  · by_cases hu : Under k n 1
    · rw [degF_stop (by omega) hu]; omega
    · rw [degF_on (by omega) hu]
      have hv : Under k n 2 := by
        have h1 : (n : Int) * (k : Int) ≤ 499 * (k : Int) := Int.mul_le_mul_of_nonneg_right (by omega) (by omega)
        unfold Under
        omega
      rw [degF_stop (by omega) hv]; omega
theorem two_all {k : Nat} (hk : 2 ≤ k) : ∀ n, n ≤ 500 → csum k n 2 = n
  | 0, _ => csum_zero k 2
  | n + 1, h => by rw [csum_succ, two_all hk n (by omega), if_pos (deg_two hk (by omega))]
theorem csum_up (k j n : Nat) : ∀ m, csum k n j ≤ csum k (n + m) j
  | 0 => Nat.le_refl _
  | m + 1 => by
    have h1 := csum_up k j n m
    have h2 := csum_succ k (n + m) j
    rw [show n + (m + 1) = n + m + 1 from rfl, h2]
    omega
theorem two_half {k : Nat} (hk : 2 ≤ k) : 500 ≤ cnt k 0 1000 + cnt k 1 1000 := by
  have h1 := two_all hk 500 (Nat.le_refl _)
  have h2 := csum_up k 2 500 500
  have h3 : csum k 1000 2 = 0 + cnt k 0 1000 + cnt k 1 1000 := rfl
  have h4 : csum k (500 + 500) 2 = csum k 1000 2 := rfl
  omega
theorem deg_of_two {n : Nat} : deg 2 n = if n < 500 then 1 else 2 := by
  show (if Under 2 n 1 then 1 else degF 2 n 0 2) = _
  have : Under 2 n 1 ↔ n < 500 := by rw [under_one]; omega
  simp only [this]; rfl
theorem cnt_of_two : ∀ n, cnt 2 0 n = if n ≤ 500 then n else 500
  | 0 => rfl
  | n + 1 => by
    show cnt 2 0 n + (if deg 2 n = 0 + 1 then 1 else 0) = _
    rw [cnt_of_two n, deg_of_two]
    by_cases h : n < 500
    · simp only [h, if_true, show n ≤ 500 by omega, show n + 1 ≤ 500 by omega]
    · by_cases h2 : n = 500
      · subst h2; decide
      · simp only [h, if_false, show ¬ n ≤ 500 by omega, show ¬ n + 1 ≤ 500 by omega]; decide
end Go.Proofs.YtakaeikobahaoaaDoor

namespace Go.Proofs.YtakaeikobahaoaaDoor
set_option linter.unusedVariables false
set_option maxRecDepth 100000

/-- Whether the first i numbers behind x leave the rest r. -/
def seen (k : Nat) (x : Int) : Nat → Nat → Bool
  | 0, _ => false
  | i + 1, r => seen k x i r || decide (rowV x (i + 1) % (k : Int) = (r : Int))
theorem seen_of {k : Nat} {x : Int} {m r : Nat} (h1 : 1 ≤ m) (hr : rowV x m % (k : Int) = (r : Int)) : ∀ i, m ≤ i → seen k x i r = true
  | 0, h => absurd h (by omega)
  | i + 1, h => by
    unfold seen
    by_cases c : m = i + 1
    · subst c; simp [hr]
    · rw [seen_of h1 hr i (by omega)]; rfl
/-- The rests that the first i numbers behind x leave, rising. -/
def setAt (k : Nat) (x : Int) (i : Nat) : List Nat := (List.range k).filter (seen k x i)
theorem setAt_zero (k : Nat) (x : Int) : setAt k x 0 = [] := List.filter_eq_nil_iff.2 fun _ _ => by simp [seen]
theorem mem_setAt {k : Nat} {x : Int} {i r : Nat} : r ∈ setAt k x i ↔ r < k ∧ seen k x i r = true := by simp [setAt]
theorem setAt_len (k : Nat) (x : Int) (i : Nat) : (setAt k x i).length ≤ k := Nat.le_trans (List.length_filter_le _ _) (by simp)
theorem filter_ins (p : Nat → Bool) (r : Nat) (hp : p r = false) : ∀ k, r < k → ∃ B, (List.range k).filter p = (List.range r).filter p ++ B ∧ (List.range k).filter (fun a => p a || decide (r = a)) = (List.range r).filter p ++ r :: B ∧ ∀ b ∈ B, r < b
  | 0, h => absurd h (Nat.not_lt_zero _)
  | k + 1, h => by
    by_cases c : r = k
    · subst c
      refine ⟨[], ?_, ?_, fun b hb => by cases hb⟩
      · rw [List.range_succ, List.filter_append]; simp [hp]
      · rw [List.range_succ, List.filter_append]
        have : (List.range r).filter (fun a => p a || decide (r = a)) = (List.range r).filter p := List.filter_congr fun a ha => by
          have : r ≠ a := by have := List.mem_range.1 ha; omega
          simp [this]
        rw [this]; simp
    · obtain ⟨B, h1, h2, h3⟩ := filter_ins p r hp k (by omega)
      refine ⟨B ++ [k].filter p, ?_, ?_, fun b hb => ?_⟩
      · rw [List.range_succ, List.filter_append, h1, List.append_assoc]
      · rw [List.range_succ, List.filter_append, h2, List.append_assoc]
        simp [List.filter_cons, c]
      · rcases List.mem_append.1 hb with hb | hb
        · exact h3 b hb
        · have := List.mem_singleton.1 (List.mem_filter.1 hb).1; omega
/-- The rest that the number i + 1 behind x leaves. -/
def draw (k : Nat) (x : Int) (i : Nat) : Nat := (rowV x (i + 1) % (k : Int)).toNat
theorem draw_cast {k : Nat} {x : Int} (hx : Num x) (hk : 1 ≤ k) (i : Nat) : rowV x (i + 1) % (k : Int) = (draw k x i : Int) := by
  have h := Int.emod_nonneg (rowV x (i + 1)) (show (k : Int) ≠ 0 by omega)
  unfold draw; omega
theorem draw_lt {k : Nat} {x : Int} (hk : 1 ≤ k) (i : Nat) : draw k x i < k := by
  have h := Int.emod_lt_of_pos (rowV x (i + 1)) (show 0 < (k : Int) by omega)
  have h2 := Int.emod_nonneg (rowV x (i + 1)) (show (k : Int) ≠ 0 by omega)
  unfold draw; omega
theorem seen_succ {k : Nat} {x : Int} (hx : Num x) (hk : 1 ≤ k) (i r : Nat) : seen k x (i + 1) r = (seen k x i r || decide (draw k x i = r)) := by
  show (seen k x i r || decide (rowV x (i + 1) % (k : Int) = (r : Int))) = _
  rw [draw_cast hx hk]
  congr 1
  exact decide_eq_decide.2 (by omega)
/-- A rest that was left before makes nothing new. -/
theorem setAt_old {k : Nat} {x : Int} (hx : Num x) (hk : 1 ≤ k) {i : Nat} (h : draw k x i ∈ setAt k x i) : setAt k x (i + 1) = setAt k x i := by
  have hs := (mem_setAt.1 h).2
  refine List.filter_congr fun a _ => ?_
  rw [seen_succ hx hk]
  by_cases c : draw k x i = a
  · subst c; simp [hs]
  · simp [c]
/-- A rest that was not left before is put in its place. -/
theorem setAt_new {k : Nat} {x : Int} (hx : Num x) (hk : 1 ≤ k) {i : Nat} (h : draw k x i ∉ setAt k x i) :
    ∃ A B, setAt k x i = A ++ B ∧ setAt k x (i + 1) = A ++ draw k x i :: B ∧ (∀ a ∈ A, a < draw k x i) ∧ ∀ b ∈ B, draw k x i < b := by
  have hd := draw_lt (x := x) hk i
  have hs : seen k x i (draw k x i) = false := by
    cases e : seen k x i (draw k x i) with
    | false => rfl
    | true => exact absurd (mem_setAt.2 ⟨hd, e⟩) h
  obtain ⟨B, h1, h2, h3⟩ := filter_ins (seen k x i) (draw k x i) hs k hd
  refine ⟨(List.range (draw k x i)).filter (seen k x i), B, h1, ?_, fun a ha => List.mem_range.1 (List.mem_filter.1 ha).1, h3⟩
  rw [← h2]
  exact List.filter_congr fun a _ => seen_succ hx hk i a
theorem setAt_grows {k : Nat} {x : Int} (hx : Num x) (hk : 1 ≤ k) (i : Nat) : (setAt k x (i + 1)).length ≤ (setAt k x i).length + 1 ∧ (setAt k x i).length ≤ (setAt k x (i + 1)).length := by
  by_cases h : draw k x i ∈ setAt k x i
  · rw [setAt_old hx hk h]; omega
  · obtain ⟨A, B, h1, h2, _⟩ := setAt_new hx hk h
    rw [h1, h2]; simp; omega
/-- All rests are there soon enough. -/
theorem setAt_all {k : Nat} {x : Int} (hx : Num x) (hk : 1 ≤ k) (hk2 : k ≤ 1000) : ∃ T, ∀ i, T ≤ i → (setAt k x i).length = k := by
  obtain ⟨T, hT⟩ := rest_all hx hk hk2 k (Nat.le_refl _)
  refine ⟨T, fun i hi => ?_⟩
  have : setAt k x i = List.range k := List.filter_eq_self.2 fun r hr => by
    obtain ⟨m, h1, h2, h3⟩ := hT r (List.mem_range.1 hr)
    exact seen_of h1 h3 i (by omega)
  rw [this, List.length_range]
/-- There are enough, and there were not before. -/
def Stop (k : Nat) (x : Int) (d i : Nat) : Prop := (setAt k x i).length = d ∧ ∀ j, j < i → (setAt k x j).length < d
theorem Stop.same {k : Nat} {x : Int} {d i j : Nat} (h1 : Stop k x d i) (h2 : Stop k x d j) : i = j := by
  rcases Nat.lt_trichotomy i j with c | c | c
  · have := h2.2 i c; have := h1.1; omega
  · exact c
  · have := h1.2 j c; have := h2.1; omega
theorem stop_some {k : Nat} {x : Int} (hx : Num x) (hk : 1 ≤ k) (hk2 : k ≤ 1000) {d : Nat} (hd : d ≤ k) : ∃ i, Stop k x d i := by
  obtain ⟨T, hT⟩ := setAt_all hx hk hk2
  have h0 : (setAt k x 0).length = 0 := by rw [setAt_zero]; rfl
  have hTk := hT T (Nat.le_refl _)
  rcases Nat.eq_zero_or_pos d with rfl | hd0
  · exact ⟨0, h0, fun j h => absurd h (Nat.not_lt_zero _)⟩
  · have key : ∀ n, n ≤ T → (∀ j, j < n → (setAt k x j).length < d) ∨ ∃ i, Stop k x d i := fun n => by
      induction n with
      | zero => exact fun _ => Or.inl fun j h => absurd h (Nat.not_lt_zero _)
      | succ n ih =>
        intro hn
        rcases ih (by omega) with h | h
        · by_cases c : (setAt k x n).length < d
          · exact Or.inl fun j hj => by
              by_cases e : j = n
              · subst e; exact c
              · exact h j (by omega)
          · refine Or.inr ⟨n, ?_, h⟩
            rcases Nat.eq_zero_or_pos n with rfl | hn0
            · omega
            · obtain ⟨m, rfl⟩ : ∃ m, n = m + 1 := ⟨n - 1, by omega⟩
              have := h m (by omega)
              have := (setAt_grows hx hk m).1
              omega
        · exact Or.inr h
    rcases key T (Nat.le_refl _) with h | h
    · by_cases c : (setAt k x T).length < d
      · omega
      · refine ⟨T, ?_, h⟩
        rcases Nat.eq_zero_or_pos T with e | hn0
        · rw [e] at hTk; omega
        · obtain ⟨m, hm⟩ : ∃ m, T = m + 1 := ⟨T - 1, by omega⟩
          have h5 := h m (by omega)
          have h6 := (setAt_grows hx hk m).1
          rw [hm] at c ⊢
          omega
    · exact h

/-- Of how many a drop of the seed is. -/
def setD (k seed : Nat) : Nat := deg k (nxt seed % 1000).toNat
open Classical in
/-- The set of a seed. -/
noncomputable def setL (k seed : Nat) : List Nat := if seed ≤ k then [seed - 1] else setAt k (nxt seed) (epsilon (Stop k (nxt seed) (setD k seed)))
theorem setL_one {k seed : Nat} (h : seed ≤ k) : setL k seed = [seed - 1] := if_pos h
theorem setL_stop {k seed i : Nat} (h : ¬ seed ≤ k) (hs : Stop k (nxt seed) (setD k seed) i) : setL k seed = setAt k (nxt seed) i := by
  unfold setL
  rw [if_neg h, (Classical.epsilon_spec ⟨i, hs⟩ : Stop k (nxt seed) (setD k seed) _).same hs]
theorem setL_len {k seed : Nat} (hk : 1 ≤ k) (hk2 : k ≤ 16) (h1 : 1 ≤ seed) (h2 : seed ≤ 10000) : 1 ≤ (setL k seed).length ∧ (setL k seed).length ≤ k := by
  by_cases h : seed ≤ k
  · rw [setL_one h]; simp; omega
  · obtain ⟨i, hs⟩ := stop_some (x := nxt seed) (Num.nxt ⟨by omega, by omega⟩) hk (by omega) (deg_le k (nxt seed % 1000).toNat hk)
    rw [setL_stop h hs, hs.1]
    exact ⟨deg_ge _ _, deg_le _ _ hk⟩
theorem setL_lt {k seed : Nat} (hk : 1 ≤ k) (h1 : 1 ≤ seed) {r : Nat} (hr : r ∈ setL k seed) : r < k := by
  by_cases h : seed ≤ k
  · rw [setL_one h] at hr; have := List.mem_singleton.1 hr; omega
  · unfold setL at hr
    rw [if_neg h] at hr
    exact (mem_setAt.1 hr).1
theorem setL_rise (k seed : Nat) : (setL k seed).Pairwise (· < ·) := by
  by_cases h : seed ≤ k
  · rw [setL_one h]; simp
  · unfold setL
    rw [if_neg h]
    exact List.Pairwise.filter _ List.pairwise_lt_range
end Go.Proofs.YtakaeikobahaoaaDoor

namespace Go.Proofs.YtakaeikobahaoaaDoor
open Go.RowKit
set_option linter.unusedVariables false
set_option maxRecDepth 100000

theorem atB_out (s : ByteArray) (i : Nat) (h : s.size ≤ i) : atB s i = 0 := by
  unfold atB
  rw [Lib.size_eq] at h
  simp [List.getD, List.getElem?_eq_none h]
/-- A row of a set of places and of bytes. -/
def rv (m : Nat) (d : ByteArray) : RV := (m, atB d)
theorem rv_xor {m n : Nat} {d e : ByteArray} (h : e.size = d.size) : rv (m ^^^ n) (xorB d e) = XV.add (rv m d) (rv n e) := by
  refine Prod.ext rfl (funext fun i => ?_)
  show atB (xorB d e) i = atB d i ^^^ atB e i
  rcases Nat.lt_or_ge i d.size with hi | hi
  · exact xorB_at _ _ _ hi
  · rw [atB_out _ _ (by rw [xorB_size]; exact hi), atB_out _ _ hi, atB_out _ _ (by rw [h]; exact hi)]; rfl
theorem bytes_fun {d e : ByteArray} (h : d.size = e.size) (h2 : atB d = atB e) : d = e := bytes_ext h (fun i _ => congrFun h2 i)
theorem zero_iff {d : ByteArray} {n : Nat} (h : d.size = n) : d = zerosB n ↔ atB d = fun _ => 0 := by
  constructor
  · intro e; rw [e]; exact funext fun i => zerosB_at n i
  · intro e; exact bytes_fun (by rw [h, zerosB_size]) (by rw [e]; exact (funext fun i => zerosB_at n i).symm)

/-- A list of places as a number. -/
def maskL (s : List Nat) : Nat := s.foldl (fun m p => m ||| 2 ^ p) 0
theorem mask_from (j : Nat) : ∀ (s : List Nat) (m : Nat), (s.foldl (fun m p => m ||| 2 ^ p) m).testBit j = (m.testBit j || decide (j ∈ s))
  | [], m => by simp
  | p :: s, m => by
    show (s.foldl (fun m p => m ||| 2 ^ p) (m ||| 2 ^ p)).testBit j = _
    rw [mask_from j s, Nat.testBit_or, Nat.testBit_two_pow]
    by_cases c : j = p
    · subst c; simp
    · have c' : ¬ p = j := fun e => c e.symm
      simp [c, c']
theorem maskL_bit (s : List Nat) (j : Nat) : (maskL s).testBit j = decide (j ∈ s) := by unfold maskL; rw [mask_from]; simp
theorem maskL_snoc (s : List Nat) (p : Nat) : maskL (s ++ [p]) = maskL s ||| 2 ^ p := by simp [maskL, List.foldl_append]
theorem lt_of_bits {m k : Nat} (h : ∀ j, k ≤ j → m.testBit j = false) : m < 2 ^ k := by
  refine Nat.lt_of_not_le fun hle => ?_
  obtain ⟨i, hi, hb⟩ := Nat.exists_ge_and_testBit_of_ge_two_pow hle
  rw [h i hi] at hb; cases hb
theorem maskL_lt {s : List Nat} {k : Nat} (h : ∀ p ∈ s, p < k) : maskL s < 2 ^ k := lt_of_bits fun j hj => by
  rw [maskL_bit]; exact decide_eq_false fun hm => by have := h j hm; omega
theorem bit_at {m p : Nat} (h1 : 2 ^ p ≤ m) (h2 : m < 2 ^ (p + 1)) : m.testBit p = true := by
  rw [Nat.testBit_eq_decide_div_mod_eq]
  have e : m / 2 ^ p = 1 := by
    rw [Nat.pow_succ] at h2
    exact Nat.div_eq_of_lt_le (by omega) (by omega)
  rw [e]; rfl
theorem lt_no_top {m p : Nat} (h : m < 2 ^ (p + 1)) (hb : m.testBit p = false) : m < 2 ^ p := lt_of_bits fun j hj => by
  by_cases e : j = p
  · rw [e]; exact hb
  · exact bit_big h (by omega)
/-- The last place of a set. -/
theorem top_of {m : Nat} (h0 : m ≠ 0) (h : m < 2 ^ 64) : ∃ p, Lib.bitLen m = p + 1 ∧ m.testBit p = true ∧ m < 2 ^ (p + 1) := by
  suffices ∃ p, Lib.bitLen m = p + 1 ∧ 2 ^ p ≤ m ∧ m < 2 ^ (p + 1) by
    obtain ⟨p, h1, h2, h3⟩ := this
    exact ⟨p, h1, bit_at h2 h3, h3⟩
  induction m using Nat.strongRecOn with
  | ind m ih =>
    by_cases h1 : m = 1
    · subst h1; exact ⟨0, by decide +kernel, by decide, by decide⟩
    · obtain ⟨p, e, l, u⟩ := ih (m / 2) (by omega) (by omega) (by omega)
      refine ⟨p + 1, by rw [Lib.bitLen_half m h0 h, e]; omega, ?_, ?_⟩
      · rw [Nat.pow_succ]; omega
      · rw [Nat.pow_succ]; omega
theorem top_lt {m p k : Nat} (h : m < 2 ^ k) (hb : m.testBit p = true) : p < k := by
  rcases Nat.lt_or_ge p k with h1 | h1
  · exact h1
  · rw [bit_big h h1] at hb; cases hb
/-- Over one of the same last place it is less. -/
theorem xor_less {m n p : Nat} (h1 : m.testBit p = true) (h2 : m < 2 ^ (p + 1)) (h3 : n.testBit p = true) (h4 : n < 2 ^ (p + 1)) : m ^^^ n < m := by
  have hx : m ^^^ n < 2 ^ p := lt_no_top (Nat.xor_lt_two_pow h2 h4) (by rw [Nat.testBit_xor, h1, h3]; rfl)
  have hm : 2 ^ p ≤ m := Nat.ge_two_pow_of_testBit h1
  omega
/-- The rows of the first drops, i of them. -/
noncomputable def rowsD (k : Nat) (s : Nat → Nat) (d : Nat → ByteArray) (i : Nat) : List RV := (List.range i).map fun j => rv (maskL (setL k (s j))) (d j)
theorem rowsD_succ (k : Nat) (s : Nat → Nat) (d : Nat → ByteArray) (i : Nat) : rowsD k s d (i + 1) = rowsD k s d i ++ [rv (maskL (setL k (s i))) (d i)] := by unfold rowsD; rw [List.range_succ, List.map_append]; rfl
theorem setL_mask {k seed : Nat} (hk : 1 ≤ k) (h1 : 1 ≤ seed) : maskL (setL k seed) < 2 ^ k := maskL_lt fun p hp => setL_lt hk h1 hp
end Go.Proofs.YtakaeikobahaoaaDoor

namespace Go.Proofs.YtakaeikobahaoaaDoor
set_option linter.unusedVariables false
set_option maxRecDepth 100000

theorem take_snocN {L : List Nat} {j : Nat} (h : j < L.length) : L.take (j + 1) = L.take j ++ [L.getD j 0] := by rw [List.take_add_one]; simp [List.getD, h]
theorem dim_none : Dim (Sp XN []) 0 := ⟨[], rfl, trivial, fun x => Iff.rfl⟩
theorem dim_take (L : List Nat) : ∀ n, ∃ r, Dim (Sp XN (L.take n)) r
  | 0 => ⟨0, by rw [List.take_zero]; exact dim_none⟩
  | n + 1 => by
    obtain ⟨r, hr⟩ := dim_take L n
    rcases Nat.lt_or_ge n L.length with h | h
    · rw [take_snocN h]
      rcases hr.more (L.getD n 0) with ⟨h1, _⟩ | ⟨h1, _⟩
      · exact ⟨_, h1⟩
      · exact ⟨_, h1⟩
    · rw [List.take_of_length_le (by omega)]
      rw [List.take_of_length_le (by omega)] at hr
      exact ⟨r, hr⟩
theorem dim_ex (L : List Nat) : ∃ r, Dim (Sp XN L) r := by
  have h := dim_take L L.length
  rwa [List.take_length] at h
/-- The rank of a list of sets. -/
noncomputable def rkL (L : List Nat) : Nat := Classical.choose (dim_ex L)
theorem rkL_dim (L : List Nat) : Dim (Sp XN L) (rkL L) := Classical.choose_spec (dim_ex L)
theorem rkL_eq {L : List Nat} {r : Nat} (h : Dim (Sp XN L) r) : rkL L = r := (rkL_dim L).det h
theorem rkL_same {L M : List Nat} (h : ∀ x, Sp XN L x ↔ Sp XN M x) : rkL L = rkL M := rkL_eq ((rkL_dim M).congr fun x => (h x).symm)
theorem rkL_none : rkL [] = 0 := rkL_eq dim_none
theorem rkL_in {L : List Nat} {v : Nat} (h : Sp XN L v) : rkL (L ++ [v]) = rkL L := by
  rcases (rkL_dim L).more v with ⟨h1, _⟩ | ⟨_, h2⟩
  · exact rkL_eq h1
  · exact absurd h h2
theorem rkL_out {L : List Nat} {v : Nat} (h : ¬ Sp XN L v) : rkL (L ++ [v]) = rkL L + 1 := by
  rcases (rkL_dim L).more v with ⟨_, h2⟩ | ⟨h1, _⟩
  · exact absurd h2 h
  · exact rkL_eq h1
theorem rkL_more (L : List Nat) (v : Nat) : rkL L ≤ rkL (L ++ [v]) ∧ rkL (L ++ [v]) ≤ rkL L + 1 := by
  by_cases h : Sp XN L v
  · rw [rkL_in h]; omega
  · rw [rkL_out h]; omega
theorem rkL_app (L : List Nat) : ∀ M : List Nat, rkL L ≤ rkL (L ++ M) ∧ rkL (L ++ M) ≤ rkL L + M.length
  | M => by
    suffices ∀ n, rkL L ≤ rkL (L ++ M.take n) ∧ rkL (L ++ M.take n) ≤ rkL L + (M.take n).length by
      have h := this M.length
      rwa [List.take_length] at h
    intro n
    induction n with
    | zero => rw [List.take_zero, List.append_nil]; simp
    | succ n ih =>
      rcases Nat.lt_or_ge n M.length with h | h
      · have h9 := rkL_more (L ++ M.take n) (M.getD n 0)
        rw [List.append_assoc, ← take_snocN h] at h9
        have e1 : (M.take (n + 1)).length = n + 1 := by rw [List.length_take]; omega
        have e2 : (M.take n).length = n := by rw [List.length_take]; omega
        omega
      · rw [List.take_of_length_le (by omega)]
        rw [List.take_of_length_le (by omega)] at ih
        exact ih
theorem rkL_le (M : List Nat) : rkL M ≤ M.length := by
  have h := rkL_app [] M
  rw [rkL_none, List.nil_append] at h
  omega

/-- The first i of some sets. -/
def preL (M : Nat → Nat) (i : Nat) : List Nat := (List.range i).map M
theorem preL_zero (M : Nat → Nat) : preL M 0 = [] := rfl
theorem preL_succ (M : Nat → Nat) (i : Nat) : preL M (i + 1) = preL M i ++ [M i] := by unfold preL; rw [List.range_succ, List.map_append]; rfl
theorem preL_len (M : Nat → Nat) (i : Nat) : (preL M i).length = i := by simp [preL]
theorem preL_congr {M M' : Nat → Nat} {i : Nat} (h : ∀ j, j < i → M j = M' j) : preL M i = preL M' i := List.map_congr_left fun j hj => h j (List.mem_range.1 hj)
theorem mem_preL {M : Nat → Nat} {i v : Nat} : v ∈ preL M i ↔ ∃ j, j < i ∧ M j = v := by simp [preL]
/-- Which of the first n of some sets raise the rank of a list and of those ahead. -/
noncomputable def upL (L : List Nat) (M : Nat → Nat) (n : Nat) : List Nat := (List.range n).filter fun i => decide (rkL (L ++ preL M i) < rkL (L ++ preL M (i + 1)))
theorem upL_zero (L : List Nat) (M : Nat → Nat) : upL L M 0 = [] := rfl
theorem upL_succ (L : List Nat) (M : Nat → Nat) (n : Nat) : upL L M (n + 1) = upL L M n ++ if rkL (L ++ preL M n) < rkL (L ++ preL M (n + 1)) then [n] else [] := by
  unfold upL
  rw [List.range_succ, List.filter_append]
  by_cases h : rkL (L ++ preL M n) < rkL (L ++ preL M (n + 1))
  · rw [if_pos h]; simp [h]
  · rw [if_neg h]; simp [h]
theorem upL_in {L : List Nat} {M : Nat → Nat} {n : Nat} (h : Sp XN (L ++ preL M n) (M n)) : upL L M (n + 1) = upL L M n := by
  rw [upL_succ, if_neg, List.append_nil]
  rw [preL_succ, ← List.append_assoc, rkL_in h]; omega
theorem upL_out {L : List Nat} {M : Nat → Nat} {n : Nat} (h : ¬ Sp XN (L ++ preL M n) (M n)) : upL L M (n + 1) = upL L M n ++ [n] := by
  rw [upL_succ, if_pos]
  rw [preL_succ, ← List.append_assoc, rkL_out h]; omega
theorem upL_lt {L : List Nat} {M : Nat → Nat} {n x : Nat} (h : x ∈ upL L M n) : x < n := List.mem_range.1 (List.mem_filter.1 h).1
theorem upL_len (L : List Nat) (M : Nat → Nat) : ∀ n, (upL L M n).length + rkL L = rkL (L ++ preL M n)
  | 0 => by rw [upL_zero, preL_zero, List.append_nil]; simp
  | n + 1 => by
    have ih := upL_len L M n
    by_cases h : Sp XN (L ++ preL M n) (M n)
    · rw [upL_in h, preL_succ, ← List.append_assoc, rkL_in h]; exact ih
    · rw [upL_out h, preL_succ, ← List.append_assoc, rkL_out h, List.length_append]; simp; omega
theorem upL_le (L : List Nat) (M : Nat → Nat) (n : Nat) : (upL L M n).length ≤ n := by
  have h := List.length_filter_le (fun i => decide (rkL (L ++ preL M i) < rkL (L ++ preL M (i + 1)))) (List.range n)
  rw [List.length_range] at h
  exact h
/-- They make all that all of them make. -/
theorem upL_span (L : List Nat) (M : Nat → Nat) : ∀ n x, Sp XN (L ++ (upL L M n).map M) x ↔ Sp XN (L ++ preL M n) x
  | 0, x => by rw [upL_zero, preL_zero]; rfl
  | n + 1, x => by
    have ih := upL_span L M n
    have hup : ∀ A B : List Nat, (∀ x, Sp XN A x ↔ Sp XN B x) → ∀ v x, Sp XN (A ++ [v]) x ↔ Sp XN (B ++ [v]) x := fun A B h v x => Sp.same (fun u hu => by
      rcases List.mem_append.1 hu with hu | hu
      · exact Sp.mono (fun _ h => List.mem_append_left _ h) ((h u).1 (Sp.mem hu))
      · exact Sp.mem (List.mem_append_right _ hu)) (fun u hu => by
      rcases List.mem_append.1 hu with hu | hu
      · exact Sp.mono (fun _ h => List.mem_append_left _ h) ((h u).2 (Sp.mem hu))
      · exact Sp.mem (List.mem_append_right _ hu)) x
    by_cases h : Sp XN (L ++ preL M n) (M n)
    · rw [upL_in h, ih, preL_succ, ← List.append_assoc]
      exact Sp.same (fun u hu => Sp.mem (List.mem_append_left _ hu)) (fun u hu => by
        rcases List.mem_append.1 hu with hu | hu
        · exact Sp.mem hu
        · rw [List.mem_singleton.1 hu]; exact h) x
    · rw [upL_out h, preL_succ, List.map_append, ← List.append_assoc, ← List.append_assoc]
      exact hup _ _ ih _ x
theorem upL_getD {L : List Nat} {M : Nat → Nat} {n k : Nat} (h : k < (upL L M n).length) : (upL L M n).getD k 0 < n := upL_lt (L := L) (M := M) (by simp [List.getD, h])

/-- The first that are enough. -/
theorem first_at (M : Nat → Nat) {k : Nat} (hk : 1 ≤ k) : ∀ n, k ≤ (upL [] M n).length → ∃ p, (upL [] M n).getD (k - 1) 0 = p ∧ p < n ∧ rkL (preL M (p + 1)) = k ∧ rkL (preL M p) < k
  | 0, h => by rw [upL_zero] at h; simp at h; omega
  | n + 1, h => by
    have hl := upL_len [] M n
    rw [rkL_none, List.nil_append] at hl
    by_cases c : k ≤ (upL [] M n).length
    · obtain ⟨p, h1, h2, h3, h4⟩ := first_at M hk n c
      refine ⟨p, ?_, by omega, h3, h4⟩
      rw [← h1, upL_succ]
      simp [List.getD, List.getElem?_append_left (show k - 1 < (upL [] M n).length by omega)]
    · have hin : ¬ Sp XN ([] ++ preL M n) (M n) := fun hin => c (by rw [upL_in hin] at h; exact h)
      rw [upL_out hin, List.length_append] at h
      simp only [List.length_singleton] at h
      have e : (upL [] M n).length = k - 1 := by omega
      refine ⟨n, ?_, by omega, ?_, by omega⟩
      · rw [upL_out hin]
        simp [List.getD, e]
      · rw [List.nil_append] at hin
        rw [preL_succ, rkL_out hin]; omega
theorem rk_mono (M : Nat → Nat) {i j : Nat} (h : i ≤ j) : rkL (preL M i) ≤ rkL (preL M j) := by
  induction j with
  | zero => have : i = 0 := by omega
            rw [this]; exact Nat.le_refl _
  | succ j ih =>
    by_cases e : i = j + 1
    · rw [e]; exact Nat.le_refl _
    · have h1 := ih (by omega)
      have h2 := (rkL_more (preL M j) (M j)).1
      rw [← preL_succ] at h2
      omega

/-! Each block alone. -/
def unit (b : Nat) : Nat := 2 ^ b
theorem units_span {L : List Nat} {k : Nat} (hL : ∀ v ∈ L, v < 2 ^ k) : rkL (L ++ preL unit k) = k := by
  refine rkL_eq ⟨piv (fun _ => true) unit k, by rw [piv_len, cntB_all.2 (fun _ _ => rfl)], piv_indep (fun b _ _ => ⟨by unfold unit; rw [Nat.testBit_two_pow]; simp, fun c hc _ => by unfold unit; rw [Nat.testBit_two_pow]; exact decide_eq_false (by omega)⟩), fun x => ?_⟩
  have hall : ∀ (n m : Nat), n ≤ k → m < 2 ^ n → Sp XN (piv (fun _ => true) unit k) m := by
    intro n
    induction n with
    | zero => intro m _ h; obtain rfl : m = 0 := by simpa using h
              exact Sp.zero XN _
    | succ n ih =>
      intro m hn hm
      by_cases c : m.testBit n = true
      · have h1 : m ^^^ 2 ^ n < 2 ^ n := lt_no_top (Nat.xor_lt_two_pow hm (Nat.pow_lt_pow_right (by decide) (by omega))) (by rw [Nat.testBit_xor, c, Nat.testBit_two_pow]; simp)
        have h2 := ih _ (by omega) h1
        have h3 : Sp XN (piv (fun _ => true) unit k) (2 ^ n) := Sp.mem (mem_piv.2 ⟨n, by omega, rfl, rfl⟩)
        have h4 := Sp.add h2 h3
        have e : XN.add (m ^^^ 2 ^ n) (2 ^ n) = m := by
          show m ^^^ 2 ^ n ^^^ 2 ^ n = m
          rw [Nat.xor_assoc, Nat.xor_self, Nat.xor_zero]
        rwa [e] at h4
      · exact ih m (by omega) (lt_no_top hm (by simpa using c))
  refine Sp.same (fun v hv => ?_) (fun v hv => ?_) x
  · obtain ⟨b, hb, _, rfl⟩ := mem_piv.1 hv
    exact Sp.mem (List.mem_append_right _ (mem_preL.2 ⟨b, hb, rfl⟩))
  · rcases List.mem_append.1 hv with hv | hv
    · exact hall k v (Nat.le_refl _) (hL v hv)
    · obtain ⟨b, hb, rfl⟩ := mem_preL.1 hv
      exact Sp.mem (mem_piv.2 ⟨b, hb, rfl, rfl⟩)
theorem lack_len {L : List Nat} {k : Nat} (hL : ∀ v ∈ L, v < 2 ^ k) : (upL L unit k).length + rkL L = k := by rw [upL_len, units_span hL]
theorem rk_le {L : List Nat} {k : Nat} (hL : ∀ v ∈ L, v < 2 ^ k) : rkL L ≤ k := by have := lack_len hL; omega
/-- With all that lack it is enough. -/
theorem lack_fills {L : List Nat} {k : Nat} (hL : ∀ v ∈ L, v < 2 ^ k) : rkL (L ++ (upL L unit k).map unit) = k := by rw [rkL_same (upL_span L unit k), units_span hL]
end Go.Proofs.YtakaeikobahaoaaDoor

namespace Go.Proofs.YtakaeikobahaoaaDoor
set_option linter.unusedVariables false
set_option maxRecDepth 100000

/-- Behind b places: n lines are chosen. -/
structure Elim (L : List Nat) (k N b n : Nat) (R pv : Nat → Nat) : Prop where
  span : ∀ x, Sp XN (preL R N) x ↔ Sp XN L x
  lt : ∀ i, i < N → R i < 2 ^ k
  few : n ≤ N
  pivs : ∀ j, j < n → (R j).testBit (pv j) = true ∧ ∀ i, j < i → i < N → (R i).testBit (pv j) = false
  low : ∀ i, n ≤ i → i < N → ∀ c, c < b → (R i).testBit c = false
theorem elim_none {L : List Nat} {k N : Nat} {R pv : Nat → Nat} (hL : L = preL R N) (hlt : ∀ i, i < N → R i < 2 ^ k) : Elim L k N 0 0 R pv :=
  ⟨fun x => by rw [hL], hlt, Nat.zero_le _, fun j hj => absurd hj (Nat.not_lt_zero _), fun i _ _ c hc => absurd hc (Nat.not_lt_zero _)⟩
theorem Elim.skip {L : List Nat} {k N b n : Nat} {R pv : Nat → Nat} (h : Elim L k N b n R pv) (hno : ∀ i, n ≤ i → i < N → (R i).testBit b = false) : Elim L k N (b + 1) n R pv :=
  ⟨h.span, h.lt, h.few, h.pivs, fun i h1 h2 c hc => by
    by_cases e : c = b
    · rw [e]; exact hno i h1 h2
    · exact h.low i h1 h2 c (by omega)⟩
/-- Two change their places. -/
def swp (R : Nat → Nat) (n p : Nat) : Nat → Nat := fun j => if j = n then R p else if j = p then R n else R j
/-- Those behind n, up to i, without the place b. -/
def rid (R : Nat → Nat) (x b n i : Nat) : Nat → Nat := fun j => if n < j ∧ j < i ∧ (R j).testBit b = true then R j ^^^ x else R j
theorem rid_none (R : Nat → Nat) (x b n j : Nat) : rid R x b n (n + 1) j = R j := by unfold rid; rw [if_neg (by omega)]
theorem rid_same {R : Nat → Nat} {x b n i : Nat} (h : (R i).testBit b = false) (j : Nat) : rid R x b n (i + 1) j = rid R x b n i j := by
  unfold rid
  by_cases e : j = i
  · rw [if_neg (fun h9 => by rw [e, h] at h9; cases h9.2.2), if_neg (by omega)]
  · have e2 : (n < j ∧ j < i + 1 ∧ (R j).testBit b = true) = (n < j ∧ j < i ∧ (R j).testBit b = true) := by rw [show (j < i + 1) = (j < i) from propext ⟨fun h => by omega, fun h => by omega⟩]
    simp only [e2]
theorem rid_next {R : Nat → Nat} {x b n i : Nat} (h : (R i).testBit b = true) (hi : n < i) (j : Nat) : rid R x b n (i + 1) j = if j = i then R i ^^^ x else rid R x b n i j := by
  unfold rid
  by_cases e : j = i
  · rw [if_pos e, e, if_pos ⟨hi, by omega, h⟩]
  · have e2 : (n < j ∧ j < i + 1 ∧ (R j).testBit b = true) = (n < j ∧ j < i ∧ (R j).testBit b = true) := by rw [show (j < i + 1) = (j < i) from propext ⟨fun h => by omega, fun h => by omega⟩]
    rw [if_neg e]
    simp only [e2]
theorem rid_at {R : Nat → Nat} {x b n i : Nat} : rid R x b n i i = R i := by unfold rid; rw [if_neg (by omega)]
theorem Elim.take {L : List Nat} {k N b n p : Nat} {R pv : Nat → Nat} (h : Elim L k N b n R pv) (h1 : n ≤ p) (h2 : p < N) (hb : (R p).testBit b = true) :
    Elim L k N (b + 1) (n + 1) (rid (swp R n p) (R p) b n N) (fun j => if j = n then b else pv j) := by
  have hmem : ∀ {i}, i < N → Sp XN (preL R N) (R i) := fun {i} hi => Sp.mem (mem_preL.2 ⟨i, hi, rfl⟩)
  have hsw : ∀ i, i < N → ∃ i', i' < N ∧ swp R n p i = R i' ∧ (n ≤ i → n ≤ i') ∧ (i < n → i' = i) := fun i hi => by
    unfold swp
    by_cases e : i = n
    · exact ⟨p, h2, by rw [if_pos e], fun _ => h1, fun h => by omega⟩
    · by_cases e2 : i = p
      · exact ⟨n, by omega, by rw [if_neg e, if_pos e2], fun _ => Nat.le_refl _, fun h => by omega⟩
      · exact ⟨i, hi, by rw [if_neg e, if_neg e2], fun h => h, fun _ => rfl⟩
  have hswb : ∀ i, n ≤ i → i < N → ∀ c, c < b → (swp R n p i).testBit c = false := fun i h3 h4 c hc => by
    obtain ⟨i', a1, a2, a3, _⟩ := hsw i h4
    rw [a2]; exact h.low i' (a3 h3) a1 c hc
  have hrn : rid (swp R n p) (R p) b n N n = R p := by unfold rid swp; rw [if_neg (by omega), if_pos rfl]
  have hlow : ∀ i, i < n → rid (swp R n p) (R p) b n N i = R i := fun i hi => by unfold rid swp; rw [if_neg (by omega), if_neg (by omega), if_neg (by omega)]
  have hrc : ∀ i, n < i → i < N → ∀ c, c < b → (rid (swp R n p) (R p) b n N i).testBit c = false := fun i h3 h4 c hc => by
    unfold rid
    by_cases e : n < i ∧ i < N ∧ (swp R n p i).testBit b = true
    · rw [if_pos e, Nat.testBit_xor, hswb i (by omega) h4 c hc, h.low p h1 h2 c hc]; rfl
    · rw [if_neg e]; exact hswb i (by omega) h4 c hc
  have hrb : ∀ i, n < i → i < N → (rid (swp R n p) (R p) b n N i).testBit b = false := fun i h3 h4 => by
    unfold rid
    by_cases e : (swp R n p i).testBit b = true
    · rw [if_pos ⟨h3, h4, e⟩, Nat.testBit_xor, e, hb]; rfl
    · rw [if_neg (fun h9 => e h9.2.2)]; simpa using e
  have hpv : ∀ j, j < n → ∀ i, j < i → i < N → (rid (swp R n p) (R p) b n N i).testBit (pv j) = false := fun j hj i h3 h4 => by
    have key : ∀ i, j < i → i < N → (swp R n p i).testBit (pv j) = false := fun i h5 h6 => by
      obtain ⟨i', a1, a2, a3, a4⟩ := hsw i h6
      rw [a2]
      refine (h.pivs j hj).2 i' ?_ a1
      rcases Nat.lt_or_ge i n with h7 | h7
      · rw [a4 h7]; exact h5
      · have := a3 h7; omega
    unfold rid
    by_cases e : n < i ∧ i < N ∧ (swp R n p i).testBit b = true
    · rw [if_pos e, Nat.testBit_xor, key i h3 h4, (h.pivs j hj).2 p (by omega) h2]; rfl
    · rw [if_neg e]; exact key i h3 h4
  refine ⟨fun x => ?_, fun i hi => ?_, by omega, fun j hj => ?_, fun i h3 h4 c hc => ?_⟩
  · rw [← h.span x]
    have hx : Sp XN (preL (rid (swp R n p) (R p) b n N) N) (R p) := Sp.mem (mem_preL.2 ⟨n, by omega, hrn⟩)
    have hsw2 : ∀ i, i < N → Sp XN (preL (rid (swp R n p) (R p) b n N) N) (swp R n p i) := fun i hi => by
      have h9 : Sp XN (preL (rid (swp R n p) (R p) b n N) N) (rid (swp R n p) (R p) b n N i) := Sp.mem (mem_preL.2 ⟨i, hi, rfl⟩)
      unfold rid at h9 ⊢
      by_cases e : n < i ∧ i < N ∧ (swp R n p i).testBit b = true
      · rw [if_pos e] at h9
        have h8 := Sp.add h9 hx
        rwa [show XN.add (swp R n p i ^^^ R p) (R p) = swp R n p i from by show swp R n p i ^^^ R p ^^^ R p = _; rw [Nat.xor_assoc, Nat.xor_self, Nat.xor_zero]] at h8
      · rw [if_neg e] at h9; exact h9
    refine Sp.same (fun v hv => ?_) (fun v hv => ?_) x
    · obtain ⟨i, hi, rfl⟩ := mem_preL.1 hv
      obtain ⟨i', a1, a2, _⟩ := hsw i hi
      unfold rid
      by_cases e : n < i ∧ i < N ∧ (swp R n p i).testBit b = true
      · rw [if_pos e, a2]; exact Sp.add (hmem a1) (hmem h2)
      · rw [if_neg e, a2]; exact hmem a1
    · obtain ⟨i, hi, rfl⟩ := mem_preL.1 hv
      by_cases e : i = p
      · rw [e]; exact hx
      · by_cases e2 : i = n
        · have h9 := hsw2 p h2
          have e3 : swp R n p p = R n := by
            unfold swp
            by_cases e4 : p = n
            · rw [if_pos e4, e4]
            · rw [if_neg e4, if_pos rfl]
          rw [e3] at h9
          rw [e2]; exact h9
        · have h9 := hsw2 i hi
          have e3 : swp R n p i = R i := by unfold swp; rw [if_neg e2, if_neg e]
          rwa [e3] at h9
  · obtain ⟨i', a1, a2, _⟩ := hsw i hi
    unfold rid
    by_cases e : n < i ∧ i < N ∧ (swp R n p i).testBit b = true
    · rw [if_pos e, a2]; exact Nat.xor_lt_two_pow (h.lt i' a1) (h.lt p h2)
    · rw [if_neg e, a2]; exact h.lt i' a1
  · by_cases e : j = n
    · subst e
      simp only [if_true]
      exact ⟨by rw [hrn]; exact hb, fun i h3 h4 => hrb i h3 h4⟩
    · simp only [if_neg e]
      have hj' : j < n := by omega
      exact ⟨by rw [hlow j hj']; exact (h.pivs j hj').1, hpv j hj'⟩
  · by_cases e : c = b
    · rw [e]; exact hrb i (by omega) h4
    · exact hrc i (by omega) h4 c (by omega)
theorem Elim.rank {L : List Nat} {k N n : Nat} {R pv : Nat → Nat} (h : Elim L k N k n R pv) : rkL L = n := by
  have hind : ∀ d, d ≤ n → Indep ((List.range d).map fun j => R (n - d + j)) := by
    intro d
    induction d with
    | zero => intro _; trivial
    | succ d ih =>
      intro hd
      have e : (List.range (d + 1)).map (fun j => R (n - (d + 1) + j)) = R (n - (d + 1)) :: (List.range d).map fun j => R (n - d + j) := by
        rw [List.range_succ_eq_map, List.map_cons, List.map_map]
        congr 1
        refine List.map_congr_left fun j _ => ?_
        show R (n - (d + 1) + (j + 1)) = R (n - d + j)
        congr 1; omega
      rw [e]
      refine ⟨ih (by omega), fun hs => ?_⟩
      obtain ⟨p1, p2⟩ := h.pivs (n - (d + 1)) (by omega)
      have h9 := Sp.bit (b := pv (n - (d + 1))) (fun v hv => by
        obtain ⟨j, hj, rfl⟩ := List.mem_map.1 hv
        have hj := List.mem_range.1 hj
        exact p2 (n - d + j) (by omega) (by have := h.few; omega)) hs
      rw [h9] at p1; cases p1
  have hi := hind n (Nat.le_refl _)
  rw [show (fun j => R (n - n + j)) = R from funext fun j => by rw [Nat.sub_self, Nat.zero_add]] at hi
  refine rkL_eq ⟨(List.range n).map R, by simp, hi, fun x => ?_⟩
  rw [← h.span x]
  refine Sp.same (fun v hv => ?_) (fun v hv => ?_) x
  · obtain ⟨j, hj, rfl⟩ := List.mem_map.1 hv
    exact Sp.mem (mem_preL.2 ⟨j, by have := List.mem_range.1 hj; have := h.few; omega, rfl⟩)
  · obtain ⟨i, hi, rfl⟩ := mem_preL.1 hv
    rcases Nat.lt_or_ge i n with h1 | h1
    · exact Sp.mem (List.mem_map.2 ⟨i, List.mem_range.2 h1, rfl⟩)
    · rw [no_bits (h.lt i hi) (fun c hc => h.low i h1 hi c hc)]; exact Sp.zero XN _
end Go.Proofs.YtakaeikobahaoaaDoor
