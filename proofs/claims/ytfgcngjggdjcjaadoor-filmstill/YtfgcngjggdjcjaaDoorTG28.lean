/-
  Lemmas for the law above, joined into one text (FlG, FlR). No statement is proved here.
-/
import Derived.Test.YtfgcngjggdjcjaaDoorTG24
import Derived.Test.YtfgcngjggdjcjaaDoorTG27
import Derived.Test.YtfgcngjggdjcjaaDoorTG9
import Derived.Test.YtfgcngjggdjcjaaDoorTG16
import Derived.Laws.OwnMore
import Derived.Deep.AppendLies
import Derived.Deep.OwnRows
namespace Go.Proofs.YtfgcngjggdjcjaaDoor
open Go.RowKit
set_option linter.unusedVariables false
set_option maxRecDepth 100000

theorem FilOk.like {N : Nat} {P : Nat → Pc} {ev st : Int} {A B : Nat} (o : FilOk N P ev st A B) {j : Nat} (hj : j < N) : PicOk (P 0).a (P 0).b (P 0).n (P j).f A B ∧ (P j).a = (P 0).a ∧ (P j).b = (P 0).b ∧ (P j).n = (P 0).n := by
  have o0 := o.pic 0 (by have := o.one; omega)
  have oj := o.pic j hj
  have ea : (P j).a = (P 0).a := oj.wide.trans o0.wide.symm
  have eb : (P j).b = (P 0).b := oj.high.trans o0.high.symm
  have en : (P j).n = (P 0).n := oj.many.trans o0.many.symm
  rw [ea, eb, en] at oj
  exact ⟨oj, ea, eb, en⟩
theorem stpK_fil {N : Nat} {P : Nat → Pc} {E : Nat} {st : Int} {A B : Nat} (o : FilOk N P E st A B) {j : Nat} (hj : j < N) {sn : Nat} {f0 : Nat → Int} (ha : 0 < j → sn = (P 0).n ∧ f0 = filT A B (P 0).n E st (fun i => (P i).f) (j - 1)) :
    stpK st (filC A B (P 0).n E st (fun i => (P i).f) j) ⟨(P 0).a, (P 0).b, sn, f0⟩ = (0, ⟨(P 0).a, (P 0).b, (P 0).n, filT A B (P 0).n E st (fun i => (P i).f) j⟩) := by
  obtain ⟨oj, _⟩ := o.like hj
  unfold stpK
  by_cases c : j % E = 0
  · rw [filC_al c, filT_al c]
    exact stpC_al oj o.s1 o.s2 (g := fun _ => 0)
  · obtain ⟨p, rfl⟩ : ∃ p, j = p + 1 := ⟨j - 1, by
      have : j ≠ 0 := fun e => c (by rw [e]; exact Nat.zero_mod _)
      omega⟩
    obtain ⟨rfl, rfl⟩ := ha (by omega)
    rw [Nat.add_sub_cancel, filC_mv c, filT_mv c]
    exact stpC_mv (filT_ok (o.like (j := 0) (by omega)).1 _ _ _ p) oj o.s1 o.s2

theorem fcode_fil {N : Nat} {P : Nat → Pc} {E : Nat} {st : Int} {A B : Nat} (o : FilOk N P E st A B) {j : Nat} (hj : j < N) {W : World} {s : Value} {sd : Option Addr} {sn sc : Nat} {f0 : Nat → Int} (h : IntsIn W s (P j).n (P j).f) (hi : IntsIn W (.slice sd sn sc) sn f0) (ha : 0 < j → sn = (P 0).n ∧ f0 = filT A B (P 0).n E st (fun i => (P i).f) (j - 1)) :
    Calls Tryd.prog 21 #[.agg #[.int .i64 (P 0).a, .int .i64 (P 0).b, .slice sd sn sc], .agg #[.int .i64 (P j).a, .int .i64 (P j).b, s], .bool (filC A B (P 0).n E st (fun i => (P i).f) j).al, .int .i64 st] W fun e w' => ∃ ad cp, e = .returned (.tuple #[.agg #[.bool (filC A B (P 0).n E st (fun i => (P i).f) j).al, .int .i64 (filC A B (P 0).n E st (fun i => (P i).f) j).x, .int .i64 (filC A B (P 0).n E st (fun i => (P i).f) j).y, .slice ad (P 0).n cp], .nilIface]) ∧ IntsIn w' (.slice ad (P 0).n cp) (P 0).n (filC A B (P 0).n E st (fun i => (P i).f) j).f ∧ Below W.heap.size W w' ∧ ∀ k, (Value.slice ad (P 0).n cp).ownBlock = some k → W.heap.size ≤ k := by
  obtain ⟨oj, ea, eb, en⟩ := o.like hj
  rw [en] at h
  rw [ea, eb]
  by_cases c : j % E = 0
  · rw [filC_al c]
    exact fcode_al (P 0).a (P 0).b sd sn sc st h oj o.s1 o.s2
  · obtain ⟨p, rfl⟩ : ∃ p, j = p + 1 := ⟨j - 1, by
      have : j ≠ 0 := fun e => c (by rw [e]; exact Nat.zero_mod _)
      omega⟩
    obtain ⟨rfl, rfl⟩ := ha (by omega)
    rw [Nat.add_sub_cancel] at hi
    rw [filC_mv c]
    exact fcode_mv st hi h (filT_ok (o.like (j := 0) (by omega)).1 _ _ _ p) oj o.s1 o.s2
theorem ftell_fil {N : Nat} {P : Nat → Pc} {E : Nat} {st : Int} {A B : Nat} (o : FilOk N P E st A B) {j : Nat} (hj : j < N) {W : World} {s : Value} {sd : Option Addr} {sn sc : Nat} {f0 : Nat → Int} (h : IntsIn W s (P 0).n (filC A B (P 0).n E st (fun i => (P i).f) j).f) (hi : IntsIn W (.slice sd sn sc) sn f0) (ha : 0 < j → sn = (P 0).n ∧ f0 = filT A B (P 0).n E st (fun i => (P i).f) (j - 1)) :
    Calls Tryd.prog 22 #[.agg #[.int .i64 (P 0).a, .int .i64 (P 0).b, .slice sd sn sc], .agg #[.bool (filC A B (P 0).n E st (fun i => (P i).f) j).al, .int .i64 (filC A B (P 0).n E st (fun i => (P i).f) j).x, .int .i64 (filC A B (P 0).n E st (fun i => (P i).f) j).y, s], .int .i64 st] W fun e w' => ∃ ad cp, e = .returned (.tuple #[.agg #[.int .i64 (P 0).a, .int .i64 (P 0).b, .slice ad (P 0).n cp], .nilIface]) ∧ IntsIn w' (.slice ad (P 0).n cp) (P 0).n (filT A B (P 0).n E st (fun i => (P i).f) j) ∧ Below W.heap.size W w' ∧ ∀ k, (Value.slice ad (P 0).n cp).ownBlock = some k → W.heap.size ≤ k := by
  have hE := stpK_fil o hj ha
  have hn : (filC A B (P 0).n E st (fun i => (P i).f) j).n = (P 0).n := filC_n
  have h' : IntsIn W s (filC A B (P 0).n E st (fun i => (P i).f) j).n (filC A B (P 0).n E st (fun i => (P i).f) j).f := by rw [hn]; exact h
  exact ftell_any (E := (0, ⟨(P 0).a, (P 0).b, (P 0).n, filT A B (P 0).n E st (fun i => (P i).f) j⟩)) (P 0).a (P 0).b _ _ _ st hi h' hE
end Go.Proofs.YtfgcngjggdjcjaaDoor

namespace Go.Proofs.YtfgcngjggdjcjaaDoor
open Go.RowKit
set_option linter.unusedVariables false
set_option maxRecDepth 100000

/-- The cells of a row of structs: some heads, and a slice behind each. -/
def rowV (hd : Nat → List Value) (S : Nat → Value) (N : Nat) : List Value := (List.range N).flatMap fun i => hd i ++ [S i]
theorem rowV_succ (hd : Nat → List Value) (S : Nat → Value) (N : Nat) : rowV hd S (N + 1) = rowV hd S N ++ (hd N ++ [S N]) := by simp [rowV, List.range_succ]
theorem rowV_len {hd : Nat → List Value} {S : Nat → Value} {z : Nat} : ∀ {N}, (∀ i, i < N → (hd i).length = z) → (rowV hd S N).length = N * (z + 1)
  | 0, _ => by simp [rowV]
  | N + 1, h => by
    rw [rowV_succ, List.length_append, rowV_len (fun i hi => h i (by omega)), List.length_append, h N (by omega), Nat.succ_mul]
    simp
theorem rowV_at {hd : Nat → List Value} {S : Nat → Value} {z : Nat} : ∀ {N}, (∀ i, i < N → (hd i).length = z) → ∀ {i j}, i < N → j < z + 1 → (rowV hd S N)[i * (z + 1) + j]? = (hd i ++ [S i])[j]?
  | 0, _, i, j, hi, _ => absurd hi (Nat.not_lt_zero _)
  | N + 1, h, i, j, hi, hj => by
    have hlen := rowV_len (hd := hd) (S := S) (N := N) (fun i hi => h i (by omega))
    rw [rowV_succ]
    by_cases c : i = N
    · subst c
      rw [List.getElem?_append_right (by rw [hlen]; omega), hlen]
      congr 1
      omega
    · have h1 : i * (z + 1) + j < N * (z + 1) := by
        have : (i + 1) * (z + 1) ≤ N * (z + 1) := Nat.mul_le_mul (by omega) (Nat.le_refl _)
        rw [Nat.succ_mul] at this
        omega
      rw [List.getElem?_append_left (by rw [hlen]; exact h1)]
      exact rowV_at (fun i hi => h i (by omega)) (by omega) hj

/-- A row of structs that a call owns, with what their slices hold: all in blocks from B on, none in the row's own. -/
structure RowS (w : World) (B : Nat) (e : TypeId) (z : Nat) (v : Value) (N : Nat) (hd : Nat → List Value) (S : Nat → Value) (n : Nat → Nat) (f : Nat → Nat → Int) : Prop where
  own : w.ownsRow B e (z + 1) v N (rowV hd S N)
  hl : ∀ i, i < N → (hd i).length = z
  ints : ∀ i, i < N → IntsIn w (S i) (n i) (f i)
  new : ∀ i, i < N → 0 < n i → ∀ k, (S i).ownBlock = some k → B ≤ k
  off : ∀ i, i < N → 0 < n i → ∀ k, (S i).ownBlock = some k → v.ownBlock ≠ some k
theorem rowS_nil (w : World) (B : Nat) (e : TypeId) (z : Nat) (hd : Nat → List Value) (S : Nat → Value) (n : Nat → Nat) (f : Nat → Nat → Int) : RowS w B e z (.slice none 0 0) 0 hd S n f :=
  ⟨World.ownsRow_nil _ _ _ _, fun i hi => absurd hi (Nat.not_lt_zero _), fun i hi => absurd hi (Nat.not_lt_zero _), fun i hi => absurd hi (Nat.not_lt_zero _), fun i hi => absurd hi (Nat.not_lt_zero _)⟩
theorem own_below {w w' : World} {B e size n : Nat} {v : Value} {xs : List Value} (h : w.ownsRow B e size v n xs) (hb : Below w.heap.size w w') : w'.ownsRow B e size v n xs := by
  refine ⟨h.1, ?_⟩
  rcases h.2 with hn | ⟨g, cap, cur, hv, h1, hgg, rest⟩
  · exact .inl hn
  · exact .inr ⟨g, cap, cur, hv, h1, (hb.block g (Array.getElem?_eq_some_iff.1 hgg).1).trans hgg, rest⟩
theorem ints_block {w : World} {v : Value} {n : Nat} {f : Nat → Int} (h : IntsIn w v n f) (h0 : 0 < n) : ∃ k, v.ownBlock = some k ∧ k < w.heap.size := by
  rcases h with ⟨h, _⟩ | ⟨_, b, o, c, rfl, hc⟩
  · omega
  · exact ⟨b, rfl, cell_lt (hc 0 h0)⟩
theorem ints_other {w w' : World} {v : Value} {n : Nat} {f : Nat → Int} (h : IntsIn w v n f) (hk : 0 < n → ∀ k, v.ownBlock = some k → w'.heap[k]? = w.heap[k]?) : IntsIn w' v n f := by
  rcases h with h | ⟨h0, b, o, c, rfl, hc⟩
  · exact Or.inl h
  · refine Or.inr ⟨h0, b, o, c, rfl, fun i hi => ?_⟩
    rw [World.cell?_of_block (w := w) (hk h0 b rfl)]
    exact hc i hi
section
variable {w : World} {B : Nat} {e : TypeId} {z : Nat} {v : Value} {N : Nat} {hd : Nat → List Value} {S : Nat → Value} {n : Nat → Nat} {f : Nat → Nat → Int}
theorem RowS.below (h : RowS w B e z v N hd S n f) {w' : World} (hb : Below w.heap.size w w') : RowS w' B e z v N hd S n f :=
  ⟨own_below h.own hb, h.hl, fun i hi => (h.ints i hi).below hb, h.new, h.off⟩
theorem RowS.set (h : RowS w B e z v N hd S n f) {b : Nat} (hb : b < B) (o : Nat) (u : Value) : RowS (w.setCell ⟨b, o, none⟩ u) B e z v N hd S n f := by
  have hk : ∀ k, k ≠ b → (w.setCell ⟨b, o, none⟩ u).heap[k]? = w.heap[k]? := fun k hk => Below.heap_setCell w _ _ _ hk
  refine ⟨⟨h.own.1, ?_⟩, h.hl, fun i hi => ints_other (h.ints i hi) (fun h0 k e => hk k (by have := h.new i hi h0 k e; omega)), h.new, h.off⟩
  rcases h.own.2 with hn | ⟨g, cap, cur, hv, h1, hgg, rest⟩
  · exact .inl hn
  · exact .inr ⟨g, cap, cur, hv, h1, (hk g (by omega)).trans hgg, rest⟩
/-- One more, by append: its cells were laid in a block of their own. -/
theorem RowS.snoc (h : RowS w B e z v N hd S n f) {o : Obj} {w5 : World} {g cap : Nat} (hown : w5.ownsRow B e (z + 1) (.slice (some ⟨g, 0, none⟩) (N + 1) cap) (N + 1) (rowV hd S N ++ (hd N ++ [S N]))) (hgrow : (w.alloc o).grownBy w5 v.ownBlock) (hat : v.ownBlock = some g ∨ g = (w.alloc o).heap.size)
    (hl : (hd N).length = z) (hi : IntsIn w (S N) (n N) (f N)) (hnew : 0 < n N → ∀ k, (S N).ownBlock = some k → B ≤ k) (hoff : 0 < n N → ∀ k, (S N).ownBlock = some k → v.ownBlock ≠ some k) :
    RowS w5 B e z (.slice (some ⟨g, 0, none⟩) (N + 1) cap) (N + 1) hd S n f := by
  have hal : ∀ k, k < w.heap.size → (w.alloc o).heap[k]? = w.heap[k]? := fun k hk => ((Below.refl w.heap.size w).alloc (Nat.le_refl _) o).block k hk
  have hsz : (w.alloc o).heap.size = w.heap.size + 1 := by simp
  have hall : ∀ i, i < N + 1 → IntsIn w (S i) (n i) (f i) ∧ (0 < n i → ∀ k, (S i).ownBlock = some k → B ≤ k ∧ v.ownBlock ≠ some k) := fun i hi' => by
    by_cases c : i = N
    · subst c; exact ⟨hi, fun h0 k e => ⟨hnew h0 k e, hoff h0 k e⟩⟩
    · exact ⟨h.ints i (by omega), fun h0 k e => ⟨h.new i (by omega) h0 k e, h.off i (by omega) h0 k e⟩⟩
  have hlt : ∀ i, i < N + 1 → 0 < n i → ∀ k, (S i).ownBlock = some k → k < w.heap.size := fun i hi' h0 k e => by
    obtain ⟨k', e', hk'⟩ := ints_block (hall i hi').1 h0
    rw [e] at e'
    cases e'
    exact hk'
  refine ⟨by rw [rowV_succ]; exact hown, fun i hi' => ?_, fun i hi' => ?_, fun i hi' h0 k e => ((hall i hi').2 h0 k e).1, fun i hi' h0 k e => ?_⟩
  · by_cases c : i = N
    · subst c; exact hl
    · exact h.hl i (by omega)
  · refine ints_other (hall i hi').1 (fun h0 k e => ?_)
    have h1 := hlt i hi' h0 k e
    rw [hgrow.block k (by omega) (fun e2 => ((hall i hi').2 h0 k e).2 e2.symm), hal k h1]
  · intro e2
    have e3 : g = k := by simpa [Value.ownBlock] using e2
    subst e3
    rcases hat with hat | hat
    · exact ((hall i hi').2 h0 g e).2 hat
    · have := hlt i hi' h0 g e; omega
theorem RowS.congr (h : RowS w B e z v N hd S n f) {hd' : Nat → List Value} {S' : Nat → Value} {n' : Nat → Nat} {f' : Nat → Nat → Int} (e1 : ∀ i, i < N → hd i = hd' i) (e2 : ∀ i, i < N → S i = S' i) (e3 : ∀ i, i < N → n i = n' i) (e4 : ∀ i, i < N → f i = f' i) : RowS w B e z v N hd' S' n' f' := by
  have e : rowV hd S N = rowV hd' S' N := by
    unfold rowV
    apply congrArg List.flatten
    apply List.map_congr_left
    intro i hi
    have := List.mem_range.1 hi
    rw [e1 i this, e2 i this]
  exact ⟨e ▸ h.own, fun i hi => by rw [← e1 i hi]; exact h.hl i hi, fun i hi => by rw [← e2 i hi, ← e3 i hi, ← e4 i hi]; exact h.ints i hi, fun i hi => by rw [← e2 i hi, ← e3 i hi]; exact h.new i hi, fun i hi => by rw [← e2 i hi, ← e3 i hi]; exact h.off i hi⟩
/-- Where a struct's cells lie. -/
theorem RowS.cells (h : RowS w B e z v N hd S n f) (h0 : 0 < N) : ∃ g cap, v = .slice (some ⟨g, 0, none⟩) N cap ∧ N ≤ cap ∧ cap ≤ maxLen ∧ ∀ i j, i < N → j < z + 1 → w.cell? ⟨g, 0 + i * (z + 1) + j, none⟩ = (hd i ++ [S i])[j]? := by
  have h' := h.own
  rcases h.own.2 with ⟨_, hn⟩ | ⟨g, cap, cur, hv, _, hgg, h1, h2, _⟩
  · omega
  · refine ⟨g, cap, hv, h1, h2, fun i j hi hj => ?_⟩
    rw [hv] at h'
    have hlt : i * (z + 1) + j < N * (z + 1) := by
      have : (i + 1) * (z + 1) ≤ N * (z + 1) := Nat.mul_le_mul (by omega) (Nat.le_refl _)
      rw [Nat.succ_mul] at this
      omega
    rw [Nat.zero_add, h'.cellAt _ hlt]
    exact rowV_at h.hl hi hj
theorem RowS.shape (h : RowS w B e z v N hd S n f) : ∃ ad cap, v = .slice ad N cap ∧ N ≤ cap ∧ cap ≤ maxLen := by
  rcases h.own.2 with ⟨hv, hn⟩ | ⟨g, cap, cur, hv, _, hgg, h1, h2, _⟩
  · exact ⟨none, 0, by rw [hn]; exact hv, by omega, by unfold maxLen; omega⟩
  · exact ⟨_, cap, hv, h1, h2⟩
end
/-- Heads of a picture, of a coded one. -/
def picH (P : Nat → Pc) (i : Nat) : List Value := [.int .i64 (P i).a, .int .i64 (P i).b]
def codH (C : Nat → Cd) (i : Nat) : List Value := [.bool (C i).al, .int .i64 (C i).x, .int .i64 (C i).y]
/-- A row of pictures, of coded ones, that a call owns. -/
def PicR (w : World) (B : Nat) (v : Value) (N : Nat) (P : Nat → Pc) : Prop := ∃ S, RowS w B 40 2 v N (picH P) S (fun i => (P i).n) (fun i => (P i).f)
def CodR (w : World) (B : Nat) (v : Value) (N : Nat) (C : Nat → Cd) : Prop := ∃ S, RowS w B 45 3 v N (codH C) S (fun i => (C i).n) (fun i => (C i).f)
theorem PicR.pics {w : World} {B : Nat} {v : Value} {N : Nat} {P : Nat → Pc} (h : PicR w B v N P) : PicsIn w v N P := by
  obtain ⟨S, h⟩ := h
  obtain ⟨ad, cap, rfl, h1, h2⟩ := h.shape
  refine ⟨ad, cap, rfl, h1, h2, fun h0 => ?_⟩
  obtain ⟨g, cap', e, _, _, hc⟩ := h.cells h0
  cases e
  exact ⟨g, 0, rfl, fun i hi => ⟨S i, by simpa [picH] using hc i 0 hi (by omega), by simpa [picH] using hc i 1 hi (by omega), by simpa [picH] using hc i 2 hi (by omega), h.ints i hi⟩⟩
theorem CodR.cods {w : World} {B : Nat} {v : Value} {N : Nat} {C : Nat → Cd} (h : CodR w B v N C) : CodsIn w v N C := by
  obtain ⟨S, h⟩ := h
  obtain ⟨ad, cap, rfl, h1, h2⟩ := h.shape
  refine ⟨ad, cap, rfl, h1, h2, fun h0 => ?_⟩
  obtain ⟨g, cap', e, _, _, hc⟩ := h.cells h0
  cases e
  exact ⟨g, 0, rfl, fun i hi => ⟨S i, by simpa [codH] using hc i 0 hi (by omega), by simpa [codH] using hc i 1 hi (by omega), by simpa [codH] using hc i 2 hi (by omega), by simpa [codH] using hc i 3 hi (by omega), h.ints i hi⟩⟩
theorem PicR.below {w w' : World} {B : Nat} {v : Value} {N : Nat} {P : Nat → Pc} (h : PicR w B v N P) (hb : Below w.heap.size w w') : PicR w' B v N P := by
  obtain ⟨S, h⟩ := h; exact ⟨S, h.below hb⟩
theorem CodR.below {w w' : World} {B : Nat} {v : Value} {N : Nat} {C : Nat → Cd} (h : CodR w B v N C) (hb : Below w.heap.size w w') : CodR w' B v N C := by
  obtain ⟨S, h⟩ := h; exact ⟨S, h.below hb⟩
theorem PicR.set {w : World} {B : Nat} {v : Value} {N : Nat} {P : Nat → Pc} (h : PicR w B v N P) {b : Nat} (hb : b < B) (o : Nat) (u : Value) : PicR (w.setCell ⟨b, o, none⟩ u) B v N P := by
  obtain ⟨S, h⟩ := h; exact ⟨S, h.set hb o u⟩
theorem CodR.set {w : World} {B : Nat} {v : Value} {N : Nat} {C : Nat → Cd} (h : CodR w B v N C) {b : Nat} (hb : b < B) (o : Nat) (u : Value) : CodR (w.setCell ⟨b, o, none⟩ u) B v N C := by
  obtain ⟨S, h⟩ := h; exact ⟨S, h.set hb o u⟩
/-- One more, as append leaves it. -/
theorem PicR.snoc {w w5 : World} {B : Nat} {v : Value} {N : Nat} {P : Nat → Pc} {S : Nat → Value} {s : Value} {o : Obj} {g cap : Nat} (h : RowS w B 40 2 v N (picH P) S (fun i => (P i).n) (fun i => (P i).f))
    (hown : w5.ownsRow B 40 3 (.slice (some ⟨g, 0, none⟩) (N + 1) cap) (N + 1) (rowV (picH P) S N ++ [.int .i64 (P N).a, .int .i64 (P N).b, s])) (hgrow : (w.alloc o).grownBy w5 v.ownBlock) (hat : v.ownBlock = some g ∨ g = (w.alloc o).heap.size)
    (hi : IntsIn w s (P N).n (P N).f) (hnew : ∀ k, s.ownBlock = some k → B ≤ k) (hoff : ∀ k, s.ownBlock = some k → v.ownBlock ≠ some k) : PicR w5 B (.slice (some ⟨g, 0, none⟩) (N + 1) cap) (N + 1) P := by
  have h' := h.congr (hd' := picH P) (S' := fun i => if i = N then s else S i) (n' := fun i => (P i).n) (f' := fun i => (P i).f) (fun _ _ => rfl) (fun i hi => (if_neg (by omega)).symm) (fun _ _ => rfl) (fun _ _ => rfl)
  have e : rowV (picH P) S N = rowV (picH P) (fun i => if i = N then s else S i) N := by
    unfold rowV
    apply congrArg List.flatten
    apply List.map_congr_left
    intro i hi
    have hlt := List.mem_range.1 hi
    show picH P i ++ [S i] = picH P i ++ [if i = N then s else S i]
    rw [if_neg (by omega)]
  refine ⟨fun i => if i = N then s else S i, h'.snoc ?_ hgrow hat rfl ?_ ?_ ?_⟩
  · show w5.ownsRow B _ _ _ _ (rowV (picH P) _ N ++ (picH P N ++ [if N = N then s else S N]))
    rw [if_pos rfl, ← e]; exact hown
  · show IntsIn w (if N = N then s else S N) _ _
    rw [if_pos rfl]; exact hi
  · show 0 < _ → ∀ k, (if N = N then s else S N).ownBlock = some k → _
    rw [if_pos rfl]; exact fun _ => hnew
  · show 0 < _ → ∀ k, (if N = N then s else S N).ownBlock = some k → _
    rw [if_pos rfl]; exact fun _ => hoff
theorem CodR.snoc {w w5 : World} {B : Nat} {v : Value} {N : Nat} {C : Nat → Cd} {S : Nat → Value} {s : Value} {o : Obj} {g cap : Nat} (h : RowS w B 45 3 v N (codH C) S (fun i => (C i).n) (fun i => (C i).f))
    (hown : w5.ownsRow B 45 4 (.slice (some ⟨g, 0, none⟩) (N + 1) cap) (N + 1) (rowV (codH C) S N ++ [.bool (C N).al, .int .i64 (C N).x, .int .i64 (C N).y, s])) (hgrow : (w.alloc o).grownBy w5 v.ownBlock) (hat : v.ownBlock = some g ∨ g = (w.alloc o).heap.size)
    (hi : IntsIn w s (C N).n (C N).f) (hnew : ∀ k, s.ownBlock = some k → B ≤ k) (hoff : ∀ k, s.ownBlock = some k → v.ownBlock ≠ some k) : CodR w5 B (.slice (some ⟨g, 0, none⟩) (N + 1) cap) (N + 1) C := by
  have h' := h.congr (hd' := codH C) (S' := fun i => if i = N then s else S i) (n' := fun i => (C i).n) (f' := fun i => (C i).f) (fun _ _ => rfl) (fun i hi => (if_neg (by omega)).symm) (fun _ _ => rfl) (fun _ _ => rfl)
  have e : rowV (codH C) S N = rowV (codH C) (fun i => if i = N then s else S i) N := by
    unfold rowV
    apply congrArg List.flatten
    apply List.map_congr_left
    intro i hi
    have hlt := List.mem_range.1 hi
    show codH C i ++ [S i] = codH C i ++ [if i = N then s else S i]
    rw [if_neg (by omega)]
  refine ⟨fun i => if i = N then s else S i, h'.snoc ?_ hgrow hat rfl ?_ ?_ ?_⟩
  · show w5.ownsRow B _ _ _ _ (rowV (codH C) _ N ++ (codH C N ++ [if N = N then s else S N]))
    rw [if_pos rfl, ← e]; exact hown
  · show IntsIn w (if N = N then s else S N) _ _
    rw [if_pos rfl]; exact hi
  · show 0 < _ → ∀ k, (if N = N then s else S N).ownBlock = some k → _
    rw [if_pos rfl]; exact fun _ => hnew
  · show 0 < _ → ∀ k, (if N = N then s else S N).ownBlock = some k → _
    rw [if_pos rfl]; exact fun _ => hoff
end Go.Proofs.YtfgcngjggdjcjaaDoor
