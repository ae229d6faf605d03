/-
  Lemmas for the law above, joined into one text (RClrW, RClrS, RSolveN). No statement is proved here.
-/
import Derived.Test.YtldjbampimbaeaaDoorTG7
import Derived.Deep.OwnRows
import Derived.Deep.AppendLies
import Derived.Laws.AppendOwnNone
import Derived.Deep.RegionHeld3
import Derived.Deep.RegionWith
import Derived.Deep.RegionLaw
import Derived.Test.YtldjbampimbaeaaDoorTSvSolve
namespace Go.Proofs.YtldjbampimbaeaaDoor
open Go.RowKit
set_option linter.unusedVariables false
set_option maxRecDepth 100000

/-- over, its arguments written out. -/
theorem over_lit (f g : Nat → Bool) (a b : ByteArray) (w : World) (ha : a.size ≤ 120) (hb : b.size = a.size) :
    Calls Tryd.prog 35 #[.agg #[.bool (f 0), .bool (f 1), .bool (f 2), .bool (f 3), .bool (f 4), .bool (f 5), .bool (f 6), .bool (f 7), .bool (f 8), .bool (f 9), .bool (f 10), .bool (f 11), .bool (f 12), .bool (f 13), .bool (f 14), .bool (f 15), .string a], .agg #[.bool (g 0), .bool (g 1), .bool (g 2), .bool (g 3), .bool (g 4), .bool (g 5), .bool (g 6), .bool (g 7), .bool (g 8), .bool (g 9), .bool (g 10), .bool (g 11), .bool (g 12), .bool (g 13), .bool (g 14), .bool (g 15), .string b]] w fun e w' => e = .returned (.agg (linC (fun j => f j != g j) (xorB a b))) ∧ Below w.heap.size w w' := over_ok f g a b w ha hb
/-- Numbers in an array of 16. -/
def ArrI (w : World) (b : Nat) (f : Nat → Int) : Prop := ∀ j, j < 16 → w.cell? ⟨b, j, none⟩ = some (.int .i64 (f j)) ∧ w.frozen? ⟨b, j, none⟩ = false
/-- Flags in an array of 60. -/
def ArrB (w : World) (b : Nat) (f : Nat → Bool) : Prop := ∀ j, j < 60 → w.cell? ⟨b, j, none⟩ = some (.bool (f j)) ∧ w.frozen? ⟨b, j, none⟩ = false
theorem ArrI.lt {w : World} {b : Nat} {f : Nat → Int} (h : ArrI w b f) : b < w.heap.size := cell_lt (h 0 (by decide)).1
theorem ArrB.lt {w : World} {b : Nat} {f : Nat → Bool} (h : ArrB w b f) : b < w.heap.size := cell_lt (h 0 (by decide)).1
theorem ArrI.of_block {w w' : World} {b : Nat} {f : Nat → Int} (h : ArrI w b f) (hb : w'.heap[b]? = w.heap[b]?) : ArrI w' b f := fun j hj => ⟨(World.cell?_of_block (w := w) hb).trans (h j hj).1, (World.frozen?_of_block (w := w) hb).trans (h j hj).2⟩
theorem ArrB.of_block {w w' : World} {b : Nat} {f : Nat → Bool} (h : ArrB w b f) (hb : w'.heap[b]? = w.heap[b]?) : ArrB w' b f := fun j hj => ⟨(World.cell?_of_block (w := w) hb).trans (h j hj).1, (World.frozen?_of_block (w := w) hb).trans (h j hj).2⟩
theorem ArrI.congr {w : World} {b : Nat} {f g : Nat → Int} (h : ArrI w b f) (e : ∀ j, j < 16 → f j = g j) : ArrI w b g := fun j hj => by rw [← e j hj]; exact h j hj
theorem ArrB.congr {w : World} {b : Nat} {f g : Nat → Bool} (h : ArrB w b f) (e : ∀ j, j < 60 → f j = g j) : ArrB w b g := fun j hj => by rw [← e j hj]; exact h j hj
theorem ArrI.set {w : World} {b : Nat} {f : Nat → Int} (h : ArrI w b f) (i : Nat) (x : Int) : ArrI (w.setCell ⟨b, i, none⟩ (.int .i64 x)) b (fun j => if j = i then x else f j) := fun j hj => by
  refine ⟨?_, by rw [World.frozen?_setCell]; exact (h j hj).2⟩
  by_cases e : j = i
  · subst e
    rw [World.cell?_setCell_same _ _ _ (h j hj).1]; simp
  · rw [World.cell?_setCell_other _ _ _ _ (fun h => e (by injection h with _ h; omega))]; simp only [if_neg e]; exact (h j hj).1
theorem ArrB.set {w : World} {b : Nat} {f : Nat → Bool} (h : ArrB w b f) (i : Nat) (x : Bool) : ArrB (w.setCell ⟨b, i, none⟩ (.bool x)) b (fun j => if j = i then x else f j) := fun j hj => by
  refine ⟨?_, by rw [World.frozen?_setCell]; exact (h j hj).2⟩
  by_cases e : j = i
  · subst e
    rw [World.cell?_setCell_same _ _ _ (h j hj).1]; simp
  · rw [World.cell?_setCell_other _ _ _ _ (fun h => e (by injection h with _ h; omega))]; simp only [if_neg e]; exact (h j hj).1
theorem arrI_new (w : World) (x : Int) (t : TypeId) : ArrI (w.alloc (.cells (Array.replicate 16 (.int .i64 x)) t)) w.heap.size (fun _ => x) := fun j hj => by
  have hh := (MapKept.heap_alloc w (.cells (Array.replicate 16 (.int .i64 x)) t)).1
  refine ⟨?_, by simp only [World.frozen?, hh]; simp⟩
  rw [cell_of_row _ _ j _ t (0, 0) hh]; simp [hj]
theorem arrB_new (w : World) (t : TypeId) : ArrB (w.alloc (.cells (Array.replicate 60 (.bool false)) t)) w.heap.size (fun _ => false) := fun j hj => by
  have hh := (MapKept.heap_alloc w (.cells (Array.replicate 60 (.bool false)) t)).1
  refine ⟨?_, by simp only [World.frozen?, hh]; simp⟩
  rw [cell_of_row _ _ j _ t (0, 0) hh]; simp [hj]

/-- The cells of Lines, N of them. -/
def lcells (m : Nat → Nat) (d : Nat → ByteArray) (N : Nat) : List Value := (List.range N).flatMap fun i => (linC (m i).testBit (d i)).toList
theorem lcells_succ (m : Nat → Nat) (d : Nat → ByteArray) (N : Nat) : lcells m d (N + 1) = lcells m d N ++ (linC (m N).testBit (d N)).toList := by unfold lcells; rw [List.range_succ, List.flatMap_append]; simp
theorem lcells_len (m : Nat → Nat) (d : Nat → ByteArray) : ∀ N, (lcells m d N).length = N * 17
  | 0 => rfl
  | N + 1 => by rw [lcells_succ, List.length_append, lcells_len m d N, linC_len]; omega
theorem lcells_at (m : Nat → Nat) (d : Nat → ByteArray) (i r : Nat) (hr : r < 17) : ∀ N, i < N → (lcells m d N)[i * 17 + r]? = (linC (m i).testBit (d i))[r]?
  | 0, h => absurd h (Nat.not_lt_zero _)
  | N + 1, h => by
    rw [lcells_succ]
    have hl := lcells_len m d N
    by_cases e : i = N
    · subst e
      rw [List.getElem?_append_right (by omega), hl, show i * 17 + r - i * 17 = r by omega, Array.getElem?_toList]
    · rw [List.getElem?_append_left (by omega)]
      exact lcells_at m d i r hr N (by omega)
theorem lcells_one (m : Nat → Nat) (d : Nat → ByteArray) (N : Nat) : ∀ u ∈ lcells m d N, u.oneCell' = true := fun u hu => by
  obtain ⟨i, _, hi⟩ := List.mem_flatMap.1 hu
  exact (Array.all_eq_true_iff_forall_mem.1 (linC_one (m i).testBit (d i))) u (by simpa using hi)
/-- Rows of Lines, as they lie. -/
def Lns (w : World) (g N : Nat) (m : Nat → Nat) (d : Nat → ByteArray) : Prop := ∀ i, i < N → LinF w g (i * 17) (m i).testBit (d i)
theorem Lns.cell {w : World} {g N : Nat} {m : Nat → Nat} {d : Nat → ByteArray} (h : Lns w g N m d) : ∀ j u, (lcells m d N)[j]? = some u → w.cell? ((⟨g, 0, none⟩ : Addr).add j) = some u := fun j u hu => by
  have hj : j < N * 17 := by
    have := (List.getElem?_eq_some_iff.1 hu).1
    rw [lcells_len] at this; exact this
  have e : j = j / 17 * 17 + j % 17 := by omega
  have hi : j / 17 < N := by omega
  rw [e, lcells_at m d _ _ (Nat.mod_lt _ (by decide)) N hi] at hu
  rw [Addr.add_mid, Nat.zero_add]
  have h9 := (h _ hi).range (j % 17) u (by rw [Array.getElem?_toList]; exact hu)
  rw [← e] at h9; exact h9
theorem own_lns {w : World} {B g N cap : Nat} {m : Nat → Nat} {d : Nat → ByteArray} (h : w.ownsRow B 46 17 (.slice (some ⟨g, 0, none⟩) N cap) N (lcells m d N)) : Lns w g N m d := fun i hi =>
  linF_of (fun j v hv => by
    have hj : j < 17 := (List.getElem?_eq_some_iff.1 hv).1
    rw [h.cellAt (i * 17 + j) (by omega), lcells_at m d i j hj N hi, ← Array.getElem?_toList]; exact hv) (fun j hj => h.frozenAt _)
theorem Lns.below {w w' : World} {g N : Nat} {m : Nat → Nat} {d : Nat → ByteArray} (h : Lns w g N m d) (hb : Below w.heap.size w w') : Lns w' g N m d := fun i hi => (h i hi).below hb
theorem Lns.of_block {w w' : World} {g N : Nat} {m : Nat → Nat} {d : Nat → ByteArray} (h : Lns w g N m d) (hb : w'.heap[g]? = w.heap[g]?) : Lns w' g N m d := fun i hi => (h i hi).of_block hb
/-- Lines as they are handed to Clear. -/
def LnsAt (w : World) (v : Value) (N : Nat) (m : Nat → Nat) (d : Nat → ByteArray) : Prop :=
  (N = 0 ∧ v = .slice none 0 0) ∨ (0 < N ∧ ∃ g cap, v = .slice (some ⟨g, 0, none⟩) N cap ∧ N ≤ cap ∧ cap ≤ maxLen ∧ Lns w g N m d)
theorem own_lnsAt {w : World} {B N : Nat} {v : Value} {m : Nat → Nat} {d : Nat → ByteArray} (h : w.ownsRow B 46 17 v N (lcells m d N)) (h0 : N = 0 → v = .slice none 0 0) : LnsAt w v N m d := by
  rcases Nat.eq_zero_or_pos N with e | hp
  · exact Or.inl ⟨e, h0 e⟩
  · have h' := h
    rcases h.2 with ⟨_, hz⟩ | ⟨g, cap, cur, hv, _, hg, h1, h2, hcs, hcur⟩
    · omega
    · rw [hv] at h'
      exact Or.inr ⟨hp, g, cap, hv, h1, h2, own_lns h'⟩
end Go.Proofs.YtldjbampimbaeaaDoor

namespace Go.Proofs.YtldjbampimbaeaaDoor
open Go.RowKit
set_option linter.unusedVariables false
set_option maxRecDepth 100000

/-- Numbers of an array of 16. -/
def arrC (f : Nat → Int) : Array Value := #[.int .i64 (f 0), .int .i64 (f 1), .int .i64 (f 2), .int .i64 (f 3), .int .i64 (f 4), .int .i64 (f 5), .int .i64 (f 6), .int .i64 (f 7), .int .i64 (f 8), .int .i64 (f 9), .int .i64 (f 10), .int .i64 (f 11), .int .i64 (f 12), .int .i64 (f 13), .int .i64 (f 14), .int .i64 (f 15)]
theorem arrC_at (f : Nat → Int) : ∀ {j : Nat}, j < 16 → (arrC f)[j]? = some (.int .i64 (f j))
  | 0, _ => rfl
  | 1, _ => rfl
  | 2, _ => rfl
  | 3, _ => rfl
  | 4, _ => rfl
  | 5, _ => rfl
  | 6, _ => rfl
  | 7, _ => rfl
  | 8, _ => rfl
  | 9, _ => rfl
  | 10, _ => rfl
  | 11, _ => rfl
  | 12, _ => rfl
  | 13, _ => rfl
  | 14, _ => rfl
  | 15, _ => rfl
  | j + 16, h => absurd h (by omega)
theorem arrC_len (f : Nat → Int) : (arrC f).toList.length = 16 := rfl
theorem arrC_one (f : Nat → Int) : (arrC f).all (·.oneCell') = true := by simp [arrC, Value.oneCell']
theorem ArrI.range {w : World} {b : Nat} {f : Nat → Int} (h : ArrI w b f) : w.rangeAt b 0 (arrC f).toList := fun j v hv => by
  have hj : j < 16 := (List.getElem?_eq_some_iff.1 hv).1
  rw [Array.getElem?_toList, arrC_at f hj] at hv
  rw [← hv, Nat.zero_add]; exact (h j hj).1
theorem ArrI.there {w : World} {b : Nat} {f : Nat → Int} (h : ArrI w b f) : w.there b 0 16 := fun j hj => by
  rw [Nat.zero_add]
  exact ⟨by rw [(h j hj).1]; rfl, (h j hj).2⟩
theorem ArrI.put {w : World} {b : Nat} {f : Nat → Int} (h : ArrI w b f) (f' : Nat → Int) : (w.setCells b 0 (arrC f').toList).rangeAt b 0 (arrC f').toList := World.rangeAt_setCells_same w b 0 _ (by rw [arrC_len]; exact h.there)
theorem Tryd.sizeArr : (Tryd.prog.info? 49).map (·.size) = some 16 := by kernel_rfl
theorem results_cell2 {fn : Func} {p u : Tmp} {ty : TypeId} (h : fn.results = #[.tmp u, .cell p ty]) (tmps : Array Value) (P : Program) (w : World) :
    (results fn tmps).run P w = ((asAddr (tmps.getD p undef)).run P w).andThen fun a w₁ => ((loadVar ty a).run P w₁).andThen fun v w₂ => .ok (.tuple #[tmps.getD u undef, v]) w₂ := by
  simp only [results, h]
  simp [Sem.run_bind, Result.andThen]
theorem results_cellB {fn : Func} {p u : Tmp} {ty : TypeId} (h : fn.results = #[.tmp u, .cell p ty]) (tmps : Array Value) (P : Program) (w : World) (ad : Addr) (v x : Value) (hp : tmps.getD p undef = .pointer (some ad)) (hu : tmps.getD u undef = x) (hl : (loadVar ty ad).run P w = .ok v w) :
    (results fn tmps).run P w = .ok (.tuple #[x, v]) w := by
  rw [results_cell2 h, hp, hu]
  simp [asAddr, hl, Result.andThen]
/-- What Clear holds. -/
structure ClS (w : World) (g N : Nat) (atI : Nat → Int) (us : Nat → Bool) (m : Nat → Nat) (d : Nat → ByteArray) (wr : World) : Prop where
  res : ArrI wr w.heap.size (fun _ => 0)
  ats : ArrI wr (w.heap.size + 1) atI
  uss : ArrB wr (w.heap.size + 1 + 1) us
  rows : 0 < N → w.heap.size + 1 + 1 < g ∧ Lns wr g N m d
  below : Below w.heap.size w wr
theorem ClS.step {w : World} {g N : Nat} {atI : Nat → Int} {us : Nat → Bool} {m : Nat → Nat} {d : Nat → ByteArray} {wr w' : World} (h : ClS w g N atI us m d wr) (hb : Below wr.heap.size wr w') : ClS w g N atI us m d w' :=
  ⟨h.res.of_block (hb.block _ h.res.lt), h.ats.of_block (hb.block _ h.ats.lt), h.uss.of_block (hb.block _ h.uss.lt), fun h0 => ⟨(h.rows h0).1, (h.rows h0).2.below hb⟩, below_two h.below hb⟩
theorem ClS.setAt {w : World} {g N : Nat} {atI : Nat → Int} {us : Nat → Bool} {m : Nat → Nat} {d : Nat → ByteArray} {wr : World} (h : ClS w g N atI us m d wr) (i : Nat) (x : Int) : ClS w g N (fun j => if j = i then x else atI j) us m d (wr.setCell ⟨w.heap.size + 1, i, none⟩ (.int .i64 x)) := by
  have hb : ∀ j, j ≠ w.heap.size + 1 → (wr.setCell ⟨w.heap.size + 1, i, none⟩ (.int .i64 x)).heap[j]? = wr.heap[j]? := fun j hj => Below.heap_setCell wr _ _ j (fun e => hj e)
  exact ⟨h.res.of_block (hb _ (by omega)), h.ats.set i x, h.uss.of_block (hb _ (by omega)), fun h0 => ⟨(h.rows h0).1, (h.rows h0).2.of_block (hb _ (by have := (h.rows h0).1; omega))⟩, h.below.setCell (Nat.le_succ _) _⟩
theorem ClS.setUs {w : World} {g N : Nat} {atI : Nat → Int} {us : Nat → Bool} {m : Nat → Nat} {d : Nat → ByteArray} {wr : World} (h : ClS w g N atI us m d wr) (i : Nat) (x : Bool) : ClS w g N atI (fun j => if j = i then x else us j) m d (wr.setCell ⟨w.heap.size + 1 + 1, i, none⟩ (.bool x)) := by
  have hb : ∀ j, j ≠ w.heap.size + 1 + 1 → (wr.setCell ⟨w.heap.size + 1 + 1, i, none⟩ (.bool x)).heap[j]? = wr.heap[j]? := fun j hj => Below.heap_setCell wr _ _ j (fun e => hj e)
  exact ⟨h.res.of_block (hb _ (by omega)), h.ats.of_block (hb _ (by omega)), h.uss.set i x, fun h0 => ⟨(h.rows h0).1, (h.rows h0).2.of_block (hb _ (by have := (h.rows h0).1; omega))⟩, h.below.setCell (by show w.heap.size ≤ w.heap.size + 1 + 1; omega) _⟩
theorem heap_sets {g : Nat} : ∀ (vs : List Value) (o : Nat) (w : World) (j : Nat), j ≠ g → (w.setCells g o vs).heap[j]? = w.heap[j]?
  | [], _, _, _, _ => rfl
  | v :: vs, o, w, j, h => by rw [World.setCells, heap_sets vs (o + 1) _ j h, Below.heap_setCell w _ _ j (fun e => h e)]
theorem ClS.setRow {w : World} {g N : Nat} {atI : Nat → Int} {us : Nat → Bool} {m : Nat → Nat} {d : Nat → ByteArray} {wr : World} (h : ClS w g N atI us m d wr) {i : Nat} (hi : i < N) (mi : Nat) (di : ByteArray) (f : Nat → Bool) (hf : ∀ j, j < 16 → f j = mi.testBit j) :
    ClS w g N atI us (fun j => if j = i then mi else m j) (fun j => if j = i then di else d j) (wr.setCells g (i * 17) (linC f di).toList) := by
  have h0 := h.rows (by omega)
  have hb : ∀ j, j ≠ g → (wr.setCells g (i * 17) (linC f di).toList).heap[j]? = wr.heap[j]? := fun j hj => heap_sets _ _ _ j hj
  refine ⟨h.res.of_block (hb _ (by omega)), h.ats.of_block (hb _ (by omega)), h.uss.of_block (hb _ (by omega)), fun _ => ⟨h0.1, fun j hj => ?_⟩, sets_below (by omega) _ _ _ h.below⟩
  by_cases e : j = i
  · subst e
    simp only [if_true]
    exact ((h0.2 j hj).put f di).congr hf
  · simp only [if_neg e]
    exact (h0.2 j hj).apart g (i * 17) f di (by omega)
theorem ClS.congr {w : World} {g N : Nat} {atI atJ : Nat → Int} {us vs : Nat → Bool} {m n : Nat → Nat} {d e : Nat → ByteArray} {wr : World} (h : ClS w g N atI us m d wr) (h1 : ∀ j, j < 16 → atI j = atJ j) (h2 : ∀ j, j < 60 → us j = vs j) (h3 : ∀ j, j < N → m j = n j) (h4 : ∀ j, j < N → d j = e j) : ClS w g N atJ vs n e wr :=
  ⟨h.res, h.ats.congr h1, h.uss.congr h2, fun h0 => ⟨(h.rows h0).1, fun i hi => by rw [← h3 i hi, ← h4 i hi]; exact (h.rows h0).2 i hi⟩, h.below⟩
theorem Tryd.infoLine : (Tryd.prog.info? 46).map (fun i => (i.zero, i.size, i.bytes)) = some (some (.agg (linC (fun _ => false) ⟨#[]⟩)), 17, 32) := by kernel_rfl
/-- Which row is chosen, as a number. -/
def atN (at_ : Nat → Option Nat) (c : Nat) : Int := match at_ c with
  | none => -1
  | some i => (i : Int)
/-- What Clear tells. -/
def Cleans (w : World) (L : List RV) (k n N : Nat) (e : Ending) (w' : World) : Prop :=
  ∃ a cap m d at_ us, e = .returned (.tuple #[.slice a N cap, .agg (arrC (atN at_))]) ∧ Clr L k N k (fun i => rv (m i) (d i)) at_ us ∧ (∀ c, k ≤ c → at_ c = none) ∧ (∀ i, i < N → (d i).size = n) ∧ (0 < N → ∃ g, a = some ⟨g, 0, none⟩ ∧ N ≤ cap ∧ cap ≤ maxLen ∧ Lns w' g N m d) ∧ Below w.heap.size w w'
/-- That it does. -/
def ClearOk : Prop := ∀ (k n N : Nat) (v : Value) (m0 : Nat → Nat) (d0 : Nat → ByteArray) (w : World), 1 ≤ k → k ≤ 16 → n ≤ 8 → N ≤ 60 → LnsAt w v N m0 d0 → (∀ i, i < N → m0 i < 2 ^ k) → (∀ i, i < N → (d0 i).size = n) →
    Calls Tryd.prog 15 #[v, .int .i64 k] w fun e w' => Cleans w ((List.range N).map fun i => rv (m0 i) (d0 i)) k n N e w'
end Go.Proofs.YtldjbampimbaeaaDoor

namespace Go.Proofs.YtldjbampimbaeaaDoor
open Go.RowKit
set_option linter.unusedVariables false
set_option maxRecDepth 100000

/-- Does one of the first places lack? -/
def fewB (at_ : Nat → Option Nat) : Nat → Bool
  | 0 => false
  | b + 1 => fewB at_ b || (at_ b).isNone
/-- The bytes of those that are found, among the first places. -/
def outL (at_ : Nat → Option Nat) (d : Nat → ByteArray) : Nat → List ByteArray
  | 0 => []
  | b + 1 => outL at_ d b ++ (match at_ b with | none => [] | some i => [d i])
theorem fewB_false {at_ : Nat → Option Nat} : ∀ {b : Nat}, fewB at_ b = false → ∀ c, c < b → (at_ c).isSome = true
  | 0, _, c, hc => absurd hc (Nat.not_lt_zero _)
  | b + 1, h, c, hc => by
    unfold fewB at h
    rw [Bool.or_eq_false_iff] at h
    by_cases e : c = b
    · subst e
      cases e : at_ c with
      | none => rw [e] at h; cases h.2
      | some i => rfl
    · exact fewB_false h.1 c (by omega)
theorem fewB_true {at_ : Nat → Option Nat} : ∀ {b : Nat}, fewB at_ b = true → ∃ c, c < b ∧ (at_ c).isSome = false
  | 0, h => by cases h
  | b + 1, h => by
    unfold fewB at h
    rw [Bool.or_eq_true] at h
    rcases h with h | h
    · obtain ⟨c, h1, h2⟩ := fewB_true h
      exact ⟨c, by omega, h2⟩
    · refine ⟨b, by omega, ?_⟩
      cases e : at_ b with
      | none => rfl
      | some i => rw [e] at h; cases h
theorem outL_len_le (at_ : Nat → Option Nat) (d : Nat → ByteArray) : ∀ b, (outL at_ d b).length ≤ b
  | 0 => Nat.le_refl _
  | b + 1 => by
    unfold outL
    have := outL_len_le at_ d b
    rw [List.length_append]
    cases at_ b <;> simp <;> omega
theorem outL_all (at_ : Nat → Option Nat) (d : Nat → ByteArray) : ∀ b, (∀ c, c < b → (at_ c).isSome = true) → (outL at_ d b).length = b ∧ ∀ c, c < b → (outL at_ d b).getD c ⟨#[]⟩ = d ((at_ c).getD 0)
  | 0, _ => ⟨rfl, fun c hc => absurd hc (Nat.not_lt_zero _)⟩
  | b + 1, h => by
    obtain ⟨h1, h2⟩ := outL_all at_ d b (fun c hc => h c (by omega))
    obtain ⟨i, hi⟩ := Option.isSome_iff_exists.1 (h b (Nat.lt_succ_self _))
    unfold outL
    rw [hi]
    refine ⟨by rw [List.length_append, h1]; rfl, fun c hc => ?_⟩
    by_cases e : c = b
    · subst e
      rw [List.getD_eq_getElem?_getD, List.getElem?_append_right (by omega), h1, Nat.sub_self, hi]; rfl
    · rw [List.getD_eq_getElem?_getD, List.getElem?_append_left (by omega), ← List.getD_eq_getElem?_getD]
      exact h2 c (by omega)
/-- Has it none of the first places? -/
def noneB (m : Nat) : Nat → Bool
  | 0 => true
  | b + 1 => noneB m b && !m.testBit b
theorem noneB_bits {m : Nat} : ∀ {b : Nat}, (noneB m b = true ↔ ∀ c, c < b → m.testBit c = false)
  | 0 => ⟨fun _ c hc => absurd hc (Nat.not_lt_zero _), fun _ => rfl⟩
  | b + 1 => by
    unfold noneB
    rw [Bool.and_eq_true, noneB_bits]
    constructor
    · intro ⟨h1, h2⟩ c hc
      by_cases e : c = b
      · subst e; simpa using h2
      · exact h1 c (by omega)
    · intro h
      exact ⟨fun c hc => h c (by omega), by simp [h b (Nat.lt_succ_self _)]⟩
theorem noneB_zero {m k : Nat} (hm : m < 2 ^ k) : noneB m k = true ↔ m = 0 := by
  rw [noneB_bits]
  exact ⟨no_bits hm, fun h c _ => by rw [h]; exact Nat.zero_testBit c⟩
/-- What the document's Solve answers. -/
def RSolved (L : List RV) (k n : Nat) (e : Ending) (w' : World) : Prop :=
  (Clash L ∧ e = .returned (.tuple #[.slice none 0 0, .int .i64 7])) ∨
  (¬ Clash L ∧ (∃ r, r < k ∧ Dim (Sp XN (L.map Prod.fst)) r) ∧ e = .returned (.tuple #[.slice none 0 0, .int .i64 8])) ∨
  (¬ Clash L ∧ Dim (Sp XN (L.map Prod.fst)) k ∧ ∃ (v : Value) (G : Nat → ByteArray), e = .returned (.tuple #[v, .int .i64 0]) ∧ StrsIn w' v k G ∧ ∀ p, p < k → (G p).size = n ∧ Sp XV L (rv (2 ^ p) (G p)))
theorem Clr.clash {L : List RV} {k N n : Nat} {m : Nat → Nat} {d : Nat → ByteArray} {at_ : Nat → Option Nat} {us : Nat → Bool} (h : Clr L k N k (fun i => rv (m i) (d i)) at_ us) (hd : ∀ i, i < N → (d i).size = n) : Clash L ↔ ∃ i, i < N ∧ m i = 0 ∧ d i ≠ zerosB n := by
  rw [h.cleared.clash]
  constructor
  · rintro ⟨o, ho, hne⟩
    obtain ⟨i, hi, rfl⟩ := List.mem_map.1 ho
    obtain ⟨h1, h2⟩ := List.mem_filter.1 hi
    have hN := List.mem_range.1 h1
    exact ⟨i, hN, of_decide_eq_true h2, fun e => hne ((zero_iff (hd i hN)).1 e)⟩
  · rintro ⟨i, hi, hm, hne⟩
    exact ⟨atB (d i), List.mem_map.2 ⟨i, List.mem_filter.2 ⟨List.mem_range.2 hi, decide_eq_true hm⟩, rfl⟩, fun e => hne ((zero_iff (hd i hi)).2 e)⟩
theorem Clr.few {L : List RV} {k N : Nat} {R : Nat → RV} {at_ : Nat → Option Nat} {us : Nat → Bool} (h : Clr L k N k R at_ us) (hf : fewB at_ k = true) : ∃ r, r < k ∧ Dim (Sp XN (L.map Prod.fst)) r := by
  refine ⟨_, ?_, h.cleared.dim⟩
  have h1 := cntB_le (fun b => (at_ b).isSome) k
  rcases Nat.lt_or_ge (cntB (fun b => (at_ b).isSome) k) k with h2 | h2
  · exact h2
  · obtain ⟨c, hc, hn⟩ := fewB_true hf
    have h3 := cntB_all.1 (show cntB (fun b => (at_ b).isSome) k = k by omega) c hc
    simp only [hn] at h3
    cases h3
theorem Clr.dimAll {L : List RV} {k N : Nat} {R : Nat → RV} {at_ : Nat → Option Nat} {us : Nat → Bool} (h : Clr L k N k R at_ us) (hf : fewB at_ k = false) : Dim (Sp XN (L.map Prod.fst)) k := by
  have h1 := h.cleared.dim
  rw [show cntB (fun b => (at_ b).isSome) k = k from cntB_all.2 (fewB_false hf)] at h1
  exact h1
theorem Clr.sole {L : List RV} {k N : Nat} {m : Nat → Nat} {d : Nat → ByteArray} {at_ : Nat → Option Nat} {us : Nat → Bool} (h : Clr L k N k (fun i => rv (m i) (d i)) at_ us) (hf : fewB at_ k = false) {p : Nat} (hp : p < k) : (at_ p).getD 0 < N ∧ Sp XV L (rv (2 ^ p) (d ((at_ p).getD 0))) := by
  have hall := fewB_false hf
  obtain ⟨i, hi⟩ := Option.isSome_iff_exists.1 (hall p hp)
  have hlt := (h.found p hp i hi).1
  have h1 := h.alone (fun b hb e => by have := hall b hb; rw [e] at this; cases this) hp hi
  rw [hi]
  refine ⟨hlt, ?_⟩
  have h2 : Sp XV L (rv (m i) (d i)) := (h.span _).1 (Sp.mem (List.mem_map.2 ⟨i, List.mem_range.2 hlt, rfl⟩))
  have h3 : m i = 2 ^ p := h1
  rw [h3] at h2
  exact h2
theorem own_strsIn {w : World} {B : Nat} {v : Value} {O : List ByteArray} (h : w.ownsRow B 9 1 v O.length (O.map .string)) : StrsIn w v O.length (fun i => O.getD i ⟨#[]⟩) := by
  obtain ⟨a, cap, rfl, h0⟩ := own_strO h
  rcases Nat.eq_zero_or_pos O.length with e | hp
  · exact Or.inl ⟨e, a, cap, by rw [e]⟩
  · obtain ⟨g, rfl, _, _, hc⟩ := h0 hp
    exact Or.inr ⟨hp, g, 0, cap, rfl, fun i hi => by rw [Nat.zero_add]; exact hc i hi⟩
theorem StrsIn.congr {w : World} {v : Value} {n : Nat} {f g : Nat → ByteArray} (h : StrsIn w v n f) (e : ∀ i, i < n → f i = g i) : StrsIn w v n g := by
  rcases h with h | ⟨h0, b, o, cap, hv, hc⟩
  · exact Or.inl h
  · exact Or.inr ⟨h0, b, o, cap, hv, fun i hi => by rw [← e i hi]; exact hc i hi⟩
end Go.Proofs.YtldjbampimbaeaaDoor
