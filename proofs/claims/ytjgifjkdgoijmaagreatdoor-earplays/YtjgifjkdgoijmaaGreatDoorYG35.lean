/-
  Lemmas for the law above, joined into one text (ROf, RClrW, RClrS, RSolveN, RSolveB). No statement is proved here.
-/
import Derived.Test.YtjgifjkdgoijmaaGreatDoorYG34
import Derived.Test.YtjgifjkdgoijmaaGreatDoorYG2
import Derived.Deep.OwnRows
import Derived.Deep.AppendLies
import Derived.Laws.AppendOwnNone
import Derived.Deep.RegionHeld3
import Derived.Deep.RegionWith
import Derived.Deep.RegionLaw
import Derived.Test.YtjgifjkdgoijmaaGreatDoorYSvSolve
import Derived.Deep.QuietTactic
import Derived.BigQuiet
import Derived.Test.YtjgifjkdgoijmaaGreatDoorYG16
namespace Go.Proofs.YtjgifjkdgoijmaaGreatDoor
open Go.RowKit
set_option linter.unusedVariables false
set_option maxRecDepth 100000

/-- What Of has come to. -/
structure OfSt (w : World) (f : Nat → Bool) (wr : World) : Prop where
  one : LinF wr (w.heap.size + 1) 0 f ⟨#[]⟩
  res : LinF wr w.heap.size 0 (fun _ => false) ⟨#[]⟩
  below : Below w.heap.size w wr
set_option maxHeartbeats 4000000 in
theorem rof_ok (l : List Nat) (v : Value) (d : ByteArray) (w : World) (hv : Lst w v l) (hl : ∀ p ∈ l, p < 16) (hn : l.length ≤ 16) :
    Calls Tryz.prog 48 #[v, .string d] w fun e w' => e = .returned (.agg (linC (maskL l).testBit d)) ∧ Below w.heap.size w w' := by
  obtain ⟨g, cap, rfl, hc1, hc2, hc⟩ := hv
  have HC := hide hc
  have HL := hide hl
  unfold maxLen at hc2
  have H0 : Hid (OfSt w (fun _ => false) ((w.alloc (.cells (linC (fun _ => false) ⟨#[]⟩) 101)).alloc (.cells (linC (fun _ => false) ⟨#[]⟩) 101))) := by
    have h1 := linF_new w (fun _ => false) ⟨#[]⟩ 101
    have h2 := linF_new (w.alloc (.cells (linC (fun _ => false) ⟨#[]⟩) 101)) (fun _ => false) ⟨#[]⟩ 101
    have e1 : (w.alloc (.cells (linC (fun _ => false) ⟨#[]⟩) 101)).heap.size = w.heap.size + 1 := by simp
    rw [e1] at h2
    exact ⟨h2, h1.below ((Below.refl _ _).alloc (Nat.le_refl _) _), ((Below.refl _ w).alloc (Nat.le_refl _) _).alloc (by simp) _⟩
  clear hc hl
  go_enter Tryz.func48, Tryz.ntmps48
  go_wp2_with fail
  go_loopw [6] (fun i wr => ∃ j : Nat, j ≤ l.length ∧ i = .int .i64 j ∧ OfSt w (maskL (l.take j)).testBit wr) (fun i _ => l.length - (intOf i).toNat)
  case atStart =>
    refine ⟨0, Nat.zero_le _, rfl, ?_, H0.out.res, H0.out.below⟩
    refine LinF.congr H0.out.one (fun j _ => ?_)
    rw [List.take_zero, maskL_bit]; simp
  case round =>
    obtain ⟨j, hj, rfl, hS⟩ := hrel
    have HS := hide hS
    clear hS H0
    by_cases hlt : j < l.length
    · have hcj := cell_below HS.out.below (HC.out j hlt)
      rw [Nat.zero_add] at hcj
      have hpl : l.getD j 0 < 16 := HL.out _ (by simp [List.getD, hlt])
      have HN : Hid (LinF (wr.setCell ⟨w.heap.size + 1, 0 + l.getD j 0, none⟩ (.bool true)) (w.heap.size + 1) 0 (maskL (l.take (j + 1))).testBit ⟨#[]⟩) := (HS.out.one.set hpl true).congr (fun i hi => by
        rw [maskL_bit, maskL_bit]
        have e : l.take (j + 1) = l.take j ++ [l.getD j 0] := by rw [List.take_add_one]; simp [List.getD, hlt]
        rw [e]
        by_cases c : i = l.getD j 0
        · rw [if_pos c]; exact (decide_eq_true (by rw [c]; simp)).symm
        · rw [if_neg c]; exact decide_eq_decide.2 (by simp only [List.mem_append, List.mem_singleton, c, or_false]))
      have HR : Hid (LinF (wr.setCell ⟨w.heap.size + 1, 0 + l.getD j 0, none⟩ (.bool true)) w.heap.size 0 (fun _ => false) ⟨#[]⟩) := HS.out.res.other (by show w.heap.size + 1 ≠ w.heap.size; omega)
      have c1 := (HS.out.one.1 _ hpl).1
      have f1 := (HS.out.one.1 _ hpl).2
      simp only [Nat.zero_add] at c1 f1
      rw [Nat.zero_add] at HN HR
      generalize l.getD j 0 = p at *
      go_wp2
      go_roundw
      case rel => exact ⟨j + 1, by omega, by go_num, HN.out, HR.out, HS.out.below.setCell (Nat.le_succ _) _⟩
      case measure => simp [intOf]; omega
    · obtain rfl : j = l.length := by omega
      rw [List.take_length] at HS
      have hc2 := HS.out.one.2.1
      have hf2 := HS.out.one.2.2
      simp only [Nat.zero_add] at hc2 hf2
      have HL3 : Hid (LinF (wr.setCell ⟨w.heap.size + 1, 16, none⟩ (.string d)) (w.heap.size + 1) 0 (maskL l).testBit d) := HS.out.one.data d
      have HR3 : Hid (LinF (wr.setCell ⟨w.heap.size + 1, 16, none⟩ (.string d)) w.heap.size 0 (fun _ => false) ⟨#[]⟩) := HS.out.res.other (by show w.heap.size + 1 ≠ w.heap.size; omega)
      have HB3 : Hid (Below w.heap.size w (wr.setCell ⟨w.heap.size + 1, 16, none⟩ (.string d))) := HS.out.below.setCell (Nat.le_succ _) _
      go_upto_region 7 with fail
      clear hc2 hf2
      generalize wr.setCell ⟨w.heap.size + 1, 16, none⟩ (.string d) = w3 at *
      have hPut := HR3.out.put (maskL l).testBit d
      have HRG := hide HL3.out.range
      have HTH := hide HR3.out.there
      have HLD := hide (run_loadVar_mid (P := Tryz.prog) _ _ _ 101 _ _ hPut.range Tryz.underlying101 rfl (by rw [linC_len]; exact Tryz.sizeLine))
      have HB4 : Hid (Below w.heap.size w (w3.setCells w.heap.size 0 (linC (maskL l).testBit d).toList)) := sets_below (Nat.le_refl _) _ _ _ HB3.out
      clear hPut
      generalize hcc : linC (maskL l).testBit d = cc at *
      have HC1 : Hid (cc.size = 17) := by rw [Hid, ← hcc]; rfl
      have HC2 : Hid (cc.all (·.oneCell') = true) := by rw [Hid, ← hcc]; exact linC_one _ _
      have HCC := hide hcc
      clear hcc
      go_wp2_with (first
        | (refine wpList_load_mid rfl 101 _ rfl (w.heap.size + 1) 0 rfl cc.toList _ HRG.out Tryz.underlying101 rfl (by rw [Array.length_toList, HC1.out]; exact Tryz.sizeLine) ?_)
        | (refine wpList_store_mid rfl 101 _ _ rfl w.heap.size 0 cc rfl (by rw [Array.toArray_toList]; rfl) (by rw [HC1.out]; exact HTH.out) (by rw [HC1.out]; exact Tryz.sizeLine) HC2.out ?_))
      refine bodyPost_ret (v := .agg cc) ?_ rfl ⟨by rw [HCC.out], HB4.out⟩
      have hl := HLD.out
      rw [Array.toArray_toList] at hl
      rw [results_cell1 rfl]
      exact hl
end Go.Proofs.YtjgifjkdgoijmaaGreatDoor

namespace Go.Proofs.YtjgifjkdgoijmaaGreatDoor
open Go.RowKit
set_option linter.unusedVariables false
set_option maxRecDepth 100000

/-- over, its arguments written out. -/
theorem over_lit (f g : Nat → Bool) (a b : ByteArray) (w : World) (ha : a.size ≤ 120) (hb : b.size = a.size) :
    Calls Tryz.prog 85 #[.agg #[.bool (f 0), .bool (f 1), .bool (f 2), .bool (f 3), .bool (f 4), .bool (f 5), .bool (f 6), .bool (f 7), .bool (f 8), .bool (f 9), .bool (f 10), .bool (f 11), .bool (f 12), .bool (f 13), .bool (f 14), .bool (f 15), .string a], .agg #[.bool (g 0), .bool (g 1), .bool (g 2), .bool (g 3), .bool (g 4), .bool (g 5), .bool (g 6), .bool (g 7), .bool (g 8), .bool (g 9), .bool (g 10), .bool (g 11), .bool (g 12), .bool (g 13), .bool (g 14), .bool (g 15), .string b]] w fun e w' => e = .returned (.agg (linC (fun j => f j != g j) (xorB a b))) ∧ Below w.heap.size w w' := over_ok f g a b w ha hb
/-- Numbers in an array of 16. -/
def ArrI (w : World) (b : Nat) (f : Nat → Int) : Prop := ∀ j, j < 16 → w.cell? ⟨b, j, none⟩ = some (.int .i64 (f j)) ∧ w.frozen? ⟨b, j, none⟩ = false
/-- Flags in an array of 60. -/
def ArrB (w : World) (b : Nat) (f : Nat → Bool) : Prop := ∀ j, j < 60 → w.cell? ⟨b, j, none⟩ = some (.bool (f j)) ∧ w.frozen? ⟨b, j, none⟩ = false
theorem ArrI.lt {w : World} {b : Nat} {f : Nat → Int} (h : ArrI w b f) : b < w.heap.size := cell_lt (h 0 (by decide)).1
theorem ArrB.lt {w : World} {b : Nat} {f : Nat → Bool} (h : ArrB w b f) : b < w.heap.size := cell_lt (h 0 (by decide)).1
theorem ArrI.of_block {w w' : World} {b : Nat} {f : Nat → Int} (h : ArrI w b f) (hb : w'.heap[b]? = w.heap[b]?) : ArrI w' b f := fun j hj => ⟨(World.cell?_of_block (w := w) hb).trans (h j hj).1, (World.frozen?_of_block (w := w) hb).trans (h j hj).2⟩
theorem ArrB.of_block {w w' : World} {b : Nat} {f : Nat → Bool} (h : ArrB w b f) (hb : w'.heap[b]? = w.heap[b]?) : ArrB w' b f := fun j hj => ⟨(World.cell?_of_block (w := w) hb).trans (h j hj).1, (World.frozen?_of_block (w := w) hb).trans (h j hj).2⟩
theorem ArrI.congr {w : World} {b : Nat} {f g : Nat → Int} (h : ArrI w b f) (e : ∀ j, j < 16 → f j = g j) : ArrI w b g := fun j hj => by rw [← e j hj]; exact h j hj
theorem ArrB.congr {w : World} {b : Nat} {f g : Nat → Bool} (h : ArrB w b f) (e : ∀ j, j < 60 → f j = g j) : ArrB w b g := fun j hj => by rw [← e j hj]; exact h j hj
theorem ArrI.set {w : World} {b : Nat} {f : Nat → Int} (h : ArrI w b f) (i : Nat) (x : Int) : ArrI (w.setCell ⟨b, i, none⟩ (.int .i64 x)) b (fun j => if j = i then x else f j) := fun j hj => by
  refine ⟨?_, by rw [World.frozen?_setCell]; exact (h j hj).2⟩
  by_cases e : j = i
  · subst e
    rw [World.cell?_setCell_same _ _ _ (h j hj).1]; simp
  · rw [World.cell?_setCell_other _ _ _ _ (fun h => e (by injection h with _ h; omega))]; simp only [if_neg e]; exact (h j hj).1
theorem ArrB.set {w : World} {b : Nat} {f : Nat → Bool} (h : ArrB w b f) (i : Nat) (x : Bool) : ArrB (w.setCell ⟨b, i, none⟩ (.bool x)) b (fun j => if j = i then x else f j) := fun j hj => by
  refine ⟨?_, by rw [World.frozen?_setCell]; exact (h j hj).2⟩
  by_cases e : j = i
  · subst e
    rw [World.cell?_setCell_same _ _ _ (h j hj).1]; simp
  · rw [World.cell?_setCell_other _ _ _ _ (fun h => e (by injection h with _ h; omega))]; simp only [if_neg e]; exact (h j hj).1
theorem arrI_new (w : World) (x : Int) (t : TypeId) : ArrI (w.alloc (.cells (Array.replicate 16 (.int .i64 x)) t)) w.heap.size (fun _ => x) := fun j hj => by
  have hh := (MapKept.heap_alloc w (.cells (Array.replicate 16 (.int .i64 x)) t)).1
  refine ⟨?_, by simp only [World.frozen?, hh]; simp⟩
  rw [cell_of_row _ _ j _ t (0, 0) hh]; simp [hj]
theorem arrB_new (w : World) (t : TypeId) : ArrB (w.alloc (.cells (Array.replicate 60 (.bool false)) t)) w.heap.size (fun _ => false) := fun j hj => by
  have hh := (MapKept.heap_alloc w (.cells (Array.replicate 60 (.bool false)) t)).1
  refine ⟨?_, by simp only [World.frozen?, hh]; simp⟩
  rw [cell_of_row _ _ j _ t (0, 0) hh]; simp [hj]

/-- The cells of Lines, N of them. -/
def lcells (m : Nat → Nat) (d : Nat → ByteArray) (N : Nat) : List Value := (List.range N).flatMap fun i => (linC (m i).testBit (d i)).toList
theorem lcells_succ (m : Nat → Nat) (d : Nat → ByteArray) (N : Nat) : lcells m d (N + 1) = lcells m d N ++ (linC (m N).testBit (d N)).toList := by unfold lcells; rw [List.range_succ, List.flatMap_append]; simp
theorem lcells_len (m : Nat → Nat) (d : Nat → ByteArray) : ∀ N, (lcells m d N).length = N * 17
  | 0 => rfl
  | N + 1 => by rw [lcells_succ, List.length_append, lcells_len m d N, linC_len]; omega
theorem lcells_at (m : Nat → Nat) (d : Nat → ByteArray) (i r : Nat) (hr : r < 17) : ∀ N, i < N → (lcells m d N)[i * 17 + r]? = (linC (m i).testBit (d i))[r]?
  | 0, h => absurd h (Nat.not_lt_zero _)
  | N + 1, h => by
    rw [lcells_succ]
    have hl := lcells_len m d N
    by_cases e : i = N
    · subst e
      rw [List.getElem?_append_right (by omega), hl, show i * 17 + r - i * 17 = r by omega, Array.getElem?_toList]
    · rw [List.getElem?_append_left (by omega)]
      exact lcells_at m d i r hr N (by omega)
theorem lcells_one (m : Nat → Nat) (d : Nat → ByteArray) (N : Nat) : ∀ u ∈ lcells m d N, u.oneCell' = true := fun u hu => by
  obtain ⟨i, _, hi⟩ := List.mem_flatMap.1 hu
  exact (Array.all_eq_true_iff_forall_mem.1 (linC_one (m i).testBit (d i))) u (by simpa using hi)
/-- Rows of Lines, as they lie. -/
def Lns (w : World) (g N : Nat) (m : Nat → Nat) (d : Nat → ByteArray) : Prop := ∀ i, i < N → LinF w g (i * 17) (m i).testBit (d i)
theorem Lns.cell {w : World} {g N : Nat} {m : Nat → Nat} {d : Nat → ByteArray} (h : Lns w g N m d) : ∀ j u, (lcells m d N)[j]? = some u → w.cell? ((⟨g, 0, none⟩ : Addr).add j) = some u := fun j u hu => by
  have hj : j < N * 17 := by
    have := (List.getElem?_eq_some_iff.1 hu).1
    rw [lcells_len] at this; exact this
  have e : j = j / 17 * 17 + j % 17 := by omega
  have hi : j / 17 < N := by omega
  rw [e, lcells_at m d _ _ (Nat.mod_lt _ (by decide)) N hi] at hu
  rw [Addr.add_mid, Nat.zero_add]
  have h9 := (h _ hi).range (j % 17) u (by rw [Array.getElem?_toList]; exact hu)
  rw [← e] at h9; exact h9
theorem own_lns {w : World} {B g N cap : Nat} {m : Nat → Nat} {d : Nat → ByteArray} (h : w.ownsRow B 101 17 (.slice (some ⟨g, 0, none⟩) N cap) N (lcells m d N)) : Lns w g N m d := fun i hi =>
  linF_of (fun j v hv => by
    have hj : j < 17 := (List.getElem?_eq_some_iff.1 hv).1
    rw [h.cellAt (i * 17 + j) (by omega), lcells_at m d i j hj N hi, ← Array.getElem?_toList]; exact hv) (fun j hj => h.frozenAt _)
theorem Lns.below {w w' : World} {g N : Nat} {m : Nat → Nat} {d : Nat → ByteArray} (h : Lns w g N m d) (hb : Below w.heap.size w w') : Lns w' g N m d := fun i hi => (h i hi).below hb
theorem Lns.of_block {w w' : World} {g N : Nat} {m : Nat → Nat} {d : Nat → ByteArray} (h : Lns w g N m d) (hb : w'.heap[g]? = w.heap[g]?) : Lns w' g N m d := fun i hi => (h i hi).of_block hb
/-- Lines as they are handed to Clear. -/
def LnsAt (w : World) (v : Value) (N : Nat) (m : Nat → Nat) (d : Nat → ByteArray) : Prop :=
  (N = 0 ∧ v = .slice none 0 0) ∨ (0 < N ∧ ∃ g cap, v = .slice (some ⟨g, 0, none⟩) N cap ∧ N ≤ cap ∧ cap ≤ maxLen ∧ Lns w g N m d)
theorem own_lnsAt {w : World} {B N : Nat} {v : Value} {m : Nat → Nat} {d : Nat → ByteArray} (h : w.ownsRow B 101 17 v N (lcells m d N)) (h0 : N = 0 → v = .slice none 0 0) : LnsAt w v N m d := by
  rcases Nat.eq_zero_or_pos N with e | hp
  · exact Or.inl ⟨e, h0 e⟩
  · have h' := h
    rcases h.2 with ⟨_, hz⟩ | ⟨g, cap, cur, hv, _, hg, h1, h2, hcs, hcur⟩
    · omega
    · rw [hv] at h'
      exact Or.inr ⟨hp, g, cap, hv, h1, h2, own_lns h'⟩
end Go.Proofs.YtjgifjkdgoijmaaGreatDoor

namespace Go.Proofs.YtjgifjkdgoijmaaGreatDoor
open Go.RowKit
set_option linter.unusedVariables false
set_option maxRecDepth 100000

/-- Numbers of an array of 16. -/
def arrC (f : Nat → Int) : Array Value := #[.int .i64 (f 0), .int .i64 (f 1), .int .i64 (f 2), .int .i64 (f 3), .int .i64 (f 4), .int .i64 (f 5), .int .i64 (f 6), .int .i64 (f 7), .int .i64 (f 8), .int .i64 (f 9), .int .i64 (f 10), .int .i64 (f 11), .int .i64 (f 12), .int .i64 (f 13), .int .i64 (f 14), .int .i64 (f 15)]
theorem arrC_at (f : Nat → Int) : ∀ {j : Nat}, j < 16 → (arrC f)[j]? = some (.int .i64 (f j))
  | 0, _ => rfl
  | 1, _ => rfl
  | 2, _ => rfl
  | 3, _ => rfl
  | 4, _ => rfl
  | 5, _ => rfl
  | 6, _ => rfl
  | 7, _ => rfl
  | 8, _ => rfl
  | 9, _ => rfl
  | 10, _ => rfl
  | 11, _ => rfl
  | 12, _ => rfl
  | 13, _ => rfl
  | 14, _ => rfl
  | 15, _ => rfl
  | j + 16, h => absurd h (by omega)
theorem arrC_len (f : Nat → Int) : (arrC f).toList.length = 16 := rfl
theorem arrC_one (f : Nat → Int) : (arrC f).all (·.oneCell') = true := by simp [arrC, Value.oneCell']
theorem ArrI.range {w : World} {b : Nat} {f : Nat → Int} (h : ArrI w b f) : w.rangeAt b 0 (arrC f).toList := fun j v hv => by
  have hj : j < 16 := (List.getElem?_eq_some_iff.1 hv).1
  rw [Array.getElem?_toList, arrC_at f hj] at hv
  rw [← hv, Nat.zero_add]; exact (h j hj).1
theorem ArrI.there {w : World} {b : Nat} {f : Nat → Int} (h : ArrI w b f) : w.there b 0 16 := fun j hj => by
  rw [Nat.zero_add]
  exact ⟨by rw [(h j hj).1]; rfl, (h j hj).2⟩
theorem ArrI.put {w : World} {b : Nat} {f : Nat → Int} (h : ArrI w b f) (f' : Nat → Int) : (w.setCells b 0 (arrC f').toList).rangeAt b 0 (arrC f').toList := World.rangeAt_setCells_same w b 0 _ (by rw [arrC_len]; exact h.there)
theorem Tryz.sizeArr : (Tryz.prog.info? 104).map (·.size) = some 16 := by kernel_rfl
theorem results_cell2 {fn : Func} {p u : Tmp} {ty : TypeId} (h : fn.results = #[.tmp u, .cell p ty]) (tmps : Array Value) (P : Program) (w : World) :
    (results fn tmps).run P w = ((asAddr (tmps.getD p undef)).run P w).andThen fun a w₁ => ((loadVar ty a).run P w₁).andThen fun v w₂ => .ok (.tuple #[tmps.getD u undef, v]) w₂ := by
  simp only [results, h]
  simp [Sem.run_bind, Result.andThen]
theorem results_cellB {fn : Func} {p u : Tmp} {ty : TypeId} (h : fn.results = #[.tmp u, .cell p ty]) (tmps : Array Value) (P : Program) (w : World) (ad : Addr) (v x : Value) (hp : tmps.getD p undef = .pointer (some ad)) (hu : tmps.getD u undef = x) (hl : (loadVar ty ad).run P w = .ok v w) :
    (results fn tmps).run P w = .ok (.tuple #[x, v]) w := by
  rw [results_cell2 h, hp, hu]
  simp [asAddr, hl, Result.andThen]
/-- What Clear holds. -/
structure ClS (w : World) (g N : Nat) (atI : Nat → Int) (us : Nat → Bool) (m : Nat → Nat) (d : Nat → ByteArray) (wr : World) : Prop where
  res : ArrI wr w.heap.size (fun _ => 0)
  ats : ArrI wr (w.heap.size + 1) atI
  uss : ArrB wr (w.heap.size + 1 + 1) us
  rows : 0 < N → w.heap.size + 1 + 1 < g ∧ Lns wr g N m d
  below : Below w.heap.size w wr
theorem ClS.step {w : World} {g N : Nat} {atI : Nat → Int} {us : Nat → Bool} {m : Nat → Nat} {d : Nat → ByteArray} {wr w' : World} (h : ClS w g N atI us m d wr) (hb : Below wr.heap.size wr w') : ClS w g N atI us m d w' :=
  ⟨h.res.of_block (hb.block _ h.res.lt), h.ats.of_block (hb.block _ h.ats.lt), h.uss.of_block (hb.block _ h.uss.lt), fun h0 => ⟨(h.rows h0).1, (h.rows h0).2.below hb⟩, below_two h.below hb⟩
theorem ClS.setAt {w : World} {g N : Nat} {atI : Nat → Int} {us : Nat → Bool} {m : Nat → Nat} {d : Nat → ByteArray} {wr : World} (h : ClS w g N atI us m d wr) (i : Nat) (x : Int) : ClS w g N (fun j => if j = i then x else atI j) us m d (wr.setCell ⟨w.heap.size + 1, i, none⟩ (.int .i64 x)) := by
  have hb : ∀ j, j ≠ w.heap.size + 1 → (wr.setCell ⟨w.heap.size + 1, i, none⟩ (.int .i64 x)).heap[j]? = wr.heap[j]? := fun j hj => Below.heap_setCell wr _ _ j (fun e => hj e)
  exact ⟨h.res.of_block (hb _ (by omega)), h.ats.set i x, h.uss.of_block (hb _ (by omega)), fun h0 => ⟨(h.rows h0).1, (h.rows h0).2.of_block (hb _ (by have := (h.rows h0).1; omega))⟩, h.below.setCell (Nat.le_succ _) _⟩
theorem ClS.setUs {w : World} {g N : Nat} {atI : Nat → Int} {us : Nat → Bool} {m : Nat → Nat} {d : Nat → ByteArray} {wr : World} (h : ClS w g N atI us m d wr) (i : Nat) (x : Bool) : ClS w g N atI (fun j => if j = i then x else us j) m d (wr.setCell ⟨w.heap.size + 1 + 1, i, none⟩ (.bool x)) := by
  have hb : ∀ j, j ≠ w.heap.size + 1 + 1 → (wr.setCell ⟨w.heap.size + 1 + 1, i, none⟩ (.bool x)).heap[j]? = wr.heap[j]? := fun j hj => Below.heap_setCell wr _ _ j (fun e => hj e)
  exact ⟨h.res.of_block (hb _ (by omega)), h.ats.of_block (hb _ (by omega)), h.uss.set i x, fun h0 => ⟨(h.rows h0).1, (h.rows h0).2.of_block (hb _ (by have := (h.rows h0).1; omega))⟩, h.below.setCell (by show w.heap.size ≤ w.heap.size + 1 + 1; omega) _⟩
theorem heap_sets {g : Nat} : ∀ (vs : List Value) (o : Nat) (w : World) (j : Nat), j ≠ g → (w.setCells g o vs).heap[j]? = w.heap[j]?
  | [], _, _, _, _ => rfl
  | v :: vs, o, w, j, h => by rw [World.setCells, heap_sets vs (o + 1) _ j h, Below.heap_setCell w _ _ j (fun e => h e)]
theorem ClS.setRow {w : World} {g N : Nat} {atI : Nat → Int} {us : Nat → Bool} {m : Nat → Nat} {d : Nat → ByteArray} {wr : World} (h : ClS w g N atI us m d wr) {i : Nat} (hi : i < N) (mi : Nat) (di : ByteArray) (f : Nat → Bool) (hf : ∀ j, j < 16 → f j = mi.testBit j) :
    ClS w g N atI us (fun j => if j = i then mi else m j) (fun j => if j = i then di else d j) (wr.setCells g (i * 17) (linC f di).toList) := by
  have h0 := h.rows (by omega)
  have hb : ∀ j, j ≠ g → (wr.setCells g (i * 17) (linC f di).toList).heap[j]? = wr.heap[j]? := fun j hj => heap_sets _ _ _ j hj
  refine ⟨h.res.of_block (hb _ (by omega)), h.ats.of_block (hb _ (by omega)), h.uss.of_block (hb _ (by omega)), fun _ => ⟨h0.1, fun j hj => ?_⟩, sets_below (by omega) _ _ _ h.below⟩
  by_cases e : j = i
  · subst e
    simp only [if_true]
    exact ((h0.2 j hj).put f di).congr hf
  · simp only [if_neg e]
    exact (h0.2 j hj).apart g (i * 17) f di (by omega)
theorem ClS.congr {w : World} {g N : Nat} {atI atJ : Nat → Int} {us vs : Nat → Bool} {m n : Nat → Nat} {d e : Nat → ByteArray} {wr : World} (h : ClS w g N atI us m d wr) (h1 : ∀ j, j < 16 → atI j = atJ j) (h2 : ∀ j, j < 60 → us j = vs j) (h3 : ∀ j, j < N → m j = n j) (h4 : ∀ j, j < N → d j = e j) : ClS w g N atJ vs n e wr :=
  ⟨h.res, h.ats.congr h1, h.uss.congr h2, fun h0 => ⟨(h.rows h0).1, fun i hi => by rw [← h3 i hi, ← h4 i hi]; exact (h.rows h0).2 i hi⟩, h.below⟩
theorem Tryz.infoLine : (Tryz.prog.info? 101).map (fun i => (i.zero, i.size, i.bytes)) = some (some (.agg (linC (fun _ => false) ⟨#[]⟩)), 17, 32) := by kernel_rfl
/-- Which row is chosen, as a number. -/
def atN (at_ : Nat → Option Nat) (c : Nat) : Int := match at_ c with
  | none => -1
  | some i => (i : Int)
/-- What Clear tells. -/
def Cleans (w : World) (L : List RV) (k n N : Nat) (e : Ending) (w' : World) : Prop :=
  ∃ a cap m d at_ us, e = .returned (.tuple #[.slice a N cap, .agg (arrC (atN at_))]) ∧ Clr L k N k (fun i => rv (m i) (d i)) at_ us ∧ (∀ c, k ≤ c → at_ c = none) ∧ (∀ i, i < N → (d i).size = n) ∧ (0 < N → ∃ g, a = some ⟨g, 0, none⟩ ∧ N ≤ cap ∧ cap ≤ maxLen ∧ Lns w' g N m d) ∧ Below w.heap.size w w'
/-- That it does. -/
def ClearOk : Prop := ∀ (k n N : Nat) (v : Value) (m0 : Nat → Nat) (d0 : Nat → ByteArray) (w : World), 1 ≤ k → k ≤ 16 → n ≤ 8 → N ≤ 60 → LnsAt w v N m0 d0 → (∀ i, i < N → m0 i < 2 ^ k) → (∀ i, i < N → (d0 i).size = n) →
    Calls Tryz.prog 50 #[v, .int .i64 k] w fun e w' => Cleans w ((List.range N).map fun i => rv (m0 i) (d0 i)) k n N e w'
end Go.Proofs.YtjgifjkdgoijmaaGreatDoor

namespace Go.Proofs.YtjgifjkdgoijmaaGreatDoor
open Go.RowKit
set_option linter.unusedVariables false
set_option maxRecDepth 100000

/-- Does one of the first places lack? -/
def fewB (at_ : Nat → Option Nat) : Nat → Bool
  | 0 => false
  | b + 1 => fewB at_ b || (at_ b).isNone
/-- The bytes of those that are found, among the first places. -/
def outL (at_ : Nat → Option Nat) (d : Nat → ByteArray) : Nat → List ByteArray
  | 0 => []
  | b + 1 => outL at_ d b ++ (match at_ b with | none => [] | some i => [d i])
theorem fewB_false {at_ : Nat → Option Nat} : ∀ {b : Nat}, fewB at_ b = false → ∀ c, c < b → (at_ c).isSome = true
  | 0, _, c, hc => absurd hc (Nat.not_lt_zero _)
  | b + 1, h, c, hc => by
    unfold fewB at h
    rw [Bool.or_eq_false_iff] at h
    by_cases e : c = b
    · subst e
      cases e : at_ c with
      | none => rw [e] at h; cases h.2
      | some i => rfl
    · exact fewB_false h.1 c (by omega)
theorem fewB_true {at_ : Nat → Option Nat} : ∀ {b : Nat}, fewB at_ b = true → ∃ c, c < b ∧ (at_ c).isSome = false
  | 0, h => by cases h
  | b + 1, h => by
    unfold fewB at h
    rw [Bool.or_eq_true] at h
    rcases h with h | h
    · obtain ⟨c, h1, h2⟩ := fewB_true h
      exact ⟨c, by omega, h2⟩
    · refine ⟨b, by omega, ?_⟩
      cases e : at_ b with
      | none => rfl
      | some i => rw [e] at h; cases h
theorem outL_len_le (at_ : Nat → Option Nat) (d : Nat → ByteArray) : ∀ b, (outL at_ d b).length ≤ b
  | 0 => Nat.le_refl _
  | b + 1 => by
    unfold outL
    have := outL_len_le at_ d b
    rw [List.length_append]
    cases at_ b <;> simp <;> omega
theorem outL_all (at_ : Nat → Option Nat) (d : Nat → ByteArray) : ∀ b, (∀ c, c < b → (at_ c).isSome = true) → (outL at_ d b).length = b ∧ ∀ c, c < b → (outL at_ d b).getD c ⟨#[]⟩ = d ((at_ c).getD 0)
  | 0, _ => ⟨rfl, fun c hc => absurd hc (Nat.not_lt_zero _)⟩
  | b + 1, h => by
    obtain ⟨h1, h2⟩ := outL_all at_ d b (fun c hc => h c (by omega))
    obtain ⟨i, hi⟩ := Option.isSome_iff_exists.1 (h b (Nat.lt_succ_self _))
    unfold outL
    rw [hi]
    refine ⟨by rw [List.length_append, h1]; rfl, fun c hc => ?_⟩
    by_cases e : c = b
    · subst e
      rw [List.getD_eq_getElem?_getD, List.getElem?_append_right (by omega), h1, Nat.sub_self, hi]; rfl
    · rw [List.getD_eq_getElem?_getD, List.getElem?_append_left (by omega), ← List.getD_eq_getElem?_getD]
      exact h2 c (by omega)
/-- Has it none of the first places? -/
def noneB (m : Nat) : Nat → Bool
  | 0 => true
  | b + 1 => noneB m b && !m.testBit b
theorem noneB_bits {m : Nat} : ∀ {b : Nat}, (noneB m b = true ↔ ∀ c, c < b → m.testBit c = false)
  | 0 => ⟨fun _ c hc => absurd hc (Nat.not_lt_zero _), fun _ => rfl⟩
  | b + 1 => by
    unfold noneB
    rw [Bool.and_eq_true, noneB_bits]
    constructor
    · intro ⟨h1, h2⟩ c hc
      by_cases e : c = b
      · subst e; simpa using h2
      · exact h1 c (by omega)
    · intro h
      exact ⟨fun c hc => h c (by omega), by simp [h b (Nat.lt_succ_self _)]⟩
theorem noneB_zero {m k : Nat} (hm : m < 2 ^ k) : noneB m k = true ↔ m = 0 := by
  rw [noneB_bits]
  exact ⟨no_bits hm, fun h c _ => by rw [h]; exact Nat.zero_testBit c⟩
/-- What the document's Solve answers. -/
def RSolved (L : List RV) (k n : Nat) (e : Ending) (w' : World) : Prop :=
  (Clash L ∧ e = .returned (.tuple #[.slice none 0 0, .int .i64 7])) ∨
  (¬ Clash L ∧ (∃ r, r < k ∧ Dim (Sp XN (L.map Prod.fst)) r) ∧ e = .returned (.tuple #[.slice none 0 0, .int .i64 8])) ∨
  (¬ Clash L ∧ Dim (Sp XN (L.map Prod.fst)) k ∧ ∃ (v : Value) (G : Nat → ByteArray), e = .returned (.tuple #[v, .int .i64 0]) ∧ StrsIn w' v k G ∧ ∀ p, p < k → (G p).size = n ∧ Sp XV L (rv (2 ^ p) (G p)))
theorem Clr.clash {L : List RV} {k N n : Nat} {m : Nat → Nat} {d : Nat → ByteArray} {at_ : Nat → Option Nat} {us : Nat → Bool} (h : Clr L k N k (fun i => rv (m i) (d i)) at_ us) (hd : ∀ i, i < N → (d i).size = n) : Clash L ↔ ∃ i, i < N ∧ m i = 0 ∧ d i ≠ zerosB n := by
  rw [h.cleared.clash]
  constructor
  · rintro ⟨o, ho, hne⟩
    obtain ⟨i, hi, rfl⟩ := List.mem_map.1 ho
    obtain ⟨h1, h2⟩ := List.mem_filter.1 hi
    have hN := List.mem_range.1 h1
    exact ⟨i, hN, of_decide_eq_true h2, fun e => hne ((zero_iff (hd i hN)).1 e)⟩
  · rintro ⟨i, hi, hm, hne⟩
    exact ⟨atB (d i), List.mem_map.2 ⟨i, List.mem_filter.2 ⟨List.mem_range.2 hi, decide_eq_true hm⟩, rfl⟩, fun e => hne ((zero_iff (hd i hi)).2 e)⟩
theorem Clr.few {L : List RV} {k N : Nat} {R : Nat → RV} {at_ : Nat → Option Nat} {us : Nat → Bool} (h : Clr L k N k R at_ us) (hf : fewB at_ k = true) : ∃ r, r < k ∧ Dim (Sp XN (L.map Prod.fst)) r := by
  refine ⟨_, ?_, h.cleared.dim⟩
  have h1 := cntB_le (fun b => (at_ b).isSome) k
  rcases Nat.lt_or_ge (cntB (fun b => (at_ b).isSome) k) k with h2 | h2
  · exact h2
  · obtain ⟨c, hc, hn⟩ := fewB_true hf
    have h3 := cntB_all.1 (show cntB (fun b => (at_ b).isSome) k = k by omega) c hc
    simp only [hn] at h3
    cases h3
theorem Clr.dimAll {L : List RV} {k N : Nat} {R : Nat → RV} {at_ : Nat → Option Nat} {us : Nat → Bool} (h : Clr L k N k R at_ us) (hf : fewB at_ k = false) : Dim (Sp XN (L.map Prod.fst)) k := by
  have h1 := h.cleared.dim
  rw [show cntB (fun b => (at_ b).isSome) k = k from cntB_all.2 (fewB_false hf)] at h1
  exact h1
theorem Clr.sole {L : List RV} {k N : Nat} {m : Nat → Nat} {d : Nat → ByteArray} {at_ : Nat → Option Nat} {us : Nat → Bool} (h : Clr L k N k (fun i => rv (m i) (d i)) at_ us) (hf : fewB at_ k = false) {p : Nat} (hp : p < k) : (at_ p).getD 0 < N ∧ Sp XV L (rv (2 ^ p) (d ((at_ p).getD 0))) := by
  have hall := fewB_false hf
  obtain ⟨i, hi⟩ := Option.isSome_iff_exists.1 (hall p hp)
  have hlt := (h.found p hp i hi).1
  have h1 := h.alone (fun b hb e => by have := hall b hb; rw [e] at this; cases this) hp hi
  rw [hi]
  refine ⟨hlt, ?_⟩
  have h2 : Sp XV L (rv (m i) (d i)) := (h.span _).1 (Sp.mem (List.mem_map.2 ⟨i, List.mem_range.2 hlt, rfl⟩))
  have h3 : m i = 2 ^ p := h1
  rw [h3] at h2
  exact h2
theorem own_strsIn {w : World} {B : Nat} {v : Value} {O : List ByteArray} (h : w.ownsRow B 9 1 v O.length (O.map .string)) : StrsIn w v O.length (fun i => O.getD i ⟨#[]⟩) := by
  obtain ⟨a, cap, rfl, h0⟩ := own_strO h
  rcases Nat.eq_zero_or_pos O.length with e | hp
  · exact Or.inl ⟨e, a, cap, by rw [e]⟩
  · obtain ⟨g, rfl, _, _, hc⟩ := h0 hp
    exact Or.inr ⟨hp, g, 0, cap, rfl, fun i hi => by rw [Nat.zero_add]; exact hc i hi⟩
theorem StrsIn.congr {w : World} {v : Value} {n : Nat} {f g : Nat → ByteArray} (h : StrsIn w v n f) (e : ∀ i, i < n → f i = g i) : StrsIn w v n g := by
  rcases h with h | ⟨h0, b, o, cap, hv, hc⟩
  · exact Or.inl h
  · exact Or.inr ⟨h0, b, o, cap, hv, fun i hi => by rw [← e i hi]; exact hc i hi⟩
end Go.Proofs.YtjgifjkdgoijmaaGreatDoor

namespace Go.Proofs.YtjgifjkdgoijmaaGreatDoor
open Go.RowKit
set_option linter.unusedVariables false
set_option maxRecDepth 100000

theorem rdrop_lit (k size seed : Int) (s : ByteArray) (w : World) :
    Calls Tryz.prog 45 #[.int .i64 k, .int .i64 size, .agg #[.int .i64 seed, .string s]] w fun e w' => e = .returned (.int .i64 (fD k size seed s.size)) ∧ Below w.heap.size w w' := rdrop_any k size seed s w
set_option maxHeartbeats 2000000 in
theorem rsolve_bad (k size : Int) (v : Value) (len : Nat) (s : Nat → Int) (d : Nat → ByteArray) (w : World) (hv : DropsAt w v len s d) (hf : fC k size len s d ≠ 0) :
    Calls Tryz.prog 51 #[.int .i64 k, .int .i64 size, v] w fun e w' => e = .returned (.tuple #[.slice none 0 0, .int .i64 (fC k size len s d)]) ∧ Below w.heap.size w w' := by
  obtain ⟨a, cap, rfl, h0⟩ := hv.open
  by_cases hl : 60 < len
  · have e : fC k size len s d = 4 := by unfold fC; rw [if_pos hl]
    rw [e]
    clear e h0 hv hf
    go_enter Tryz.func51, Tryz.ntmps51
    go_wp2
    go_ret2
    exact ⟨rfl, Below.refl _ _⟩
  have hl' : len ≤ 60 := by omega
  by_cases c0 : k < 1
  · have e : fC k size len s d = 1 := by unfold fC; rw [if_neg hl, if_neg (by omega)]
    rw [e]
    clear e h0 hv hf hl
    go_enter Tryz.func51, Tryz.ntmps51
    go_wp2
    go_ret2
    exact ⟨rfl, Below.refl _ _⟩
  by_cases c1 : 16 < k
  · have e : fC k size len s d = 1 := by unfold fC; rw [if_neg hl, if_neg (by omega)]
    rw [e]
    clear e h0 hv hf hl
    go_enter Tryz.func51, Tryz.ntmps51
    go_wp2
    go_ret2
    exact ⟨rfl, Below.refl _ _⟩
  by_cases c2 : size < 1
  · have e : fC k size len s d = 1 := by unfold fC; rw [if_neg hl, if_neg (by omega)]
    rw [e]
    clear e h0 hv hf hl
    go_enter Tryz.func51, Tryz.ntmps51
    go_wp2
    go_ret2
    exact ⟨rfl, Below.refl _ _⟩
  by_cases c3 : 8 < size
  · have e : fC k size len s d = 1 := by unfold fC; rw [if_neg hl, if_neg (by omega)]
    rw [e]
    clear e h0 hv hf hl
    go_enter Tryz.func51, Tryz.ntmps51
    go_wp2
    go_ret2
    exact ⟨rfl, Below.refl _ _⟩
  have e : fC k size len s d = firstF (fun i => fD k size (s i) (d i).size) len := by unfold fC; rw [if_neg hl, if_pos (by omega)]
  rw [e] at hf ⊢
  have H0 := hide h0
  have HNZ := hide hf
  clear e h0 hv hf hl
  go_enter Tryz.func51, Tryz.ntmps51
  go_wp2_with fail
  go_loopw [8] (fun i wr => ∃ j : Nat, j ≤ len ∧ i = .int .i64 j ∧ firstF (fun i => fD k size (s i) (d i).size) j = 0 ∧ Below w.heap.size w wr) (fun i _ => len - (intOf i).toNat)
  case atStart => exact ⟨0, Nat.zero_le _, rfl, rfl, Below.refl _ _⟩
  case round =>
    obtain ⟨j, hj, rfl, hf, hb⟩ := hrel
    have HF := hide hf
    have HB := hide hb
    clear hf hb
    by_cases hlt : j < len
    · obtain ⟨bb, o, ha, hc1, hc2, hc⟩ := H0.out (by omega)
      subst ha
      obtain ⟨q0, q1, _, _⟩ := hc j hlt
      have c0' := cell_below HB.out q0
      have c1' := cell_below HB.out q1
      have HStep : Hid (firstF (fun i => fD k size (s i) (d i).size) (j + 1) = fD k size (s j) (d j).size) := by
        unfold Hid; rw [firstF, if_neg (by simp [HF.out])]
      have HD := hide (fun W => rdrop_lit k size (s j) (d j) W)
      unfold maxLen at hc2
      clear hc q0 q1
      generalize hx : fD k size (s j) (d j).size = x at *
      clear hx
      generalize s j = sj at *
      generalize d j = dj at *
      go_wp2_with fail
      refine (HD.out _).mono ?_
      rintro e w2 ⟨rfl, hb2⟩
      have HB2 := hide (below_two HB.out hb2)
      clear hb2 c0' c1'
      by_cases hx0 : x = 0
      · subst hx0
        go_wp2
        go_roundw
        case rel => exact ⟨j + 1, by omega, by go_num, HStep.out, HB2.out⟩
        case measure => simp [intOf]; omega
      · have hne : (x == 0) = false := by rw [beq_eq_false_iff_ne]; exact hx0
        have hres : Hid (firstF (fun i => fD k size (s i) (d i).size) len = x) := by
          unfold Hid
          rw [firstF_stop (j := j + 1) (by rw [HStep.out]; exact hx0) len (by omega), HStep.out]
        clear hx0
        go_wp2
        go_ret2
        exact ⟨by rw [hres.out]; rfl, HB2.out⟩
    · obtain rfl : j = len := by omega
      exact absurd HF.out HNZ.out
end Go.Proofs.YtjgifjkdgoijmaaGreatDoor
