/-
  Lemmas for the law above, joined into one text (MapS, LstN, DropS, ToV). No statement is proved here.
-/
import Derived.Test.YtjgifjkdgoijmaaGreatWG0
import Derived.Maps.OwnSet
import Derived.Test.YtjgifjkdgoijmaaGreatWG1
import Derived.Deep.LoopGhost
namespace Go.Proofs.YtjgifjkdgoijmaaGreat
open Go.RowKit Go.Maps
set_option linter.unusedVariables false
set_option maxRecDepth 100000

theorem Tryz.lawInt : Keyed Tryz.prog 3 := int_keyed Tryz.underlying3
theorem Tryz.zeroUnit (w : World) : (zeroValue 133).run Tryz.prog w = .ok (.agg #[]) w := by kernel_rfl
theorem run_makeMap_some {P : Program} {t k e : TypeId} (ht : P.underlying t = some (.map k e)) (q : IntKind) (n : Int) (w : World) : (Instr.makeMap t (some (.int q n))).run P w = .ok (.map (some w.heap.size)) (w.alloc (.map #[] 0)) := by
  simp [Instr.makeMap, run_underlying ht, asInt, asIntOf, Result.andThen]
theorem tight {P : Program} {t : TypeId} {w : World} {b n : Nat} {D : DataW Unit} (h : w.ownsMap P t unitElem b n D) : w.ownsMap P t unitElem b (Maps.size D) D := by
  obtain ⟨es, clock, hb, F, hs, rfl⟩ := h
  exact ⟨es, clock, hb, F, by simp [Maps.size, length_sorted], rfl⟩

/-- The map of block b holds just the numbers of the list l, each once, as the datum D. -/
def MSet (w : World) (b : Nat) (l : List Nat) (D : DataW Unit) : Prop :=
  w.ownsMap Tryz.prog 3 unitElem b l.length D ∧ Maps.size D = l.length ∧ ∀ r : Nat, Maps.has D (.int .i64 r) = decide (r ∈ l)
theorem mset_made (w : World) : MSet (w.alloc (.map #[] 0)) w.heap.size [] (.map []) := ⟨World.ownsMap_made _ _ _ _, rfl, fun r => by simp [Maps.has]⟩
theorem MSet.put {w w' : World} {b : Nat} {l l' : List Nat} {D : DataW Unit} {r : Nat} (h : MSet w b l D) (h' : w'.ownsMap Tryz.prog 3 unitElem b (l.length + 1) (D.put (.int .i64 r) (.agg [])))
    (hm : ∀ a, a ∈ l' ↔ a = r ∨ a ∈ l) (hl : l'.length = if r ∈ l then l.length else l.length + 1) : MSet w' b l' (D.put (.int .i64 r) (.agg [])) := by
  obtain ⟨ho, hs, hh⟩ := h
  have hz : Maps.size (D.put (.int .i64 r) (.agg [])) = l'.length := by
    rw [Maps.size_put (ho.tidy Tryz.lawInt), hh r, hs, hl]
    by_cases c : r ∈ l <;> simp [c]
  refine ⟨hz ▸ tight h', hz, fun a => ?_⟩
  by_cases c : a = r
  · subst c
    rw [Maps.has_put_same (k := .int .i64 (a : Int)) ho.isMap trivial]
    exact (decide_eq_true ((hm a).2 (Or.inl rfl))).symm
  · rw [Maps.has_put_other (fun e => c (by injection e with _ e; omega)), hh a]
    exact decide_eq_decide.2 ⟨fun h => (hm a).2 (Or.inr h), fun h => ((hm a).1 h).resolve_left c⟩
theorem MSet.kept {w w' : World} {b : Nat} {l : List Nat} {D : DataW Unit} (h : MSet w b l D) {row : Option Nat} (hg : w.grownBy w' row) (hne : some b ≠ row) : MSet w' b l D := ⟨h.1.kept hg hne, h.2⟩
theorem MSet.alloc {w : World} {b : Nat} {l : List Nat} {D : DataW Unit} (h : MSet w b l D) (o : Obj) : MSet (w.alloc o) b l D := ⟨h.1.alloc o, h.2⟩
theorem MSet.congr {w : World} {b : Nat} {l l' : List Nat} {D : DataW Unit} (h : MSet w b l D) (e : l = l') : MSet w b l' D := e ▸ h
end Go.Proofs.YtjgifjkdgoijmaaGreat

namespace Go.Proofs.YtjgifjkdgoijmaaGreat
open Go.RowKit
set_option linter.unusedVariables false
set_option maxRecDepth 100000

/-- A slice that holds just the numbers of the list l. -/
def Lst (w : World) (v : Value) (l : List Nat) : Prop :=
  ∃ g cap, v = .slice (some ⟨g, 0, none⟩) l.length cap ∧ l.length ≤ cap ∧ cap ≤ maxLen ∧ ∀ i, i < l.length → w.cell? ⟨g, 0 + i, none⟩ = some (.int .i64 (l.getD i 0 : Nat))
theorem Lst.below {w w' : World} {v : Value} {l : List Nat} (h : Lst w v l) (hb : Below w.heap.size w w') : Lst w' v l := by
  obtain ⟨g, cap, hv, h1, h2, h3⟩ := h
  exact ⟨g, cap, hv, h1, h2, fun i hi => cell_below hb (h3 i hi)⟩
theorem own_lst {w : World} {B : Nat} {v : Value} {l : List Nat} (h : w.ownsRow B 3 1 v l.length (l.map fun r : Nat => .int .i64 (r : Nat))) (hn : 0 < l.length) : Lst w v l := by
  have e : (l.map fun r : Nat => Value.int .i64 (r : Nat)) = (List.range l.length).map fun k : Nat => .int .i64 (l.getD k 0 : Nat) := by
    apply List.ext_getElem
    · simp
    · intro i h1 h2
      simp at h1
      simp [h1]
  rw [e] at h
  obtain ⟨g, cap, hv, h1, h2, h3⟩ := own_ints (f := fun k => ((l.getD k 0 : Nat) : Int)) h hn
  exact ⟨g, cap, hv, h1, h2, h3⟩
/-- Numbers as a slice holds them. -/
def toV (l : List Nat) : List Value := l.map fun r => .int .i64 (r : Nat)
theorem toV_one (l : List Nat) : ∀ u ∈ toV l, u.oneCell' = true := fun u hu => by
  obtain ⟨r, _, rfl⟩ := List.mem_map.1 hu
  rfl
theorem take_snocR (l : List Nat) (j : Nat) (h : j < l.length) : toV (l.take (j + 1)) = toV (l.take j) ++ [.int .i64 (l.getD j 0 : Nat)] := by
  unfold toV
  rw [List.take_add_one, List.map_append]
  simp [List.getD, h]
/-- A slice that holds just the numbers of the list l, or an empty one. -/
def Lsh (w : World) (v : Value) (l : List Nat) : Prop := ∃ a cap, v = .slice a l.length cap ∧ l.length ≤ cap ∧ cap ≤ maxLen ∧ (0 < l.length → Lst w v l)
theorem own_lsh {w : World} {B : Nat} {v : Value} {l : List Nat} (h : w.ownsRow B 3 1 v l.length (toV l)) : Lsh w v l := by
  rcases Nat.eq_zero_or_pos l.length with e | h0
  · rcases h.2 with ⟨hv, _⟩ | ⟨g, cap, cur, hv, _, _, h1, h2, _⟩
    · exact ⟨none, 0, by rw [e]; exact hv, by omega, by omega, fun h => by omega⟩
    · exact ⟨_, cap, hv, h1, h2, fun h => by omega⟩
  · obtain ⟨g, cap, hv, h1, h2, h3⟩ := own_lst h h0
    exact ⟨_, cap, hv, h1, h2, fun _ => ⟨g, cap, hv, h1, h2, h3⟩⟩
theorem Lsh.below {w w' : World} {v : Value} {l : List Nat} (h : Lsh w v l) (hb : Below w.heap.size w w') : Lsh w' v l := by
  obtain ⟨a, cap, hv, h1, h2, h3⟩ := h
  exact ⟨a, cap, hv, h1, h2, fun h0 => (h3 h0).below hb⟩
/-- What is below w's size is as it was, but for the blocks of M. -/
structure Kept (M : Nat → Prop) (w w' : World) : Prop where
  os : w'.os = w.os
  tape : w'.tape = w.tape
  output : w'.output = w.output
  size : w.heap.size ≤ w'.heap.size
  block : ∀ i, i < w.heap.size → ¬ M i → w'.heap[i]? = w.heap[i]?
theorem Kept.refl (M : Nat → Prop) (w : World) : Kept M w w := ⟨rfl, rfl, rfl, Nat.le_refl _, fun _ _ _ => rfl⟩
theorem Kept.below {M : Nat → Prop} {w0 w w' : World} (h : Kept M w0 w) (hb : Below w.heap.size w w') : Kept M w0 w' :=
  ⟨hb.os.trans h.os, hb.tape.trans h.tape, hb.output.trans h.output, Nat.le_trans h.size hb.size, fun i hi hm => (hb.block i (Nat.lt_of_lt_of_le hi h.size)).trans (h.block i hi hm)⟩
theorem Kept.grown {M : Nat → Prop} {w0 w w' : World} (h : Kept M w0 w) {row : Option Nat} (hg : w.grownBy w' row) (hr : ∀ i, row = some i → M i ∨ w0.heap.size ≤ i) : Kept M w0 w' := by
  have hb : Below 0 w w' := (Below.refl 0 w).grown hg (Nat.zero_le _) (fun _ _ => Nat.zero_le _)
  refine ⟨hb.os.trans h.os, hb.tape.trans h.tape, hb.output.trans h.output, Nat.le_trans h.size hb.size, fun i hi hm => ?_⟩
  refine (hg.block i (Nat.lt_of_lt_of_le hi h.size) (fun e => ?_)).trans (h.block i hi hm)
  rcases hr i e.symm with h1 | h1
  · exact hm h1
  · omega
theorem Kept.setCell {M : Nat → Prop} {w0 w : World} (h : Kept M w0 w) (a : Addr) (u : Value) (hr : M a.block ∨ w0.heap.size ≤ a.block) : Kept M w0 (w.setCell a u) := by
  have hb : Below 0 w (w.setCell a u) := (Below.refl 0 w).setCell (Nat.zero_le _) _
  refine ⟨hb.os.trans h.os, hb.tape.trans h.tape, hb.output.trans h.output, Nat.le_trans h.size hb.size, fun i hi hm => ?_⟩
  refine (Below.heap_setCell w a u i (fun e => ?_)).trans (h.block i hi hm)
  rcases hr with h1 | h1
  · exact hm (e ▸ h1)
  · omega

theorem own_under' {w w' : World} {B e size n : Nat} {v : Value} {xs : List Value} (h : w.ownsRow B e size v n xs) (hb : Below w.heap.size w w') : w'.ownsRow B e size v n xs := by
  refine ⟨h.1, ?_⟩
  rcases h.2 with hn | ⟨g, cap, cur, hv, h1, hgg, rest⟩
  · exact .inl hn
  · exact .inr ⟨g, cap, cur, hv, h1, (hb.block g (Array.getElem?_eq_some_iff.1 hgg).1).trans hgg, rest⟩
theorem getD_mem {l : List Nat} {j : Nat} (h : j < l.length) : l.getD j 0 ∈ l := by
  rw [show l.getD j 0 = l[j] by simp [List.getD, h]]; exact List.getElem_mem h
end Go.Proofs.YtjgifjkdgoijmaaGreat

namespace Go.Proofs.YtjgifjkdgoijmaaGreat
open Go.RowKit Go.Maps
set_option linter.unusedVariables false
set_option maxRecDepth 100000

theorem within_ok (n m : Int) (w : World) (h1 : 1 ≤ n) (h2 : n ≤ m) : Calls Tryz.prog 50 #[.int .i64 n, .int .i64 m] w fun e w' => e = .returned (.bool true) ∧ w = w' := by
  go_enter Tryz.func50, Tryz.ntmps50
  go_wp2
  go_ret
  exact ⟨ret_bool (by simp <;> omega), rfl⟩
theorem within_not (n m : Int) (w : World) (h : n < 1 ∨ m < n) : Calls Tryz.prog 50 #[.int .i64 n, .int .i64 m] w fun e w' => e = .returned (.bool false) ∧ w = w' := by
  by_cases c : n < 1
  · clear h
    go_enter Tryz.func50, Tryz.ntmps50
    go_wp2
    go_ret
    exact ⟨ret_bool (by first | rfl | simp <;> omega), rfl⟩
  · have h2 : m < n := h.resolve_left c
    clear h
    go_enter Tryz.func50, Tryz.ntmps50
    go_wp2
    go_ret
    exact ⟨ret_bool (by first | rfl | simp <;> omega), rfl⟩

theorem mem_step {k : Nat} {x : Int} (hx : Num x) (hk : 1 ≤ k) (i a : Nat) : a ∈ setAt k x (i + 1) ↔ a = draw k x i ∨ a ∈ setAt k x i := by
  rw [mem_setAt, mem_setAt, seen_succ hx hk]
  have := draw_lt (x := x) hk i
  constructor
  · rintro ⟨h1, h2⟩
    rcases Bool.or_eq_true_iff.1 h2 with h | h
    · exact Or.inr ⟨h1, h⟩
    · exact Or.inl (of_decide_eq_true h).symm
  · rintro (rfl | ⟨h1, h2⟩)
    · exact ⟨this, by simp⟩
    · exact ⟨h1, by simp [h2]⟩
theorem len_step {k : Nat} {x : Int} (hx : Num x) (hk : 1 ≤ k) (i : Nat) : (setAt k x (i + 1)).length = if draw k x i ∈ setAt k x i then (setAt k x i).length else (setAt k x i).length + 1 := by
  by_cases h : draw k x i ∈ setAt k x i
  · rw [setAt_old hx hk h, if_pos h]
  · obtain ⟨A, B, h1, h2, _⟩ := setAt_new hx hk h
    rw [if_neg h, h1, h2]; simp; omega
theorem stop_of {k : Nat} {x : Int} (hx : Num x) (hk : 1 ≤ k) {d i : Nat} (h : ¬ (setAt k x i).length < d) (hb : ∀ j, j < i → (setAt k x j).length < d) : Stop k x d i := by
  refine ⟨?_, hb⟩
  rcases Nat.eq_zero_or_pos i with rfl | hi
  · rw [setAt_zero] at h ⊢; simp at h; simp; omega
  · obtain ⟨m, rfl⟩ : ∃ m, i = m + 1 := ⟨i - 1, by omega⟩
    have := hb m (by omega)
    have := (setAt_grows hx hk m).1
    omega

set_option maxHeartbeats 1000000 in
theorem draw_ok (k d : Nat) (x : Int) (w : World) (hx : Num x) (hk : 1 ≤ k) (hk2 : k ≤ 16) (hd : d ≤ k) :
    Calls Tryz.prog 53 #[.int .i64 k, .int .i64 d, .int .i64 x] w fun e w' => e = .returned (.tuple #[.map (some w.heap.size), .nilIface]) ∧ ∃ i, Stop k x d i ∧ (∃ D, MSet w' w.heap.size (setAt k x i) D) ∧ Below w.heap.size w w' := by
  obtain ⟨T, hT⟩ := setAt_all hx hk (by omega)
  have HT := hide hT
  have HX := hide hx
  clear hT hx
  have hmm := fun q n w => run_makeMap_some (P := Tryz.prog) Tryz.underlying87 q n w
  go_enter Tryz.func53, Tryz.ntmps53
  go_wp2
  go_loopg [2] T (fun g v wr => ∃ (i : Nat) (D : DataW Unit), v = .int .i64 (rowV x i) ∧ i + g = T ∧ (∀ j, j < i → (setAt k x j).length < d) ∧ MSet wr w.heap.size (setAt k x i) D ∧ Below w.heap.size w wr)
  case atStart => exact ⟨0, .map [], rfl, by omega, fun j h => absurd h (Nat.not_lt_zero _), (mset_made w).congr (setAt_zero k x).symm, (Below.refl _ _).alloc (Nat.le_refl _) _⟩
  case round =>
    obtain ⟨i, D, rfl, hig, hbef, hM, hb⟩ := hrel
    have HB := hide hbef
    have HM := hide hM
    clear hbef hM
    have hown := HM.out.1
    have hsz : Maps.size D = (setAt k x i).length := HM.out.2.1
    have hle := setAt_len k x i
    obtain ⟨s, hs⟩ : ∃ s, s = (setAt k x i).length := ⟨_, rfl⟩
    have HS := hide hs
    by_cases c : s < d
    · have hiT : i < T := by
        rcases Nat.lt_or_ge i T with h | h
        · exact h
        · have := HT.out i h; omega
      have K : Hid (Calls Tryz.prog 51 #[.int .i64 (rowV x i), .int .i64 k] wr fun e w' => e = .returned (.tuple #[.int .i64 (draw k x i : Nat), .int .i64 (rowV x (i + 1)), .nilIface]) ∧ wr = w') := by
        rw [← draw_cast HX.out hk i]
        exact below_ok (rowV x i) k wr (HX.out.rowV i) (by omega) (by omega)
      have hR := draw_lt (x := x) hk i
      have hkey : keyOf Tryz.prog 3 (.int .i64 (draw k x i : Nat)) = some (.int .i64 (draw k x i : Nat)) := keyOf_int_mk Tryz.underlying3 (WalkArith.wf_i64 (by omega))
      have hsd : (Maps.size D : Int) < (d : Int) := by omega
      rw [← hs] at hle hown
      clear hs hsz
      generalize hr : draw k x i = r at *
      generalize rowV x i = y at *
      generalize hz : rowV x (i + 1) = z at *
      have HR := hide hr
      have HZ := hide hz
      clear hr hz
      go_wp2_with (at_len; refine wpList_len_own _ rfl _ 87 rfl 3 133 Tryz.underlying87 _ w.heap.size s D rfl hown ?_)
      refine (K.out).mono ?_
      rintro e w1 ⟨rfl, rfl⟩
      go_wp2_with (first
        | (at_mapUpdate; refine wpList_mapUpdate_own _ rfl _ _ _ 87 rfl 3 133 Tryz.lawInt Tryz.underlying87 (unitElem (H := Unit)) w.heap.size s _ rfl hown (by unfold maxLen; omega) _ _ _ rfl rfl hkey _ [] unitElem_mk ?_; intro w1 hown1 hgrow1)
        | go_in)
      go_roundg (gk - 1)
      case measure => omega
      case rel =>
        have e1 := HR.out
        have e2 := HS.out
        refine ⟨i + 1, _, by rw [HZ.out], by omega, fun j hj => ?_, HM.out.put (e2 ▸ hown1) (fun a => by rw [mem_step HX.out hk, e1]) (by rw [len_step HX.out hk, e1]), hb.grown hgrow1 hb.size (fun j hj => by cases hj; exact Nat.le_refl _)⟩
        by_cases c2 : j = i
        · subst c2; omega
        · exact HB.out j (by omega)
    · have hst := hide (stop_of HX.out hk (d := d) (i := i) (by omega) HB.out)
      have hsd : ¬ (Maps.size D : Int) < (d : Int) := by omega
      rw [← hs] at hle hown
      clear hs hsz
      generalize rowV x i = y at *
      go_wp2_with (first | (at_len; refine wpList_len_own _ rfl _ 87 rfl 3 133 Tryz.underlying87 _ w.heap.size s D rfl hown ?_) | go_in)
      go_ret2
      exact ⟨rfl, i, hst.out, ⟨D, HM.out⟩, hb⟩

theorem heap_alloc1 (w : World) (o : Obj) : (w.alloc o).heap.size = w.heap.size + 1 := by simp
/-- The numbers below j that the list l has. -/
def upTo (l : List Nat) (j : Nat) : List Nat := (List.range j).filter fun r => decide (r ∈ l)
theorem upTo_succ (l : List Nat) (j : Nat) : upTo l (j + 1) = upTo l j ++ if j ∈ l then [j] else [] := by
  unfold upTo
  rw [List.range_succ, List.filter_append]
  by_cases c : j ∈ l <;> simp [c]
theorem upTo_len (l : List Nat) (j : Nat) : (upTo l j).length ≤ j := Nat.le_trans (List.length_filter_le _ _) (by simp)

set_option maxHeartbeats 1000000 in
theorem rising_ok (k b : Nat) (l : List Nat) (D : DataW Unit) (w : World) (hk : k ≤ 16) (hl : l.length ≤ 16) (hM : MSet w b l D) :
    Calls Tryz.prog 54 #[.int .i64 k, .map (some b)] w fun e w' => ∃ v, e = .returned v ∧ w'.ownsRow w.heap.size 3 1 v (upTo l k).length ((upTo l k).map fun r : Nat => .int .i64 (r : Nat)) ∧ Below w.heap.size w w' := by
  have HM := hide hM
  have hown := hM.1
  have hsz : Maps.size D = l.length := hM.2.1
  have hs16 : Maps.size D ≤ 16 := by omega
  have hbl := hown.lt
  clear hM hsz
  obtain ⟨i0, hi, hz0, hz1, hz2⟩ := info_parts Tryz.infoInt
  go_enter Tryz.func54, Tryz.ntmps54
  go_wp2_with (first
    | (at_len; refine wpList_len_own _ rfl _ 87 rfl 3 133 Tryz.underlying87 _ b l.length D rfl hown ?_)
    | (at_make; refine wpList_make_own _ rfl _ _ 22 rfl w.heap.size 3 i0 (.int .i64 0) 1 Tryz.underlying22 hi hz0 hz1 _ _ _ (Maps.size D) rfl rfl rfl (by rw [hz2]; omega) (by unfold maxLen; omega) (Nat.le_refl _) ?_; intro w1 hmk hgrow))
  go_loopw [5, 13] (fun v i wr => ∃ j : Nat, j ≤ k ∧ i = .int .i64 j ∧ MSet wr b l D ∧ wr.ownsRow w.heap.size 3 1 v (upTo l j).length ((upTo l j).map fun r : Nat => .int .i64 (r : Nat)) ∧ Below w.heap.size w wr) (fun _ i _ => k - (intOf i).toNat)
  case atStart => exact ⟨0, Nat.zero_le _, rfl, HM.out.kept hgrow (by simp), hmk, (Below.refl _ _).grown hgrow (Nat.le_refl _) (fun j hj => by cases hj)⟩
  case round =>
    obtain ⟨j, hj, rfl, hM, hrow, hb⟩ := hrel
    have hown := hM.1
    have hul := upTo_len l j
    have hbs := hb.size
    by_cases hlt : j < k
    · have hkey : keyOf Tryz.prog 3 (.int .i64 (j : Nat)) = some (.int .i64 (j : Nat)) := keyOf_int_mk Tryz.underlying3 (WalkArith.wf_i64 (by omega))
      have hhas := hM.2.2 j
      have HU := hide (upTo_succ l j)
      have HM2 := hide hM
      clear hM
      by_cases c : j ∈ l
      · rw [decide_eq_true c] at hhas
        rw [Hid, if_pos c] at HU
        have HU2 := hide HU
        clear HU c
        go_wp2_with (first
          | (at_lookup; refine wpList_lookup_own_unit _ rfl _ _ 87 rfl 3 133 Tryz.lawInt Tryz.underlying87 (Tryz.zeroUnit _) b l.length _ rfl hown _ _ rfl hkey ?_)
          | (at_builtin; refine wpList_append_own _ rfl _ _ 22 rfl w.heap.size 3 i0 (.int .i64 0) 1 8 Tryz.underlying22 hi hz0 hz1 hz2 rfl (by decide) _ _ _ rfl ((hrow.alloc _).alloc _) ⟨wr.heap.size + 1, 0, none⟩ 1 1 [.int .i64 (j : Nat)] rfl rfl (by have h9 := cell_one_new (wr.alloc (.cells #[] 133)) (.int .i64 (j : Nat)) 3; rw [heap_alloc1] at h9; exact h9) (fun x hx => by simp at hx; subst hx; rfl) (by unfold maxLen; omega) (by omega) (by simp; omega) ?_; intro v' w2 hown' hgrow2 hnil2)
          | go_in)
        have hg2 : ((wr.alloc (.cells #[] 133)).alloc (.cells #[.int .i64 (j : Nat)] 3)).grownBy w2 u5.ownBlock := hgrow2
        refine ⟨⟨j + 1, by omega, by simp, ((HM2.out.alloc _).alloc _).kept hg2 (fun e1 => by have := (hrow.lt b e1.symm).1; omega), ?_, ((hb.alloc hbs _).alloc (by simp; omega) _).grown hg2 (by simp; omega) (fun q hq => (hrow.lt q hq).1)⟩, by simp [intOf]; omega⟩
        rw [HU2.out, List.length_append, List.map_append]
        exact hown'
      · rw [decide_eq_false c] at hhas
        rw [Hid, if_neg c, List.append_nil] at HU
        have HU2 := hide HU
        clear HU c
        go_wp2_with (first
          | (at_lookup; refine wpList_lookup_own_unit _ rfl _ _ 87 rfl 3 133 Tryz.lawInt Tryz.underlying87 (Tryz.zeroUnit _) b l.length _ rfl hown _ _ rfl hkey ?_)
          | go_in)
        refine ⟨⟨j + 1, by omega, by simp, HM2.out.alloc _, ?_, hb.alloc hbs _⟩, by simp [intOf]; omega⟩
        rw [HU2.out]
        exact hrow.alloc _
    · obtain rfl : j = k := by omega
      go_wp2
      go_ret
      exact ⟨_, rfl, hrow, hb⟩

theorem upTo_setAt (k : Nat) (x : Int) (i : Nat) : upTo (setAt k x i) k = setAt k x i := by
  unfold upTo setAt
  refine List.filter_congr fun r hr => ?_
  have h1 : r < k := List.mem_range.1 hr
  have h2 := mem_setAt (k := k) (x := x) (i := i) (r := r)
  unfold setAt at h2
  cases e : seen k x i r with
  | true => exact decide_eq_true (h2.2 ⟨h1, e⟩)
  | false => exact decide_eq_false fun h => by rw [(h2.1 h).2] at e; cases e

set_option maxHeartbeats 1000000 in
theorem set_ok (k seed : Nat) (w : World) (hk : 1 ≤ k) (hk2 : k ≤ 16) (h1 : 1 ≤ seed) (h2 : seed ≤ 10000) :
    Calls Tryz.prog 29 #[.int .i64 k, .int .i64 seed] w fun e w' => ∃ v, e = .returned (.tuple #[v, .nilIface]) ∧ Lst w' v (setL k seed) ∧ Below w.heap.size w w' := by
  have Wk := hide (within_ok k 16 w (by omega) (by omega))
  have Ws := hide (within_ok seed 10000 w (by omega) (by omega))
  by_cases hle : seed ≤ k
  · have HL := hide (setL_one hle)
    have hle' : (seed : Int) ≤ (k : Int) := by omega
    clear hle
    go_enter Tryz.func29, Tryz.ntmps29
    go_wp2_with fail
    refine (Wk.out).mono ?_
    rintro e w1 ⟨rfl, rfl⟩
    go_wp2_with fail
    refine (Ws.out).mono ?_
    rintro e w1 ⟨rfl, rfl⟩
    go_wp2
    go_ret2
    refine ⟨_, rfl, ?_, ?_⟩
    · rw [HL.out]
      refine ⟨_, _, rfl, Nat.le_refl _, by unfold maxLen; simp, fun i hi => ?_⟩
      obtain rfl : i = 0 := by simpa using hi
      have h9 := cell_one_new w (.int .i64 ((seed : Int) - 1)) 3 0 _ rfl
      have e9 : (((seed - 1 : Nat)) : Int) = (seed : Int) - 1 := by omega
      simp only [Addr.add, List.getD_cons_zero, e9] at h9 ⊢
      exact h9
    · exact (Below.refl _ _).alloc (Nat.le_refl _) _
  · have hle' : ¬ (seed : Int) ≤ (k : Int) := by omega
    have hx : Num (seed : Int) := ⟨by omega, by omega⟩
    have B := hide (below_ok seed 1000 w hx (by omega) (by omega))
    obtain ⟨n, hn, hn2⟩ : ∃ n : Nat, nxt seed % 1000 = (n : Int) ∧ n < 1000 := ⟨(nxt seed % 1000).toNat, by omega, by omega⟩
    have HD : Hid (setD k seed = deg k n) := by unfold Hid setD; rw [hn, Int.toNat_natCast]
    rw [hn] at B
    have O := hide (of_ok k n w hk hk2 hn2)
    have hd1 := deg_le k n hk
    have hd0 := deg_ge k n
    have HS : Hid (∀ i, Stop k (nxt seed) (setD k seed) i → setL k seed = setAt k (nxt seed) i) := fun i hs => setL_stop hle hs
    have D := hide (draw_ok k (deg k n) (nxt seed) w hx.nxt hk hk2 hd1)
    clear hn hx hle
    generalize nxt (seed : Int) = y at *
    generalize deg k n = d at *
    go_enter Tryz.func29, Tryz.ntmps29
    go_wp2_with fail
    refine (Wk.out).mono ?_
    rintro e w1 ⟨rfl, rfl⟩
    go_wp2_with fail
    refine (Ws.out).mono ?_
    rintro e w1 ⟨rfl, rfl⟩
    go_wp2_with fail
    refine (B.out).mono ?_
    rintro e w1 ⟨rfl, rfl⟩
    go_wp2_with fail
    refine (O.out).mono ?_
    rintro e w1 ⟨rfl, rfl⟩
    go_wp2_with fail
    refine (D.out).mono ?_
    rintro e w1 ⟨rfl, i, hst, ⟨D1, hM⟩, hb⟩
    have HI := hide hst
    have HB := hide hb
    have hl16 := setAt_len k y i
    have R := hide (rising_ok k w.heap.size (setAt k y i) D1 w1 hk2 (by omega) hM)
    clear hst hb hM
    go_wp2_with fail
    refine (R.out).mono ?_
    rintro e w2 ⟨v, rfl, hrow, hb2⟩
    have HR := hide hrow
    have HB2 := hide hb2
    clear hrow hb2
    go_wp2
    go_ret2
    refine ⟨v, rfl, ?_, below_two HB.out HB2.out⟩
    have hr := HR.out
    rw [upTo_setAt] at hr
    rw [HS.out i (HD.out ▸ HI.out)]
    exact own_lst hr (by rw [HI.out.1]; omega)
theorem set_range (k seed : Int) (w : World) (h : (k < 1 ∨ 16 < k) ∨ seed < 1 ∨ 10000 < seed) :
    Calls Tryz.prog 29 #[.int .i64 k, .int .i64 seed] w fun e w' => e = .returned (.tuple #[.slice none 0 0, .iface 54 (.int .i64 1)]) ∧ w = w' := by
  by_cases hk : k < 1 ∨ 16 < k
  · have Wk := hide (within_not k 16 w hk)
    clear h hk
    go_enter Tryz.func29, Tryz.ntmps29
    go_wp2_with fail
    refine (Wk.out).mono ?_
    rintro e w1 ⟨rfl, rfl⟩
    go_wp2
    go_ret2
    exact ⟨rfl, rfl⟩
  · have Wk := hide (within_ok k 16 w (by omega) (by omega))
    have Ws := hide (within_not seed 10000 w (by omega))
    clear h hk
    go_enter Tryz.func29, Tryz.ntmps29
    go_wp2_with fail
    refine (Wk.out).mono ?_
    rintro e w1 ⟨rfl, rfl⟩
    go_wp2_with fail
    refine (Ws.out).mono ?_
    rintro e w1 ⟨rfl, rfl⟩
    go_wp2
    go_ret2
    exact ⟨rfl, rfl⟩
end Go.Proofs.YtjgifjkdgoijmaaGreat

namespace Go.Proofs.YtjgifjkdgoijmaaGreat
open Go.RowKit Go.Maps
set_option linter.unusedVariables false
set_option maxRecDepth 100000

end Go.Proofs.YtjgifjkdgoijmaaGreat
