/-
  Lemmas for the law above, joined into one text (Own, ChB, DegO, MapS, DropS). No statement is proved here.
-/
import Derived.Test.YtakaeikobahaoaaDoorTG1
import Derived.Deep.AppendLies
import Derived.Deep.OwnRows
import Derived.Maps.OwnSet
import Derived.Deep.LoopGhost
namespace Go.Proofs.YtakaeikobahaoaaDoor
open Go.RowKit
set_option linter.unusedVariables false
set_option maxRecDepth 100000

/-- Two slices whose rows are two. -/
def Apart (a b : Value) : Prop := a.ownBlock = none ∨ b.ownBlock = none ∨ a.ownBlock ≠ b.ownBlock
theorem Apart.symm {a b : Value} (h : Apart a b) : Apart b a := by
  rcases h with h | h | h
  · exact Or.inr (Or.inl h)
  · exact Or.inl h
  · exact Or.inr (Or.inr (fun e => h e.symm))
theorem Apart.kept {a b : Value} (h : Apart a b) : b.ownBlock = none ∨ b.ownBlock ≠ a.ownBlock := by
  rcases h with h | h | h
  · rw [h]; cases b.ownBlock with
    | none => exact Or.inl rfl
    | some k => exact Or.inr (by simp)
  · exact Or.inl h
  · exact Or.inr (fun e => h e.symm)
theorem apart_new {w : World} {B : Nat} {e : TypeId} {a b : Value} {m g n c H : Nat} {xs : List Value} (hb : w.ownsRow B e 1 b m xs) (h : Apart a b) (hH : w.heap.size ≤ H) (hat : a.ownBlock = some g ∨ g = H) : Apart (.slice (some ⟨g, 0, none⟩) n c) b := by
  rcases hat with hat | rfl
  · rcases h with h | h | h
    · rw [h] at hat; cases hat
    · exact Or.inr (Or.inl h)
    · exact Or.inr (Or.inr (fun e => h (by rw [hat, ← e]; rfl)))
  · refine Or.inr (Or.inr (fun e => ?_))
    have := (hb.lt g e.symm).2
    omega

theorem Tryd.infoInt : (Tryd.prog.info? 3).map (fun i => (i.zero, i.size, i.bytes)) = some (some (.int .i64 0), 1, 8) := by kernel_rfl
/-- Ints that the call owns, opened. -/
theorem own_ints {w : World} {B : Nat} {v : Value} {n : Nat} {f : Nat → Int} (h : w.ownsRow B 3 1 v n ((List.range n).map fun k : Nat => .int .i64 (f k))) (hn : 0 < n) :
    ∃ g cap, v = .slice (some ⟨g, 0, none⟩) n cap ∧ n ≤ cap ∧ cap ≤ maxLen ∧ ∀ k, k < n → w.cell? ⟨g, 0 + k, none⟩ = some (.int .i64 (f k)) := by
  have h' := h
  rcases h.2 with ⟨_, h0⟩ | ⟨g, cap, cur, hv, _, hg, h1, h2, hcs, hcur⟩
  · omega
  · refine ⟨g, cap, hv, h1, h2, fun k hk => ?_⟩
    rw [hv] at h'
    rw [Nat.zero_add, h'.cellAt k (by omega)]
    simp [hk]
end Go.Proofs.YtakaeikobahaoaaDoor

namespace Go.Proofs.YtakaeikobahaoaaDoor
open Go.RowKit
set_option linter.unusedVariables false
set_option maxRecDepth 100000

theorem may_ok (n : Int) (w : World) (h : Num n) : Calls Tryd.prog 50 #[.int .i64 n] w fun e w' => e = .returned (.bool true) ∧ w = w' := by
  obtain ⟨h1, h2⟩ := h
  go_enter Tryd.func50, Tryd.ntmps50
  go_wp2
  go_ret
  exact ⟨ret_bool (by simp <;> omega), rfl⟩
theorem may_not (n : Int) (w : World) (h : n < 1 ∨ 2147483646 < n) : Calls Tryd.prog 50 #[.int .i64 n] w fun e w' => e = .returned (.bool false) ∧ w = w' := by
  rcases h with h | h
  · go_enter Tryd.func50, Tryd.ntmps50
    go_wp2
    go_ret
    exact ⟨ret_bool (by first | rfl | simp <;> omega), rfl⟩
  · go_enter Tryd.func50, Tryd.ntmps50
    go_wp2
    go_ret
    exact ⟨ret_bool (by first | rfl | simp <;> omega), rfl⟩
theorem step_ok (n : Int) (w : World) (h : Num n) : Calls Tryd.prog 51 #[.int .i64 n] w fun e w' => e = .returned (.int .i64 (nxt n)) ∧ w = w' := by
  obtain ⟨h1, h2⟩ := h
  go_enter Tryd.func51, Tryd.ntmps51
  go_wp2
  go_ret
  exact ⟨ret_int (by unfold nxt; first | rfl | omega), rfl⟩

theorem below_ok (n b : Int) (w : World) (h : Num n) (h1 : 1 ≤ b) (h2 : b ≤ 1000) : Calls Tryd.prog 37 #[.int .i64 n, .int .i64 b] w fun e w' => e = .returned (.tuple #[.int .i64 (nxt n % b), .int .i64 (nxt n), .nilIface]) ∧ w = w' := by
  have M := hide (may_ok n w h)
  have S := hide (step_ok n w h)
  obtain ⟨h3, h4⟩ := h.nxt
  generalize nxt n = x at *
  go_enter Tryd.func37, Tryd.ntmps37
  go_wp2_with fail
  refine (M.out).mono ?_
  rintro e w1 ⟨rfl, rfl⟩
  go_wp2_with fail
  refine (S.out).mono ?_
  rintro e w1 ⟨rfl, rfl⟩
  go_wp2
  go_ret3
  exact ⟨rfl, rfl⟩
theorem below_range (n b : Int) (w : World) (h : ¬ Num n ∨ b < 1 ∨ 1000 < b) : Calls Tryd.prog 37 #[.int .i64 n, .int .i64 b] w fun e w' => e = .returned (.tuple #[.int .i64 0, .int .i64 0, .iface 48 (.int .i64 1)]) ∧ w = w' := by
  by_cases hn : Num n
  · have M := hide (may_ok n w hn)
    by_cases hb : b < 1
    · go_enter Tryd.func37, Tryd.ntmps37
      go_wp2_with fail
      refine (M.out).mono ?_
      rintro e w1 ⟨rfl, rfl⟩
      go_wp2
      go_ret3
      exact ⟨rfl, rfl⟩
    · have hb2 : 1000 < b := by
        rcases h with h | h | h
        · exact absurd hn h
        · omega
        · exact h
      clear h hn
      go_enter Tryd.func37, Tryd.ntmps37
      go_wp2_with fail
      refine (M.out).mono ?_
      rintro e w1 ⟨rfl, rfl⟩
      go_wp2
      go_ret3
      exact ⟨rfl, rfl⟩
  · have M := hide (may_not n w (by unfold Num at hn; omega))
    clear h hn
    go_enter Tryd.func37, Tryd.ntmps37
    go_wp2_with fail
    refine (M.out).mono ?_
    rintro e w1 ⟨rfl, rfl⟩
    go_wp2
    go_ret3
    exact ⟨rfl, rfl⟩
end Go.Proofs.YtakaeikobahaoaaDoor

namespace Go.Proofs.YtakaeikobahaoaaDoor
open Go.RowKit
set_option linter.unusedVariables false
set_option maxRecDepth 100000

theorem dmay_ok (k : Int) (w : World) (h1 : 1 ≤ k) (h2 : k ≤ 16) : Calls Tryd.prog 52 #[.int .i64 k] w fun e w' => e = .returned (.bool true) ∧ w = w' := by
  go_enter Tryd.func52, Tryd.ntmps52
  go_wp2
  go_ret
  exact ⟨ret_bool (by simp <;> omega), rfl⟩
theorem dmay_not (k : Int) (w : World) (h : k < 1 ∨ 16 < k) : Calls Tryd.prog 52 #[.int .i64 k] w fun e w' => e = .returned (.bool false) ∧ w = w' := by
  rcases h with h | h
  · go_enter Tryd.func52, Tryd.ntmps52
    go_wp2
    go_ret
    exact ⟨ret_bool (by first | rfl | simp <;> omega), rfl⟩
  · go_enter Tryd.func52, Tryd.ntmps52
    go_wp2
    go_ret
    exact ⟨ret_bool (by first | rfl | simp <;> omega), rfl⟩
theorem least_ok (k n : Nat) (w : World) (hk : 1 ≤ k) (hk2 : k ≤ 16) (hn : n < 1000) : Calls Tryd.prog 53 #[.int .i64 k, .int .i64 n] w fun e w' => e = .returned (.int .i64 (deg k n)) ∧ w = w' := by
  go_enter Tryd.func53, Tryd.ntmps53
  go_wp2
  go_loop [5] (fun i => ∃ d : Nat, 1 ≤ d ∧ d ≤ k ∧ i = .int .i64 d ∧ deg k n = degF k n (k - d) d) (fun i => k - (intOf i).toNat)
  case atStart => exact ⟨1, Nat.le_refl _, hk, rfl, rfl⟩
  case round =>
    obtain ⟨d, hd1, hd2, rfl, he⟩ := hrel
    have HE := hide he
    clear he
    by_cases hlt : d < k
    · obtain ⟨⟨a0, a1⟩, ⟨b0, b1⟩, c0, c1⟩ := prods (d := d) hk2 hn hd1 (by omega)
      by_cases hu : Under k n d
      · have HS := hide (degF_stop hlt hu)
        unfold Under at hu
        go_wp2
        go_ret
        exact ⟨ret_int (by rw [HE.out, HS.out]), rfl⟩
      · have HS := hide (degF_on hlt hu)
        unfold Under at hu
        go_wp2
        go_round
        case rel => exact ⟨d + 1, by omega, by omega, by go_num, by rw [HE.out, HS.out]⟩
        case measure => simp [intOf]; omega
    · obtain rfl : d = k := by omega
      go_wp2
      go_ret
      exact ⟨ret_int (by rw [HE.out, degF_end]), rfl⟩

theorem of_ok (k n : Nat) (w : World) (hk : 1 ≤ k) (hk2 : k ≤ 16) (hn : n < 1000) : Calls Tryd.prog 38 #[.int .i64 k, .int .i64 n] w fun e w' => e = .returned (.tuple #[.int .i64 (deg k n), .nilIface]) ∧ w = w' := by
  have M := hide (dmay_ok k w (by omega) (by omega))
  have L := hide (least_ok k n w hk hk2 hn)
  have h0 : ¬ (n : Int) < 0 := by omega
  have h1 : ¬ 1000 ≤ (n : Int) := by omega
  go_enter Tryd.func38, Tryd.ntmps38
  go_wp2_with fail
  refine (M.out).mono ?_
  rintro e w1 ⟨rfl, rfl⟩
  go_wp2_with fail
  refine (L.out).mono ?_
  rintro e w1 ⟨rfl, rfl⟩
  go_wp2
  go_ret2
  exact ⟨rfl, rfl⟩
theorem of_range (k n : Int) (w : World) (h : (k < 1 ∨ 16 < k) ∨ n < 0 ∨ 1000 ≤ n) : Calls Tryd.prog 38 #[.int .i64 k, .int .i64 n] w fun e w' => e = .returned (.tuple #[.int .i64 0, .iface 48 (.int .i64 1)]) ∧ w = w' := by
  by_cases hk : k < 1 ∨ 16 < k
  · have M := hide (dmay_not k w hk)
    clear h hk
    go_enter Tryd.func38, Tryd.ntmps38
    go_wp2_with fail
    refine (M.out).mono ?_
    rintro e w1 ⟨rfl, rfl⟩
    go_wp2
    go_ret2
    exact ⟨rfl, rfl⟩
  · have M := hide (dmay_ok k w (by omega) (by omega))
    by_cases hn : n < 0
    · clear h hk
      go_enter Tryd.func38, Tryd.ntmps38
      go_wp2_with fail
      refine (M.out).mono ?_
      rintro e w1 ⟨rfl, rfl⟩
      go_wp2
      go_ret2
      exact ⟨rfl, rfl⟩
    · have hn2 : 1000 ≤ n := by omega
      clear h hk
      go_enter Tryd.func38, Tryd.ntmps38
      go_wp2_with fail
      refine (M.out).mono ?_
      rintro e w1 ⟨rfl, rfl⟩
      go_wp2
      go_ret2
      exact ⟨rfl, rfl⟩
end Go.Proofs.YtakaeikobahaoaaDoor

namespace Go.Proofs.YtakaeikobahaoaaDoor
open Go.RowKit Go.Maps
set_option linter.unusedVariables false
set_option maxRecDepth 100000

theorem Tryd.lawInt : Keyed Tryd.prog 3 := int_keyed Tryd.underlying3
theorem Tryd.zeroUnit (w : World) : (zeroValue 104).run Tryd.prog w = .ok (.agg #[]) w := by kernel_rfl
theorem run_makeMap_some {P : Program} {t k e : TypeId} (ht : P.underlying t = some (.map k e)) (q : IntKind) (n : Int) (w : World) : (Instr.makeMap t (some (.int q n))).run P w = .ok (.map (some w.heap.size)) (w.alloc (.map #[] 0)) := by
  simp [Instr.makeMap, run_underlying ht, asInt, asIntOf, Result.andThen]
theorem tight {P : Program} {t : TypeId} {w : World} {b n : Nat} {D : DataW Unit} (h : w.ownsMap P t unitElem b n D) : w.ownsMap P t unitElem b (Maps.size D) D := by
  obtain ⟨es, clock, hb, F, hs, rfl⟩ := h
  exact ⟨es, clock, hb, F, by simp [Maps.size, length_sorted], rfl⟩

/-- The map of block b holds just the numbers of the list l, each once, as the datum D. -/
def MSet (w : World) (b : Nat) (l : List Nat) (D : DataW Unit) : Prop :=
  w.ownsMap Tryd.prog 3 unitElem b l.length D ∧ Maps.size D = l.length ∧ ∀ r : Nat, Maps.has D (.int .i64 r) = decide (r ∈ l)
theorem mset_made (w : World) : MSet (w.alloc (.map #[] 0)) w.heap.size [] (.map []) := ⟨World.ownsMap_made _ _ _ _, rfl, fun r => by simp [Maps.has]⟩
theorem MSet.put {w w' : World} {b : Nat} {l l' : List Nat} {D : DataW Unit} {r : Nat} (h : MSet w b l D) (h' : w'.ownsMap Tryd.prog 3 unitElem b (l.length + 1) (D.put (.int .i64 r) (.agg [])))
    (hm : ∀ a, a ∈ l' ↔ a = r ∨ a ∈ l) (hl : l'.length = if r ∈ l then l.length else l.length + 1) : MSet w' b l' (D.put (.int .i64 r) (.agg [])) := by
  obtain ⟨ho, hs, hh⟩ := h
  have hz : Maps.size (D.put (.int .i64 r) (.agg [])) = l'.length := by
    rw [Maps.size_put (ho.tidy Tryd.lawInt), hh r, hs, hl]
    by_cases c : r ∈ l <;> simp [c]
  refine ⟨hz ▸ tight h', hz, fun a => ?_⟩
  by_cases c : a = r
  · subst c
    rw [Maps.has_put_same (k := .int .i64 (a : Int)) ho.isMap trivial]
    exact (decide_eq_true ((hm a).2 (Or.inl rfl))).symm
  · rw [Maps.has_put_other (fun e => c (by injection e with _ e; omega)), hh a]
    exact decide_eq_decide.2 ⟨fun h => (hm a).2 (Or.inr h), fun h => ((hm a).1 h).resolve_left c⟩
theorem MSet.kept {w w' : World} {b : Nat} {l : List Nat} {D : DataW Unit} (h : MSet w b l D) {row : Option Nat} (hg : w.grownBy w' row) (hne : some b ≠ row) : MSet w' b l D := ⟨h.1.kept hg hne, h.2⟩
theorem MSet.alloc {w : World} {b : Nat} {l : List Nat} {D : DataW Unit} (h : MSet w b l D) (o : Obj) : MSet (w.alloc o) b l D := ⟨h.1.alloc o, h.2⟩
theorem MSet.congr {w : World} {b : Nat} {l l' : List Nat} {D : DataW Unit} (h : MSet w b l D) (e : l = l') : MSet w b l' D := e ▸ h
end Go.Proofs.YtakaeikobahaoaaDoor

namespace Go.Proofs.YtakaeikobahaoaaDoor
open Go.RowKit Go.Maps
set_option linter.unusedVariables false
set_option maxRecDepth 100000

theorem within_ok (n m : Int) (w : World) (h1 : 1 ≤ n) (h2 : n ≤ m) : Calls Tryd.prog 36 #[.int .i64 n, .int .i64 m] w fun e w' => e = .returned (.bool true) ∧ w = w' := by
  go_enter Tryd.func36, Tryd.ntmps36
  go_wp2
  go_ret
  exact ⟨ret_bool (by simp <;> omega), rfl⟩
theorem within_not (n m : Int) (w : World) (h : n < 1 ∨ m < n) : Calls Tryd.prog 36 #[.int .i64 n, .int .i64 m] w fun e w' => e = .returned (.bool false) ∧ w = w' := by
  by_cases c : n < 1
  · clear h
    go_enter Tryd.func36, Tryd.ntmps36
    go_wp2
    go_ret
    exact ⟨ret_bool (by first | rfl | simp <;> omega), rfl⟩
  · have h2 : m < n := h.resolve_left c
    clear h
    go_enter Tryd.func36, Tryd.ntmps36
    go_wp2
    go_ret
    exact ⟨ret_bool (by first | rfl | simp <;> omega), rfl⟩

theorem mem_step {k : Nat} {x : Int} (hx : Num x) (hk : 1 ≤ k) (i a : Nat) : a ∈ setAt k x (i + 1) ↔ a = draw k x i ∨ a ∈ setAt k x i := by
  rw [mem_setAt, mem_setAt, seen_succ hx hk]
  have := draw_lt (x := x) hk i
  constructor
  · rintro ⟨h1, h2⟩
    rcases Bool.or_eq_true_iff.1 h2 with h | h
    · exact Or.inr ⟨h1, h⟩
    · exact Or.inl (of_decide_eq_true h).symm
  · rintro (rfl | ⟨h1, h2⟩)
    · exact ⟨this, by simp⟩
    · exact ⟨h1, by simp [h2]⟩
theorem len_step {k : Nat} {x : Int} (hx : Num x) (hk : 1 ≤ k) (i : Nat) : (setAt k x (i + 1)).length = if draw k x i ∈ setAt k x i then (setAt k x i).length else (setAt k x i).length + 1 := by
  by_cases h : draw k x i ∈ setAt k x i
  · rw [setAt_old hx hk h, if_pos h]
  · obtain ⟨A, B, h1, h2, _⟩ := setAt_new hx hk h
    rw [if_neg h, h1, h2]; simp; omega
theorem stop_of {k : Nat} {x : Int} (hx : Num x) (hk : 1 ≤ k) {d i : Nat} (h : ¬ (setAt k x i).length < d) (hb : ∀ j, j < i → (setAt k x j).length < d) : Stop k x d i := by
  refine ⟨?_, hb⟩
  rcases Nat.eq_zero_or_pos i with rfl | hi
  · rw [setAt_zero] at h ⊢; simp at h; simp; omega
  · obtain ⟨m, rfl⟩ : ∃ m, i = m + 1 := ⟨i - 1, by omega⟩
    have := hb m (by omega)
    have := (setAt_grows hx hk m).1
    omega

set_option maxHeartbeats 1000000 in
theorem draw_ok (k d : Nat) (x : Int) (w : World) (hx : Num x) (hk : 1 ≤ k) (hk2 : k ≤ 16) (hd : d ≤ k) :
    Calls Tryd.prog 39 #[.int .i64 k, .int .i64 d, .int .i64 x] w fun e w' => e = .returned (.tuple #[.map (some w.heap.size), .nilIface]) ∧ ∃ i, Stop k x d i ∧ (∃ D, MSet w' w.heap.size (setAt k x i) D) ∧ Below w.heap.size w w' := by
  obtain ⟨T, hT⟩ := setAt_all hx hk (by omega)
  have HT := hide hT
  have HX := hide hx
  clear hT hx
  have hmm := fun q n w => run_makeMap_some (P := Tryd.prog) Tryd.underlying79 q n w
  go_enter Tryd.func39, Tryd.ntmps39
  go_wp2
  go_loopg [2] T (fun g v wr => ∃ (i : Nat) (D : DataW Unit), v = .int .i64 (rowV x i) ∧ i + g = T ∧ (∀ j, j < i → (setAt k x j).length < d) ∧ MSet wr w.heap.size (setAt k x i) D ∧ Below w.heap.size w wr)
  case atStart => exact ⟨0, .map [], rfl, by omega, fun j h => absurd h (Nat.not_lt_zero _), (mset_made w).congr (setAt_zero k x).symm, (Below.refl _ _).alloc (Nat.le_refl _) _⟩
  case round =>
    obtain ⟨i, D, rfl, hig, hbef, hM, hb⟩ := hrel
    have HB := hide hbef
    have HM := hide hM
    clear hbef hM
    have hown := HM.out.1
    have hsz : Maps.size D = (setAt k x i).length := HM.out.2.1
    have hle := setAt_len k x i
    obtain ⟨s, hs⟩ : ∃ s, s = (setAt k x i).length := ⟨_, rfl⟩
    have HS := hide hs
    by_cases c : s < d
    · have hiT : i < T := by
        rcases Nat.lt_or_ge i T with h | h
        · exact h
        · have := HT.out i h; omega
      have K : Hid (Calls Tryd.prog 37 #[.int .i64 (rowV x i), .int .i64 k] wr fun e w' => e = .returned (.tuple #[.int .i64 (draw k x i : Nat), .int .i64 (rowV x (i + 1)), .nilIface]) ∧ wr = w') := by
        rw [← draw_cast HX.out hk i]
        exact below_ok (rowV x i) k wr (HX.out.rowV i) (by omega) (by omega)
      have hR := draw_lt (x := x) hk i
      have hkey : keyOf Tryd.prog 3 (.int .i64 (draw k x i : Nat)) = some (.int .i64 (draw k x i : Nat)) := keyOf_int_mk Tryd.underlying3 (WalkArith.wf_i64 (by omega))
      have hsd : (Maps.size D : Int) < (d : Int) := by omega
      rw [← hs] at hle hown
      clear hs hsz
      generalize hr : draw k x i = r at *
      generalize rowV x i = y at *
      generalize hz : rowV x (i + 1) = z at *
      have HR := hide hr
      have HZ := hide hz
      clear hr hz
      go_wp2_with (at_len; refine wpList_len_own _ rfl _ 79 rfl 3 104 Tryd.underlying79 _ w.heap.size s D rfl hown ?_)
      refine (K.out).mono ?_
      rintro e w1 ⟨rfl, rfl⟩
      go_wp2_with (first
        | (at_mapUpdate; refine wpList_mapUpdate_own _ rfl _ _ _ 79 rfl 3 104 Tryd.lawInt Tryd.underlying79 (unitElem (H := Unit)) w.heap.size s _ rfl hown (by unfold maxLen; omega) _ _ _ rfl rfl hkey _ [] unitElem_mk ?_; intro w1 hown1 hgrow1)
        | go_in)
      go_roundg (gk - 1)
      case measure => omega
      case rel =>
        have e1 := HR.out
        have e2 := HS.out
        refine ⟨i + 1, _, by rw [HZ.out], by omega, fun j hj => ?_, HM.out.put (e2 ▸ hown1) (fun a => by rw [mem_step HX.out hk, e1]) (by rw [len_step HX.out hk, e1]), hb.grown hgrow1 hb.size (fun j hj => by cases hj; exact Nat.le_refl _)⟩
        by_cases c2 : j = i
        · subst c2; omega
        · exact HB.out j (by omega)
    · have hst := hide (stop_of HX.out hk (d := d) (i := i) (by omega) HB.out)
      have hsd : ¬ (Maps.size D : Int) < (d : Int) := by omega
      rw [← hs] at hle hown
      clear hs hsz
      generalize rowV x i = y at *
      go_wp2_with (first | (at_len; refine wpList_len_own _ rfl _ 79 rfl 3 104 Tryd.underlying79 _ w.heap.size s D rfl hown ?_) | go_in)
      go_ret2
      exact ⟨rfl, i, hst.out, ⟨D, HM.out⟩, hb⟩

/-- A slice that holds just the numbers of the list l. -/
def Lst (w : World) (v : Value) (l : List Nat) : Prop :=
  ∃ g cap, v = .slice (some ⟨g, 0, none⟩) l.length cap ∧ l.length ≤ cap ∧ cap ≤ maxLen ∧ ∀ i, i < l.length → w.cell? ⟨g, 0 + i, none⟩ = some (.int .i64 (l.getD i 0 : Nat))
theorem Lst.below {w w' : World} {v : Value} {l : List Nat} (h : Lst w v l) (hb : Below w.heap.size w w') : Lst w' v l := by
  obtain ⟨g, cap, hv, h1, h2, h3⟩ := h
  exact ⟨g, cap, hv, h1, h2, fun i hi => cell_below hb (h3 i hi)⟩
theorem own_lst {w : World} {B : Nat} {v : Value} {l : List Nat} (h : w.ownsRow B 3 1 v l.length (l.map fun r : Nat => .int .i64 (r : Nat))) (hn : 0 < l.length) : Lst w v l := by
  have e : (l.map fun r : Nat => Value.int .i64 (r : Nat)) = (List.range l.length).map fun k : Nat => .int .i64 (l.getD k 0 : Nat) := by
    apply List.ext_getElem
    · simp
    · intro i h1 h2
      simp at h1
      simp [h1]
  rw [e] at h
  obtain ⟨g, cap, hv, h1, h2, h3⟩ := own_ints (f := fun k => ((l.getD k 0 : Nat) : Int)) h hn
  exact ⟨g, cap, hv, h1, h2, h3⟩

theorem heap_alloc1 (w : World) (o : Obj) : (w.alloc o).heap.size = w.heap.size + 1 := by simp
/-- The numbers below j that the list l has. -/
def upTo (l : List Nat) (j : Nat) : List Nat := (List.range j).filter fun r => decide (r ∈ l)
theorem upTo_succ (l : List Nat) (j : Nat) : upTo l (j + 1) = upTo l j ++ if j ∈ l then [j] else [] := by
  unfold upTo
  rw [List.range_succ, List.filter_append]
  by_cases c : j ∈ l <;> simp [c]
theorem upTo_len (l : List Nat) (j : Nat) : (upTo l j).length ≤ j := Nat.le_trans (List.length_filter_le _ _) (by simp)

set_option maxHeartbeats 1000000 in
theorem rising_ok (k b : Nat) (l : List Nat) (D : DataW Unit) (w : World) (hk : k ≤ 16) (hl : l.length ≤ 16) (hM : MSet w b l D) :
    Calls Tryd.prog 40 #[.int .i64 k, .map (some b)] w fun e w' => ∃ v, e = .returned v ∧ w'.ownsRow w.heap.size 3 1 v (upTo l k).length ((upTo l k).map fun r : Nat => .int .i64 (r : Nat)) ∧ Below w.heap.size w w' := by
  have HM := hide hM
  have hown := hM.1
  have hsz : Maps.size D = l.length := hM.2.1
  have hs16 : Maps.size D ≤ 16 := by omega
  have hbl := hown.lt
  clear hM hsz
  obtain ⟨i0, hi, hz0, hz1, hz2⟩ := info_parts Tryd.infoInt
  go_enter Tryd.func40, Tryd.ntmps40
  go_wp2_with (first
    | (at_len; refine wpList_len_own _ rfl _ 79 rfl 3 104 Tryd.underlying79 _ b l.length D rfl hown ?_)
    | (at_make; refine wpList_make_own _ rfl _ _ 22 rfl w.heap.size 3 i0 (.int .i64 0) 1 Tryd.underlying22 hi hz0 hz1 _ _ _ (Maps.size D) rfl rfl rfl (by rw [hz2]; omega) (by unfold maxLen; omega) (Nat.le_refl _) ?_; intro w1 hmk hgrow))
  go_loopw [5, 13] (fun v i wr => ∃ j : Nat, j ≤ k ∧ i = .int .i64 j ∧ MSet wr b l D ∧ wr.ownsRow w.heap.size 3 1 v (upTo l j).length ((upTo l j).map fun r : Nat => .int .i64 (r : Nat)) ∧ Below w.heap.size w wr) (fun _ i _ => k - (intOf i).toNat)
  case atStart => exact ⟨0, Nat.zero_le _, rfl, HM.out.kept hgrow (by simp), hmk, (Below.refl _ _).grown hgrow (Nat.le_refl _) (fun j hj => by cases hj)⟩
  case round =>
    obtain ⟨j, hj, rfl, hM, hrow, hb⟩ := hrel
    have hown := hM.1
    have hul := upTo_len l j
    have hbs := hb.size
    by_cases hlt : j < k
    · have hkey : keyOf Tryd.prog 3 (.int .i64 (j : Nat)) = some (.int .i64 (j : Nat)) := keyOf_int_mk Tryd.underlying3 (WalkArith.wf_i64 (by omega))
      have hhas := hM.2.2 j
      have HU := hide (upTo_succ l j)
      have HM2 := hide hM
      clear hM
      by_cases c : j ∈ l
      · rw [decide_eq_true c] at hhas
        rw [Hid, if_pos c] at HU
        have HU2 := hide HU
        clear HU c
        go_wp2_with (first
          | (at_lookup; refine wpList_lookup_own_unit _ rfl _ _ 79 rfl 3 104 Tryd.lawInt Tryd.underlying79 (Tryd.zeroUnit _) b l.length _ rfl hown _ _ rfl hkey ?_)
          | (at_builtin; refine wpList_append_own _ rfl _ _ 22 rfl w.heap.size 3 i0 (.int .i64 0) 1 8 Tryd.underlying22 hi hz0 hz1 hz2 rfl (by decide) _ _ _ rfl ((hrow.alloc _).alloc _) ⟨wr.heap.size + 1, 0, none⟩ 1 1 [.int .i64 (j : Nat)] rfl rfl (by have h9 := cell_one_new (wr.alloc (.cells #[] 104)) (.int .i64 (j : Nat)) 3; rw [heap_alloc1] at h9; exact h9) (fun x hx => by simp at hx; subst hx; rfl) (by unfold maxLen; omega) (by omega) (by simp; omega) ?_; intro v' w2 hown' hgrow2 hnil2)
          | go_in)
        have hg2 : ((wr.alloc (.cells #[] 104)).alloc (.cells #[.int .i64 (j : Nat)] 3)).grownBy w2 u5.ownBlock := hgrow2
        refine ⟨⟨j + 1, by omega, by simp, ((HM2.out.alloc _).alloc _).kept hg2 (fun e1 => by have := (hrow.lt b e1.symm).1; omega), ?_, ((hb.alloc hbs _).alloc (by simp; omega) _).grown hg2 (by simp; omega) (fun q hq => (hrow.lt q hq).1)⟩, by simp [intOf]; omega⟩
        rw [HU2.out, List.length_append, List.map_append]
        exact hown'
      · rw [decide_eq_false c] at hhas
        rw [Hid, if_neg c, List.append_nil] at HU
        have HU2 := hide HU
        clear HU c
        go_wp2_with (first
          | (at_lookup; refine wpList_lookup_own_unit _ rfl _ _ 79 rfl 3 104 Tryd.lawInt Tryd.underlying79 (Tryd.zeroUnit _) b l.length _ rfl hown _ _ rfl hkey ?_)
          | go_in)
        refine ⟨⟨j + 1, by omega, by simp, HM2.out.alloc _, ?_, hb.alloc hbs _⟩, by simp [intOf]; omega⟩
        rw [HU2.out]
        exact hrow.alloc _
    · obtain rfl : j = k := by omega
      go_wp2
      go_ret
      exact ⟨_, rfl, hrow, hb⟩

theorem upTo_setAt (k : Nat) (x : Int) (i : Nat) : upTo (setAt k x i) k = setAt k x i := by
  unfold upTo setAt
  refine List.filter_congr fun r hr => ?_
  have h1 : r < k := List.mem_range.1 hr
  have h2 := mem_setAt (k := k) (x := x) (i := i) (r := r)
  unfold setAt at h2
  cases e : seen k x i r with
  | true => exact decide_eq_true (h2.2 ⟨h1, e⟩)
  | false => exact decide_eq_false fun h => by rw [(h2.1 h).2] at e; cases e

set_option maxHeartbeats 1000000 in
theorem set_ok (k seed : Nat) (w : World) (hk : 1 ≤ k) (hk2 : k ≤ 16) (h1 : 1 ≤ seed) (h2 : seed ≤ 10000) :
    Calls Tryd.prog 26 #[.int .i64 k, .int .i64 seed] w fun e w' => ∃ v, e = .returned (.tuple #[v, .nilIface]) ∧ Lst w' v (setL k seed) ∧ Below w.heap.size w w' := by
  have Wk := hide (within_ok k 16 w (by omega) (by omega))
  have Ws := hide (within_ok seed 10000 w (by omega) (by omega))
  by_cases hle : seed ≤ k
  · have HL := hide (setL_one hle)
    have hle' : (seed : Int) ≤ (k : Int) := by omega
    clear hle
    go_enter Tryd.func26, Tryd.ntmps26
    go_wp2_with fail
    refine (Wk.out).mono ?_
    rintro e w1 ⟨rfl, rfl⟩
    go_wp2_with fail
    refine (Ws.out).mono ?_
    rintro e w1 ⟨rfl, rfl⟩
    go_wp2
    go_ret2
    refine ⟨_, rfl, ?_, ?_⟩
    · rw [HL.out]
      refine ⟨_, _, rfl, Nat.le_refl _, by unfold maxLen; simp, fun i hi => ?_⟩
      obtain rfl : i = 0 := by simpa using hi
      have h9 := cell_one_new w (.int .i64 ((seed : Int) - 1)) 3 0 _ rfl
      have e9 : (((seed - 1 : Nat)) : Int) = (seed : Int) - 1 := by omega
      simp only [Addr.add, List.getD_cons_zero, e9] at h9 ⊢
      exact h9
    · exact (Below.refl _ _).alloc (Nat.le_refl _) _
  · have hle' : ¬ (seed : Int) ≤ (k : Int) := by omega
    have hx : Num (seed : Int) := ⟨by omega, by omega⟩
    have B := hide (below_ok seed 1000 w hx (by omega) (by omega))
    obtain ⟨n, hn, hn2⟩ : ∃ n : Nat, nxt seed % 1000 = (n : Int) ∧ n < 1000 := ⟨(nxt seed % 1000).toNat, by omega, by omega⟩
    have HD : Hid (setD k seed = deg k n) := by unfold Hid setD; rw [hn, Int.toNat_natCast]
    rw [hn] at B
    have O := hide (of_ok k n w hk hk2 hn2)
    have hd1 := deg_le k n hk
    have hd0 := deg_ge k n
    have HS : Hid (∀ i, Stop k (nxt seed) (setD k seed) i → setL k seed = setAt k (nxt seed) i) := fun i hs => setL_stop hle hs
    have D := hide (draw_ok k (deg k n) (nxt seed) w hx.nxt hk hk2 hd1)
    clear hn hx hle
    generalize nxt (seed : Int) = y at *
    generalize deg k n = d at *
    go_enter Tryd.func26, Tryd.ntmps26
    go_wp2_with fail
    refine (Wk.out).mono ?_
    rintro e w1 ⟨rfl, rfl⟩
    go_wp2_with fail
    refine (Ws.out).mono ?_
    rintro e w1 ⟨rfl, rfl⟩
    go_wp2_with fail
    refine (B.out).mono ?_
    rintro e w1 ⟨rfl, rfl⟩
    go_wp2_with fail
    refine (O.out).mono ?_
    rintro e w1 ⟨rfl, rfl⟩
    go_wp2_with fail
    refine (D.out).mono ?_
    rintro e w1 ⟨rfl, i, hst, ⟨D1, hM⟩, hb⟩
    have HI := hide hst
    have HB := hide hb
    have hl16 := setAt_len k y i
    have R := hide (rising_ok k w.heap.size (setAt k y i) D1 w1 hk2 (by omega) hM)
    clear hst hb hM
    go_wp2_with fail
    refine (R.out).mono ?_
    rintro e w2 ⟨v, rfl, hrow, hb2⟩
    have HR := hide hrow
    have HB2 := hide hb2
    clear hrow hb2
    go_wp2
    go_ret2
    refine ⟨v, rfl, ?_, below_two HB.out HB2.out⟩
    have hr := HR.out
    rw [upTo_setAt] at hr
    rw [HS.out i (HD.out ▸ HI.out)]
    exact own_lst hr (by rw [HI.out.1]; omega)
theorem set_range (k seed : Int) (w : World) (h : (k < 1 ∨ 16 < k) ∨ seed < 1 ∨ 10000 < seed) :
    Calls Tryd.prog 26 #[.int .i64 k, .int .i64 seed] w fun e w' => e = .returned (.tuple #[.slice none 0 0, .iface 48 (.int .i64 1)]) ∧ w = w' := by
  by_cases hk : k < 1 ∨ 16 < k
  · have Wk := hide (within_not k 16 w hk)
    clear h hk
    go_enter Tryd.func26, Tryd.ntmps26
    go_wp2_with fail
    refine (Wk.out).mono ?_
    rintro e w1 ⟨rfl, rfl⟩
    go_wp2
    go_ret2
    exact ⟨rfl, rfl⟩
  · have Wk := hide (within_ok k 16 w (by omega) (by omega))
    have Ws := hide (within_not seed 10000 w (by omega))
    clear h hk
    go_enter Tryd.func26, Tryd.ntmps26
    go_wp2_with fail
    refine (Wk.out).mono ?_
    rintro e w1 ⟨rfl, rfl⟩
    go_wp2_with fail
    refine (Ws.out).mono ?_
    rintro e w1 ⟨rfl, rfl⟩
    go_wp2
    go_ret2
    exact ⟨rfl, rfl⟩
end Go.Proofs.YtakaeikobahaoaaDoor
