/-
  Our own contracts of guard.Add over this seat's translation, its ways out. Lemmas for the laws above; no statement is proved here.
-/
import Derived.Test.YtmmlcomfkikomaaDoorGdIt
import Derived.Test.YtmmlcomfkikomaaDoorBlkW
import Derived.Test.YtmmlcomfkikomaaDoorSum
namespace Go.Proofs.YtmmlcomfkikomaaDoor
open Go.RowKit Go.Shelf
set_option linter.unusedVariables false
set_option maxRecDepth 100000
attribute [local go_sem] Oper.semAt_some

/-- The blocks of a list of places over one another. -/
def sumL (g : Nat → ByteArray) (l : List Nat) : ByteArray := sumB g (fun k => ((l.getD k 0 : Nat) : Int)) l.length
theorem sumL_size (g : Nat → ByteArray) (l : List Nat) : (sumL g l).size = (g 0).size := sumB_size _ _ _
/-- What Add answers. -/
def addG (g : Nat → ByteArray) (n each i : Nat) : ByteArray := if i < n then g i else sumL g (gL n each (i - n))

theorem suml_ok (b o len cap : Nat) (g : Nat → ByteArray) (v : Value) (l : List Nat) (w : World) (hB : Blks w b o len g) (hv : Lst w v l) (h0 : 0 < l.length) (hlt : ∀ r ∈ l, r < len) (hnd : l.Nodup) :
    Calls Tryd.prog 20 #[.slice (some ⟨b, o, none⟩) len cap, v] w fun e w' => e = .returned (.tuple #[.string (sumL g l), .nilIface]) ∧ Below w.heap.size w w' := by
  obtain ⟨p, cap2, rfl, h1, h2, h3⟩ := hv
  have hf : ∀ i, i < l.length → goodAt (fun k => ((l.getD k 0 : Nat) : Int)) len i := fun i hi => by
    have h4 : l.getD i 0 < len := hlt _ (getD_mem hi)
    refine ⟨⟨?_, ?_⟩, fun j hj e => ?_⟩
    · show (0 : Int) ≤ ((l.getD i 0 : Nat) : Int); omega
    · show ((l.getD i 0 : Nat) : Int) < (len : Int); omega
    · have e' : ((l.getD j 0 : Nat) : Int) = ((l.getD i 0 : Nat) : Int) := e
      have e3 : l.getD j 0 = l.getD i 0 := by omega
      have hj' : j < l.length := by omega
      have e2 : l[j] = l[i] := by simpa [List.getD, hi, hj'] using e3
      have := (List.getElem_inj hnd).1 e2
      omega
  exact sum_ok b o len cap p 0 l.length cap2 g (fun k => ((l.getD k 0 : Nat) : Int)) w hB.pos hB.most hB.cells hB.one hB.eight hB.same h0 h1 h2 h3 hf
theorem gL_lt {n each q r : Nat} (h : r ∈ gL n each q) : r < n := by
  unfold gL at h
  rw [List.mem_range'] at h
  obtain ⟨i, hi, rfl⟩ := h
  omega
theorem gL_nodup (n each q : Nat) : (gL n each q).Nodup := List.nodup_range'
theorem gL_pos {n each q : Nat} (he : 1 ≤ each) (h : q * each < n) : 0 < (gL n each q).length := by rw [gL_len]; omega

theorem Boxed.below {W W' : World} {B : Nat} {t : TypeId} {v : Value} (h : Boxed W B t v) (hb : Below W.heap.size W W') : Boxed W' B t v := (hb.block B h.lt).trans h
theorem Boxed.otherN {W : World} {B B' : Nat} {t : TypeId} {v : Value} (h : Boxed W B t v) (hne : B' ≠ B) (u : Value) : Boxed (W.setCell ⟨B', 0, none⟩ u) B t v := h.kept (grownBy_setCell' W B' u) (fun e => hne (by cases e; rfl))
/-- Two results are stored. -/
theorem two_cells {W : World} {B B' : Nat} {t t' : TypeId} {v v' : Value} (h : Boxed W B t v) (h' : Boxed W B' t' v') (hne : B ≠ B') (x y : Value) :
    ((W.setCell ⟨B, 0, none⟩ x).setCell ⟨B', 0, none⟩ y).cell? ⟨B, 0, none⟩ = some x ∧ ((W.setCell ⟨B, 0, none⟩ x).setCell ⟨B', 0, none⟩ y).cell? ⟨B', 0, none⟩ = some y ∧
    (W.setCell ⟨B, 0, none⟩ x).cell? ⟨B', 0, none⟩ = some v' ∧ (W.setCell ⟨B, 0, none⟩ x).frozen? ⟨B', 0, none⟩ = false :=
  ⟨(Boxed.otherN (h.set x) (fun e => hne e.symm) y).cell, ((Boxed.otherN h' hne x).set y).cell, (Boxed.otherN h' hne x).cell, (Boxed.otherN h' hne x).frozen⟩

/-- The boxes of Add as they lie at its head. -/
def addW (w : World) (v : Value) : World := ((w.alloc (.cells #[v] 22)).alloc (.cells #[.slice none 0 0] 22)).alloc (.cells #[.nilIface] 28)
structure AddB (W : World) (h : Nat) (v : Value) : Prop where
  l : Boxed W h 22 v
  r1 : Boxed W (h + 1) 22 (.slice none 0 0)
  r2 : Boxed W (h + 2) 28 .nilIface
theorem AddB.below {W W' : World} {h : Nat} {v : Value} (k : AddB W h v) (hb : Below W.heap.size W W') : AddB W' h v := ⟨Boxed.below k.l hb, Boxed.below k.r1 hb, Boxed.below k.r2 hb⟩
theorem addB_new (w : World) (v : Value) : AddB (addW w v) w.heap.size v ∧ Below w.heap.size w (addW w v) ∧ (addW w v).heap.size = w.heap.size + 3 := by
  have b1 := Boxed.new w 22 v
  have b2 := Boxed.new (w.alloc (.cells #[v] 22)) 22 (.slice none 0 0)
  have b3 := Boxed.new ((w.alloc (.cells #[v] 22)).alloc (.cells #[.slice none 0 0] 22)) 28 .nilIface
  rw [World.size_alloc] at b2
  rw [World.size_alloc, World.size_alloc] at b3
  refine ⟨⟨(b1.alloc _).alloc _, b2.alloc _, b3⟩, (((Below.refl _ w).alloc (Nat.le_refl _) _).alloc (by simp) _).alloc (by simp <;> omega) _, by simp [addW]⟩

set_option maxHeartbeats 1000000 in
theorem add_check (a : Option Addr) (len cap : Nat) (each : Int) (w : World) (x : Int)
    (hC : ∀ w1, Below w.heap.size w w1 → Calls Tryd.prog 15 #[.slice a len cap] w1 fun e w' => e = .returned (.iface 42 (.int .i64 x)) ∧ Below w1.heap.size w1 w') :
    Calls Tryd.prog 8 #[.slice a len cap, .int .i64 each] w fun e w' => e = .returned (.tuple #[.slice none 0 0, .iface 42 (.int .i64 x)]) ∧ Below w.heap.size w w' := by
  obtain ⟨hN, hb0, hsz⟩ := addB_new w (.slice a len cap)
  have K := hide (hC _ hb0)
  clear hC
  refine (callsIn_wide (n := 10)).1 (callsIn_of_wp_marks Tryd.func8 rfl trivial ((wpIn_wide (n := 10)).2 ?_))
  simp only [Tryd.ntmps8, List.size_toArray, List.length_cons, List.length_nil, Nat.reduceAdd, Nat.reduceSub, Array.replicate_succ, Array.replicate_zero, List.push_toArray, List.append_toArray, List.nil_append, List.cons_append]
  go_wp2_with fail
  refine (K.out).mono ?_
  rintro e w1 ⟨rfl, hb⟩
  obtain ⟨hl, h1, h2⟩ := hN.below hb
  obtain ⟨c1, c2, c3, c4⟩ := two_cells h1 h2 (by omega) (.slice none 0 0) (.iface 42 (.int .i64 x))
  have k1 := h1.cell
  have k2 := h1.frozen
  go_wp2
  refine ⟨.tuple #[.slice none 0 0, .iface 42 (.int .i64 x)], by simp [results, Tryd.results8, go_sem, c1, c2], rfl, ?_⟩
  exact ((hb0.trans (hb.mono hb0.size)).setCell (p := ⟨w.heap.size + 1, 0, none⟩) (by simp) _).setCell (p := ⟨w.heap.size + 2, 0, none⟩) (by simp) _
end Go.Proofs.YtmmlcomfkikomaaDoor
