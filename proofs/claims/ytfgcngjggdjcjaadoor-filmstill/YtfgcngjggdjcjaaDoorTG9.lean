/-
  Lemmas for the law above, joined into one text (FlC, FlA). No statement is proved here.
-/
import Derived.Test.YtfgcngjggdjcjaaDoorTG7
import Derived.Test.YtfgcngjggdjcjaaDoorTG8
import Derived.Test.YtfgcngjggdjcjaaDoorTG1
import Derived.Test.YtfgcngjggdjcjaaDoorTG6
import Derived.Deep.Slices
import Derived.Deep.Strs
import Derived.ChangeSame
import Derived.ProofKit
import Derived.OpenShut
import Derived.ChangeSlices
import Derived.Lib.SmallJoins
namespace Go.Proofs.YtfgcngjggdjcjaaDoor
open Go.RowKit
set_option linter.unusedVariables false
set_option maxRecDepth 100000

theorem fcount_ok (n : Nat) (w : World) : Calls Tryd.prog 26 #[.int .i64 n] w fun e w' => e = .returned (errN (cntF n)) ∧ w = w' := by
  by_cases h0 : n = 0
  · subst h0
    go_enter Tryd.func26, Tryd.ntmps26
    go_wp2
    go_ret
    exact ⟨rfl, rfl⟩
  · have hne : ((n : Int) == 0) = false := by rw [beq_eq_false_iff_ne]; omega
    by_cases h6 : 6 < n
    · have HE : Hid (cntF n = 4) := by unfold Hid cntF; rw [if_neg h0, if_pos h6]
      go_enter Tryd.func26, Tryd.ntmps26
      go_wp2
      go_ret
      exact ⟨by rw [HE.out]; rfl, rfl⟩
    · have HE : Hid (cntF n = 0) := by unfold Hid cntF; rw [if_neg h0, if_neg h6]
      go_enter Tryd.func26, Tryd.ntmps26
      go_wp2
      go_ret
      exact ⟨by rw [HE.out]; rfl, rfl⟩
def inOk (n m : Int) : Bool := decide (1 ≤ n) && decide (n ≤ m)
theorem inOk_iff {n m : Int} : inOk n m = true ↔ 1 ≤ n ∧ n ≤ m := by simp [inOk]
theorem inOk_not {n m : Int} : inOk n m = false ↔ n < 1 ∨ m < n := by rw [← Bool.not_eq_true, inOk_iff]; omega
theorem fwithin_ok (n m : Int) (w : World) : Calls Tryd.prog 19 #[.int .i64 n, .int .i64 m] w fun e w' => e = .returned (.bool (inOk n m)) ∧ w = w' := by
  rcases Int.lt_or_le n 1 with h | h
  · go_enter Tryd.func19, Tryd.ntmps19
    go_wp2
    go_ret
    exact ⟨ret_bool (inOk_not.2 (Or.inl h)).symm, rfl⟩
  · rcases Int.lt_or_le m n with k | k
    · go_enter Tryd.func19, Tryd.ntmps19
      go_wp2
      go_ret
      exact ⟨ret_bool (by first | exact (inOk_not.2 (Or.inr k)).symm | (rw [Bool.eq_iff_iff, inOk_iff, decide_eq_true_iff]; omega)), rfl⟩
    · go_enter Tryd.func19, Tryd.ntmps19
      go_wp2
      go_ret
      exact ⟨ret_bool (by first | exact (inOk_iff.2 ⟨h, k⟩).symm | (rw [Bool.eq_iff_iff, inOk_iff, decide_eq_true_iff]; omega)), rfl⟩
theorem funseen_ok (a b : Int) (w : World) : Calls Tryd.prog 20 #[.int .i64 a, .int .i64 b] w fun e w' => e = .returned (.agg #[.int .i64 a, .int .i64 b, .slice none 0 0]) ∧ Below w.heap.size w w' := by
  have p1 := picIn_new w 0 0 (.slice none 0 0)
  have HB : Hid (Below w.heap.size w (w.alloc (.cells #[.int .i64 0, .int .i64 0, .slice none 0 0] 40))) := (Below.refl _ _).alloc (Nat.le_refl _) _
  obtain ⟨⟨c0, g0⟩, ⟨c1, g1⟩, c2, g2⟩ := p1
  go_enter Tryd.func20, Tryd.ntmps20
  go_wp2
  refine bodyPost_ret (v := .agg #[.int .i64 a, .int .i64 b, .slice none 0 0]) (by simp [results, Tryd.results20, go_sem]) rfl ⟨rfl, ?_⟩
  first
    | exact (((HB.out.setCell (Nat.le_refl _) _).setCell (Nat.le_refl _) _).setCell (Nat.le_refl _) _)
    | exact HB.out
    | exact (Below.refl _ _).alloc (Nat.le_refl _) _
end Go.Proofs.YtfgcngjggdjcjaaDoor

namespace Go.Proofs.YtfgcngjggdjcjaaDoor
open Go.ChangeShapes Go.WideShapes Go.ChangeAt Go.RowKit Go.Joins
set_option linter.unusedVariables false
set_option maxRecDepth 100000

/-- A picture in three cells from o on. -/
def PicC (w : World) (b o : Nat) (p : Pc) (s : Value) : Prop :=
  w.cell? ⟨b, o, none⟩ = some (.int .i64 p.a) ∧ w.cell? ⟨b, o + 1, none⟩ = some (.int .i64 p.b) ∧ w.cell? ⟨b, o + 2, none⟩ = some s ∧ IntsIn w s p.n p.f
/-- A coded picture in four cells from o on. -/
def CodC (w : World) (b o : Nat) (c : Cd) (s : Value) : Prop :=
  w.cell? ⟨b, o, none⟩ = some (.bool c.al) ∧ w.cell? ⟨b, o + 1, none⟩ = some (.int .i64 c.x) ∧ w.cell? ⟨b, o + 2, none⟩ = some (.int .i64 c.y) ∧ w.cell? ⟨b, o + 3, none⟩ = some s ∧ IntsIn w s c.n c.f
theorem PicC.below {w w' : World} {b o : Nat} {p : Pc} {s : Value} (h : PicC w b o p s) (hb : Below w.heap.size w w') : PicC w' b o p s :=
  ⟨cell_below hb h.1, cell_below hb h.2.1, cell_below hb h.2.2.1, h.2.2.2.below hb⟩
theorem CodC.below {w w' : World} {b o : Nat} {c : Cd} {s : Value} (h : CodC w b o c s) (hb : Below w.heap.size w w') : CodC w' b o c s :=
  ⟨cell_below hb h.1, cell_below hb h.2.1, cell_below hb h.2.2.1, cell_below hb h.2.2.2.1, h.2.2.2.2.below hb⟩
/-- A slice of pictures. -/
def PicsIn (w : World) (v : Value) (N : Nat) (P : Nat → Pc) : Prop :=
  ∃ ad cap, v = .slice ad N cap ∧ N ≤ cap ∧ cap ≤ maxLen ∧ (0 < N → ∃ b o, ad = some ⟨b, o, none⟩ ∧ ∀ i, i < N → ∃ s, PicC w b (o + i * 3) (P i) s)
/-- A slice of coded pictures. -/
def CodsIn (w : World) (v : Value) (N : Nat) (C : Nat → Cd) : Prop :=
  ∃ ad cap, v = .slice ad N cap ∧ N ≤ cap ∧ cap ≤ maxLen ∧ (0 < N → ∃ b o, ad = some ⟨b, o, none⟩ ∧ ∀ i, i < N → ∃ s, CodC w b (o + i * 4) (C i) s)
theorem PicsIn.below {w w' : World} {v : Value} {N : Nat} {P : Nat → Pc} (h : PicsIn w v N P) (hb : Below w.heap.size w w') : PicsIn w' v N P := by
  obtain ⟨ad, cap, rfl, h1, h2, h3⟩ := h
  refine ⟨ad, cap, rfl, h1, h2, fun h0 => ?_⟩
  obtain ⟨b, o, e, hc⟩ := h3 h0
  exact ⟨b, o, e, fun i hi => by obtain ⟨s, hs⟩ := hc i hi; exact ⟨s, hs.below hb⟩⟩
theorem CodsIn.below {w w' : World} {v : Value} {N : Nat} {C : Nat → Cd} (h : CodsIn w v N C) (hb : Below w.heap.size w w') : CodsIn w' v N C := by
  obtain ⟨ad, cap, rfl, h1, h2, h3⟩ := h
  refine ⟨ad, cap, rfl, h1, h2, fun h0 => ?_⟩
  obtain ⟨b, o, e, hc⟩ := h3 h0
  exact ⟨b, o, e, fun i hi => by obtain ⟨s, hs⟩ := hc i hi; exact ⟨s, hs.below hb⟩⟩
theorem PicsIn.congr {w : World} {v : Value} {N : Nat} {P Q : Nat → Pc} (h : PicsIn w v N P) (e : ∀ i, i < N → P i = Q i) : PicsIn w v N Q := by
  obtain ⟨ad, cap, rfl, h1, h2, h3⟩ := h
  refine ⟨ad, cap, rfl, h1, h2, fun h0 => ?_⟩
  obtain ⟨b, o, e', hc⟩ := h3 h0
  exact ⟨b, o, e', fun i hi => by rw [← e i hi]; exact hc i hi⟩
theorem CodsIn.congr {w : World} {v : Value} {N : Nat} {C D : Nat → Cd} (h : CodsIn w v N C) (e : ∀ i, i < N → C i = D i) : CodsIn w v N D := by
  obtain ⟨ad, cap, rfl, h1, h2, h3⟩ := h
  refine ⟨ad, cap, rfl, h1, h2, fun h0 => ?_⟩
  obtain ⟨b, o, e', hc⟩ := h3 h0
  exact ⟨b, o, e', fun i hi => by rw [← e i hi]; exact hc i hi⟩
/-- The first some. -/
theorem PicsIn.head {w : World} {ad : Option Addr} {N c : Nat} {P : Nat → Pc} (h : PicsIn w (.slice ad N c) N P) {k : Nat} (hk : k ≤ N) : PicsIn w (.slice ad k c) k P := by
  obtain ⟨ad', cap', e, h1, h2, h3⟩ := h
  cases e
  refine ⟨_, _, rfl, by omega, h2, fun h0 => ?_⟩
  obtain ⟨b, o, e, hc⟩ := h3 (by omega)
  exact ⟨b, o, e, fun i hi => hc i (by omega)⟩
theorem CodsIn.head {w : World} {ad : Option Addr} {N c : Nat} {C : Nat → Cd} (h : CodsIn w (.slice ad N c) N C) {k : Nat} (hk : k ≤ N) : CodsIn w (.slice ad k c) k C := by
  obtain ⟨ad', cap', e, h1, h2, h3⟩ := h
  cases e
  refine ⟨_, _, rfl, by omega, h2, fun h0 => ?_⟩
  obtain ⟨b, o, e, hc⟩ := h3 (by omega)
  exact ⟨b, o, e, fun i hi => hc i (by omega)⟩
theorem pics_nil (w : World) (P : Nat → Pc) : PicsIn w (.slice none 0 0) 0 P := ⟨none, 0, rfl, Nat.le_refl _, by unfold maxLen; omega, fun h => by omega⟩
theorem cods_nil (w : World) (C : Nat → Cd) : CodsIn w (.slice none 0 0) 0 C := ⟨none, 0, rfl, Nat.le_refl _, by unfold maxLen; omega, fun h => by omega⟩

theorem open_picsAt {H : Type} {enc : TypeId × Value → H} {W : World} {base : Nat} {v : Value} {d : DataW H} {p : List MemPlace}
    (hv : Value.okWide Tryd.prog W .any base 22 v) (h : DataW.Trod enc Tryd.prog W 0 (fun _ => true) true 22 v d p) : ∃ N P, PicsIn W v N P := by
  obtain ⟨a0, len, cap, rfl⟩ := okWide_slice Tryd.underlying22 hv
  obtain ⟨fuel, hf⟩ := h
  rcases Deep.open_slice Tryd.underlying22 hf with ⟨hcs, hx⟩ | ⟨a, len', cap', m, n, D, Pl, hcs, _, hl, hm, hmm, hx, hcell⟩
  · simp [Value.cells] at hcs
    obtain ⟨rfl, rfl, rfl⟩ := hcs
    exact ⟨0, fun _ => Pc.none, pics_nil _ _⟩
  · simp [Value.cells] at hcs
    obtain ⟨rfl, rfl, rfl⟩ := hcs
    simp only [if_true] at hmm
    have k0 : Tryd.prog.cellsOf 3 = 1 := by kernel_rfl
    have k1 : Tryd.prog.cellsOf 38 = 1 := by kernel_rfl
    have k3 : Tryd.prog.cellsOf 40 = 3 := by kernel_rfl
    have each : ∀ i, i < len → ∃ x : Pc × Value, W.cell? ((a.add (i * 3)).add 0) = some (.int .i64 x.1.a) ∧ W.cell? ((a.add (i * 3)).add 1) = some (.int .i64 x.1.b) ∧ W.cell? ((a.add (i * 3)).add 2) = some x.2 ∧ IntsIn W x.2 x.1.n x.1.f := fun i hi => by
      obtain ⟨cs, h1, h2⟩ := hcell i (by omega)
      rw [k3] at h1
      obtain ⟨_, hlen, hc⟩ := World.cells?_some h1
      obtain ⟨y0, y1, y2, n1, hx1, _, g0, g1, g2⟩ := Deep.trod_struct3 Tryd.underlying40 h2
      match cs, hlen with
      | [v0, v1, v2], _ =>
        simp [k0, k1] at g0 g1 g2
        obtain ⟨q0, e0, _, _⟩ := DataW.trod_int Tryd.underlying3 g0
        obtain ⟨q1, e1, _, _⟩ := DataW.trod_int Tryd.underlying3 g1
        obtain ⟨q2, f, hi2⟩ := open_intsIn g2
        simp at e0 e1
        subst e0 e1
        have c0 := hc 0 (by omega)
        have c1 := hc 1 (by omega)
        have c2 := hc 2 (by omega)
        exact ⟨(⟨q0, q1, q2, f⟩, v2), c0, c1, c2, hi2⟩
    haveI : Inhabited (Pc × Value) := ⟨(Pc.none, .nilIface)⟩
    obtain ⟨g, hg⟩ := Deep.choose_lt (α := Pc × Value) each
    refine ⟨len, fun i => (g i).1, some a, cap, rfl, hl, hm, fun h0 => ?_⟩
    obtain ⟨b, off, spot⟩ := a
    have hspot : spot = none := by
      have h9 := World.cell?_spot (hg 0 h0).1
      simpa [Addr.add] using h9
    subst hspot
    refine ⟨b, off, rfl, fun i hi => ⟨(g i).2, ?_⟩⟩
    obtain ⟨h1, h2, h3, h4⟩ := hg i hi
    rw [Addr.add_lit] at h1 h2 h3
    rw [Addr.add_lit] at h1 h2 h3
    exact ⟨h1, h2, h3, h4⟩
theorem open_codsAt {H : Type} {enc : TypeId × Value → H} {W : World} {base : Nat} {v : Value} {d : DataW H} {p : List MemPlace}
    (hv : Value.okWide Tryd.prog W .any base 23 v) (h : DataW.Trod enc Tryd.prog W 0 (fun _ => true) true 23 v d p) : ∃ N C, CodsIn W v N C := by
  obtain ⟨a0, len, cap, rfl⟩ := okWide_slice Tryd.underlying23 hv
  obtain ⟨fuel, hf⟩ := h
  rcases Deep.open_slice Tryd.underlying23 hf with ⟨hcs, hx⟩ | ⟨a, len', cap', m, n, D, Pl, hcs, _, hl, hm, hmm, hx, hcell⟩
  · simp [Value.cells] at hcs
    obtain ⟨rfl, rfl, rfl⟩ := hcs
    exact ⟨0, fun _ => ⟨false, 0, 0, 0, fun _ => 0⟩, cods_nil _ _⟩
  · simp [Value.cells] at hcs
    obtain ⟨rfl, rfl, rfl⟩ := hcs
    simp only [if_true] at hmm
    have k0 : Tryd.prog.cellsOf 4 = 1 := by kernel_rfl
    have k1 : Tryd.prog.cellsOf 43 = 2 := by kernel_rfl
    have k2 : Tryd.prog.cellsOf 38 = 1 := by kernel_rfl
    have k3 : Tryd.prog.cellsOf 3 = 1 := by kernel_rfl
    have k4 : Tryd.prog.cellsOf 45 = 4 := by kernel_rfl
    have each : ∀ i, i < len → ∃ x : Cd × Value, W.cell? ((a.add (i * 4)).add 0) = some (.bool x.1.al) ∧ W.cell? ((a.add (i * 4)).add 1) = some (.int .i64 x.1.x) ∧ W.cell? ((a.add (i * 4)).add 2) = some (.int .i64 x.1.y) ∧ W.cell? ((a.add (i * 4)).add 3) = some x.2 ∧ IntsIn W x.2 x.1.n x.1.f := fun i hi => by
      obtain ⟨cs, h1, h2⟩ := hcell i (by omega)
      rw [k4] at h1
      obtain ⟨_, hlen, hc⟩ := World.cells?_some h1
      obtain ⟨y0, y1, y2, n1, hx1, _, g0, g1, g2⟩ := Deep.trod_struct3 Tryd.underlying45 h2
      match cs, hlen with
      | [v0, v1, v2, v3], _ =>
        simp [k0, k1, k2] at g0 g1 g2
        obtain ⟨z0, z1, n2, hx2, _, g3, g4⟩ := trod_struct2 Tryd.underlying43 g1
        simp [k3] at g3 g4
        obtain ⟨al, e0, _⟩ := DataW.trod_bool Tryd.underlying4 g0
        obtain ⟨q0, e1, _, _⟩ := DataW.trod_int Tryd.underlying3 g3
        obtain ⟨q1, e2, _, _⟩ := DataW.trod_int Tryd.underlying3 g4
        obtain ⟨q2, f, hi2⟩ := open_intsIn g2
        simp at e0 e1 e2
        subst e0 e1 e2
        have c0 := hc 0 (by omega)
        have c1 := hc 1 (by omega)
        have c2 := hc 2 (by omega)
        have c3 := hc 3 (by omega)
        exact ⟨(⟨al, q0, q1, q2, f⟩, v3), c0, c1, c2, c3, hi2⟩
    haveI : Inhabited (Cd × Value) := ⟨(⟨false, 0, 0, 0, fun _ => 0⟩, .nilIface)⟩
    obtain ⟨g, hg⟩ := Deep.choose_lt (α := Cd × Value) each
    refine ⟨len, fun i => (g i).1, some a, cap, rfl, hl, hm, fun h0 => ?_⟩
    obtain ⟨b, off, spot⟩ := a
    have hspot : spot = none := by
      have h9 := World.cell?_spot (hg 0 h0).1
      simpa [Addr.add] using h9
    subst hspot
    refine ⟨b, off, rfl, fun i hi => ⟨(g i).2, ?_⟩⟩
    obtain ⟨h1, h2, h3, h4, h5⟩ := hg i hi
    rw [Addr.add_lit] at h1 h2 h3 h4
    rw [Addr.add_lit] at h1 h2 h3 h4
    exact ⟨h1, h2, h3, h4, h5⟩
end Go.Proofs.YtfgcngjggdjcjaaDoor
