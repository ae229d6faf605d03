/-
  Lemmas for the law above, joined into one text (PicA, FlA, FlDb, PicE). No statement is proved here.
-/
import Derived.Test.YtjhflcgphejddaaDoorHG4
import Derived.ProofKit
import Derived.OpenShut
import Derived.ChangeSlices
import Derived.Lib.SmallJoins
import Derived.Test.YtjhflcgphejddaaDoorHG2
import Derived.Deep.Slices
import Derived.Deep.Strs
import Derived.ChangeSame
import Derived.Test.YtjhflcgphejddaaDoorHG8
import Derived.Deep.DeepCutAuto
import Derived.Test.YtjhflcgphejddaaDoorHG0
import Derived.Laws.Cover1
namespace Go.Proofs.YtjhflcgphejddaaDoor
open Go.ChangeShapes Go.WideShapes Go.ChangeAt Go.RowKit Go.Joins
set_option linter.unusedVariables false
set_option maxRecDepth 100000

theorem cellsInt' : Tryd.prog.cellsOf 3 = 1 := by kernel_rfl

/-- A slice of ints by its own cells. -/
theorem open_intsIn {H : Type} {enc : TypeId × Value → H} {W : World} {v : Value} {fuel : Nat} {x : DataW H × List MemPlace}
    (hf : DataW.trod enc Tryd.prog W 0 (fun _ => true) true fuel 36 [v] = some x) : ∃ n f, IntsIn W v n f := by
  rcases open_ints Tryd.underlying36 Tryd.underlying3 cellsInt' hf with ⟨hcs, hx⟩ | ⟨a, len', cap', ss, hcs, _, hl, hm, hz, hx, hcell, hws⟩
  · simp at hcs
    subst hcs
    exact ⟨0, fun _ => 0, Or.inl ⟨rfl, none, 0, rfl⟩⟩
  · simp at hcs
    subst hcs
    simp only [if_true] at hz
    by_cases h0 : len' = 0
    · subst h0
      exact ⟨0, fun _ => 0, Or.inl ⟨rfl, some a, cap', rfl⟩⟩
    · obtain ⟨b, off, spot⟩ := a
      have hspot : spot = none := by simpa [Addr.add] using World.cell?_spot (hcell 0 (by omega))
      subst hspot
      refine ⟨len', fun i => ss.getD i 0, Or.inr ⟨by omega, b, off, cap', rfl, fun i hi => ?_⟩⟩
      rw [← add_plain]; exact hcell i (by omega)

theorem open_picAt {H : Type} {enc : TypeId × Value → H} {W : World} {base : Nat} {v : Value} {d : DataW H} {p : List MemPlace}
    (hv : Value.okWide Tryd.prog W .any base 46 v) (h : DataW.Trod enc Tryd.prog W 0 (fun _ => true) true 46 v d p) : ∃ a b s n f, v = .agg #[.int .i64 a, .int .i64 b, s] ∧ IntsIn W s n f := by
  obtain ⟨v0, v1, v2, y0, y1, y2, m, rfl, rfl, rfl, h0, h1, h2⟩ := open_agg3 Tryd.underlying46 (by kernel_rfl) (show Tryd.prog.cellsOf 46 = 3 by kernel_rfl) hv h
  obtain ⟨a, e0, _, _⟩ := DataW.trod_int Tryd.underlying3 h0
  obtain ⟨b, e1, _, _⟩ := DataW.trod_int Tryd.underlying3 h1
  obtain ⟨n, f, hi⟩ := open_intsIn h2
  simp at e0 e1
  subst e0 e1
  exact ⟨a, b, v2, n, f, rfl, hi⟩

end Go.Proofs.YtjhflcgphejddaaDoor

namespace Go.Proofs.YtjhflcgphejddaaDoor
open Go.ChangeShapes Go.WideShapes Go.ChangeAt Go.RowKit Go.Joins
set_option linter.unusedVariables false
set_option maxRecDepth 100000

/-- A picture in three cells from o on. -/
def PicC (w : World) (b o : Nat) (p : Pc) (s : Value) : Prop :=
  w.cell? ⟨b, o, none⟩ = some (.int .i64 p.a) ∧ w.cell? ⟨b, o + 1, none⟩ = some (.int .i64 p.b) ∧ w.cell? ⟨b, o + 2, none⟩ = some s ∧ IntsIn w s p.n p.f
/-- A coded picture in four cells from o on. -/
def CodC (w : World) (b o : Nat) (c : Cd) (s : Value) : Prop :=
  w.cell? ⟨b, o, none⟩ = some (.bool c.al) ∧ w.cell? ⟨b, o + 1, none⟩ = some (.int .i64 c.x) ∧ w.cell? ⟨b, o + 2, none⟩ = some (.int .i64 c.y) ∧ w.cell? ⟨b, o + 3, none⟩ = some s ∧ IntsIn w s c.n c.f
theorem PicC.below {w w' : World} {b o : Nat} {p : Pc} {s : Value} (h : PicC w b o p s) (hb : Below w.heap.size w w') : PicC w' b o p s :=
  ⟨cell_below hb h.1, cell_below hb h.2.1, cell_below hb h.2.2.1, h.2.2.2.below hb⟩
theorem CodC.below {w w' : World} {b o : Nat} {c : Cd} {s : Value} (h : CodC w b o c s) (hb : Below w.heap.size w w') : CodC w' b o c s :=
  ⟨cell_below hb h.1, cell_below hb h.2.1, cell_below hb h.2.2.1, cell_below hb h.2.2.2.1, h.2.2.2.2.below hb⟩
/-- A slice of pictures. -/
def PicsIn (w : World) (v : Value) (N : Nat) (P : Nat → Pc) : Prop :=
  ∃ ad cap, v = .slice ad N cap ∧ N ≤ cap ∧ cap ≤ maxLen ∧ (0 < N → ∃ b o, ad = some ⟨b, o, none⟩ ∧ ∀ i, i < N → ∃ s, PicC w b (o + i * 3) (P i) s)
/-- A slice of coded pictures. -/
def CodsIn (w : World) (v : Value) (N : Nat) (C : Nat → Cd) : Prop :=
  ∃ ad cap, v = .slice ad N cap ∧ N ≤ cap ∧ cap ≤ maxLen ∧ (0 < N → ∃ b o, ad = some ⟨b, o, none⟩ ∧ ∀ i, i < N → ∃ s, CodC w b (o + i * 4) (C i) s)
theorem PicsIn.below {w w' : World} {v : Value} {N : Nat} {P : Nat → Pc} (h : PicsIn w v N P) (hb : Below w.heap.size w w') : PicsIn w' v N P := by
  obtain ⟨ad, cap, rfl, h1, h2, h3⟩ := h
  refine ⟨ad, cap, rfl, h1, h2, fun h0 => ?_⟩
  obtain ⟨b, o, e, hc⟩ := h3 h0
  exact ⟨b, o, e, fun i hi => by obtain ⟨s, hs⟩ := hc i hi; exact ⟨s, hs.below hb⟩⟩
theorem CodsIn.below {w w' : World} {v : Value} {N : Nat} {C : Nat → Cd} (h : CodsIn w v N C) (hb : Below w.heap.size w w') : CodsIn w' v N C := by
  obtain ⟨ad, cap, rfl, h1, h2, h3⟩ := h
  refine ⟨ad, cap, rfl, h1, h2, fun h0 => ?_⟩
  obtain ⟨b, o, e, hc⟩ := h3 h0
  exact ⟨b, o, e, fun i hi => by obtain ⟨s, hs⟩ := hc i hi; exact ⟨s, hs.below hb⟩⟩
theorem PicsIn.congr {w : World} {v : Value} {N : Nat} {P Q : Nat → Pc} (h : PicsIn w v N P) (e : ∀ i, i < N → P i = Q i) : PicsIn w v N Q := by
  obtain ⟨ad, cap, rfl, h1, h2, h3⟩ := h
  refine ⟨ad, cap, rfl, h1, h2, fun h0 => ?_⟩
  obtain ⟨b, o, e', hc⟩ := h3 h0
  exact ⟨b, o, e', fun i hi => by rw [← e i hi]; exact hc i hi⟩
theorem CodsIn.congr {w : World} {v : Value} {N : Nat} {C D : Nat → Cd} (h : CodsIn w v N C) (e : ∀ i, i < N → C i = D i) : CodsIn w v N D := by
  obtain ⟨ad, cap, rfl, h1, h2, h3⟩ := h
  refine ⟨ad, cap, rfl, h1, h2, fun h0 => ?_⟩
  obtain ⟨b, o, e', hc⟩ := h3 h0
  exact ⟨b, o, e', fun i hi => by rw [← e i hi]; exact hc i hi⟩
/-- The first some. -/
theorem PicsIn.head {w : World} {ad : Option Addr} {N c : Nat} {P : Nat → Pc} (h : PicsIn w (.slice ad N c) N P) {k : Nat} (hk : k ≤ N) : PicsIn w (.slice ad k c) k P := by
  obtain ⟨ad', cap', e, h1, h2, h3⟩ := h
  cases e
  refine ⟨_, _, rfl, by omega, h2, fun h0 => ?_⟩
  obtain ⟨b, o, e, hc⟩ := h3 (by omega)
  exact ⟨b, o, e, fun i hi => hc i (by omega)⟩
theorem CodsIn.head {w : World} {ad : Option Addr} {N c : Nat} {C : Nat → Cd} (h : CodsIn w (.slice ad N c) N C) {k : Nat} (hk : k ≤ N) : CodsIn w (.slice ad k c) k C := by
  obtain ⟨ad', cap', e, h1, h2, h3⟩ := h
  cases e
  refine ⟨_, _, rfl, by omega, h2, fun h0 => ?_⟩
  obtain ⟨b, o, e, hc⟩ := h3 (by omega)
  exact ⟨b, o, e, fun i hi => hc i (by omega)⟩
theorem pics_nil (w : World) (P : Nat → Pc) : PicsIn w (.slice none 0 0) 0 P := ⟨none, 0, rfl, Nat.le_refl _, by unfold maxLen; omega, fun h => by omega⟩
theorem cods_nil (w : World) (C : Nat → Cd) : CodsIn w (.slice none 0 0) 0 C := ⟨none, 0, rfl, Nat.le_refl _, by unfold maxLen; omega, fun h => by omega⟩

theorem open_picsAt {H : Type} {enc : TypeId × Value → H} {W : World} {base : Nat} {v : Value} {d : DataW H} {p : List MemPlace}
    (hv : Value.okWide Tryd.prog W .any base 41 v) (h : DataW.Trod enc Tryd.prog W 0 (fun _ => true) true 41 v d p) : ∃ N P, PicsIn W v N P := by
  obtain ⟨a0, len, cap, rfl⟩ := okWide_slice Tryd.underlying41 hv
  obtain ⟨fuel, hf⟩ := h
  rcases Deep.open_slice Tryd.underlying41 hf with ⟨hcs, hx⟩ | ⟨a, len', cap', m, n, D, Pl, hcs, _, hl, hm, hmm, hx, hcell⟩
  · simp [Value.cells] at hcs
    obtain ⟨rfl, rfl, rfl⟩ := hcs
    exact ⟨0, fun _ => Pc.none, pics_nil _ _⟩
  · simp [Value.cells] at hcs
    obtain ⟨rfl, rfl, rfl⟩ := hcs
    simp only [if_true] at hmm
    have k0 : Tryd.prog.cellsOf 3 = 1 := by kernel_rfl
    have k1 : Tryd.prog.cellsOf 36 = 1 := by kernel_rfl
    have k3 : Tryd.prog.cellsOf 46 = 3 := by kernel_rfl
    have each : ∀ i, i < len → ∃ x : Pc × Value, W.cell? ((a.add (i * 3)).add 0) = some (.int .i64 x.1.a) ∧ W.cell? ((a.add (i * 3)).add 1) = some (.int .i64 x.1.b) ∧ W.cell? ((a.add (i * 3)).add 2) = some x.2 ∧ IntsIn W x.2 x.1.n x.1.f := fun i hi => by
      obtain ⟨cs, h1, h2⟩ := hcell i (by omega)
      rw [k3] at h1
      obtain ⟨_, hlen, hc⟩ := World.cells?_some h1
      obtain ⟨y0, y1, y2, n1, hx1, _, g0, g1, g2⟩ := Deep.trod_struct3 Tryd.underlying46 h2
      match cs, hlen with
      | [v0, v1, v2], _ =>
        simp [k0, k1] at g0 g1 g2
        obtain ⟨q0, e0, _, _⟩ := DataW.trod_int Tryd.underlying3 g0
        obtain ⟨q1, e1, _, _⟩ := DataW.trod_int Tryd.underlying3 g1
        obtain ⟨q2, f, hi2⟩ := open_intsIn g2
        simp at e0 e1
        subst e0 e1
        have c0 := hc 0 (by omega)
        have c1 := hc 1 (by omega)
        have c2 := hc 2 (by omega)
        exact ⟨(⟨q0, q1, q2, f⟩, v2), c0, c1, c2, hi2⟩
    haveI : Inhabited (Pc × Value) := ⟨(Pc.none, .nilIface)⟩
    obtain ⟨g, hg⟩ := Deep.choose_lt (α := Pc × Value) each
    refine ⟨len, fun i => (g i).1, some a, cap, rfl, hl, hm, fun h0 => ?_⟩
    obtain ⟨b, off, spot⟩ := a
    have hspot : spot = none := by
      have h9 := World.cell?_spot (hg 0 h0).1
      simpa [Addr.add] using h9
    subst hspot
    refine ⟨b, off, rfl, fun i hi => ⟨(g i).2, ?_⟩⟩
    obtain ⟨h1, h2, h3, h4⟩ := hg i hi
    rw [Addr.add_lit] at h1 h2 h3
    rw [Addr.add_lit] at h1 h2 h3
    exact ⟨h1, h2, h3, h4⟩
theorem open_codsAt {H : Type} {enc : TypeId × Value → H} {W : World} {base : Nat} {v : Value} {d : DataW H} {p : List MemPlace}
    (hv : Value.okWide Tryd.prog W .any base 22 v) (h : DataW.Trod enc Tryd.prog W 0 (fun _ => true) true 22 v d p) : ∃ N C, CodsIn W v N C := by
  obtain ⟨a0, len, cap, rfl⟩ := okWide_slice Tryd.underlying22 hv
  obtain ⟨fuel, hf⟩ := h
  rcases Deep.open_slice Tryd.underlying22 hf with ⟨hcs, hx⟩ | ⟨a, len', cap', m, n, D, Pl, hcs, _, hl, hm, hmm, hx, hcell⟩
  · simp [Value.cells] at hcs
    obtain ⟨rfl, rfl, rfl⟩ := hcs
    exact ⟨0, fun _ => ⟨false, 0, 0, 0, fun _ => 0⟩, cods_nil _ _⟩
  · simp [Value.cells] at hcs
    obtain ⟨rfl, rfl, rfl⟩ := hcs
    simp only [if_true] at hmm
    have k0 : Tryd.prog.cellsOf 4 = 1 := by kernel_rfl
    have k1 : Tryd.prog.cellsOf 38 = 2 := by kernel_rfl
    have k2 : Tryd.prog.cellsOf 36 = 1 := by kernel_rfl
    have k3 : Tryd.prog.cellsOf 3 = 1 := by kernel_rfl
    have k4 : Tryd.prog.cellsOf 40 = 4 := by kernel_rfl
    have each : ∀ i, i < len → ∃ x : Cd × Value, W.cell? ((a.add (i * 4)).add 0) = some (.bool x.1.al) ∧ W.cell? ((a.add (i * 4)).add 1) = some (.int .i64 x.1.x) ∧ W.cell? ((a.add (i * 4)).add 2) = some (.int .i64 x.1.y) ∧ W.cell? ((a.add (i * 4)).add 3) = some x.2 ∧ IntsIn W x.2 x.1.n x.1.f := fun i hi => by
      obtain ⟨cs, h1, h2⟩ := hcell i (by omega)
      rw [k4] at h1
      obtain ⟨_, hlen, hc⟩ := World.cells?_some h1
      obtain ⟨y0, y1, y2, n1, hx1, _, g0, g1, g2⟩ := Deep.trod_struct3 Tryd.underlying40 h2
      match cs, hlen with
      | [v0, v1, v2, v3], _ =>
        simp [k0, k1, k2] at g0 g1 g2
        obtain ⟨z0, z1, n2, hx2, _, g3, g4⟩ := trod_struct2 Tryd.underlying38 g1
        simp [k3] at g3 g4
        obtain ⟨al, e0, _⟩ := DataW.trod_bool Tryd.underlying4 g0
        obtain ⟨q0, e1, _, _⟩ := DataW.trod_int Tryd.underlying3 g3
        obtain ⟨q1, e2, _, _⟩ := DataW.trod_int Tryd.underlying3 g4
        obtain ⟨q2, f, hi2⟩ := open_intsIn g2
        simp at e0 e1 e2
        subst e0 e1 e2
        have c0 := hc 0 (by omega)
        have c1 := hc 1 (by omega)
        have c2 := hc 2 (by omega)
        have c3 := hc 3 (by omega)
        exact ⟨(⟨al, q0, q1, q2, f⟩, v3), c0, c1, c2, c3, hi2⟩
    haveI : Inhabited (Cd × Value) := ⟨(⟨false, 0, 0, 0, fun _ => 0⟩, .nilIface)⟩
    obtain ⟨g, hg⟩ := Deep.choose_lt (α := Cd × Value) each
    refine ⟨len, fun i => (g i).1, some a, cap, rfl, hl, hm, fun h0 => ?_⟩
    obtain ⟨b, off, spot⟩ := a
    have hspot : spot = none := by
      have h9 := World.cell?_spot (hg 0 h0).1
      simpa [Addr.add] using h9
    subst hspot
    refine ⟨b, off, rfl, fun i hi => ⟨(g i).2, ?_⟩⟩
    obtain ⟨h1, h2, h3, h4, h5⟩ := hg i hi
    rw [Addr.add_lit] at h1 h2 h3 h4
    rw [Addr.add_lit] at h1 h2 h3 h4
    exact ⟨h1, h2, h3, h4, h5⟩
end Go.Proofs.YtjhflcgphejddaaDoor

namespace Go.Proofs.YtjhflcgphejddaaDoor
open Go.RowKit
set_option linter.unusedVariables false
set_option maxRecDepth 100000

theorem seeF_cnt {a b s : Int} {N : Nat} {C : Nat → Cd} (h : cntF N ≠ 0) : seeF a b s N C = cntF N := by
  unfold cntF at h ⊢
  unfold seeF
  by_cases h0 : N = 0
  · rw [if_pos h0, if_pos h0]
  · by_cases h6 : 6 < N
    · rw [if_neg h0, if_pos h6, if_neg h0, if_pos h6]
    · rw [if_neg h0, if_neg h6] at h; exact absurd rfl h
theorem sidF_in {a b s : Int} : sidF a b s = if ((inOk a 6 && inOk b 6) && inOk s 64) = true then 0 else 1 := by
  unfold sidF
  by_cases h : ((inOk a 6 && inOk b 6) && inOk s 64) = true
  · rw [if_pos h]
    rw [Bool.and_eq_true, Bool.and_eq_true, inOk_iff, inOk_iff, inOk_iff] at h
    rw [if_pos ⟨h.1.1.1, h.1.1.2, h.1.2.1, h.1.2.2, h.2.1, h.2.2⟩]
  · rw [if_neg h, if_neg]
    intro h2
    apply h
    rw [Bool.and_eq_true, Bool.and_eq_true, inOk_iff, inOk_iff, inOk_iff]
    exact ⟨⟨⟨h2.1, h2.2.1⟩, ⟨h2.2.2.1, h2.2.2.2.1⟩⟩, h2.2.2.2.2⟩
theorem seeF_sid {a b s : Int} {N : Nat} {C : Nat → Cd} (h1 : 1 ≤ N) (h6 : N ≤ 6) (h : sidF a b s ≠ 0) : seeF a b s N C = 1 := by
  unfold seeF
  rw [if_neg (by omega), if_neg (by omega), if_pos h]
theorem seeF_al {a b s : Int} {N : Nat} {C : Nat → Cd} (h1 : 1 ≤ N) (h6 : N ≤ 6) (h : sidF a b s = 0) (ha : (C 0).al = false) : seeF a b s N C = 3 := by
  unfold seeF
  rw [if_neg (by omega), if_neg (by omega), if_neg (by omega), if_pos ha]
theorem seeF_see {a b s : Int} {N : Nat} {C : Nat → Cd} (h1 : 1 ≤ N) (h6 : N ≤ 6) (h : sidF a b s = 0) (ha : (C 0).al = true) : seeF a b s N C = (seeS a b s C N).1 := by
  unfold seeF
  rw [if_neg (by omega), if_neg (by omega), if_neg (by omega), if_neg (by rw [ha]; simp)]

set_option maxHeartbeats 2000000 in
theorem fdec_bad {w : World} {v : Value} {N : Nat} {C : Nat → Cd} (a b st : Int) (h : CodsIn w v N C) (hx : cntF N ≠ 0 ∨ sidF a b st ≠ 0 ∨ (C 0).al = false) :
    Calls Tryd.prog 12 #[.int .i64 a, .int .i64 b, .int .i64 st, v] w fun e w' => e = .returned (.tuple #[.slice none 0 0, errN (seeF a b st N C)]) ∧ Below w.heap.size w w' := by
  have K := hide (fun w => fcount_ok N w)
  obtain ⟨ad, cap, rfl, _, _, h3⟩ := h
  by_cases hc : cntF N = 0
  · obtain ⟨h1, h6⟩ := cntF_zero.1 hc
    obtain ⟨bb, o, rfl, hcs⟩ := h3 (by omega)
    obtain ⟨s0, hs0⟩ := hcs 0 (by omega)
    rw [show o + 0 * 4 = o by omega] at hs0
    obtain ⟨c0, _, _, _, _⟩ := hs0
    rw [hc] at K
    have hx2 := hx.resolve_left (by omega)
    clear hcs h3 hx hc
    have K1 := hide (fun w => fwithin_ok a 6 w)
    have K2 := hide (fun w => fwithin_ok b 6 w)
    have K3 := hide (fun w => fwithin_ok st 64 w)
    cases q1 : inOk a 6 with
    | false =>
      have HE := hide (seeF_sid (C := C) h1 h6 (by rw [sidF_in (a := a) (b := b) (s := st), q1]; simp))
      rw [q1] at K1
      clear hx2 q1 K2 K3
      go_enter Tryd.func12, Tryd.ntmps12
      go_wp2_with fail
      refine (K.out _).mono ?_
      rintro e w1 ⟨rfl, rfl⟩
      rw [errN_zero]
      go_wp2_with fail
      refine (K1.out _).mono ?_
      rintro e w2 ⟨rfl, rfl⟩
      go_wp2
      go_ret2
      exact ⟨by rw [HE.out]; rfl, Below.refl _ _⟩
    | true =>
      rw [q1] at K1
      cases q2 : inOk b 6 with
      | false =>
        have HE := hide (seeF_sid (C := C) h1 h6 (by rw [sidF_in (a := a) (b := b) (s := st), q1, q2]; simp))
        rw [q2] at K2
        clear hx2 q1 q2 K3
        go_enter Tryd.func12, Tryd.ntmps12
        go_wp2_with fail
        refine (K.out _).mono ?_
        rintro e w1 ⟨rfl, rfl⟩
        rw [errN_zero]
        go_wp2_with fail
        refine (K1.out _).mono ?_
        rintro e w2 ⟨rfl, rfl⟩
        go_wp2_with fail
        refine (K2.out _).mono ?_
        rintro e w2 ⟨rfl, rfl⟩
        go_wp2
        go_ret2
        exact ⟨by rw [HE.out]; rfl, Below.refl _ _⟩
      | true =>
        rw [q2] at K2
        cases q3 : inOk st 64 with
        | false =>
          have HE := hide (seeF_sid (C := C) h1 h6 (by rw [sidF_in (a := a) (b := b) (s := st), q1, q2, q3]; simp))
          rw [q3] at K3
          clear hx2 q1 q2 q3
          go_enter Tryd.func12, Tryd.ntmps12
          go_wp2_with fail
          refine (K.out _).mono ?_
          rintro e w1 ⟨rfl, rfl⟩
          rw [errN_zero]
          go_wp2_with fail
          refine (K1.out _).mono ?_
          rintro e w2 ⟨rfl, rfl⟩
          go_wp2_with fail
          refine (K2.out _).mono ?_
          rintro e w2 ⟨rfl, rfl⟩
          go_wp2_with fail
          refine (K3.out _).mono ?_
          rintro e w2 ⟨rfl, rfl⟩
          go_wp2
          go_ret2
          exact ⟨by rw [HE.out]; rfl, Below.refl _ _⟩
        | true =>
          have hs : sidF a b st = 0 := by rw [sidF_in, q1, q2, q3]; rfl
          have ha := hx2.resolve_left (by omega)
          have HE := hide (seeF_al (C := C) h1 h6 hs ha)
          rw [ha] at c0
          rw [q3] at K3
          clear hx2 q1 q2 q3 hs ha
          go_enter Tryd.func12, Tryd.ntmps12
          go_wp2_with fail
          refine (K.out _).mono ?_
          rintro e w1 ⟨rfl, rfl⟩
          rw [errN_zero]
          go_wp2_with fail
          refine (K1.out _).mono ?_
          rintro e w2 ⟨rfl, rfl⟩
          go_wp2_with fail
          refine (K2.out _).mono ?_
          rintro e w2 ⟨rfl, rfl⟩
          go_wp2_with fail
          refine (K3.out _).mono ?_
          rintro e w2 ⟨rfl, rfl⟩
          go_wp2
          go_ret2
          exact ⟨by rw [HE.out]; rfl, Below.refl _ _⟩
  · have HE := hide (seeF_cnt (a := a) (b := b) (s := st) (C := C) hc)
    have HN := hide (errN_pos hc)
    clear h3 hx
    generalize cntF N = k at *
    clear hc
    go_enter Tryd.func12, Tryd.ntmps12
    go_wp2_with fail
    refine (K.out _).mono ?_
    rintro e w1 ⟨rfl, rfl⟩
    rw [HN.out]
    go_wp2
    go_ret2
    exact ⟨by rw [HE.out, HN.out]; rfl, Below.refl _ _⟩
end Go.Proofs.YtjhflcgphejddaaDoor

namespace Go.Proofs.YtjhflcgphejddaaDoor
open Go.RowKit
set_option linter.unusedVariables false
set_option maxRecDepth 100000

def sideOk (n : Int) : Bool := decide (1 ≤ n) && decide (n ≤ 6)
def pixelOk (n : Int) : Bool := decide (0 ≤ n) && decide (n ≤ 255)
def farOk (n : Int) : Bool := decide (-6 ≤ n) && decide (n ≤ 6)
theorem sideOk_iff {n : Int} : sideOk n = true ↔ 1 ≤ n ∧ n ≤ 6 := by simp [sideOk]
theorem sideOk_not {n : Int} : sideOk n = false ↔ n < 1 ∨ 6 < n := by rw [← Bool.not_eq_true, sideOk_iff]; omega
theorem pixelOk_iff {n : Int} : pixelOk n = true ↔ 0 ≤ n ∧ n ≤ 255 := by simp [pixelOk]
theorem pixelOk_not {n : Int} : pixelOk n = false ↔ n < 0 ∨ 255 < n := by rw [← Bool.not_eq_true, pixelOk_iff]; omega
theorem farOk_iff {n : Int} : farOk n = true ↔ -6 ≤ n ∧ n ≤ 6 := by simp [farOk]
theorem farOk_not {n : Int} : farOk n = false ↔ n < -6 ∨ 6 < n := by rw [← Bool.not_eq_true, farOk_iff]; omega
theorem sides_two {a b : Int} : sidesOk a b = (sideOk a && sideOk b) := by
  simp [sidesOk, sideOk, Bool.and_assoc]

theorem pside_ok (n : Int) (w : World) : Calls Tryd.prog 30 #[.int .i64 n] w fun e w' => e = .returned (.bool (sideOk n)) ∧ w = w' := by
  rcases Int.lt_or_le n 1 with h | h
  · go_enter Tryd.func30, Tryd.ntmps30
    go_wp2
    go_ret
    exact ⟨ret_bool (sideOk_not.2 (Or.inl h)).symm, rfl⟩
  · rcases Int.lt_or_le 6 n with k | k
    · go_enter Tryd.func30, Tryd.ntmps30
      go_wp2
      go_ret
      exact ⟨ret_bool (by first | exact (sideOk_not.2 (Or.inr k)).symm | (rw [Bool.eq_iff_iff, sideOk_iff, decide_eq_true_iff]; omega)), rfl⟩
    · go_enter Tryd.func30, Tryd.ntmps30
      go_wp2
      go_ret
      exact ⟨ret_bool (sideOk_iff.2 ⟨h, k⟩).symm, rfl⟩
theorem ppixel_ok (n : Int) (w : World) : Calls Tryd.prog 31 #[.int .i64 n] w fun e w' => e = .returned (.bool (pixelOk n)) ∧ w = w' := by
  rcases Int.lt_or_le n 0 with h | h
  · go_enter Tryd.func31, Tryd.ntmps31
    go_wp2
    go_ret
    exact ⟨ret_bool (pixelOk_not.2 (Or.inl h)).symm, rfl⟩
  · rcases Int.lt_or_le 255 n with k | k
    · go_enter Tryd.func31, Tryd.ntmps31
      go_wp2
      go_ret
      exact ⟨ret_bool (by first | exact (pixelOk_not.2 (Or.inr k)).symm | (rw [Bool.eq_iff_iff, pixelOk_iff, decide_eq_true_iff]; omega)), rfl⟩
    · go_enter Tryd.func31, Tryd.ntmps31
      go_wp2
      go_ret
      exact ⟨ret_bool (pixelOk_iff.2 ⟨h, k⟩).symm, rfl⟩
end Go.Proofs.YtjhflcgphejddaaDoor
