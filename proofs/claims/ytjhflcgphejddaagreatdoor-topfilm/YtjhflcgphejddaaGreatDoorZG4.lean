/-
  Lemmas for the law above, joined into one text (PicV, CodB, RcB, BmM, BmV, RcSl, BmP). No statement is proved here.
-/
import Derived.Test.YtjhflcgphejddaaGreatDoorZG3
import Derived.Test.YtjhflcgphejddaaGreatDoorZG0
import Derived.Laws.BitsAllLaws
import Derived.Test.YtjhflcgphejddaaGreatDoorZG2
import Derived.BigRegion
import Derived.Deep.QuietTactic
import Derived.BigQuiet
namespace Go.Proofs.YtjhflcgphejddaaGreatDoor
open Go.RowKit
set_option linter.unusedVariables false
set_option maxRecDepth 100000

/-- A block that holds a Move. -/
def MoveIn (w : World) (b : Nat) (x y : Int) : Prop := w.cell? ⟨b, 0, none⟩ = some (.int .i64 x) ∧ w.cell? ⟨b, 1, none⟩ = some (.int .i64 y)
theorem moveIn_new (w : World) (x y : Int) : MoveIn (w.alloc (.cells #[.int .i64 x, .int .i64 y] 64)) w.heap.size x y := ⟨by simp, by simp⟩
theorem MoveIn.below {w w' : World} {b : Nat} {x y : Int} (h : MoveIn w b x y) (hb : Below w.heap.size w w') : MoveIn w' b x y := ⟨cell_below hb h.1, cell_below hb h.2⟩
theorem MoveIn.mono {w w' : World} {B b : Nat} {x y : Int} (h : MoveIn w b x y) (hb : Below B w w') (hlt : b < B) : MoveIn w' b x y := ⟨(hb.cell hlt).trans h.1, (hb.cell hlt).trans h.2⟩
theorem MoveIn.setOther {w : World} {b b2 o : Nat} {x y : Int} (h : MoveIn w b x y) (hne : b ≠ b2) (u : Value) : MoveIn (w.setCell ⟨b2, o, none⟩ u) b x y := by
  refine ⟨?_, ?_⟩
  · rw [World.cell?_setCell_other _ _ _ _ (fun e => hne (by cases e; rfl))]; exact h.1
  · rw [World.cell?_setCell_other _ _ _ _ (fun e => hne (by cases e; rfl))]; exact h.2
end Go.Proofs.YtjhflcgphejddaaGreatDoor

namespace Go.Proofs.YtjhflcgphejddaaGreatDoor
open Go.RowKit
set_option linter.unusedVariables false
set_option maxRecDepth 100000

/-- A block that holds a Coded, none of it frozen. -/
structure CodIn (w : World) (b : Nat) (al : Bool) (x y : Int) (s : Value) : Prop where
  c0 : w.cell? ⟨b, 0, none⟩ = some (.bool al)
  c1 : w.cell? ⟨b, 1, none⟩ = some (.int .i64 x)
  c2 : w.cell? ⟨b, 2, none⟩ = some (.int .i64 y)
  c3 : w.cell? ⟨b, 3, none⟩ = some s
  g0 : w.frozen? ⟨b, 0, none⟩ = false
  g1 : w.frozen? ⟨b, 1, none⟩ = false
  g2 : w.frozen? ⟨b, 2, none⟩ = false
  g3 : w.frozen? ⟨b, 3, none⟩ = false
theorem codIn_new (w : World) (al : Bool) (x y : Int) (s : Value) : CodIn (w.alloc (.cells #[.bool al, .int .i64 x, .int .i64 y, s] 66)) w.heap.size al x y s :=
  ⟨by simp, by simp, by simp, by simp, by simp only [World.frozen?, (MapKept.heap_alloc w _).1]; simp, by simp only [World.frozen?, (MapKept.heap_alloc w _).1]; simp, by simp only [World.frozen?, (MapKept.heap_alloc w _).1]; simp, by simp only [World.frozen?, (MapKept.heap_alloc w _).1]; simp⟩
theorem CodIn.lt {w : World} {b : Nat} {al : Bool} {x y : Int} {s : Value} (h : CodIn w b al x y s) : b < w.heap.size := cell_lt h.c0
theorem CodIn.mono {w w' : World} {B b : Nat} {al : Bool} {x y : Int} {s : Value} (h : CodIn w b al x y s) (hb : Below B w w') (hlt : b < B) : CodIn w' b al x y s :=
  ⟨(hb.cell hlt).trans h.c0, (hb.cell hlt).trans h.c1, (hb.cell hlt).trans h.c2, (hb.cell hlt).trans h.c3, (hb.frozen hlt).trans h.g0, (hb.frozen hlt).trans h.g1, (hb.frozen hlt).trans h.g2, (hb.frozen hlt).trans h.g3⟩
theorem CodIn.below {w w' : World} {b : Nat} {al : Bool} {x y : Int} {s : Value} (h : CodIn w b al x y s) (hb : Below w.heap.size w w') : CodIn w' b al x y s := h.mono hb h.lt
theorem CodIn.setOther {w : World} {b b2 o : Nat} {al : Bool} {x y : Int} {s : Value} (h : CodIn w b al x y s) (hne : b ≠ b2) (u : Value) : CodIn (w.setCell ⟨b2, o, none⟩ u) b al x y s := by
  refine ⟨?_, ?_, ?_, ?_, by rw [World.frozen?_setCell]; exact h.g0, by rw [World.frozen?_setCell]; exact h.g1, by rw [World.frozen?_setCell]; exact h.g2, by rw [World.frozen?_setCell]; exact h.g3⟩
  · rw [World.cell?_setCell_other _ _ _ _ (fun e => hne (by cases e; rfl))]; exact h.c0
  · rw [World.cell?_setCell_other _ _ _ _ (fun e => hne (by cases e; rfl))]; exact h.c1
  · rw [World.cell?_setCell_other _ _ _ _ (fun e => hne (by cases e; rfl))]; exact h.c2
  · rw [World.cell?_setCell_other _ _ _ _ (fun e => hne (by cases e; rfl))]; exact h.c3
theorem CodIn.setRest {w : World} {b : Nat} {al : Bool} {x y : Int} {s : Value} (h : CodIn w b al x y s) (u : Value) : CodIn (w.setCell ⟨b, 3, none⟩ u) b al x y u := by
  refine ⟨?_, ?_, ?_, World.cell?_setCell_same _ _ _ h.c3, by rw [World.frozen?_setCell]; exact h.g0, by rw [World.frozen?_setCell]; exact h.g1, by rw [World.frozen?_setCell]; exact h.g2, by rw [World.frozen?_setCell]; exact h.g3⟩
  · rw [World.cell?_setCell_other _ _ _ _ (fun e => by cases e)]; exact h.c0
  · rw [World.cell?_setCell_other _ _ _ _ (fun e => by cases e)]; exact h.c1
  · rw [World.cell?_setCell_other _ _ _ _ (fun e => by cases e)]; exact h.c2
theorem CodIn.setAlone {w : World} {b : Nat} {al : Bool} {x y : Int} {s : Value} (h : CodIn w b al x y s) (al' : Bool) : CodIn (w.setCell ⟨b, 0, none⟩ (.bool al')) b al' x y s := by
  refine ⟨World.cell?_setCell_same _ _ _ h.c0, ?_, ?_, ?_, by rw [World.frozen?_setCell]; exact h.g0, by rw [World.frozen?_setCell]; exact h.g1, by rw [World.frozen?_setCell]; exact h.g2, by rw [World.frozen?_setCell]; exact h.g3⟩
  · rw [World.cell?_setCell_other _ _ _ _ (fun e => by cases e)]; exact h.c1
  · rw [World.cell?_setCell_other _ _ _ _ (fun e => by cases e)]; exact h.c2
  · rw [World.cell?_setCell_other _ _ _ _ (fun e => by cases e)]; exact h.c3
theorem CodIn.put {w : World} {b : Nat} {al : Bool} {x y : Int} {s : Value} (h : CodIn w b al x y s) (al' : Bool) (x' y' : Int) (s' : Value) :
    CodIn ((((w.setCell ⟨b, 0, none⟩ (.bool al')).setCell ⟨b, 1, none⟩ (.int .i64 x')).setCell ⟨b, 2, none⟩ (.int .i64 y')).setCell ⟨b, 3, none⟩ s') b al' x' y' s' := by
  have n01 : (⟨b, 0, none⟩ : Addr) ≠ ⟨b, 1, none⟩ := fun e => by cases e
  have n02 : (⟨b, 0, none⟩ : Addr) ≠ ⟨b, 2, none⟩ := fun e => by cases e
  have n03 : (⟨b, 0, none⟩ : Addr) ≠ ⟨b, 3, none⟩ := fun e => by cases e
  have n12 : (⟨b, 1, none⟩ : Addr) ≠ ⟨b, 2, none⟩ := fun e => by cases e
  have n13 : (⟨b, 1, none⟩ : Addr) ≠ ⟨b, 3, none⟩ := fun e => by cases e
  have n23 : (⟨b, 2, none⟩ : Addr) ≠ ⟨b, 3, none⟩ := fun e => by cases e
  have k0 := h.setAlone al'
  refine ⟨?_, ?_, ?_, ?_, by rw [World.frozen?_setCell, World.frozen?_setCell, World.frozen?_setCell, World.frozen?_setCell]; exact h.g0, by rw [World.frozen?_setCell, World.frozen?_setCell, World.frozen?_setCell, World.frozen?_setCell]; exact h.g1, by rw [World.frozen?_setCell, World.frozen?_setCell, World.frozen?_setCell, World.frozen?_setCell]; exact h.g2, by rw [World.frozen?_setCell, World.frozen?_setCell, World.frozen?_setCell, World.frozen?_setCell]; exact h.g3⟩
  · rw [World.cell?_setCell_other _ _ _ _ (by first | exact n03 | exact n03.symm), World.cell?_setCell_other _ _ _ _ (by first | exact n02 | exact n02.symm), World.cell?_setCell_other _ _ _ _ (by first | exact n01 | exact n01.symm)]; exact k0.c0
  · rw [World.cell?_setCell_other _ _ _ _ (by first | exact n13 | exact n13.symm), World.cell?_setCell_other _ _ _ _ (by first | exact n12 | exact n12.symm), World.cell?_setCell_same _ _ _ k0.c1]
  · rw [World.cell?_setCell_other _ _ _ _ (by first | exact n23 | exact n23.symm)]
    have e : ((w.setCell ⟨b, 0, none⟩ (.bool al')).setCell ⟨b, 1, none⟩ (.int .i64 x')).cell? ⟨b, 2, none⟩ = some (.int .i64 y) := by
      rw [World.cell?_setCell_other _ _ _ _ (by first | exact n12 | exact n12.symm)]; exact k0.c2
    exact World.cell?_setCell_same _ _ _ e
  · have e : (((w.setCell ⟨b, 0, none⟩ (.bool al')).setCell ⟨b, 1, none⟩ (.int .i64 x')).setCell ⟨b, 2, none⟩ (.int .i64 y')).cell? ⟨b, 3, none⟩ = some s := by
      rw [World.cell?_setCell_other _ _ _ _ (by first | exact n23 | exact n23.symm), World.cell?_setCell_other _ _ _ _ (by first | exact n13 | exact n13.symm)]; exact k0.c3
    exact World.cell?_setCell_same _ _ _ e
theorem ints_set {w : World} {b o : Nat} {v : Value} {n : Nat} {f : Nat → Int} (h : IntsIn w v n f) (hv : ∀ k, v.ownBlock = some k → k ≠ b) (u : Value) : IntsIn (w.setCell ⟨b, o, none⟩ u) v n f := by
  rcases h with h | ⟨h0, g, og, c, rfl, hc⟩
  · exact Or.inl h
  · refine Or.inr ⟨h0, g, og, c, rfl, fun i hi => ?_⟩
    rw [World.cell?_setCell_other _ _ _ _ (fun e => hv g rfl (by cases e; rfl))]
    exact hc i hi
end Go.Proofs.YtjhflcgphejddaaGreatDoor

namespace Go.Proofs.YtjhflcgphejddaaGreatDoor
open Go.RowKit
set_option linter.unusedVariables false
set_option maxRecDepth 100000

theorem wrap_i64_small (n : Int) (h0 : 0 ≤ n) (h1 : n < 9223372036854775808) : IntKind.i64.wrap n = n := by
  simp [IntKind.wrap, IntKind.bits, IntKind.signed]
  split <;> omega
theorem i64_and_one (a : Nat) (ha : a < 9223372036854775808) : bits .and .i64 (a : Int) 1 = ((a % 2 : Nat) : Int) := by
  show IntKind.i64.wrap ((BitVec.ofInt 64 (a : Int) &&& BitVec.ofInt 64 1).toNat : Int) = _
  have h1 : (BitVec.ofInt 64 1).toNat = 1 := by decide
  rw [BitVec.toNat_and, ofInt_u64 a (by omega), h1, Nat.and_one_is_mod]
  exact wrap_i64_small _ (by omega) (by omega)
theorem or_even (a b : Nat) (hb : b ≤ 1) : (2 * a ||| b) = 2 * a + b := by
  have h := Nat.two_pow_add_eq_or_of_lt (i := 1) (b := b) (by omega) a
  have e : 2 ^ 1 * a = 2 * a := by omega
  rw [e] at h
  exact h.symm
theorem i64_or_bit (a b : Nat) (hb : b ≤ 1) (ha : 2 * a + 1 < 9223372036854775808) : bits .or .i64 ((2 * a : Nat) : Int) (b : Int) = ((2 * a + b : Nat) : Int) := by
  show IntKind.i64.wrap ((BitVec.ofInt 64 ((2 * a : Nat) : Int) ||| BitVec.ofInt 64 (b : Int)).toNat : Int) = _
  rw [BitVec.toNat_or, ofInt_u64 _ (by omega), ofInt_u64 _ (by omega), or_even a b hb]
  exact wrap_i64_small _ (by omega) (by omega)
theorem shr_nat (x k : Nat) : ((x : Int) / 2 ^ ((k : Int)).toNat) = ((x / 2 ^ k : Nat) : Int) := by
  rw [Int.toNat_natCast, Int.natCast_ediv, Int.natCast_pow]; rfl
theorem shr_nat' (x k : Nat) : ((x : Int) / 2 ^ k) = ((x / 2 ^ k : Nat) : Int) := by
  rw [Int.natCast_ediv, Int.natCast_pow]; rfl
end Go.Proofs.YtjhflcgphejddaaGreatDoor

namespace Go.Proofs.YtjhflcgphejddaaGreatDoor
open Go.RowKit
set_option linter.unusedVariables false
set_option maxRecDepth 100000

set_option maxHeartbeats 2000000 in
theorem mark_ok {w : World} {al : Bool} {x y : Int} (s : Value) (n : Nat) (f : Nat → Int) (hx : -1 ≤ x ∧ x ≤ 1) (hy : -1 ≤ y ∧ y ≤ 1) :
    Calls Tryz.prog 25 #[.agg #[.bool al, .int .i64 x, .int .i64 y, s]] w fun e w' => ∃ ad cp, e = .returned (.slice ad (hdB ⟨al, x, y, n, f⟩).length cp) ∧ w'.ownsRow w.heap.size 3 1 (.slice ad (hdB ⟨al, x, y, n, f⟩).length cp) (hdB ⟨al, x, y, n, f⟩).length (encI (hdB ⟨al, x, y, n, f⟩)) ∧ Below w.heap.size w w' := by
  obtain ⟨X, hX⟩ : ∃ X : Nat, x + 1 = (X : Int) := ⟨(x + 1).toNat, by omega⟩
  obtain ⟨Y, hY⟩ : ∃ Y : Nat, y + 1 = (Y : Int) := ⟨(y + 1).toNat, by omega⟩
  have hX2 : X ≤ 2 := by omega
  have hY2 : Y ≤ 2 := by omega
  cases al with
  | true =>
    have HE : Hid (hdB ⟨true, x, y, n, f⟩ = [1]) := rfl
    rw [HE.out]
    have hn := codIn_new w true x y s
    have hb := (Below.refl w.heap.size w).alloc (Nat.le_refl _) (.cells #[.bool true, .int .i64 x, .int .i64 y, s] 66)
    have HB := hide hb
    obtain ⟨c0, c1, c2, c3, _, _, _, _⟩ := hn
    clear hb HE hX hY
    go_enter Tryz.func25, Tryz.ntmps25
    go_wp2
    go_ret
    refine ⟨_, _, rfl, ?_, HB.out.alloc (by have := HB.out.size; omega) _⟩
    have h9 := own_lit (e := 3) (w.alloc (.cells #[.bool true, .int .i64 x, .int .i64 y, s] 66)) (B := w.heap.size) #[.int .i64 1] HB.out.size (by simp [maxLen])
    have hz : (w.alloc (.cells #[.bool true, .int .i64 x, .int .i64 y, s] 66)).heap.size = w.heap.size + 1 := by simp
    rw [hz] at h9
    exact h9
  | false =>
    have HE : Hid (hdB ⟨false, x, y, n, f⟩ = [0, ((X / 2 : Nat) : Int), ((X % 2 : Nat) : Int), ((Y / 2 : Nat) : Int), ((Y % 2 : Nat) : Int)]) := by
      unfold Hid hdB
      rw [if_neg (by simp)]
      show [0, (x + 1) / 2, (x + 1) % 2, (y + 1) / 2, (y + 1) % 2] = _
      rw [hX, hY]
      simp
    rw [HE.out]
    have hn := codIn_new w false x y s
    have hb := (Below.refl w.heap.size w).alloc (Nat.le_refl _) (.cells #[.bool false, .int .i64 x, .int .i64 y, s] 66)
    have HB := hide hb
    obtain ⟨c0, c1, c2, c3, _, _, _, _⟩ := hn
    have a1 := i64_and_one X (by omega)
    have a2 := i64_and_one Y (by omega)
    have s1 := shr_nat' X 1
    have s2 := shr_nat' Y 1
    rw [Nat.pow_one] at s1 s2
    have hx1 : IntKind.i64.wrap (x + 1) = (X : Int) := by rw [hX, IntKind.wrap_i64]; omega
    have hy1 : IntKind.i64.wrap (y + 1) = (Y : Int) := by rw [hY, IntKind.wrap_i64]; omega
    clear hb HE
    go_enter Tryz.func25, Tryz.ntmps25
    go_wp2_with fail
    generalize w.alloc (.cells #[.bool false, .int .i64 x, .int .i64 y, s] 66) = w1 at *
    have d1 : ∀ q, (w1.drewN q).cell? ⟨w.heap.size, 1, none⟩ = some (.int .i64 x) := fun q => c1
    have d2 : ∀ q, (w1.drewN q).cell? ⟨w.heap.size, 2, none⟩ = some (.int .i64 y) := fun q => c2
    go_quiet (fail)
    go_wp2
    go_ret
    refine ⟨_, _, rfl, ?_, (HB.out.trans (below_drewN (Below.refl _ _) _)).alloc (by have := HB.out.size; simp; omega) _⟩
    have h9 := own_lit (e := 3) (w1.drewN nq) (B := w.heap.size) #[.int .i64 0, .int .i64 ((X / 2 : Nat) : Int), .int .i64 ((X % 2 : Nat) : Int), .int .i64 ((Y / 2 : Nat) : Int), .int .i64 ((Y % 2 : Nat) : Int)] (by have := HB.out.size; simp; omega) (by simp [maxLen])
    exact h9
end Go.Proofs.YtjhflcgphejddaaGreatDoor

namespace Go.Proofs.YtjhflcgphejddaaGreatDoor
set_option linter.unusedVariables false
set_option maxRecDepth 100000

theorem stp_pic {a b s : Int} {c : Cd} {p : Pc} {A B : Nat} (ha : a = (A : Int)) (hb : b = (B : Int)) (w1 : 1 ≤ A) (w6 : A ≤ 6) (h1 : 1 ≤ B) (h6 : B ≤ 6) (s1 : 1 ≤ s) (s2 : s ≤ 64) (o : CdOk (A * B) c) (hp : c.al = false → PicOk p.a p.b p.n p.f A B) :
    (stpC a b s c p).1 = 0 ∧ PicOk (stpC a b s c p).2.a (stpC a b s c p).2.b (stpC a b s c p).2.n (stpC a b s c p).2.f A B := by
  unfold stpC
  cases hal : c.al with
  | true =>
    obtain ⟨e1, e2⟩ := o.al hal
    rw [if_pos rfl, if_neg (by omega)]
    have hd : DecOk a b s c.n c.f A B := ⟨ha, hb, w1, w6, h1, h6, s1, s2, o.n, fun i hi => o.f i (by rw [← o.n]; exact hi)⟩
    have h0 := decF_zero.2 ⟨A, B, hd⟩
    refine ⟨h0, ?_⟩
    have x1 : deX a b s c.n c.f = a := if_pos h0
    have x2 : deY a b s c.n c.f = b := if_pos h0
    have x3 : deM a b s c.n c.f = c.n := if_pos h0
    show PicOk (deX a b s c.n c.f) (deY a b s c.n c.f) (deM a b s c.n c.f) (deG a s c.f) A B
    rw [x1, x2, x3]
    have h9 := hd.told (fun i _ => c.f i)
    unfold deG
    rw [ha, Int.toNat_natCast, ← ha]
    exact h9
  | false =>
    have hp := hp hal
    rw [if_neg (by simp)]
    have h0 : mdeF p.a p.b p.n p.f false c.x c.y c.n c.f s = 0 := mdeF_zero.2 ⟨picF_zero.2 ⟨A, B, hp⟩, ⟨s1, s2⟩, chkF_zero.2 ⟨rfl, ⟨o.x.1, o.x.2, o.y.1, o.y.2⟩, by rw [o.n, hp.many], fun i hi => o.f i (by rw [← o.n]; exact hi)⟩⟩
    refine ⟨h0, ?_⟩
    have x1 : mdX p.a p.b p.n p.f false c.x c.y c.n c.f s = p.a := if_pos h0
    have x2 : mdY p.a p.b p.n p.f false c.x c.y c.n c.f s = p.b := if_pos h0
    have x3 : mdM p.a p.b p.n p.f false c.x c.y c.n c.f s = p.n := if_pos h0
    show PicOk (mdX p.a p.b p.n p.f false c.x c.y c.n c.f s) (mdY p.a p.b p.n p.f false c.x c.y c.n c.f s) (mdM p.a p.b p.n p.f false c.x c.y c.n c.f s) (mdG p.a p.b p.f c.x c.y c.f s) A B
    rw [x1, x2, x3]
    exact ⟨hp.wide, hp.high, hp.w1, hp.w6, hp.h1, hp.h6, hp.many, fun i _ => by unfold mdG; exact toldF_in _ _ _ _⟩
theorem ok_steps {a b s : Int} {N : Nat} {C : Nat → Cd} {A B : Nat} (o : SeeOk a b s N C A B) (h0 : (C 0).al = true) : ∀ i, i < N → (seeS a b s C (i + 1)).1 = 0 ∧ PicOk (seeS a b s C (i + 1)).2.a (seeS a b s C (i + 1)).2.b (seeS a b s C (i + 1)).2.n (seeS a b s C (i + 1)).2.f A B
  | 0, hi => by
    rw [seeS_step rfl]
    exact stp_pic o.wide o.high o.w1 o.w6 o.h1 o.h6 o.s1 o.s2 (o.each 0 hi) (fun h => by rw [h0] at h; cases h)
  | i + 1, hi => by
    obtain ⟨e, hp⟩ := ok_steps o h0 i (by omega)
    rw [seeS_step e]
    exact stp_pic o.wide o.high o.w1 o.w6 o.h1 o.h6 o.s1 o.s2 (o.each (i + 1) hi) (fun _ => hp)
theorem ok_see {a b s : Int} {N : Nat} {C : Nat → Cd} {A B : Nat} (o : SeeOk a b s N C A B) (h0 : (C 0).al = true) : seeF a b s N C = 0 := by
  have h1 := o.one
  have h6 := o.six
  have hs : sidF a b s = 0 := by
    unfold sidF
    have := o.wide; have := o.high; have := o.w1; have := o.w6; have := o.h1; have := o.h6; have := o.s1; have := o.s2
    rw [if_pos (by omega)]
  unfold seeF
  rw [if_neg (by omega), if_neg (by omega), if_neg (by omega), if_neg (by rw [h0]; simp)]
  obtain ⟨p, rfl⟩ : ∃ p, N = p + 1 := ⟨N - 1, by omega⟩
  exact (ok_steps o h0 p (by omega)).1
theorem see_al {a b s : Int} {N : Nat} {C : Nat → Cd} (h : seeF a b s N C = 0) : (C 0).al = true := by
  unfold seeF at h
  split at h
  · cases h
  · split at h
    · cases h
    · split at h
      · cases h
      · split at h
        · cases h
        · rename_i c4
          cases hc : (C 0).al <;> simp_all
theorem lst_cut (f : Nat → Int) (k : Nat) : lst (fun i => (lst f k).getD i 0) k = lst f k := lst_congr fun i hi => lst_get hi
theorem cut_ok {k : Nat} {c : Cd} (o : CdOk k c) : CdOk k (cutC k c) := ⟨o.al, o.x, o.y, rfl, fun i hi => by show -255 ≤ (lst c.f k).getD i 0 ∧ (lst c.f k).getD i 0 ≤ 255; rw [lst_get hi]; exact o.f i hi⟩
theorem cut_bits {k : Nat} {c : Cd} (o : CdOk k c) : codB (cutC k c) = codB c := by
  unfold codB
  have e1 : hdB (cutC k c) = hdB c := rfl
  rw [e1, o.n]
  show hdB c ++ rowB 2 (lst (fun i => (lst c.f k).getD i 0) k) = _
  rw [lst_cut]
theorem flm_cut {k : Nat} {C D : Nat → Cd} : ∀ {N}, (∀ i, i < N → CdOk k (C i)) → (∀ i, i < N → D i = cutC k (C i)) → flmB D N = flmB C N
  | 0, _, _ => rfl
  | N + 1, h, e => by
    rw [flmB_step, flmB_step, flm_cut (fun i hi => h i (by omega)) (fun i hi => e i (by omega)), e N (by omega), cut_bits (h N (by omega))]
/-- A film that was read is as much a film as the one that was told. -/
theorem film_cut {a b s : Int} {N : Nat} {C D : Nat → Cd} {A B : Nat} (o : SeeOk a b s N C A B) (h : bytF a b s N C = 0) (e : ∀ i, i < N → D i = cutC (A * B) (C i)) : bytF a b s N D = 0 ∧ bytS a b s N D = bytS a b s N C := by
  obtain ⟨h1, h2⟩ := bytF_zero.1 h
  have hal := see_al h1
  have od : SeeOk a b s N D A B := ⟨o.one, o.six, o.wide, o.high, o.w1, o.w6, o.h1, o.h6, o.s1, o.s2, fun i hi => by rw [e i hi]; exact cut_ok (o.each i hi)⟩
  have hf := flm_cut o.each e
  have hd : bytF a b s N D = 0 := bytF_zero.2 ⟨ok_see od (by rw [e 0 (by have := o.one; omega)]; exact hal), by rw [hf]; exact h2⟩
  refine ⟨hd, ?_⟩
  unfold bytS
  rw [if_pos hd, if_pos h, hf]
/-- Bytes that no film has. -/
def NoFilm (t : ByteArray) : Prop := ∀ a b s N C, bytF a b s N C = 0 → bytS a b s N C ≠ t
theorem film_size {a b s : Int} {N : Nat} {C : Nat → Cd} (h : bytF a b s N C = 0) : 4 ≤ (bytS a b s N C).size ∧ (bytS a b s N C).size ≤ 120 := by
  have h1 := (says_of h).size
  have h2 := (bytF_zero.1 h).2
  omega
theorem none_short {t : ByteArray} (h : t.size < 4) : NoFilm t := fun a b s N C h1 e => by
  have := film_size h1
  rw [e] at this; omega
theorem none_many {t : ByteArray} (h : 6 < (atB t 3).toNat) : NoFilm t := fun a b s N C h1 e => by
  have h2 := (says_of h1).b3
  obtain ⟨A, B, o⟩ := see_ok (bytF_zero.1 h1).1
  have := o.six
  rw [e] at h2; omega
theorem none_side {t : ByteArray} (h : 6 < (atB t 0).toNat ∨ 6 < (atB t 1).toNat) : NoFilm t := fun a b s N C h1 e => by
  have h2 := (says_of h1).b0
  have h3 := (says_of h1).b1
  obtain ⟨A, B, o⟩ := see_ok (bytF_zero.1 h1).1
  have := o.w6; have := o.h6; have := o.wide; have := o.high
  rw [e] at h2 h3; omega
/-- What is read off bytes that a film has. -/
theorem film_read {t : ByteArray} {a b s : Int} {N : Nat} {C : Nat → Cd} (h : bytF a b s N C = 0) (e : bytS a b s N C = t) :
    N = (atB t 3).toNat ∧ a = ((atB t 0).toNat : Int) ∧ b = ((atB t 1).toNat : Int) ∧ s = ((atB t 2).toNat : Int) ∧ ∃ A B, SeeOk a b s N C A B ∧ A = (atB t 0).toNat ∧ B = (atB t 1).toNat ∧ flP (bitB t) (8 * (t.size - 4)) ((atB t 0).toNat * (atB t 1).toNat) (atB t 3).toNat = some ((List.range N).map fun i => cutC (A * B) (C i), (flmB C N).length) := by
  have h1 := says_of h
  rw [e] at h1
  obtain ⟨A, B, o⟩ := see_ok (bytF_zero.1 h).1
  have hr := says_read o h1 rfl
  have hb0 := h1.b0
  have hb1 := h1.b1
  have hb2 := h1.b2
  have hb3 := h1.b3
  have ea := o.wide
  have eb := o.high
  have es := o.s1
  have eA : A = (atB t 0).toNat := by omega
  have eB : B = (atB t 1).toNat := by omega
  refine ⟨hb3.symm, by omega, by omega, by omega, A, B, o, eA, eB, ?_⟩
  rw [← eA, ← eB, hb3]
  exact hr
theorem none_read {t : ByteArray} (h : flP (bitB t) (8 * (t.size - 4)) ((atB t 0).toNat * (atB t 1).toNat) (atB t 3).toNat = none) : NoFilm t := fun a b s N C h1 e => by
  obtain ⟨_, _, _, _, A, B, o, _, _, hr⟩ := film_read h1 e
  rw [hr] at h; cases h
/-- What was read, if bytes are those of a film, is it. -/
theorem some_read {t : ByteArray} {D : Nat → Cd} {l : List Cd} {m : Nat} (h : flP (bitB t) (8 * (t.size - 4)) ((atB t 0).toNat * (atB t 1).toNat) (atB t 3).toNat = some (l, m)) (hl : ∀ i, i < (atB t 3).toNat → l[i]? = some (D i)) :
    NoFilm t ∨ (bytF ((atB t 0).toNat : Int) ((atB t 1).toNat : Int) ((atB t 2).toNat : Int) (atB t 3).toNat D = 0 ∧ bytS ((atB t 0).toNat : Int) ((atB t 1).toNat : Int) ((atB t 2).toNat : Int) (atB t 3).toNat D = t) := by
  by_cases c : NoFilm t
  · exact Or.inl c
  · right
    unfold NoFilm at c
    have c2 : ∃ a b s N C, bytF a b s N C = 0 ∧ bytS a b s N C = t := Classical.byContradiction fun q => c fun a b s N C h1 e => q ⟨a, b, s, N, C, h1, e⟩
    obtain ⟨a, b, s, N, C, h1, e⟩ := c2
    obtain ⟨e3, e0, e1, e2, A, B, o, eA, eB, hr⟩ := film_read h1 e
    rw [hr] at h
    have h9 := congrArg Prod.fst (Option.some.inj h)
    simp only at h9
    rw [← e3, ← e0, ← e1, ← e2]
    rw [← e3] at hl
    have hd : ∀ i, i < N → D i = cutC (A * B) (C i) := fun i hi => by
      have h8 := hl i hi
      rw [← h9] at h8
      simp [hi] at h8
      exact h8.symm
    obtain ⟨q1, q2⟩ := film_cut o h1 hd
    exact ⟨q1, q2.trans e⟩
theorem rsP_past {g : Nat → Int} {m a i : Nat} (h : rsP g m a i = none) : ∀ {j}, i ≤ j → rsP g m a j = none := fun {j} hj => by
  induction j with
  | zero => have : i = 0 := by omega
            subst this; exact h
  | succ j ih =>
    by_cases c : i = j + 1
    · subst c; exact h
    · show (rsP g m a j).bind _ = none
      rw [ih (by omega)]; rfl
theorem rsP_some {g : Nat → Int} {m a i : Nat} {xs : List Int} {p : Nat} {n : Int} {q : Nat} (h : rsP g m a i = some (xs, p)) (h2 : fstN g m 2 p = some (n, q)) : rsP g m a (i + 1) = some (xs ++ [n], q) := by
  show (rsP g m a i).bind _ = _
  rw [h]
  show Option.map _ (fstN g m 2 p) = _
  rw [h2]; rfl
theorem rsP_none {g : Nat → Int} {m a i : Nat} {xs : List Int} {p : Nat} (h : rsP g m a i = some (xs, p)) (h2 : fstN g m 2 p = none) : rsP g m a (i + 1) = none := by
  show (rsP g m a i).bind _ = _
  rw [h]
  show Option.map _ (fstN g m 2 p) = _
  rw [h2]; rfl
theorem cdP_some {g : Nat → Int} {m k a a1 a2 : Nat} {al : Bool} {x y : Int} {xs : List Int} (h : hdP g m a = some (al, x, y, a1)) (h2 : rsP g m a1 k = some (xs, a2)) : cdP g m k a = some (⟨al, x, y, k, fun i => xs.getD i 0⟩, a2) := by
  unfold cdP
  rw [h]
  show Option.map _ (rsP g m a1 k) = _
  rw [h2]; rfl
theorem cdP_none1 {g : Nat → Int} {m k a : Nat} (h : hdP g m a = none) : cdP g m k a = none := by
  unfold cdP
  rw [h]; rfl
theorem cdP_none2 {g : Nat → Int} {m k a a1 : Nat} {al : Bool} {x y : Int} (h : hdP g m a = some (al, x, y, a1)) (h2 : rsP g m a1 k = none) : cdP g m k a = none := by
  unfold cdP
  rw [h]
  show Option.map _ (rsP g m a1 k) = _
  rw [h2]; rfl
theorem flP_some {g : Nat → Int} {m k i : Nat} {l : List Cd} {p : Nat} {c : Cd} {q : Nat} (h : flP g m k i = some (l, p)) (h2 : cdP g m k p = some (c, q)) : flP g m k (i + 1) = some (l ++ [c], q) := by
  show (flP g m k i).bind _ = _
  rw [h]
  show Option.map _ (cdP g m k p) = _
  rw [h2]; rfl
theorem flP_none {g : Nat → Int} {m k i : Nat} {l : List Cd} {p : Nat} (h : flP g m k i = some (l, p)) (h2 : cdP g m k p = none) : flP g m k (i + 1) = none := by
  show (flP g m k i).bind _ = _
  rw [h]
  show Option.map _ (cdP g m k p) = _
  rw [h2]; rfl
end Go.Proofs.YtjhflcgphejddaaGreatDoor

namespace Go.Proofs.YtjhflcgphejddaaGreatDoor
open Go.RowKit
set_option linter.unusedVariables false
set_option maxRecDepth 100000

/-- A slice that holds the numbers f 0, .., f (n-1), and may be cut. -/
def SlI (w : World) (v : Value) (n : Nat) (f : Nat → Int) : Prop :=
  ∃ ad cap, v = .slice ad n cap ∧ n ≤ cap ∧ cap ≤ maxLen ∧ (0 < n → ∃ b o, ad = some ⟨b, o, none⟩ ∧ ∀ i, i < n → w.cell? ⟨b, o + i, none⟩ = some (.int .i64 (f i)))
theorem SlI.ints {w : World} {v : Value} {n : Nat} {f : Nat → Int} (h : SlI w v n f) : IntsIn w v n f := by
  obtain ⟨ad, cap, rfl, h1, h2, h3⟩ := h
  by_cases c : n = 0
  · subst c; exact Or.inl ⟨rfl, _, _, rfl⟩
  · obtain ⟨b, o, rfl, hc⟩ := h3 (by omega)
    exact Or.inr ⟨by omega, b, o, cap, rfl, hc⟩
theorem SlI.below {w w' : World} {v : Value} {n : Nat} {f : Nat → Int} (h : SlI w v n f) (hb : Below w.heap.size w w') : SlI w' v n f := by
  obtain ⟨ad, cap, rfl, h1, h2, h3⟩ := h
  refine ⟨ad, cap, rfl, h1, h2, fun h0 => ?_⟩
  obtain ⟨b, o, e, hc⟩ := h3 h0
  exact ⟨b, o, e, fun i hi => cell_below hb (hc i hi)⟩
theorem SlI.congr {w : World} {v : Value} {n : Nat} {f g : Nat → Int} (h : SlI w v n f) (e : ∀ i, i < n → f i = g i) : SlI w v n g := by
  obtain ⟨ad, cap, rfl, h1, h2, h3⟩ := h
  refine ⟨ad, cap, rfl, h1, h2, fun h0 => ?_⟩
  obtain ⟨b, o, e', hc⟩ := h3 h0
  exact ⟨b, o, e', fun i hi => by rw [← e i hi]; exact hc i hi⟩
theorem rowV_sl {w : World} {B n : Nat} {v : Value} {l : List Int} (h : w.ownsRow B 3 1 v n (encI l)) (hn : n = l.length) : SlI w v n (fun k => l.getD k 0) := by
  rw [encI_range] at h
  subst hn
  by_cases c : l.length = 0
  · rcases h.2 with ⟨hv, h0⟩ | ⟨g, cap, cur, hv, _, hg, h1, h2, _⟩
    · exact ⟨none, 0, by rw [h0]; exact hv, by omega, by unfold maxLen; omega, fun h => by omega⟩
    · exact ⟨_, cap, hv, h1, h2, fun h => by omega⟩
  · obtain ⟨g, cap, hv, h1, h2, h3⟩ := own_ints h (by omega)
    exact ⟨_, cap, hv, h1, h2, fun _ => ⟨g, 0, rfl, h3⟩⟩
theorem nil_sl (w : World) (f : Nat → Int) : SlI w (.slice none 0 0) 0 f := ⟨none, 0, rfl, Nat.le_refl _, by unfold maxLen; omega, fun h => by omega⟩

/-- Of a slice what is behind its first b. -/
def Cut (v sl : Value) (m b : Nat) : Prop := ∀ W F, SlI W v m F → SlI W sl (m - b) (fun i => F (b + i))
theorem cut_end {m E : Nat} {a : Option Addr} {v : Value} {c : Nat} (h : m ≤ E) (hc : c ≤ maxLen) : Cut v (.slice a (m - E) c) m E := fun W F _ => ⟨_, _, rfl, by omega, hc, fun h0 => absurd h0 (by omega)⟩
theorem cut_mid {m E b o cap : Nat} : Cut (.slice (some ⟨b, o, none⟩) m cap) (.slice (some ⟨b, o + E, none⟩) (m - E) (cap - E)) m E := fun W F h => by
  obtain ⟨ad, cap', e, h1, h2, h3⟩ := h
  cases e
  refine ⟨_, _, rfl, by omega, by omega, fun h0 => ?_⟩
  obtain ⟨b', o', e', hc⟩ := h3 (by omega)
  cases e'
  refine ⟨_, _, rfl, fun i hi => ?_⟩
  have := hc (E + i) (by omega)
  rwa [← Nat.add_assoc] at this

/-! What is read from here on, read from the start of what is left. -/
theorem ones_shift (g : Nat → Int) (a : Nat) : ∀ (k p : Nat), ones (fun i => g (a + i)) p k = ones g (a + p) k
  | 0, _ => rfl
  | k + 1, p => by
    simp only [ones]
    rw [ones_shift g a k (p + 1), show a + (p + 1) = a + p + 1 by omega]
theorem valN_shift (g : Nat → Int) (a p v : Nat) : ∀ k, valN (fun i => g (a + i)) p v k = valN g (a + p) v k
  | 0 => rfl
  | k + 1 => by rw [valN_succ, valN_succ, valN_shift g a p v k, show a + (p + k) = a + p + k by omega]
theorem fstN_shift {g : Nat → Int} {m low a : Nat} (ha : a ≤ m) : fstN g m low a = (fstN (fun i => g (a + i)) (m - a) low 0).map fun p => (p.1, a + p.2) := by
  unfold fstN
  rw [Nat.sub_zero, ones_shift, Nat.add_zero]
  generalize ones g a (m - a) = q
  rw [valN_shift]
  rw [show a + (0 + q + 1) = a + q + 1 by omega]
  by_cases c : a + q + 1 + low ≤ m
  · have c' : 0 + q + 1 + low ≤ m - a := by omega
    rw [if_pos c, if_pos c']
    by_cases c2 : valN g (a + q + 1) q low ≤ 510
    · rw [if_pos c2, if_pos c2]
      show _ = some (_, _)
      simp only [Option.some.injEq, Prod.mk.injEq, true_and]
      omega
    · rw [if_neg c2, if_neg c2]; rfl
  · have c' : ¬ 0 + q + 1 + low ≤ m - a := by omega
    rw [if_neg c, if_neg c']; rfl
end Go.Proofs.YtjhflcgphejddaaGreatDoor

namespace Go.Proofs.YtjhflcgphejddaaGreatDoor
set_option linter.unusedVariables false
set_option maxRecDepth 100000

/-- Where some rests end, of M bits. -/
def endP (h : Nat → Int) (M : Nat) : Nat → Option Nat
  | 0 => some 0
  | i + 1 => (endP h M i).bind fun e => if e + ones h e (M - e) + 3 ≤ M then some (e + ones h e (M - e) + 3) else none
theorem endP_some {h : Nat → Int} {M i e : Nat} (h1 : endP h M i = some e) (h2 : e + ones h e (M - e) + 3 ≤ M) : endP h M (i + 1) = some (e + ones h e (M - e) + 3) := by
  show (endP h M i).bind _ = _
  rw [h1]
  show (if _ then _ else _) = _
  rw [if_pos h2]
theorem endP_none {h : Nat → Int} {M i e : Nat} (h1 : endP h M i = some e) (h2 : ¬ e + ones h e (M - e) + 3 ≤ M) : endP h M (i + 1) = none := by
  show (endP h M i).bind _ = _
  rw [h1]
  show (if _ then _ else _) = _
  rw [if_neg h2]
theorem endP_past {h : Nat → Int} {M i : Nat} (h1 : endP h M i = none) : ∀ {j}, i ≤ j → endP h M j = none := fun {j} hj => by
  induction j with
  | zero => have : i = 0 := by omega
            subst this; exact h1
  | succ j ih =>
    by_cases c : i = j + 1
    · subst c; exact h1
    · show (endP h M j).bind _ = none
      rw [ih (by omega)]; rfl
theorem endP_back {h : Nat → Int} {M i E : Nat} (h1 : endP h M (i + 1) = some E) : ∃ e, endP h M i = some e ∧ e + ones h e (M - e) + 3 ≤ M ∧ E = e + ones h e (M - e) + 3 := by
  cases h2 : endP h M i with
  | none => rw [endP_past h2 (by omega)] at h1; cases h1
  | some e =>
    refine ⟨e, rfl, ?_⟩
    by_cases c : e + ones h e (M - e) + 3 ≤ M
    · rw [endP_some h2 c] at h1
      exact ⟨c, (Option.some.inj h1).symm⟩
    · rw [endP_none h2 c] at h1; cases h1
theorem endP_le {h : Nat → Int} {M : Nat} : ∀ {i E : Nat}, endP h M i = some E → 3 * i ≤ E ∧ E ≤ M
  | 0, E, h1 => by cases h1; omega
  | i + 1, E, h1 => by
    obtain ⟨e, h2, h3, h4⟩ := endP_back h1
    have := endP_le h2
    omega
theorem fstN_less {g : Nat → Int} {m m' low a : Nat} (hm : m ≤ m') (h : a + ones g a (m' - a) + 1 + low ≤ m) : fstN g m low a = fstN g m' low a := by
  have hq : ones g a (m - a) = ones g a (m' - a) := ones_eq (fun j hj => ones_before hj) (fun _ => ones_at (by omega)) (by omega)
  unfold fstN
  rw [hq, if_pos h, if_pos (show a + ones g a (m' - a) + 1 + low ≤ m' by omega)]
theorem fstN_few {g : Nat → Int} {m low a : Nat} (h : ¬ a + ones g a (m - a) + 1 + low ≤ m) : fstN g m low a = none := by
  unfold fstN
  rw [if_neg h]
theorem fstN_to {g : Nat → Int} {m low a : Nat} {n : Int} {b : Nat} (h : fstN g m low a = some (n, b)) : b = a + ones g a (m - a) + 1 + low := by
  unfold fstN at h
  split at h
  · split at h
    · cases h; rfl
    · cases h
  · cases h
/-- A number of the bits behind a place, seen from there. -/
theorem fstN_from {g : Nat → Int} {m a e : Nat} (ha : a + e ≤ m) : fstN g m 2 (a + e) = (fstN (fun i => g (a + i)) (m - a) 2 e).map fun p => (p.1, a + p.2) := by
  rw [fstN_shift ha, fstN_shift (g := fun i => g (a + i)) (m := m - a) (a := e) (by omega)]
  rw [show m - (a + e) = m - a - e by omega, show (fun i => g (a + e + i)) = fun i => g (a + (e + i)) by funext i; rw [Nat.add_assoc]]
  cases fstN (fun i => g (a + (e + i))) (m - a - e) 2 0 with
  | none => rfl
  | some p => simp [Nat.add_assoc]
/-- So are some rests. -/
theorem rsP_from {g : Nat → Int} {m a : Nat} (ha : a ≤ m) : ∀ i, rsP g m a i = (stpN (fun i => g (a + i)) (m - a) 2 i).map fun p => (p.1, a + p.2)
  | 0 => rfl
  | i + 1 => by
    have ih := rsP_from (g := g) ha i
    show (rsP g m a i).bind _ = Option.map _ ((stpN _ _ 2 i).bind _)
    rw [ih]
    cases hs : stpN (fun i => g (a + i)) (m - a) 2 i with
    | none => rfl
    | some p =>
      have hp := (stpN_len (show _ = some (p.1, p.2) from hs)).2.1
      show Option.map _ (fstN g m 2 (a + p.2)) = Option.map _ (Option.map _ (fstN _ _ 2 p.2))
      rw [fstN_from (by omega)]
      cases fstN (fun i => g (a + i)) (m - a) 2 p.2 <;> rfl
/-- Where rests that were read end. -/
theorem stpN_end {h : Nat → Int} {M : Nat} : ∀ {i : Nat} {xs : List Int} {b : Nat}, stpN h M 2 i = some (xs, b) → endP h M i = some b
  | 0, xs, b, h1 => by cases h1; rfl
  | i + 1, xs, b, h1 => by
    have h2 : (stpN h M 2 i).bind (fun p => (fstN h M 2 p.2).map fun q => (p.1 ++ [q.1], q.2)) = some (xs, b) := h1
    obtain ⟨p, hp, h3⟩ := Option.bind_eq_some_iff.1 h2
    obtain ⟨q, hq, h4⟩ := Option.map_eq_some_iff.1 h3
    cases h4
    have ih := stpN_end (show stpN h M 2 i = some (p.1, p.2) from hp)
    have ht := fstN_to (show fstN h M 2 p.2 = some (q.1, q.2) from hq)
    have he := (fstN_end (show fstN h M 2 p.2 = some (q.1, q.2) from hq)).2.1
    rw [endP_some ih (by omega)]
    congr 1
    omega
/-- Of the bits up to there alone the same is read. -/
theorem stpN_cut {h : Nat → Int} {M E : Nat} (hE : E ≤ M) : ∀ {i e : Nat}, endP h M i = some e → e ≤ E → stpN h E 2 i = stpN h M 2 i
  | 0, _, _, _ => rfl
  | i + 1, e, h1, h2 => by
    obtain ⟨e0, h3, h4, h5⟩ := endP_back h1
    have ih := stpN_cut hE h3 (by omega)
    show (stpN h E 2 i).bind _ = (stpN h M 2 i).bind _
    rw [ih]
    cases hs : stpN h M 2 i with
    | none => rfl
    | some p =>
      have hp := stpN_end (show stpN h M 2 i = some (p.1, p.2) from hs)
      rw [h3] at hp
      have hp2 := Option.some.inj hp
      show Option.map _ (fstN h E 2 p.2) = Option.map _ (fstN h M 2 p.2)
      rw [← hp2, fstN_less hE (by omega)]
/-- No end: no rests. -/
theorem rsP_endless {g : Nat → Int} {m a k : Nat} (ha : a ≤ m) (h : endP (fun i => g (a + i)) (m - a) k = none) : rsP g m a k = none := by
  rw [rsP_from ha]
  cases hs : stpN (fun i => g (a + i)) (m - a) 2 k with
  | none => rfl
  | some p => rw [stpN_end (show _ = some (p.1, p.2) from hs)] at h; cases h
/-- What is told of the bits up to the end. -/
theorem rsP_get {g : Nat → Int} {m a k E : Nat} (ha : a ≤ m) (h : endP (fun i => g (a + i)) (m - a) k = some E) : rsP g m a k = (getN (fun i => g (a + i)) E 2 k).map fun xs => (xs, a + E) := by
  have hE := (endP_le h).2
  rw [rsP_from ha, ← stpN_cut hE h (Nat.le_refl _)]
  unfold getN
  cases hs : stpN (fun i => g (a + i)) E 2 k with
  | none => rfl
  | some p =>
    have hs' := hs
    rw [stpN_cut hE h (Nat.le_refl _)] at hs'
    have hp := stpN_end (show _ = some (p.1, p.2) from hs')
    rw [h] at hp
    have hp2 := Option.some.inj hp
    show some _ = Option.map _ (if p.2 = E then some p.1 else none)
    rw [if_pos hp2.symm, hp2]; rfl

/-! A row of bytes, as bits are put into it one by one. -/
theorem valN_zero {g : Nat → Int} {p v : Nat} : ∀ {k}, (∀ i, i < k → g (p + i) = 0) → valN g p v k = v * 2 ^ k
  | 0, _ => by simp [valN]
  | k + 1, h => by
    have e : v * (2 ^ k * 2) = 2 * (v * 2 ^ k) := by rw [← Nat.mul_assoc, Nat.mul_comm]
    rw [valN_succ, valN_zero (fun i hi => h i (by omega)), h k (by omega), Nat.pow_succ, e]
    rfl
theorem valN_add (g : Nat → Int) (p v k : Nat) : ∀ l, valN g p v (k + l) = valN g (p + k) (valN g p v k) l
  | 0 => rfl
  | l + 1 => by rw [← Nat.add_assoc, valN_succ, valN_succ, valN_add g p v k l, Nat.add_assoc]
theorem take_getD {L : List Int} {i j : Nat} : (L.take i).getD j 0 = if j < i then L.getD j 0 else 0 := by
  split
  · rename_i h; simp [List.getD, List.getElem?_take_of_lt h]
  · rename_i h; simp [List.getD, List.getElem?_take_eq_none (Nat.le_of_not_lt h)]
/-- The byte at a place when i bits were put. -/
def putB (L : List Int) (i k : Nat) : Nat := octN (L.take i) k
theorem putB_zero (L : List Int) (k : Nat) : putB L 0 k = 0 := by
  unfold putB octN
  rw [valN_zero (fun i _ => by rw [take_getD, if_neg (by omega)]), Nat.zero_mul]
theorem putB_all {L : List Int} (k : Nat) : putB L L.length k = octN L k := by unfold putB; rw [List.take_length]
theorem putB_other {L : List Int} {i k : Nat} (h : k ≠ i / 8) : putB L (i + 1) k = putB L i k := by
  unfold putB octN
  refine valN_congr fun j hj => ?_
  rw [take_getD, take_getD]
  by_cases c : 8 * k + j < i
  · rw [if_pos (by omega), if_pos c]
  · rw [if_neg (by omega), if_neg c]
theorem putB_form {L : List Int} (h : ∀ b ∈ L, b = 0 ∨ b = 1) (i : Nat) : putB L i (i / 8) = valN (fun j => L.getD j 0) (8 * (i / 8)) 0 (i % 8) * 2 ^ (8 - i % 8) := by
  unfold putB octN
  have e : (8 : Nat) = i % 8 + (8 - i % 8) := by omega
  conv => lhs; rw [show valN (fun j => (L.take i).getD j 0) (8 * (i / 8)) 0 8 = valN (fun j => (L.take i).getD j 0) (8 * (i / 8)) 0 (i % 8 + (8 - i % 8)) by rw [← e]]
  rw [valN_add, valN_zero (fun j hj => by rw [take_getD, if_neg (by omega)])]
  congr 1
  refine valN_congr fun j hj => ?_
  rw [take_getD, if_pos (by omega)]
theorem putB_next {L : List Int} (h : ∀ b ∈ L, b = 0 ∨ b = 1) {i z : Nat} (hz : L.getD i 0 = (z : Int)) (hz1 : z ≤ 1) : putB L (i + 1) (i / 8) = putB L i (i / 8) ||| z <<< (7 - i % 8) := by
  rw [putB_form h]
  have e2 : putB L (i + 1) (i / 8) = (2 * valN (fun j => L.getD j 0) (8 * (i / 8)) 0 (i % 8) + z) * 2 ^ (7 - i % 8) := by
    have h1 : putB L (i + 1) (i / 8) = valN (fun j => L.getD j 0) (8 * (i / 8)) 0 (i % 8 + 1) * 2 ^ (7 - i % 8) := by
      unfold putB octN
      have e : (8 : Nat) = (i % 8 + 1) + (7 - i % 8) := by omega
      conv => lhs; rw [show valN (fun j => (L.take (i + 1)).getD j 0) (8 * (i / 8)) 0 8 = valN (fun j => (L.take (i + 1)).getD j 0) (8 * (i / 8)) 0 ((i % 8 + 1) + (7 - i % 8)) by rw [← e]]
      rw [valN_add, valN_zero (fun j hj => by rw [take_getD, if_neg (by omega)])]
      congr 1
      refine valN_congr fun j hj => ?_
      rw [take_getD, if_pos (by omega)]
    rw [h1, valN_succ, Nat.div_add_mod, hz, Int.toNat_natCast]
  rw [e2]
  generalize valN _ _ _ _ = v
  have e3 : 8 - i % 8 = (7 - i % 8) + 1 := by omega
  rw [e3]
  generalize 7 - i % 8 = k
  have hlt : z <<< k < 2 ^ (k + 1) := by
    rw [Nat.shiftLeft_eq, Nat.pow_succ, Nat.mul_comm]
    have := Nat.mul_le_mul (Nat.le_refl (2 ^ k)) hz1
    have h2 : 0 < 2 ^ k := Nat.pow_pos (by omega)
    omega
  have h9 := Nat.shiftLeft_add_eq_or_of_lt hlt v
  rw [Nat.shiftLeft_eq v] at h9
  rw [← h9, Nat.shiftLeft_eq, Nat.pow_succ, Nat.add_mul]
  rw [Nat.mul_comm 2 v, Nat.mul_assoc, Nat.mul_comm 2]
theorem putB_lt {L : List Int} (h : ∀ b ∈ L, b = 0 ∨ b = 1) (i k : Nat) : putB L i k < 256 := octN_lt (fun b hb => h b (List.mem_of_mem_take hb)) k
end Go.Proofs.YtjhflcgphejddaaGreatDoor
