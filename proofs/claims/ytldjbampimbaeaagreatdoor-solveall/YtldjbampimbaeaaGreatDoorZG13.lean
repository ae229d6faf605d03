/-
  Lemmas for the law above, joined into one text (Top, Frame, DropW, SvAllA). No statement is proved here.
-/
import Derived.Test.YtldjbampimbaeaaGreatDoorZG1
import Derived.ProofKit
import Derived.OpenShut
import Derived.ShutString
import Derived.SliceStrings
import Derived.Test.YtldjbampimbaeaaGreatDoorZG3
import Derived.Test.YtldjbampimbaeaaGreatDoorZG12
import Derived.Test.YtldjbampimbaeaaGreatDoorZG10
namespace Go.Proofs.YtldjbampimbaeaaGreatDoor
open Go.ChangeShapes Go.WideShapes Go.ChangeAt Go.RowKit
open Go.ChangeMaps (open_string shut_string)
set_option linter.unusedVariables false
set_option maxRecDepth 100000

theorem own : ownKnob Tryz.prog.godebug = none := by kernel_rfl
theorem laidOut : laidOutB Tryz.prog = true := by kernel_rfl

theorem trodAll_below {H : Type} {enc : TypeId × Value → H} {W W' : World} (hb : Below W.heap.size W W') : ∀ (ts : List TypeId) (vs : List Value) (ds : List (DataW H)) (p : List MemPlace),
    (∀ t ∈ ts, Tryz.prog.readableRec t = true ∧ t < Tryz.prog.types.size) → DataW.TrodAll enc Tryz.prog W 0 (fun _ => true) true ts vs ds p → (∀ x ∈ p, x.block < W.heap.size) →
    DataW.TrodAll enc Tryz.prog W' 0 (fun b => decide (b < W.heap.size)) true ts vs ds p
  | [], _, _, _, _, h, _ => by
    obtain ⟨rfl, rfl, rfl⟩ := trodAll_nil h
    exact trodAll_mk0
  | t :: ts, _, _, _, ht, h, hlt => by
    obtain ⟨v, vs, d, ds, p, q, rfl, rfl, rfl, h1, h2⟩ := trodAll_cons h
    have hx := ht t (by simp)
    exact trodAll_cons_mk (Below.trod laidOut hx.1 hx.2 h1 hb (fun x hx => hlt x (by simp [hx]))) (trodAll_below hb ts vs ds q (fun t' h' => ht t' (by simp [h'])) h2 (fun x hx => hlt x (by simp [hx])))
end Go.Proofs.YtldjbampimbaeaaGreatDoor

namespace Go.Proofs.YtldjbampimbaeaaGreatDoor
open Go.ChangeShapes Go.WideShapes Go.ChangeAt Go.RowKit
open Go.ChangeMaps (open_string shut_string)
set_option linter.unusedVariables false
set_option maxRecDepth 100000

theorem cellsStr : Tryz.prog.cellsOf 9 = 1 := by kernel_rfl

/-- A slice of strings as it lies: len strings f 0, f 1, .. -/
def StrsAt (W : World) (v : Value) (len : Nat) (f : Nat → ByteArray) : Prop :=
  (len = 0 ∧ ∃ a cap, v = .slice a 0 cap) ∨ (0 < len ∧ ∃ b o cap, v = .slice (some ⟨b, o, none⟩) len cap ∧ len ≤ cap ∧ cap ≤ maxLen ∧ (∀ i, i < len → W.cell? ⟨b, o + i, none⟩ = some (.string (f i))) ∧ ∀ i, i < len → (f i).size ≤ maxLen)

theorem open_strsAt {H : Type} {enc : TypeId × Value → H} {W : World} {base : Nat} {v : Value} {d : DataW H} {p : List MemPlace}
    (hv : Value.okWide Tryz.prog W .any base 22 v) (h : DataW.Trod enc Tryz.prog W 0 (fun _ => true) true 22 v d p) : ∃ len f, StrsAt W v len f := by
  obtain ⟨a0, len, cap, rfl⟩ := okWide_slice Tryz.underlying22 hv
  obtain ⟨fuel, hf⟩ := h
  rcases open_strings Tryz.underlying22 Tryz.underlying9 cellsStr hf with ⟨hcs, hx⟩ | ⟨a, len', cap', ss, hcs, _, hl, hm, hz, hx, hcell, hws⟩
  · simp [Value.cells] at hcs
    obtain ⟨rfl, rfl, rfl⟩ := hcs
    exact ⟨0, fun _ => ByteArray.empty, Or.inl ⟨rfl, none, 0, rfl⟩⟩
  · simp [Value.cells] at hcs
    obtain ⟨rfl, rfl, rfl⟩ := hcs
    simp only [if_true] at hz
    by_cases h0 : len = 0
    · subst h0
      exact ⟨0, fun _ => ByteArray.empty, Or.inl ⟨rfl, some a, cap, rfl⟩⟩
    · obtain ⟨b, off, spot⟩ := a
      have hspot : spot = none := by simpa [Addr.add] using World.cell?_spot (hcell 0 (by omega))
      subst hspot
      refine ⟨len, fun i => ss.getD i ByteArray.empty, Or.inr ⟨by omega, b, off, cap, rfl, hl, hm, fun i hi => ?_, fun i hi => ?_⟩⟩
      · rw [← add_plain]; exact hcell i (by omega)
      · have hi' : i < ss.length := by omega
        have e : ss.getD i ByteArray.empty = ss[i] := by simp [List.getD, List.getElem?_eq_getElem hi']
        show (ss.getD i ByteArray.empty).size ≤ maxLen
        rw [e]; exact hws _ (List.getElem_mem hi')
end Go.Proofs.YtldjbampimbaeaaGreatDoor

namespace Go.Proofs.YtldjbampimbaeaaGreatDoor
open Go.RowKit Go.Maps
set_option linter.unusedVariables false
set_option maxRecDepth 100000

/-- Blocks, as they lie. -/
structure Blks (w : World) (b o len : Nat) (g : Nat → ByteArray) : Prop where
  pos : 0 < len
  most : len ≤ 16
  cells : ∀ i, i < len → w.cell? ⟨b, o + i, none⟩ = some (.string (g i))
  one : 1 ≤ (g 0).size
  eight : (g 0).size ≤ 8
  same : ∀ i, i < len → (g i).size = (g 0).size
theorem Blks.below {w w' : World} {b o len : Nat} {g : Nat → ByteArray} (h : Blks w b o len g) (hb : Below w.heap.size w w') : Blks w' b o len g :=
  ⟨h.pos, h.most, fun i hi => cell_below hb (h.cells i hi), h.one, h.eight, h.same⟩

/-- Blocks, or a fault of them. -/
theorem check_ways {w : World} {v : Value} {len : Nat} {g : Nat → ByteArray} (hv : StrsAt w v len g) :
    (∃ x : Int, ∀ w1, Below w.heap.size w w1 → Calls Tryz.prog 6 #[v] w1 fun e w' => e = .returned (.iface 54 (.int .i64 x)) ∧ Below w1.heap.size w1 w') ∨
    ∃ b o cap, v = .slice (some ⟨b, o, none⟩) len cap ∧ len ≤ cap ∧ cap ≤ maxLen ∧ Blks w b o len g := by
  rcases hv with ⟨rfl, a, cap, rfl⟩ | ⟨h0, b, o, cap, rfl, hlc, hcm, hcell, hsz⟩
  · exact Or.inl ⟨5, fun w1 hb => (check_none a cap _).mono fun e w' ⟨he, hw⟩ => ⟨he, hw ▸ Below.refl _ _⟩⟩
  by_cases h16 : len ≤ 16
  · by_cases hr : (g 0).size < 1 ∨ 8 < (g 0).size
    · exact Or.inl ⟨1, fun w1 hb => check_range b o len cap (g 0) _ h0 h16 (by simpa using cell_below hb (hcell 0 h0)) (hsz 0 h0) hr⟩
    by_cases hq : ∃ q, q < len ∧ (g q).size ≠ (g 0).size
    · obtain ⟨q, hq, hne⟩ := hq
      exact Or.inl ⟨3, fun w1 hb => check_shape b o len cap g _ h0 h16 (fun i hi => cell_below hb (hcell i hi)) (by omega) (by omega) q hq hne⟩
    exact Or.inr ⟨b, o, cap, rfl, hlc, hcm, h0, h16, hcell, by omega, by omega, fun i hi => Classical.byContradiction fun hn => hq ⟨i, hi, hn⟩⟩
  · exact Or.inl ⟨4, fun w1 hb => (check_full _ len cap _ (by omega) (by omega)).mono fun e w' ⟨he, hw⟩ => ⟨he, hw ▸ Below.refl _ _⟩⟩

/-- A drop is made, or a fault is told. -/
theorem make_ways {w : World} {v : Value} {len : Nat} {g : Nat → ByteArray} (hv : StrsAt w v len g) (seed : Int) :
    (∃ x : Int, ∀ w1, Below w.heap.size w w1 → Calls Tryz.prog 8 #[v, .int .i64 seed] w1 fun e w' => e = .returned (.tuple #[dropV 0 ⟨#[]⟩, .iface 54 (.int .i64 x)]) ∧ Below w1.heap.size w1 w') ∨
    ∃ b o cap, ∃ n : Nat, v = .slice (some ⟨b, o, none⟩) len cap ∧ len ≤ cap ∧ cap ≤ maxLen ∧ Blks w b o len g ∧ seed = (n : Int) ∧ 1 ≤ n ∧ n ≤ 10000 ∧
      ∀ w1, Below w.heap.size w w1 → Calls Tryz.prog 8 #[v, .int .i64 seed] w1 fun e w' => e = .returned (.tuple #[dropV n (dropB g len n), .nilIface]) ∧ Below w1.heap.size w1 w' := by
  rcases check_ways hv with ⟨x, hx⟩ | ⟨b, o, cap, rfl, hlc, hcm, hB⟩
  · exact Or.inl ⟨x, fun w1 hb => make_check v seed w1 x (fun w2 hb2 => hx w2 (below_two hb hb2))⟩
  · by_cases hs : 1 ≤ seed ∧ seed ≤ 10000
    · obtain ⟨n, rfl⟩ := Int.eq_ofNat_of_zero_le (show 0 ≤ seed by omega)
      exact Or.inr ⟨b, o, cap, n, rfl, hlc, hcm, hB, rfl, by omega, by omega, fun w1 hb => make_ok b o len cap g n w1 hB.pos hB.most (hB.below hb).cells hB.one hB.eight hB.same (by omega) (by omega)⟩
    · exact Or.inl ⟨1, fun w1 hb => make_seed b o len cap g seed w1 hB.pos hB.most (hB.below hb).cells hB.one hB.eight hB.same (by omega)⟩

/-- The set of a seed that is of one block. -/
theorem set_one (k seed : Nat) (hk2 : k ≤ 16) (h1 : 1 ≤ seed) (h2 : seed ≤ k) (w : World) :
    Calls Tryz.prog 24 #[.int .i64 k, .int .i64 seed] w fun e w' => ∃ p cap, e = .returned (.tuple #[.slice (some ⟨p, 0, none⟩) 1 cap, .nilIface]) ∧ w'.cell? ⟨p, 0 + 0, none⟩ = some (.int .i64 ((seed - 1 : Nat) : Int)) ∧ 1 ≤ cap ∧ cap ≤ maxLen ∧ Below w.heap.size w w' := by
  refine (set_ok k seed w (by omega) hk2 h1 (by omega)).mono ?_
  rintro e w' ⟨v, rfl, ⟨p, cap, rfl, hc1, hc2, hc⟩, hb⟩
  rw [setL_one h2] at hc hc1 ⊢
  exact ⟨p, cap, rfl, by simpa using hc 0 (by simp), hc1, hc2, hb⟩
theorem dropB_one {g : Nat → ByteArray} {len seed : Nat} (h1 : 1 ≤ seed) (h2 : seed ≤ len) (hs : (g (seed - 1)).size = (g 0).size) : dropB g len seed = g (seed - 1) := by
  unfold dropB
  rw [setL_one h2]
  refine bytesB_eq _ _ _ hs fun i hi => ?_
  simp [xsum]
end Go.Proofs.YtldjbampimbaeaaGreatDoor

namespace Go.Proofs.YtldjbampimbaeaaGreatDoor
open Go.RowKit Go.Maps
set_option linter.unusedVariables false
set_option maxRecDepth 100000

theorem IntsAt.below {w w' : World} {v : Value} {len : Nat} {f : Nat → Int} (h : IntsAt w v len f) (hb : Below w.heap.size w w') : IntsAt w' v len f := by
  rcases h with h | ⟨h0, b, o, cap, hv, h1, h2, h3, h4⟩
  · exact Or.inl h
  · exact Or.inr ⟨h0, b, o, cap, hv, h1, h2, fun i hi => cell_below hb (h3 i hi), h4⟩
theorem IntsAt.congr {w : World} {v : Value} {len : Nat} {f g : Nat → Int} (h : IntsAt w v len f) (e : ∀ i, i < len → f i = g i) : IntsAt w v len g := by
  rcases h with h | ⟨h0, b, o, cap, hv, h1, h2, h3, h4⟩
  · exact Or.inl h
  · exact Or.inr ⟨h0, b, o, cap, hv, h1, h2, fun i hi => by rw [← e i hi]; exact h3 i hi, fun i hi => by rw [← e i hi]; exact h4 i hi⟩
theorem own_intsAt {w : World} {B : Nat} {v : Value} {n : Nat} {f : Nat → Int} (h : w.ownsRow B 3 1 v n ((List.range n).map fun k : Nat => .int .i64 (f k))) (h0 : 0 < n) (hw : ∀ i, i < n → (Lit.int .i64 (f i)).wf = true) : IntsAt w v n f := by
  obtain ⟨g, cap, hv, h1, h2, h3⟩ := own_ints h h0
  exact Or.inr ⟨h0, g, 0, cap, hv, h1, h2, h3, hw⟩
/-- Two drops, as they lie behind a literal. -/
theorem two_dropsA (w : World) (s0 s1 : Int) (d0 d1 : ByteArray) (h0 : (Lit.int .i64 s0).wf = true) (h1 : (Lit.int .i64 s1).wf = true) (z0 : d0.size ≤ maxLen) (z1 : d1.size ≤ maxLen) : DropsAt (w.alloc (.cells #[.int .i64 s0, .string d0, .int .i64 s1, .string d1] 29)) (.slice (some ⟨w.heap.size, 0, none⟩) 2 2) 2 (fun i => if i = 0 then s0 else s1) (fun i => if i = 0 then d0 else d1) := by
  refine Or.inr ⟨by omega, w.heap.size, 0, 2, rfl, Nat.le_refl _, by unfold maxLen; omega, fun i hi => ?_⟩
  match i, hi with
  | 0, _ => exact ⟨by simp, by simp, z0, h0⟩
  | 1, _ => exact ⟨by simp, by simp, z1, h1⟩
theorem all_fact (w : World) : Calls Tryz.prog 4 #[.int .i64 2, .int .i64 1, .slice (some ⟨w.heap.size, 0, none⟩) 2 2] (w.alloc (.cells #[.int .i64 1, .string ⟨#[97]⟩, .int .i64 2, .string ⟨#[98]⟩] 29))
    fun e w' => ∃ b : Nat, e = .returned (.tuple #[.slice (some ⟨b, 0, none⟩) 2 2, .nilIface]) ∧ w'.cell? ⟨b, 0, none⟩ = some (.string ⟨#[97]⟩) ∧ w'.cell? ⟨b, 1, none⟩ = some (.string ⟨#[98]⟩) ∧ Below w.heap.size w w' := by
  have hd := two_dropsA w 1 2 ⟨#[97]⟩ ⟨#[98]⟩ (by decide) (by decide) (by decide) (by decide)
  have hd' := hd.congr (s' := fun i => (((if i = 0 then 1 else 2 : Nat) : Nat) : Int)) (d' := fun i => if i = 0 then ⟨#[97]⟩ else ⟨#[98]⟩) (fun i _ => by by_cases c : i = 0 <;> simp [c]) (fun i _ => rfl)
  refine (solve_ok 2 1 _ 2 _ _ _ hd' (by decide +kernel)).mono ?_
  rintro e w' ⟨hS, hb⟩
  have hrow : ∀ i, i < 2 → rv (maskL (setL 2 (if i = 0 then 1 else 2))) (if i = 0 then ⟨#[97]⟩ else ⟨#[98]⟩) = rv (2 ^ i) (if i = 0 then ⟨#[97]⟩ else ⟨#[98]⟩) := fun i hi => by
    match i, hi with
    | 0, _ => rw [if_pos rfl, setL_one (by omega), maskL_one]
    | 1, _ => rw [if_neg (by omega), setL_one (by omega), maskL_one]
  obtain ⟨b, he, hc⟩ := solved_right (g := fun i => if i = 0 then ⟨#[97]⟩ else ⟨#[98]⟩) hS (fun v hv => by
    obtain ⟨i, hi, rfl⟩ := List.mem_map.1 hv
    have hi := List.mem_range.1 hi
    rw [hrow i hi]
    exact unit_fits (g := fun i => if i = 0 then ⟨#[97]⟩ else ⟨#[98]⟩) hi) (fun p hp => Sp.mem (List.mem_map.2 ⟨p, List.mem_range.2 hp, hrow p hp⟩)) (fun p hp => by by_cases c : p = 0 <;> simp only [c, if_true, if_false] <;> rfl)
  exact ⟨b, he, hc 0 (by omega), hc 1 (by omega), below_two ((Below.refl _ _).alloc (Nat.le_refl _) _) hb⟩
end Go.Proofs.YtldjbampimbaeaaGreatDoor
