/-
  Lemmas for the law above, joined into one text (SvAllW). No statement is proved here.
-/
import Derived.Test.YtldjbampimbaeaaGreatDoorZSvAll
namespace Go.Proofs.YtldjbampimbaeaaGreatDoor
open Go.RowKit Go.Maps
set_option linter.unusedVariables false
set_option maxRecDepth 100000

theorem StrsAt.slice {w : World} {v : Value} {len : Nat} {g : Nat → ByteArray} (h : StrsAt w v len g) : ∃ a cap, v = .slice a len cap := by
  rcases h with ⟨rfl, a, cap, rfl⟩ | ⟨_, b, o, cap, rfl, _⟩
  · exact ⟨_, _, rfl⟩
  · exact ⟨_, _, rfl⟩

set_option maxHeartbeats 4000000 in
/-- Rank finds a fault: nothing more is asked. -/
theorem all_bad (a : Option Addr) (len cap : Nat) (v2 : Value) (more x : Int) (w : World)
    (hR : ∀ w1, Below w.heap.size w w1 → Calls Tryz.prog 5 #[.int .i64 (len : Nat), v2] w1 fun e w' => e = .returned (.tuple #[.int .i64 0, .iface 54 (.int .i64 x)]) ∧ w1 = w') :
    Calls Tryz.prog 3 #[.slice a len cap, v2, .int .i64 more] w fun e w' => e = .returned (.bool true) ∧ Below w.heap.size w w' := by
  have F := hide (all_fact w)
  have R := hide hR
  clear hR
  go_enter Tryz.func3, Tryz.ntmps3
  go_wp2_with fail
  refine (F.out).mono ?_
  rintro e w1 ⟨b1, rfl, c0, c1, hb1⟩
  have HB1 := hide hb1
  have R1 := hide (R.out w1 HB1.out)
  clear hb1 F R
  go_wp2_with fail
  refine (R1.out).mono ?_
  rintro e w2 ⟨rfl, rfl⟩
  go_wp2
  go_ret
  exact ⟨rfl, HB1.out⟩

set_option maxHeartbeats 4000000 in
/-- The blocks are none. -/
theorem all_none (a : Option Addr) (len cap : Nat) (v2 : Value) (m : Nat) (s : Nat → Nat) (more x : Int) (w : World) (hi : IntsAt w v2 m (fun i => (s i : Int))) (hm : m ≤ 60) (hk : 1 ≤ len ∧ len ≤ 16) (hs : ∀ j, j < m → 1 ≤ s j ∧ s j ≤ 10000)
    (hC : ∀ w1, Below w.heap.size w w1 → Calls Tryz.prog 6 #[.slice a len cap] w1 fun e w' => e = .returned (.iface 54 (.int .i64 x)) ∧ Below w1.heap.size w1 w') :
    Calls Tryz.prog 3 #[.slice a len cap, v2, .int .i64 more] w fun e w' => e = .returned (.bool true) ∧ Below w.heap.size w w' := by
  have F := hide (all_fact w)
  have RK := hide (fun w1 (hb : Below w.heap.size w w1) => rank_ok len v2 m s w1 (hi.below hb) hm hk.1 hk.2 hs)
  have C := hide hC
  clear hC hi hs
  go_enter Tryz.func3, Tryz.ntmps3
  go_wp2_with fail
  refine (F.out).mono ?_
  rintro e w1 ⟨b1, rfl, c0, c1, hb1⟩
  have HB1 := hide hb1
  have R1 := hide (RK.out w1 HB1.out)
  clear hb1 F RK
  go_wp2_with fail
  refine (R1.out).mono ?_
  rintro e w2 ⟨r, rfl, hdim, hrk, hb2⟩
  have HB2 := hide (below_two HB1.out hb2)
  have C3 := hide (C.out w2 HB2.out)
  clear hb2 C c0 c1 hdim HB1
  go_wp2_with fail
  refine (C3.out).mono ?_
  rintro e w3 ⟨rfl, hb3⟩
  have HB3 := hide (below_two HB2.out hb3)
  clear hb3
  go_wp2
  go_ret
  exact ⟨rfl, HB3.out⟩

theorem all_walk {w : World} (v : Value) (len : Nat) (g : Nat → ByteArray) (hv : StrsAt w v len g) (v2 : Value) (m : Nat) (f : Nat → Int) (hi : IntsAt w v2 m f) (more : Int) (hmw : (Lit.int .i64 more).wf = true) (hg : HasErr w) :
    Calls Tryz.prog 3 #[v, v2, .int .i64 more] w fun e w' => e = .returned (.bool true) ∧ Below w.heap.size w w' := by
  by_cases hm : 60 < m
  · obtain ⟨a, cap, rfl⟩ := hv.slice
    obtain ⟨a2, c2, rfl, _⟩ := hi.open
    exact all_bad a len cap _ more 4 w fun w1 _ => rank_full len a2 m c2 w1 hm
  · by_cases hk : 1 ≤ len ∧ len ≤ 16
    · by_cases hb : ∃ j, j < m ∧ badS (f j) = true
      · obtain ⟨a, cap, rfl⟩ := hv.slice
        exact all_bad a len cap _ more 1 w fun w1 h1 => rank_s len v2 m f w1 (hi.below h1) (by omega) ⟨by omega, by omega⟩ hb
      · have hgood : ∀ j, j < m → 1 ≤ f j ∧ f j ≤ 10000 := fun j hj => Classical.byContradiction fun h => hb ⟨j, hj, by unfold badS; rw [decide_eq_false h]; rfl⟩
        have hi' : IntsAt w v2 m (fun i => (((f i).toNat : Nat) : Int)) := hi.congr fun i hi => by have := hgood i hi; omega
        have hs : ∀ j, j < m → 1 ≤ (f j).toNat ∧ (f j).toNat ≤ 10000 := fun j hj => by have := hgood j hj; omega
        rcases check_ways hv with ⟨x, hx⟩ | ⟨b, o, cap, rfl, hlc, hcm, hB⟩
        · obtain ⟨a, cap, rfl⟩ := hv.slice
          exact all_none a len cap v2 m (fun i => (f i).toNat) more x w hi' (by omega) hk hs hx
        · exact all_core b o len cap g v2 m (fun i => (f i).toNat) more w hg hlc hcm hB hi' (by omega) hs hmw
    · obtain ⟨a, cap, rfl⟩ := hv.slice
      obtain ⟨a2, c2, rfl, _⟩ := hi.open
      exact all_bad a len cap _ more 1 w fun w1 _ => rank_k len a2 m c2 w1 (by omega) (by omega)
end Go.Proofs.YtldjbampimbaeaaGreatDoor
