/-
  Our own contract of dropref1's Knows over this seat's translation. Lemmas for the laws above; no statement is proved here.
-/
import Derived.Test.YtopibfbpecjgbaaDoorRSt
namespace Go.Proofs.YtopibfbpecjgbaaDoor
open Go.RowKit Go.Maps
set_option linter.unusedVariables false
set_option maxRecDepth 100000

theorem knows_succ (kn : Nat → Bool) (j : Nat) : knows (j + 1) kn = knows j kn ++ if kn j then [j] else [] := by
  unfold knows
  rw [List.range_succ, List.filter_append]
  congr 1
  by_cases c : kn j = true
  · rw [List.filter_cons_of_pos c, if_pos c]; rfl
  · rw [List.filter_cons_of_neg c, if_neg c]; rfl
theorem knows_len (k : Nat) (kn : Nat → Bool) : (knows k kn).length ≤ k := Nat.le_trans (List.length_filter_le _ _) (by simp)

set_option maxHeartbeats 2000000 in
theorem rknows_ok (b k : Nat) (kn : Nat → Bool) (B : Nat → ByteArray) (vL vT : Value) (w : World) (hk2 : k ≤ 16) (hp : RPb w b k kn B vL vT) :
    Calls Tryd.prog 18 #[.pointer (some ⟨b, 0, none⟩)] w fun e w' => ∃ v, e = .returned v ∧ Lsh w' v (knows k kn) ∧ Below w.heap.size w w' := by
  have HP := hide hp
  clear hp
  obtain ⟨i0, hi, hz0, hz1, hz2⟩ := info_parts Tryd.infoInt
  have Hi := hide hi
  have Hz0 := hide hz0
  have Hz1 := hide hz1
  have Hz2 := hide hz2
  clear hi hz0 hz1 hz2
  go_enter Tryd.func18, Tryd.ntmps18
  go_wp2
  go_loopw [3, 4] (fun v i wr => ∃ j : Nat, j ≤ k ∧ i = .int .i64 j ∧ wr.ownsRow w.heap.size 3 1 v (knows j kn).length (toV (knows j kn)) ∧ Below w.heap.size w wr) (fun _ i _ => k - (intOf i).toNat)
  case atStart => exact ⟨0, Nat.zero_le _, rfl, World.ownsRow_nil _ _ _ _, Below.refl _ _⟩
  case round =>
    obtain ⟨j, hj, rfl, hA, hb⟩ := hrel
    have HA := hide hA
    have hbs := hb.size
    have hl := knows_len j kn
    have ck := (HP.out.below hb).kk
    clear hA
    by_cases hlt : j < k
    · have ckn := ((HP.out.below hb).known j (by omega)).1
      have HK := hide (knows_succ kn j)
      have hj0 : (0 : Int) ≤ (j : Int) := by omega
      have hj1 : (j : Int) < 16 := by omega
      have hjk : (j : Int) < (k : Int) := by omega
      generalize knows j kn = F at *
      cases hx : kn j with
      | true =>
        rw [hx] at ckn
        rw [Hid, hx, if_pos rfl] at HK
        have HK' := hide HK
        clear hx HK
        go_wp2_with (first | (at_builtin; refine wpList_append_own _ rfl _ _ 23 rfl w.heap.size 3 i0 (.int .i64 0) 1 8 Tryd.underlying23 Hi.out Hz0.out Hz1.out Hz2.out rfl (by decide) _ _ _ rfl (HA.out.alloc _) ⟨wr.heap.size, 0, none⟩ 1 1 [.int .i64 (j : Nat)] rfl rfl (cell_one_new _ _ _) (fun x hx => by simp at hx; subst hx; rfl) (by unfold maxLen; omega) (by omega) (by simp; omega) ?_; intro v3 w3 hown3 hgrow3 hnil3) | go_in)
        go_roundw
        case rel =>
          have R : j + 1 ≤ k ∧ Value.int .i64 ((j : Int) + 1) = .int .i64 ((j + 1 : Nat) : Int) ∧ w3.ownsRow w.heap.size 3 1 v3 (knows (j + 1) kn).length (toV (knows (j + 1) kn)) ∧ Below w.heap.size w w3 := by
            refine ⟨by omega, by simp, ?_, (hb.alloc hbs _).grown hgrow3 (by simp; omega) (fun q hq => (HA.out.lt q hq).1)⟩
            rw [HK'.out, List.length_append, show toV (F ++ [j]) = toV F ++ [.int .i64 (j : Nat)] by simp [toV]]
            exact hown3
          first
            | exact ⟨j + 1, R⟩
            | ((repeat apply Exists.intro); exact ⟨⟨j + 1, R⟩, rfl⟩)
        case measure => simp [intOf]; omega
      | false =>
        rw [hx] at ckn
        rw [Hid, hx] at HK
        simp only [Bool.false_eq_true, if_false, List.append_nil] at HK
        have HK' := hide HK
        clear hx HK
        go_wp2_with go_in
        go_roundw
        case rel => exact ⟨j + 1, by omega, by go_num, by rw [HK'.out]; exact HA.out, hb⟩
        case measure => simp [intOf]; omega
    · obtain rfl : j = k := by omega
      have hjk : ¬ (j : Int) < (j : Int) := by omega
      have HLs := hide (own_lsh HA.out)
      go_wp2
      go_ret
      exact ⟨_, rfl, HLs.out, hb⟩
end Go.Proofs.YtopibfbpecjgbaaDoor
