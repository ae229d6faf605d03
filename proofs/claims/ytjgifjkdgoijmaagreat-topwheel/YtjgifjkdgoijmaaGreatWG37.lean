/-
  Lemmas for the law above, joined into one text (WhWhN, WhComeN, WhC, WhRow). No statement is proved here.
-/
import Derived.Test.YtjgifjkdgoijmaaGreatWG36
import Derived.Test.YtjgifjkdgoijmaaGreatWG22
import Derived.Deep.QuietTactic
import Derived.BigQuiet
import Derived.Test.YtjgifjkdgoijmaaGreatWG0
import Derived.Test.YtjgifjkdgoijmaaGreatWG18
namespace Go.Proofs.YtjgifjkdgoijmaaGreat
set_option linter.unusedVariables false
set_option maxRecDepth 100000

/-- The fault f and the time t that stand for the first time of the seed s: f is 0 and t that time, or f is 5 (none) and t 0. -/
def IsWhen (k e s : Nat) (f t : Nat) : Prop :=
  (f = 0 ∧ t ≤ 1000 ∧ whAt k e t = s ∧ ∀ j, j < t → whAt k e j ≠ s) ∨ (f = 5 ∧ t = 0 ∧ ∀ j, j ≤ 1000 → whAt k e j ≠ s)
theorem IsWhen.det {k e s f t f2 t2 : Nat} (h : IsWhen k e s f t) (h2 : IsWhen k e s f2 t2) : f = f2 ∧ t = t2 := by
  rcases h with ⟨rfl, ht, hs, hj⟩ | ⟨rfl, rfl, hj⟩ <;> rcases h2 with ⟨rfl, ht2, hs2, hj2⟩ | ⟨rfl, rfl, hj2⟩
  · refine ⟨rfl, ?_⟩
    rcases Nat.lt_trichotomy t t2 with h | h | h
    · exact absurd hs (hj2 t h)
    · exact h
    · exact absurd hs2 (hj t2 h)
  · exact absurd hs (hj2 t ht)
  · exact absurd hs2 (hj t2 ht2)
  · exact ⟨rfl, rfl⟩
theorem whAt_first {k e t : Nat} (h : t < k) : whAt k e t = t + 1 := by
  have := whAt_of (k := k) (e := e) (q := 0) (p := t) (by omega)
  rw [Nat.zero_mul, Nat.zero_add, if_neg (by omega)] at this
  exact this
theorem isWhen_low {k e s : Nat} (h1 : 1 ≤ s) (h : s ≤ k) (hk : k ≤ 16) : IsWhen k e s 0 (s - 1) :=
  Or.inl ⟨rfl, by omega, by rw [whAt_first (by omega)]; omega, fun j hj => by rw [whAt_first (by omega)]; omega⟩
/-- Behind the first k: the seed, by the round and the place among what comes more. -/
theorem whAt_more {k e q d : Nat} (hd : d < e) : whAt k e (q * (k + e) + k + d) = k + 1 + (q * e + d) := by
  have := whAt_of (k := k) (e := e) (q := q) (p := k + d) (by omega)
  rw [if_pos (by omega)] at this
  rw [Nat.add_assoc, this]; omega
/-- A seed above k: just one time. -/
theorem whAt_only {k e s t : Nat} (hk : 1 ≤ k) (h : k < s) (ht : whAt k e t = s) : 0 < e ∧ t = (s - k - 1) / e * (k + e) + k + (s - k - 1) % e := by
  obtain ⟨q, p, hp, rfl⟩ := wh_parts (e := e) t hk
  rw [whAt_of hp] at ht
  by_cases hkp : k ≤ p
  · rw [if_pos hkp] at ht
    obtain ⟨d, rfl⟩ : ∃ d, p = k + d := ⟨p - k, by omega⟩
    have hde : d < e := by omega
    have e1 : s - k - 1 = e * q + d := by rw [Nat.mul_comm]; omega
    have e2 : (e * q + d) / e = q := by rw [Nat.mul_add_div (by omega), Nat.div_eq_of_lt hde]; omega
    have e3 : (e * q + d) % e = d := by rw [Nat.mul_add_mod, Nat.mod_eq_of_lt hde]
    rw [e1, e2, e3]
    exact ⟨by omega, by omega⟩
  · rw [if_neg hkp] at ht
    omega
theorem isWhen_none {k s : Nat} (hk : 1 ≤ k) (h : k < s) : IsWhen k 0 s 5 0 :=
  Or.inr ⟨rfl, rfl, fun j _ hj => absurd (whAt_only hk h hj).1 (by omega)⟩
theorem isWhen_more {k e s q d : Nat} (hk : 1 ≤ k) (h : k < s) (he : 0 < e) (hq : (s - k - 1) / e = q) (hd : (s - k - 1) % e = d) (ht : q * (k + e) + k + d ≤ 1000) : IsWhen k e s 0 (q * (k + e) + k + d) := by
  refine Or.inl ⟨rfl, ht, ?_, fun j hj hs => ?_⟩
  · have h1 := Nat.div_add_mod (s - k - 1) e
    rw [whAt_more (by rw [← hd]; exact Nat.mod_lt _ he)]
    rw [hq, hd, Nat.mul_comm] at h1
    omega
  · have := (whAt_only hk h hs).2
    rw [hq, hd] at this
    omega
theorem isWhen_late {k e s q d : Nat} (hk : 1 ≤ k) (h : k < s) (hq : (s - k - 1) / e = q) (hd : (s - k - 1) % e = d) (ht : 1000 < q * (k + e) + k + d) : IsWhen k e s 5 0 := by
  refine Or.inr ⟨rfl, rfl, fun j hj hs => ?_⟩
  have := (whAt_only hk h hs).2
  rw [hq, hd] at this
  omega
end Go.Proofs.YtjgifjkdgoijmaaGreat

namespace Go.Proofs.YtjgifjkdgoijmaaGreat
set_option linter.unusedVariables false
set_option maxRecDepth 100000

/-- In as many as a round has, from whatever time on, each of the first k comes. -/
theorem wh_all {k e t i : Nat} (h1 : 1 ≤ i) (h2 : i ≤ k) : ∃ j, j < k + e ∧ whAt k e (t + j) = i := by
  obtain ⟨q, p, hp, rfl⟩ := wh_parts (k := k) (e := e) t (by omega)
  by_cases h : p ≤ i - 1
  · refine ⟨i - 1 - p, by omega, ?_⟩
    have e1 : q * (k + e) + p + (i - 1 - p) = q * (k + e) + (i - 1) := by omega
    rw [e1, whAt_of (by omega), if_neg (by omega)]; omega
  · refine ⟨k + e - p + (i - 1), by omega, ?_⟩
    have e1 : q * (k + e) + p + (k + e - p + (i - 1)) = (q + 1) * (k + e) + (i - 1) := by rw [Nat.add_mul]; omega
    rw [e1, whAt_of (by omega), if_neg (by omega)]; omega
theorem units_full {L : List Nat} {k r : Nat} (h : ∀ p, p < k → 2 ^ p ∈ L) (hd : Dim (Sp XN L) r) : k ≤ r := by
  have hled : Led (fun _ => true) (fun b => 2 ^ b) k := fun b _ _ => ⟨by rw [Nat.testBit_two_pow]; simp, fun c hc _ => by rw [Nat.testBit_two_pow]; exact decide_eq_false (by omega)⟩
  have h9 := hd.least (piv_indep hled) (fun v hv => by
    obtain ⟨b, hb, _, rfl⟩ := mem_piv.1 hv
    exact Sp.mem (h b hb))
  rw [piv_len, cntB_all.2 (fun _ _ => rfl)] at h9
  exact h9
theorem mask_oneW (p : Nat) : maskL [p] = 2 ^ p := by simp [maskL]
theorem wh_rank {k e t r : Nat} (hd : Dim (Sp XN (masksD k (fun i => whAt k e (t + i)) (k + e))) r) : k ≤ r := by
  refine units_full (fun p hp => ?_) hd
  obtain ⟨j, hj, hx⟩ := wh_all (k := k) (e := e) (t := t) (i := p + 1) (by omega) (by omega)
  refine List.mem_map.2 ⟨j, List.mem_range.2 hj, ?_⟩
  show maskL (setL k (whAt k e (t + j))) = 2 ^ p
  rw [hx, setL_one (by omega), Nat.add_sub_cancel, mask_oneW]
/-- The first time of what comes at time T. -/
def whT (k e T : Nat) : Nat := if whAt k e T ≤ k then whAt k e T - 1 else T
theorem isWhen_at {k e T f t : Nat} (hk : 1 ≤ k) (hk2 : k ≤ 16) (hT : T ≤ 1000) (h : IsWhen k e (whAt k e T) f t) : f = 0 ∧ t = whT k e T := by
  unfold whT
  by_cases hs : whAt k e T ≤ k
  · rw [if_pos hs]
    exact h.det (isWhen_low whAt_pos hs hk2)
  · rw [if_neg hs]
    rcases h with ⟨h1, ht, hx, _⟩ | ⟨_, _, h1⟩
    · refine ⟨h1, ?_⟩
      rw [(whAt_only hk (by omega) hx).2]
      exact (whAt_only hk (by omega) rfl).2.symm
    · exact absurd rfl (h1 T hT)
theorem whT_le {k e T : Nat} (hk2 : k ≤ 16) (hT : T ≤ 1000) : whT k e T ≤ 1000 := by unfold whT; split <;> omega
end Go.Proofs.YtjgifjkdgoijmaaGreat

namespace Go.Proofs.YtjgifjkdgoijmaaGreat
open Go.RowKit
set_option linter.unusedVariables false
set_option maxRecDepth 100000

theorem turns_ok (k e : Int) (w : World) (h : WhOk k e) : Calls Tryz.prog 23 #[.int .i64 k, .int .i64 e] w fun r w' => r = .returned (.bool true) ∧ w = w' := by
  obtain ⟨h1, h2, h3, h4⟩ := h
  go_enter Tryz.func23, Tryz.ntmps23
  go_wp2
  go_ret
  exact ⟨ret_bool (by simp <;> omega), rfl⟩
theorem turns_not (k e : Int) (w : World) (h : ¬ WhOk k e) : Calls Tryz.prog 23 #[.int .i64 k, .int .i64 e] w fun r w' => r = .returned (.bool false) ∧ w = w' := by
  have h' : k < 1 ∨ (1 ≤ k ∧ 16 < k) ∨ (1 ≤ k ∧ k ≤ 16 ∧ e < 0) ∨ (1 ≤ k ∧ k ≤ 16 ∧ 0 ≤ e ∧ 16 < e) := by
    unfold WhOk at h
    omega
  clear h
  rcases h' with h | ⟨h1, h⟩ | ⟨h1, h2, h⟩ | ⟨h1, h2, h3, h⟩ <;>
  · go_enter Tryz.func23, Tryz.ntmps23
    go_wp2
    go_ret
    exact ⟨ret_bool (by first | rfl | simp <;> omega), rfl⟩
theorem whmul {q e : Nat} : ((q * e : Nat) : Int) = (q : Int) * (e : Int) := Int.natCast_mul q e
theorem comes_ok (k e t : Nat) (w : World) (hk : 1 ≤ k) (hk2 : k ≤ 16) (he : e ≤ 16) (ht : t ≤ 1000) :
    Calls Tryz.prog 25 #[.int .i64 k, .int .i64 e, .int .i64 t] w fun r w' => r = .returned (.tuple #[.int .i64 (whAt k e t), .nilIface]) ∧ ∃ n, w' = w.drewN n := by
  have hle := whAt_le (k := k) (e := e) (t := t)
  obtain ⟨q, p, hp, hqp⟩ := wh_parts (e := e) t hk
  have hW := whAt_of (q := q) hp
  rw [← hqp] at hW
  have hd : (t : Int) / ((k : Int) + (e : Int)) = (q : Int) := by
    rw [hqp, ← Int.natCast_add, ← Int.natCast_ediv, Nat.mul_comm, Nat.mul_add_div (by omega), Nat.div_eq_of_lt hp]; simp
  have hm : (t : Int) % ((k : Int) + (e : Int)) = (p : Int) := by
    rw [hqp, ← Int.natCast_add, ← Int.natCast_emod, Nat.mul_comm, Nat.mul_add_mod, Nat.mod_eq_of_lt hp]
  have hd2 : (t : Int).tdiv ((k : Int) + (e : Int)) = (q : Int) := by rw [Int.tdiv_eq_ediv_of_nonneg (by omega)]; exact hd
  have hm2 : (t : Int).tmod ((k : Int) + (e : Int)) = (p : Int) := by rw [Int.tmod_eq_emod_of_nonneg (by omega)]; exact hm
  have hqe : (0 : Int) ≤ (q : Int) * (e : Int) ∧ (q : Int) * (e : Int) ≤ 1000 := by
    have h1 : q * (k + e) = q * k + q * e := Nat.mul_add _ _ _
    have h2 : q * e ≤ 1000 := by omega
    rw [← whmul]
    omega
  obtain ⟨hqe1, hqe2⟩ := hqe
  have hq1 : q ≤ 1000 := by
    have h1 : q * 1 ≤ q * (k + e) := Nat.mul_le_mul_left q (by omega)
    omega
  have hqe3 : ((q * e : Nat) : Int) = (q : Int) * (e : Int) := whmul
  have HW := hide hW
  generalize hx : whAt k e t = x at *
  clear hx hqp hW
  by_cases hpk : k ≤ p
  · have hpk2 : (k : Int) ≤ (p : Int) := by omega
    have hx2 : (p : Int) + 1 + (q : Int) * (e : Int) = (x : Int) := by
      have := HW.out
      rw [if_pos hpk] at this
      rw [this]; omega
    go_enter Tryz.func25, Tryz.ntmps25
    go_wp2_with fail
    go_quiet (fail)
    go_wp2
    go_ret2
    exact ⟨rfl, _, rfl⟩
  · have hpk2 : ¬ (k : Int) ≤ (p : Int) := by omega
    have hx2 : (p : Int) + 1 = (x : Int) := by
      have := HW.out
      rw [if_neg hpk] at this
      omega
    go_enter Tryz.func25, Tryz.ntmps25
    go_wp2_with fail
    go_quiet (fail)
    go_wp2
    go_ret2
    exact ⟨rfl, _, rfl⟩
end Go.Proofs.YtjgifjkdgoijmaaGreat

namespace Go.Proofs.YtjgifjkdgoijmaaGreat
open Go.RowKit
set_option linter.unusedVariables false
set_option maxRecDepth 100000

/-- A row that may be: from a time on, so many. -/
def SpOk (t m : Int) : Prop := 0 ≤ t ∧ t ≤ 1000 ∧ 0 ≤ m ∧ m ≤ 60 ∧ t + m ≤ 1000
instance (t m : Int) : Decidable (SpOk t m) := by unfold SpOk; exact inferInstance
theorem IRow.drewN {w : World} {b n : Nat} {f : Nat → Int} (h : IRow w b n f) (m : Nat) : IRow (w.drewN m) b n f := fun i hi => h i hi
theorem spans_ok (t m : Int) (w : World) (h : SpOk t m) : Calls Tryz.prog 24 #[.int .i64 t, .int .i64 m] w fun r w' => r = .returned (.bool true) ∧ w = w' := by
  obtain ⟨h1, h2, h3, h4, h5⟩ := h
  go_enter Tryz.func24, Tryz.ntmps24
  go_wp2
  go_ret
  exact ⟨ret_bool (by simp <;> omega), rfl⟩
theorem spans_not (t m : Int) (w : World) (h : ¬ SpOk t m) : Calls Tryz.prog 24 #[.int .i64 t, .int .i64 m] w fun r w' => r = .returned (.bool false) ∧ w = w' := by
  have h' : t < 0 ∨ (0 ≤ t ∧ 1000 < t) ∨ (0 ≤ t ∧ t ≤ 1000 ∧ m < 0) ∨ (0 ≤ t ∧ t ≤ 1000 ∧ 0 ≤ m ∧ 60 < m) ∨ (0 ≤ t ∧ t ≤ 1000 ∧ 0 ≤ m ∧ m ≤ 60 ∧ 1000 < t + m) := by
    unfold SpOk at h
    omega
  clear h
  rcases h' with h | ⟨h1, h⟩ | ⟨h1, h2, h⟩ | ⟨h1, h2, h3, h⟩ | ⟨h1, h2, h3, h4, h⟩ <;>
  · go_enter Tryz.func24, Tryz.ntmps24
    go_wp2
    go_ret
    exact ⟨ret_bool (by first | rfl | simp <;> omega), rfl⟩
theorem wrow_range (k e t m : Int) (w : World) (h : ¬ WhOk k e ∨ ¬ SpOk t m) :
    Calls Tryz.prog 7 #[.int .i64 k, .int .i64 e, .int .i64 t, .int .i64 m] w fun r w' => r = .returned (.tuple #[.slice none 0 0, .iface 54 (.int .i64 1)]) ∧ w = w' := by
  by_cases hk : WhOk k e
  · have T := hide (turns_ok k e w hk)
    have S := hide (spans_not t m w (h.resolve_left (fun h => h hk)))
    clear h hk
    go_enter Tryz.func7, Tryz.ntmps7
    go_wp2_with fail
    refine (T.out).mono ?_
    rintro r w1 ⟨rfl, rfl⟩
    go_wp2_with fail
    refine (S.out).mono ?_
    rintro r w1 ⟨rfl, rfl⟩
    go_wp2
    go_ret2
    exact ⟨rfl, rfl⟩
  · have T := hide (turns_not k e w hk)
    clear h hk
    go_enter Tryz.func7, Tryz.ntmps7
    go_wp2_with fail
    refine (T.out).mono ?_
    rintro r w1 ⟨rfl, rfl⟩
    go_wp2
    go_ret2
    exact ⟨rfl, rfl⟩
set_option maxHeartbeats 1000000 in
theorem wrow_ok (k e t m : Nat) (w : World) (hk : 1 ≤ k) (hk2 : k ≤ 16) (he : e ≤ 16) (hm : m ≤ 60) (ht : t + m ≤ 1000) :
    Calls Tryz.prog 7 #[.int .i64 k, .int .i64 e, .int .i64 t, .int .i64 m] w fun r w' =>
      r = .returned (.tuple #[.slice (some ⟨w.heap.size, 0, none⟩) m m, .nilIface]) ∧ IRow w' w.heap.size m (fun i => whAt k e (t + i)) ∧ Below w.heap.size w w' := by
  have T := hide (turns_ok k e w ⟨by omega, by omega, by omega, by omega⟩)
  have S := hide (spans_ok t m w ⟨by omega, by omega, by omega, by omega, by omega⟩)
  have hmk := run_make_row' (P := Tryz.prog) 22 3 (.int .i64 0) 8 Tryz.underlying22 Tryz.infoInt rfl .i64 .i64 m (by omega) (by omega)
  go_enter Tryz.func7, Tryz.ntmps7
  go_wp2_with fail
  refine (T.out).mono ?_
  rintro r w1 ⟨rfl, rfl⟩
  go_wp2_with fail
  refine (S.out).mono ?_
  rintro r w1 ⟨rfl, rfl⟩
  go_wp2
  go_loopw [28] (fun i wr => ∃ j : Nat, j ≤ m ∧ i = .int .i64 j ∧ IRow wr w.heap.size m (fun i => if i < j then (whAt k e (t + i) : Int) else 0) ∧ Below w.heap.size w wr) (fun i _ => m - (intOf i).toNat)
  case atStart => exact ⟨0, Nat.zero_le _, rfl, (irow_zero (World.rowIs_made _ _ _ _)).congr (fun i _ => by simp), (Below.refl _ _).alloc (Nat.le_refl _) _⟩
  case round =>
    obtain ⟨j, hj, rfl, hrow, hb⟩ := hrel
    by_cases hlt : j < m
    · have C := hide (comes_ok k e (t + j) wr hk hk2 he (by omega))
      obtain ⟨hcell, hfr⟩ := hrow j hlt
      have HSET := hide (fun n => (hrow.drewN n).set j (whAt k e (t + j) : Int))
      have hc : ((t + j : Nat) : Int) = (t : Int) + (j : Int) := by omega
      rw [hc] at C
      have hb2 := hide hb
      clear hrow hb
      simp only [Nat.lt_irrefl, if_false] at hcell
      generalize hx : whAt k e (t + j) = x at *
      have HX := hide hx
      clear hx
      go_wp2_with fail
      refine (C.out).mono ?_
      rintro r w2 ⟨rfl, n, rfl⟩
      go_wp2
      go_roundw
      case rel =>
        refine ⟨j + 1, by omega, by go_num, (HSET.out n).congr (fun i hi => ?_), (below_drewN hb2.out n).setCell (Nat.le_refl _) _⟩
        by_cases e1 : i = j
        · subst e1; simp [HX.out]
        · have e2 : (i < j + 1) ↔ (i < j) := by omega
          simp [e1, e2]
      case measure => simp [intOf]; omega
    · obtain rfl : j = m := by omega
      go_wp2
      go_ret2
      exact ⟨rfl, hrow.congr (fun i hi => by rw [if_pos hi]), hb⟩
end Go.Proofs.YtjgifjkdgoijmaaGreat
