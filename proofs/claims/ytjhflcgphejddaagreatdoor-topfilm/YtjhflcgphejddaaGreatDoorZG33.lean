/-
  Lemmas for the law above, joined into one text (NdN, EarR, Top, Frame, BlkW, BlkN, DropW). No statement is proved here.
-/
import Derived.Test.YtjhflcgphejddaaGreatDoorZG28
import Derived.Test.YtjhflcgphejddaaGreatDoorZG31
import Derived.Deep.RegionHeld3
import Derived.Test.YtjhflcgphejddaaGreatDoorZG0
import Derived.ProofKit
import Derived.OpenShut
import Derived.ShutString
import Derived.SliceStrings
import Derived.Test.YtjhflcgphejddaaGreatDoorZG16
import Derived.Test.YtjhflcgphejddaaGreatDoorZG18
namespace Go.Proofs.YtjhflcgphejddaaGreatDoor
set_option linter.unusedVariables false
set_option maxRecDepth 100000

theorem take_snocN {L : List Nat} {j : Nat} (h : j < L.length) : L.take (j + 1) = L.take j ++ [L.getD j 0] := by rw [List.take_add_one]; simp [List.getD, h]
theorem dim_none : Dim (Sp XN []) 0 := ⟨[], rfl, trivial, fun x => Iff.rfl⟩
theorem dim_take (L : List Nat) : ∀ n, ∃ r, Dim (Sp XN (L.take n)) r
  | 0 => ⟨0, by rw [List.take_zero]; exact dim_none⟩
  | n + 1 => by
    obtain ⟨r, hr⟩ := dim_take L n
    rcases Nat.lt_or_ge n L.length with h | h
    · rw [take_snocN h]
      rcases hr.more (L.getD n 0) with ⟨h1, _⟩ | ⟨h1, _⟩
      · exact ⟨_, h1⟩
      · exact ⟨_, h1⟩
    · rw [List.take_of_length_le (by omega)]
      rw [List.take_of_length_le (by omega)] at hr
      exact ⟨r, hr⟩
theorem dim_ex (L : List Nat) : ∃ r, Dim (Sp XN L) r := by
  have h := dim_take L L.length
  rwa [List.take_length] at h
/-- The rank of a list of sets. -/
noncomputable def rkL (L : List Nat) : Nat := Classical.choose (dim_ex L)
theorem rkL_dim (L : List Nat) : Dim (Sp XN L) (rkL L) := Classical.choose_spec (dim_ex L)
theorem rkL_eq {L : List Nat} {r : Nat} (h : Dim (Sp XN L) r) : rkL L = r := (rkL_dim L).det h
theorem rkL_same {L M : List Nat} (h : ∀ x, Sp XN L x ↔ Sp XN M x) : rkL L = rkL M := rkL_eq ((rkL_dim M).congr fun x => (h x).symm)
theorem rkL_none : rkL [] = 0 := rkL_eq dim_none
theorem rkL_in {L : List Nat} {v : Nat} (h : Sp XN L v) : rkL (L ++ [v]) = rkL L := by
  rcases (rkL_dim L).more v with ⟨h1, _⟩ | ⟨_, h2⟩
  · exact rkL_eq h1
  · exact absurd h h2
theorem rkL_out {L : List Nat} {v : Nat} (h : ¬ Sp XN L v) : rkL (L ++ [v]) = rkL L + 1 := by
  rcases (rkL_dim L).more v with ⟨_, h2⟩ | ⟨h1, _⟩
  · exact absurd h2 h
  · exact rkL_eq h1
theorem rkL_more (L : List Nat) (v : Nat) : rkL L ≤ rkL (L ++ [v]) ∧ rkL (L ++ [v]) ≤ rkL L + 1 := by
  by_cases h : Sp XN L v
  · rw [rkL_in h]; omega
  · rw [rkL_out h]; omega
theorem rkL_app (L : List Nat) : ∀ M : List Nat, rkL L ≤ rkL (L ++ M) ∧ rkL (L ++ M) ≤ rkL L + M.length
  | M => by
    suffices ∀ n, rkL L ≤ rkL (L ++ M.take n) ∧ rkL (L ++ M.take n) ≤ rkL L + (M.take n).length by
      have h := this M.length
      rwa [List.take_length] at h
    intro n
    induction n with
    | zero => rw [List.take_zero, List.append_nil]; simp
    | succ n ih =>
      rcases Nat.lt_or_ge n M.length with h | h
      · have h9 := rkL_more (L ++ M.take n) (M.getD n 0)
        rw [List.append_assoc, ← take_snocN h] at h9
        have e1 : (M.take (n + 1)).length = n + 1 := by rw [List.length_take]; omega
        have e2 : (M.take n).length = n := by rw [List.length_take]; omega
        omega
      · rw [List.take_of_length_le (by omega)]
        rw [List.take_of_length_le (by omega)] at ih
        exact ih
theorem rkL_le (M : List Nat) : rkL M ≤ M.length := by
  have h := rkL_app [] M
  rw [rkL_none, List.nil_append] at h
  omega

/-- The first i of some sets. -/
def preL (M : Nat → Nat) (i : Nat) : List Nat := (List.range i).map M
theorem preL_zero (M : Nat → Nat) : preL M 0 = [] := rfl
theorem preL_succ (M : Nat → Nat) (i : Nat) : preL M (i + 1) = preL M i ++ [M i] := by unfold preL; rw [List.range_succ, List.map_append]; rfl
theorem preL_len (M : Nat → Nat) (i : Nat) : (preL M i).length = i := by simp [preL]
theorem preL_congr {M M' : Nat → Nat} {i : Nat} (h : ∀ j, j < i → M j = M' j) : preL M i = preL M' i := List.map_congr_left fun j hj => h j (List.mem_range.1 hj)
theorem mem_preL {M : Nat → Nat} {i v : Nat} : v ∈ preL M i ↔ ∃ j, j < i ∧ M j = v := by simp [preL]
/-- Which of the first n of some sets raise the rank of a list and of those ahead. -/
noncomputable def upL (L : List Nat) (M : Nat → Nat) (n : Nat) : List Nat := (List.range n).filter fun i => decide (rkL (L ++ preL M i) < rkL (L ++ preL M (i + 1)))
theorem upL_zero (L : List Nat) (M : Nat → Nat) : upL L M 0 = [] := rfl
theorem upL_succ (L : List Nat) (M : Nat → Nat) (n : Nat) : upL L M (n + 1) = upL L M n ++ if rkL (L ++ preL M n) < rkL (L ++ preL M (n + 1)) then [n] else [] := by
  unfold upL
  rw [List.range_succ, List.filter_append]
  by_cases h : rkL (L ++ preL M n) < rkL (L ++ preL M (n + 1))
  · rw [if_pos h]; simp [h]
  · rw [if_neg h]; simp [h]
theorem upL_in {L : List Nat} {M : Nat → Nat} {n : Nat} (h : Sp XN (L ++ preL M n) (M n)) : upL L M (n + 1) = upL L M n := by
  rw [upL_succ, if_neg, List.append_nil]
  rw [preL_succ, ← List.append_assoc, rkL_in h]; omega
theorem upL_out {L : List Nat} {M : Nat → Nat} {n : Nat} (h : ¬ Sp XN (L ++ preL M n) (M n)) : upL L M (n + 1) = upL L M n ++ [n] := by
  rw [upL_succ, if_pos]
  rw [preL_succ, ← List.append_assoc, rkL_out h]; omega
theorem upL_lt {L : List Nat} {M : Nat → Nat} {n x : Nat} (h : x ∈ upL L M n) : x < n := List.mem_range.1 (List.mem_filter.1 h).1
theorem upL_len (L : List Nat) (M : Nat → Nat) : ∀ n, (upL L M n).length + rkL L = rkL (L ++ preL M n)
  | 0 => by rw [upL_zero, preL_zero, List.append_nil]; simp
  | n + 1 => by
    have ih := upL_len L M n
    by_cases h : Sp XN (L ++ preL M n) (M n)
    · rw [upL_in h, preL_succ, ← List.append_assoc, rkL_in h]; exact ih
    · rw [upL_out h, preL_succ, ← List.append_assoc, rkL_out h, List.length_append]; simp; omega
theorem upL_le (L : List Nat) (M : Nat → Nat) (n : Nat) : (upL L M n).length ≤ n := by
  have h := List.length_filter_le (fun i => decide (rkL (L ++ preL M i) < rkL (L ++ preL M (i + 1)))) (List.range n)
  rw [List.length_range] at h
  exact h
/-- They make all that all of them make. -/
theorem upL_span (L : List Nat) (M : Nat → Nat) : ∀ n x, Sp XN (L ++ (upL L M n).map M) x ↔ Sp XN (L ++ preL M n) x
  | 0, x => by rw [upL_zero, preL_zero]; rfl
  | n + 1, x => by
    have ih := upL_span L M n
    have hup : ∀ A B : List Nat, (∀ x, Sp XN A x ↔ Sp XN B x) → ∀ v x, Sp XN (A ++ [v]) x ↔ Sp XN (B ++ [v]) x := fun A B h v x => Sp.same (fun u hu => by
      rcases List.mem_append.1 hu with hu | hu
      · exact Sp.mono (fun _ h => List.mem_append_left _ h) ((h u).1 (Sp.mem hu))
      · exact Sp.mem (List.mem_append_right _ hu)) (fun u hu => by
      rcases List.mem_append.1 hu with hu | hu
      · exact Sp.mono (fun _ h => List.mem_append_left _ h) ((h u).2 (Sp.mem hu))
      · exact Sp.mem (List.mem_append_right _ hu)) x
    by_cases h : Sp XN (L ++ preL M n) (M n)
    · rw [upL_in h, ih, preL_succ, ← List.append_assoc]
      exact Sp.same (fun u hu => Sp.mem (List.mem_append_left _ hu)) (fun u hu => by
        rcases List.mem_append.1 hu with hu | hu
        · exact Sp.mem hu
        · rw [List.mem_singleton.1 hu]; exact h) x
    · rw [upL_out h, preL_succ, List.map_append, ← List.append_assoc, ← List.append_assoc]
      exact hup _ _ ih _ x
theorem upL_getD {L : List Nat} {M : Nat → Nat} {n k : Nat} (h : k < (upL L M n).length) : (upL L M n).getD k 0 < n := upL_lt (L := L) (M := M) (by simp [List.getD, h])

/-- The first that are enough. -/
theorem first_at (M : Nat → Nat) {k : Nat} (hk : 1 ≤ k) : ∀ n, k ≤ (upL [] M n).length → ∃ p, (upL [] M n).getD (k - 1) 0 = p ∧ p < n ∧ rkL (preL M (p + 1)) = k ∧ rkL (preL M p) < k
  | 0, h => by rw [upL_zero] at h; simp at h; omega
  | n + 1, h => by
    have hl := upL_len [] M n
    rw [rkL_none, List.nil_append] at hl
    by_cases c : k ≤ (upL [] M n).length
    · obtain ⟨p, h1, h2, h3, h4⟩ := first_at M hk n c
      refine ⟨p, ?_, by omega, h3, h4⟩
      rw [← h1, upL_succ]
      simp [List.getD, List.getElem?_append_left (show k - 1 < (upL [] M n).length by omega)]
    · have hin : ¬ Sp XN ([] ++ preL M n) (M n) := fun hin => c (by rw [upL_in hin] at h; exact h)
      rw [upL_out hin, List.length_append] at h
      simp only [List.length_singleton] at h
      have e : (upL [] M n).length = k - 1 := by omega
      refine ⟨n, ?_, by omega, ?_, by omega⟩
      · rw [upL_out hin]
        simp [List.getD, e]
      · rw [List.nil_append] at hin
        rw [preL_succ, rkL_out hin]; omega
theorem rk_mono (M : Nat → Nat) {i j : Nat} (h : i ≤ j) : rkL (preL M i) ≤ rkL (preL M j) := by
  induction j with
  | zero => have : i = 0 := by omega
            rw [this]; exact Nat.le_refl _
  | succ j ih =>
    by_cases e : i = j + 1
    · rw [e]; exact Nat.le_refl _
    · have h1 := ih (by omega)
      have h2 := (rkL_more (preL M j) (M j)).1
      rw [← preL_succ] at h2
      omega

/-! Each block alone. -/
def unit (b : Nat) : Nat := 2 ^ b
theorem units_span {L : List Nat} {k : Nat} (hL : ∀ v ∈ L, v < 2 ^ k) : rkL (L ++ preL unit k) = k := by
  refine rkL_eq ⟨piv (fun _ => true) unit k, by rw [piv_len, cntB_all.2 (fun _ _ => rfl)], piv_indep (fun b _ _ => ⟨by unfold unit; rw [Nat.testBit_two_pow]; simp, fun c hc _ => by unfold unit; rw [Nat.testBit_two_pow]; exact decide_eq_false (by omega)⟩), fun x => ?_⟩
  have hall : ∀ (n m : Nat), n ≤ k → m < 2 ^ n → Sp XN (piv (fun _ => true) unit k) m := by
    intro n
    induction n with
    | zero => intro m _ h; obtain rfl : m = 0 := by simpa using h
              exact Sp.zero XN _
    | succ n ih =>
      intro m hn hm
      by_cases c : m.testBit n = true
      · have h1 : m ^^^ 2 ^ n < 2 ^ n := lt_no_top (Nat.xor_lt_two_pow hm (Nat.pow_lt_pow_right (by decide) (by omega))) (by rw [Nat.testBit_xor, c, Nat.testBit_two_pow]; simp)
        have h2 := ih _ (by omega) h1
        have h3 : Sp XN (piv (fun _ => true) unit k) (2 ^ n) := Sp.mem (mem_piv.2 ⟨n, by omega, rfl, rfl⟩)
        have h4 := Sp.add h2 h3
        have e : XN.add (m ^^^ 2 ^ n) (2 ^ n) = m := by
          show m ^^^ 2 ^ n ^^^ 2 ^ n = m
          rw [Nat.xor_assoc, Nat.xor_self, Nat.xor_zero]
        rwa [e] at h4
      · exact ih m (by omega) (lt_no_top hm (by simpa using c))
  refine Sp.same (fun v hv => ?_) (fun v hv => ?_) x
  · obtain ⟨b, hb, _, rfl⟩ := mem_piv.1 hv
    exact Sp.mem (List.mem_append_right _ (mem_preL.2 ⟨b, hb, rfl⟩))
  · rcases List.mem_append.1 hv with hv | hv
    · exact hall k v (Nat.le_refl _) (hL v hv)
    · obtain ⟨b, hb, rfl⟩ := mem_preL.1 hv
      exact Sp.mem (mem_piv.2 ⟨b, hb, rfl, rfl⟩)
theorem lack_len {L : List Nat} {k : Nat} (hL : ∀ v ∈ L, v < 2 ^ k) : (upL L unit k).length + rkL L = k := by rw [upL_len, units_span hL]
theorem rk_le {L : List Nat} {k : Nat} (hL : ∀ v ∈ L, v < 2 ^ k) : rkL L ≤ k := by have := lack_len hL; omega
/-- With all that lack it is enough. -/
theorem lack_fills {L : List Nat} {k : Nat} (hL : ∀ v ∈ L, v < 2 ^ k) : rkL (L ++ (upL L unit k).map unit) = k := by rw [rkL_same (upL_span L unit k), units_span hL]
end Go.Proofs.YtjhflcgphejddaaGreatDoor

namespace Go.Proofs.YtjhflcgphejddaaGreatDoor
open Go.RowKit Go.Maps
set_option linter.unusedVariables false
set_option maxRecDepth 100000

/-- The sets of some seeds, as numbers. -/
noncomputable def mS (k : Nat) (A : List Nat) : List Nat := A.map fun x => maskL (setL k x)
theorem masks_getD (k : Nat) (A : List Nat) : masksD k (fun i => A.getD i 0) A.length = mS k A := by
  unfold masksD mS
  apply List.ext_getElem
  · simp
  · intro i h1 h2
    simp at h1
    simp [h1]
theorem mS_lt {k : Nat} {A : List Nat} (hk : 1 ≤ k) (hA : ∀ x ∈ A, 1 ≤ x) : ∀ v ∈ mS k A, v < 2 ^ k := fun v hv => by
  obtain ⟨x, hx, rfl⟩ := List.mem_map.1 hv
  exact setL_mask hk (hA x hx)
theorem mS_app (k : Nat) (A B : List Nat) : mS k (A ++ B) = mS k A ++ mS k B := List.map_append
theorem FOk.seeds {k z n : Nat} {F : List Drp} (h : FOk k z n F) : ∀ x ∈ sds F, 1 ≤ x ∧ x ≤ 10000 := fun x hx => by
  obtain ⟨d, hd, rfl⟩ := List.mem_map.1 hx
  exact ⟨(h.good d hd).1, (h.good d hd).2.1⟩
theorem sds_len (F : List Drp) : (sds F).length = F.length := by simp [sds]
/-- The rank that is told of seeds. -/
theorem rank_list' (k : Nat) (v : Value) (A : List Nat) (w : World) (hv : IntsAt w v A.length (fun i => ((A.getD i 0 : Nat) : Int))) (h : A.length ≤ 60) (hk : 1 ≤ k ∧ k ≤ 16) (hs : ∀ x ∈ A, 1 ≤ x ∧ x ≤ 10000) :
    Calls Tryz.prog 48 #[.int .i64 k, v] w fun e w' => e = .returned (.tuple #[.int .i64 (rkL (mS k A) : Nat), .nilIface]) ∧ Below w.heap.size w w' := by
  refine (rank_ok k v A.length (fun i => A.getD i 0) w hv h hk.1 hk.2 (fun j hj => hs _ (by simp [List.getD, hj]))).mono fun e w' ⟨r, he, hd, _, hb⟩ => ⟨?_, hb⟩
  rw [masks_getD] at hd
  rw [he, rkL_eq hd]
set_option maxHeartbeats 2000000 in
theorem done_ok {I : PIm0} {w : World} {v : Value} {k z n : Nat} {dr : Int} {F : List Drp} {M : Nat → Prop} (h : ESt I w v k z n dr F M) :
    Calls Tryz.prog 18 #[v] w fun e w' => e = .returned (.bool (decide (rkL (mS k (sds F)) = k))) ∧ Below w.heap.size w w' := by
  obtain ⟨b, vP, vF, p, rfl, hE, hT, hO⟩ := h
  have SD := hide (fun W (hb : Below w.heap.size w W) => seeds_ok (hE.below hb) hO)
  have RK := hide (fun v1 W (hv : IntsAt W v1 F.length (fun i => (((sds F).getD i 0 : Nat) : Int))) => rank_list' k v1 (sds F) W (by rw [sds_len]; exact hv) (by rw [sds_len]; exact hO.few) hO.nk hO.seeds)
  have hck := hE.ck
  have hbl := hE.blt
  obtain ⟨r, hr⟩ : ∃ r, decide (rkL (mS k (sds F)) = k) = r := ⟨_, rfl⟩
  rw [hr]
  have hq : ((rkL (mS k (sds F)) : Int) == (k : Int)) = r := by
    rw [← hr]
    by_cases e : rkL (mS k (sds F)) = k
    · rw [decide_eq_true e, e]; simp
    · rw [decide_eq_false e, beq_eq_false_iff_ne]; omega
  clear hE hT hO hr
  generalize rkL (mS k (sds F)) = m at *
  go_enter Tryz.func18, Tryz.ntmps18
  go_wp2_with fail
  go_region_held3 (fun w' => w'.cell? ⟨b, 1, none⟩ = some (.int .i64 k)) (first | go_keep | exact hck1 | exact hck2)
    (first | (go_at_call 42; refine (SD.out w.drew ⟨rfl, rfl, rfl, Nat.le_refl _, fun _ _ => rfl⟩).mono ?_; rintro e w1 ⟨v1, rfl, hv1, hb1⟩; have HB1 : Hid (Below w.heap.size w w1) := ⟨hb1.os, hb1.tape, hb1.output, hb1.size, hb1.block⟩; have hck1 := cell_below HB1.out hck) | (go_at_call 48; refine (RK.out _ _ hv1).mono ?_; rintro e w2 ⟨rfl, hb2⟩; have HB2 := hide (below_two HB1.out hb2); have hck2 := cell_below hb2 hck1))
  cases r with
  | true =>
    go_wp2
    go_ret
    exact ⟨by first | rfl | simp [hq], HB2.out⟩
  | false =>
    go_wp2
    go_ret
    exact ⟨by first | rfl | simp [hq], HB2.out⟩
end Go.Proofs.YtjhflcgphejddaaGreatDoor

namespace Go.Proofs.YtjhflcgphejddaaGreatDoor
open Go.ChangeShapes Go.WideShapes Go.ChangeAt Go.RowKit
open Go.ChangeMaps (open_string shut_string)
set_option linter.unusedVariables false
set_option maxRecDepth 100000

theorem own : ownKnob Tryz.prog.godebug = none := by kernel_rfl
theorem laidOut : laidOutB Tryz.prog = true := by kernel_rfl

theorem trodAll_below {H : Type} {enc : TypeId × Value → H} {W W' : World} (hb : Below W.heap.size W W') : ∀ (ts : List TypeId) (vs : List Value) (ds : List (DataW H)) (p : List MemPlace),
    (∀ t ∈ ts, Tryz.prog.readableRec t = true ∧ t < Tryz.prog.types.size) → DataW.TrodAll enc Tryz.prog W 0 (fun _ => true) true ts vs ds p → (∀ x ∈ p, x.block < W.heap.size) →
    DataW.TrodAll enc Tryz.prog W' 0 (fun b => decide (b < W.heap.size)) true ts vs ds p
  | [], _, _, _, _, h, _ => by
    obtain ⟨rfl, rfl, rfl⟩ := trodAll_nil h
    exact trodAll_mk0
  | t :: ts, _, _, _, ht, h, hlt => by
    obtain ⟨v, vs, d, ds, p, q, rfl, rfl, rfl, h1, h2⟩ := trodAll_cons h
    have hx := ht t (by simp)
    exact trodAll_cons_mk (Below.trod laidOut hx.1 hx.2 h1 hb (fun x hx => hlt x (by simp [hx]))) (trodAll_below hb ts vs ds q (fun t' h' => ht t' (by simp [h'])) h2 (fun x hx => hlt x (by simp [hx])))
end Go.Proofs.YtjhflcgphejddaaGreatDoor

namespace Go.Proofs.YtjhflcgphejddaaGreatDoor
open Go.ChangeShapes Go.WideShapes Go.ChangeAt Go.RowKit
open Go.ChangeMaps (open_string shut_string)
set_option linter.unusedVariables false
set_option maxRecDepth 100000

theorem cellsStr : Tryz.prog.cellsOf 9 = 1 := by kernel_rfl

/-- A slice of strings as it lies: len strings f 0, f 1, .. -/
def StrsAt (W : World) (v : Value) (len : Nat) (f : Nat → ByteArray) : Prop :=
  (len = 0 ∧ ∃ a cap, v = .slice a 0 cap) ∨ (0 < len ∧ ∃ b o cap, v = .slice (some ⟨b, o, none⟩) len cap ∧ len ≤ cap ∧ cap ≤ maxLen ∧ (∀ i, i < len → W.cell? ⟨b, o + i, none⟩ = some (.string (f i))) ∧ ∀ i, i < len → (f i).size ≤ maxLen)

theorem open_strsAt {H : Type} {enc : TypeId × Value → H} {W : World} {base : Nat} {v : Value} {d : DataW H} {p : List MemPlace}
    (hv : Value.okWide Tryz.prog W .any base 35 v) (h : DataW.Trod enc Tryz.prog W 0 (fun _ => true) true 35 v d p) : ∃ len f, StrsAt W v len f := by
  obtain ⟨a0, len, cap, rfl⟩ := okWide_slice Tryz.underlying35 hv
  obtain ⟨fuel, hf⟩ := h
  rcases open_strings Tryz.underlying35 Tryz.underlying9 cellsStr hf with ⟨hcs, hx⟩ | ⟨a, len', cap', ss, hcs, _, hl, hm, hz, hx, hcell, hws⟩
  · simp [Value.cells] at hcs
    obtain ⟨rfl, rfl, rfl⟩ := hcs
    exact ⟨0, fun _ => ByteArray.empty, Or.inl ⟨rfl, none, 0, rfl⟩⟩
  · simp [Value.cells] at hcs
    obtain ⟨rfl, rfl, rfl⟩ := hcs
    simp only [if_true] at hz
    by_cases h0 : len = 0
    · subst h0
      exact ⟨0, fun _ => ByteArray.empty, Or.inl ⟨rfl, some a, cap, rfl⟩⟩
    · obtain ⟨b, off, spot⟩ := a
      have hspot : spot = none := by simpa [Addr.add] using World.cell?_spot (hcell 0 (by omega))
      subst hspot
      refine ⟨len, fun i => ss.getD i ByteArray.empty, Or.inr ⟨by omega, b, off, cap, rfl, hl, hm, fun i hi => ?_, fun i hi => ?_⟩⟩
      · rw [← add_plain]; exact hcell i (by omega)
      · have hi' : i < ss.length := by omega
        have e : ss.getD i ByteArray.empty = ss[i] := by simp [List.getD, List.getElem?_eq_getElem hi']
        show (ss.getD i ByteArray.empty).size ≤ maxLen
        rw [e]; exact hws _ (List.getElem_mem hi')
end Go.Proofs.YtjhflcgphejddaaGreatDoor

namespace Go.Proofs.YtjhflcgphejddaaGreatDoor
open Go.RowKit
set_option linter.unusedVariables false
set_option maxRecDepth 100000

/-- Blocks, as they lie. -/
structure Blks (w : World) (b o len : Nat) (g : Nat → ByteArray) : Prop where
  pos : 0 < len
  most : len ≤ 16
  cells : ∀ i, i < len → w.cell? ⟨b, o + i, none⟩ = some (.string (g i))
  one : 1 ≤ (g 0).size
  eight : (g 0).size ≤ 8
  same : ∀ i, i < len → (g i).size = (g 0).size
theorem Blks.below {w w' : World} {b o len : Nat} {g : Nat → ByteArray} (h : Blks w b o len g) (hb : Below w.heap.size w w') : Blks w' b o len g :=
  ⟨h.pos, h.most, fun i hi => cell_below hb (h.cells i hi), h.one, h.eight, h.same⟩

/-- Blocks, or a fault of them. -/
theorem check_ways {w : World} {v : Value} {len : Nat} {g : Nat → ByteArray} (hv : StrsAt w v len g) :
    (∃ x : Int, ∀ w1, Below w.heap.size w w1 → Calls Tryz.prog 33 #[v] w1 fun e w' => e = .returned (.iface 61 (.int .i64 x)) ∧ Below w1.heap.size w1 w') ∨
    ∃ b o cap, v = .slice (some ⟨b, o, none⟩) len cap ∧ len ≤ cap ∧ cap ≤ maxLen ∧ Blks w b o len g := by
  rcases hv with ⟨rfl, a, cap, rfl⟩ | ⟨h0, b, o, cap, rfl, hlc, hcm, hcell, hsz⟩
  · exact Or.inl ⟨5, fun w1 hb => (check_none a cap _).mono fun e w' ⟨he, hw⟩ => ⟨he, hw ▸ Below.refl _ _⟩⟩
  by_cases h16 : len ≤ 16
  · by_cases hr : (g 0).size < 1 ∨ 8 < (g 0).size
    · exact Or.inl ⟨1, fun w1 hb => check_range b o len cap (g 0) _ h0 h16 (by simpa using cell_below hb (hcell 0 h0)) (hsz 0 h0) hr⟩
    by_cases hq : ∃ q, q < len ∧ (g q).size ≠ (g 0).size
    · obtain ⟨q, hq, hne⟩ := hq
      exact Or.inl ⟨3, fun w1 hb => check_shape b o len cap g _ h0 h16 (fun i hi => cell_below hb (hcell i hi)) (by omega) (by omega) q hq hne⟩
    exact Or.inr ⟨b, o, cap, rfl, hlc, hcm, h0, h16, hcell, by omega, by omega, fun i hi => Classical.byContradiction fun hn => hq ⟨i, hi, hn⟩⟩
  · exact Or.inl ⟨4, fun w1 hb => (check_full _ len cap _ (by omega) (by omega)).mono fun e w' ⟨he, hw⟩ => ⟨he, hw ▸ Below.refl _ _⟩⟩

end Go.Proofs.YtjhflcgphejddaaGreatDoor

namespace Go.Proofs.YtjhflcgphejddaaGreatDoor
open Go.RowKit
set_option linter.unusedVariables false
set_option maxRecDepth 100000

theorem padL_append (l : List UInt8) (a b : Nat) : padL l a ++ padL (l.drop a) b = padL l (a + b) := by
  unfold padL
  rw [List.length_drop]
  rcases Nat.le_total l.length a with h | h
  · rw [List.take_of_length_le h, List.drop_of_length_le h, List.take_of_length_le (show l.length ≤ a + b by omega)]
    simp only [List.take_nil, List.nil_append, List.append_assoc, List.replicate_append_replicate]
    congr 2; omega
  · rw [show a - l.length = 0 by omega, List.replicate_zero, List.append_nil, List.take_add, List.append_assoc]
    congr 3; omega
/-- Block i as the string that lies in memory. -/
def blkB (l : List UInt8) (n i : Nat) : ByteArray := ⟨(blkL l n i).toArray⟩
theorem blkB_size (l : List UInt8) (n i : Nat) : (blkB l n i).size = n := by
  rw [Lib.size_eq, blkB, List.toList_toArray, blkL_length]
theorem cnt_ge (m n : Nat) (h1 : 1 ≤ n) : m ≤ cntN m n * n := by
  unfold cntN
  have h := Nat.div_add_mod (m + n - 1) n
  have h2 := Nat.mod_lt (m + n - 1) h1
  have h3 : (m + n - 1) / n ≤ max 1 ((m + n - 1) / n) := Nat.le_max_right _ _
  have h4 := Nat.mul_le_mul_right n h3
  rw [Nat.mul_comm] at h
  omega
theorem cnt_lt (m n : Nat) (h1 : 1 ≤ n) (h0 : m ≠ 0) : cntN m n * n < m + n := by
  unfold cntN
  have h2 := Nat.div_mul_le_self (m + n - 1) n
  have h3 : 1 ≤ (m + n - 1) / n := (Nat.one_le_div_iff h1).2 (by omega)
  rw [Nat.max_eq_right h3]; omega
/-- Split finds a fault, or cuts. -/
theorem split_ways (s : ByteArray) (z : Int) (hm : s.size ≤ maxLen) :
    (∃ x : Int, ∀ w : World, Calls Tryz.prog 8 #[.string s, .int .i64 z] w fun e w' => e = .returned (.tuple #[.slice none 0 0, .iface 61 (.int .i64 x)]) ∧ w = w') ∨
    ∃ n : Nat, z = (n : Int) ∧ 1 ≤ n ∧ n ≤ 8 ∧ s.size ≤ 120 ∧ cntN s.size n ≤ 16 ∧ ∀ w : World, Calls Tryz.prog 8 #[.string s, .int .i64 n] w fun e w' => e = .returned (.tuple #[.slice (some ⟨w.heap.size, 0, none⟩) (cntN s.size n) (cntN s.size n), .nilIface]) ∧ Blks w' w.heap.size 0 (cntN s.size n) (blkB s.data.toList n) ∧ Below w.heap.size w w' := by
  by_cases h : 120 < s.size
  · exact Or.inl ⟨4, fun w => split_full s z w h hm⟩
  by_cases hz : z < 1 ∨ 8 < z
  · exact Or.inl ⟨1, fun w => split_range s z w (by omega) hz⟩
  obtain ⟨n, rfl⟩ : ∃ n : Nat, z = (n : Int) := ⟨z.toNat, by omega⟩
  by_cases hk : 16 < cntN s.size n
  · exact Or.inl ⟨4, fun w => split_many s n w (by omega) (by omega) (by omega) hk⟩
  refine Or.inr ⟨n, rfl, by omega, by omega, by omega, by omega, fun w => (split_ok s n w (by omega) (by omega) (by omega) (by omega)).mono fun e w' ⟨he, hr, hb⟩ => ⟨he, ⟨by unfold cntN; omega, by omega, fun i hi => ?_, by rw [blkB_size]; omega, by rw [blkB_size]; omega, fun i hi => by rw [blkB_size, blkB_size]⟩, hb⟩⟩
  rw [Nat.zero_add]; exact hr.cell hi

end Go.Proofs.YtjhflcgphejddaaGreatDoor

namespace Go.Proofs.YtjhflcgphejddaaGreatDoor
open Go.RowKit Go.Maps
set_option linter.unusedVariables false
set_option maxRecDepth 100000

/-- A drop is made, or a fault is told. -/
theorem make_ways {w : World} {v : Value} {len : Nat} {g : Nat → ByteArray} (hv : StrsAt w v len g) (seed : Int) :
    (∃ x : Int, ∀ w1, Below w.heap.size w w1 → Calls Tryz.prog 11 #[v, .int .i64 seed] w1 fun e w' => e = .returned (.tuple #[dropV 0 ⟨#[]⟩, .iface 61 (.int .i64 x)]) ∧ Below w1.heap.size w1 w') ∨
    ∃ b o cap, ∃ n : Nat, v = .slice (some ⟨b, o, none⟩) len cap ∧ len ≤ cap ∧ cap ≤ maxLen ∧ Blks w b o len g ∧ seed = (n : Int) ∧ 1 ≤ n ∧ n ≤ 10000 ∧
      ∀ w1, Below w.heap.size w w1 → Calls Tryz.prog 11 #[v, .int .i64 seed] w1 fun e w' => e = .returned (.tuple #[dropV n (dropB g len n), .nilIface]) ∧ Below w1.heap.size w1 w' := by
  rcases check_ways hv with ⟨x, hx⟩ | ⟨b, o, cap, rfl, hlc, hcm, hB⟩
  · exact Or.inl ⟨x, fun w1 hb => make_check v seed w1 x (fun w2 hb2 => hx w2 (below_two hb hb2))⟩
  · by_cases hs : 1 ≤ seed ∧ seed ≤ 10000
    · obtain ⟨n, rfl⟩ := Int.eq_ofNat_of_zero_le (show 0 ≤ seed by omega)
      exact Or.inr ⟨b, o, cap, n, rfl, hlc, hcm, hB, rfl, by omega, by omega, fun w1 hb => make_ok b o len cap g n w1 hB.pos hB.most (hB.below hb).cells hB.one hB.eight hB.same (by omega) (by omega)⟩
    · exact Or.inl ⟨1, fun w1 hb => make_seed b o len cap g seed w1 hB.pos hB.most (hB.below hb).cells hB.one hB.eight hB.same (by omega)⟩

/-- The set of a seed that is of one block. -/
theorem set_one (k seed : Nat) (hk2 : k ≤ 16) (h1 : 1 ≤ seed) (h2 : seed ≤ k) (w : World) :
    Calls Tryz.prog 34 #[.int .i64 k, .int .i64 seed] w fun e w' => ∃ p cap, e = .returned (.tuple #[.slice (some ⟨p, 0, none⟩) 1 cap, .nilIface]) ∧ w'.cell? ⟨p, 0 + 0, none⟩ = some (.int .i64 ((seed - 1 : Nat) : Int)) ∧ 1 ≤ cap ∧ cap ≤ maxLen ∧ Below w.heap.size w w' := by
  refine (set_ok k seed w (by omega) hk2 h1 (by omega)).mono ?_
  rintro e w' ⟨v, rfl, ⟨p, cap, rfl, hc1, hc2, hc⟩, hb⟩
  rw [setL_one h2] at hc hc1 ⊢
  exact ⟨p, cap, rfl, by simpa using hc 0 (by simp), hc1, hc2, hb⟩
theorem dropB_one {g : Nat → ByteArray} {len seed : Nat} (h1 : 1 ≤ seed) (h2 : seed ≤ len) (hs : (g (seed - 1)).size = (g 0).size) : dropB g len seed = g (seed - 1) := by
  unfold dropB
  rw [setL_one h2]
  refine bytesB_eq _ _ _ hs fun i hi => ?_
  simp [xsum]
end Go.Proofs.YtjhflcgphejddaaGreatDoor
