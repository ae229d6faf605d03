/-
  Lemmas for the law above, joined into one text (EarM, RIn, RInT). No statement is proved here.
-/
import Derived.Test.YtjgifjkdgoijmaaGreatDoorHG31
import Derived.Test.YtjgifjkdgoijmaaGreatDoorHG39
import Derived.Test.YtjgifjkdgoijmaaGreatDoorHG0
import Derived.Test.YtjgifjkdgoijmaaGreatDoorHG3
namespace Go.Proofs.YtjgifjkdgoijmaaGreatDoor
open Go.RowKit Go.Maps
set_option linter.unusedVariables false
set_option maxRecDepth 100000

theorem rkL_sub {A B : List Nat} (h : ∀ v ∈ A, v ∈ B) : rkL A ≤ rkL B := by
  obtain ⟨C, h1, h2, h3⟩ := rkL_dim A
  have h9 := (rkL_dim B).least h2 fun v hv => Sp.mono h ((h3 v).1 (Sp.mem hv))
  omega
theorem know_one {k s p : Nat} {d : ByteArray} {q : PS} {F : List Drp} (h : Took (setL k) q F) (hm : (s, d) ∈ F) (hs : setL k s = [p]) : q.known p = true := by
  have h9 := h.shut _ hm
  cases e : q.known p with
  | true => rfl
  | false =>
    refine absurd ?_ h9
    show ((setL k s).filter fun r => !q.known r).length = 1
    rw [hs]; simp [e]
theorem knows_one {q : PS} {d : ByteArray} (h : Took (setL 1) q [(1, d)]) : (knows 1 q.known).length = 1 := by
  have h9 := know_one (p := 0) (s := 1) (d := d) h (by simp) (by rw [setL_one (by omega)])
  simp [knows, List.range_succ, h9]
/-- Drops of the blocks g. -/
def Made (g : Nat → ByteArray) (k : Nat) (F : List Drp) : Prop := ∀ d ∈ F, d.2 = dropB g k d.1
theorem made_none (g : Nat → ByteArray) (k : Nat) : Made g k [] := fun d hd => by cases hd
theorem Made.add {g : Nat → ByteArray} {k s : Nat} {F : List Drp} (h : Made g k F) : Made g k (eAdd F s (dropB g k s)) := by
  unfold eAdd
  split
  · exact h
  · intro d hd
    rcases List.mem_append.1 hd with hd | hd
    · exact h d hd
    · rw [List.mem_singleton.1 hd]
theorem eAdd_sds {F : List Drp} {s : Nat} {d : ByteArray} {x : Nat} : x ∈ sds (eAdd F s d) ↔ x ∈ sds F ∨ x = s := by
  unfold eAdd
  split
  · rename_i h
    exact ⟨Or.inl, fun h9 => h9.elim id fun e => e ▸ h⟩
  · rw [sds_add]; simp
theorem eAdd_len {F : List Drp} {s : Nat} {d : ByteArray} : (eAdd F s d).length ≤ F.length + 1 := by
  unfold eAdd
  split <;> simp
/-- What Data tells of drops of a text. -/
def TextOf (k : Nat) (F : List Drp) (t : ByteArray) (x : Int) (s : ByteArray) : Prop := (rkL (mS k (sds F)) = k ∧ x = 0 ∧ s = t) ∨ (rkL (mS k (sds F)) < k ∧ x = 8 ∧ s = ⟨#[]⟩)
theorem data_text {I : PIm0} {w : World} {v : Value} {k z : Nat} {dr : Int} {F : List Drp} {M : Nat → Prop} {t : ByteArray} (h : ESt I w v k z t.size dr F M) (hF : Made (blkB t.data.toList z) k F) :
    Calls Tryz.prog 7 #[v] w fun e w' => ∃ x s, e = .returned (.tuple #[.string s, Tell x]) ∧ TextOf k F t x s ∧ Below w.heap.size w w' :=
  (data_ok h).mono fun e w' ⟨x, s, he, hd, hb⟩ => ⟨x, s, he, (dataOf_made h.ok hF (fun p => blkB_size _ _ _) hd).imp (fun ⟨h1, h2, h3⟩ => ⟨h1, h2, by
    have h9 := back_bytes t z h.ok.nz.1
    rw [h.ok.cnt] at h9
    rw [h3, h9]⟩) id, hb⟩
theorem full_rank {k z n : Nat} {F : List Drp} (h : FOk k z n F) : rkL (mS k (sds F)) ≤ k := rk_le (mS_lt h.nk.1 fun x hx => (h.seeds x hx).1)
/-- A text of one block is there when that was heard. -/
theorem one_fact {z n : Nat} {x : Int} {s d t : ByteArray} (hO : FOk 1 z n [(1, d)]) (ht : ((d.data.toList).take n) = t.data.toList) (h : DataOf 1 z n [(1, d)] x s) : x = 0 ∧ s = t := by
  have hz : d.size = z := (hO.good (1, d) (by simp)).2.2
  have hr : rkL (mS 1 (sds [(1, d)])) = 1 := rk_one (mask_some ⟨by omega, by omega⟩ ⟨by omega, by omega⟩)
  rcases dataOf_made (g := fun _ => d) hO (fun e he => by
    rw [List.mem_singleton.1 he]
    exact (dropB_one (g := fun _ => d) (len := 1) (seed := 1) (by omega) (by omega) rfl).symm) (fun _ => hz) h with ⟨_, h1, h2⟩ | ⟨h1, _⟩
  · refine ⟨h1, ?_⟩
    rw [h2]
    have e : allL (fun _ => d) 1 = d.data.toList := by rw [allL_succ]; simp [allL]
    rw [e, ht]
  · rw [hr] at h1; omega
end Go.Proofs.YtjgifjkdgoijmaaGreatDoor

namespace Go.Proofs.YtjgifjkdgoijmaaGreatDoor
open Go.RowKit
set_option linter.unusedVariables false
set_option maxRecDepth 100000

set_option maxHeartbeats 1000000 in
theorem rin_no (b o n cap : Nat) (v : Int) (f : Nat → Int) (w : World) (hn : n ≤ maxLen)
    (hcell : ∀ i, i < n → w.cell? ⟨b, o + i, none⟩ = some (.int .i64 (f i))) (hs : ∀ i, i < n → f i ≠ v) :
    Calls Tryz.prog 11 #[.slice (some ⟨b, o, none⟩) n cap, .int .i64 v] w fun e w' => e = .returned (.bool false) ∧ w = w' := by
  unfold maxLen at hn
  have HC := hide hcell
  have HS := hide hs
  clear hcell hs
  go_enter Tryz.func11, Tryz.ntmps11
  go_wp2
  go_loop [5] (fun i => ∃ j : Nat, j ≤ n ∧ i = .int .i64 j) (fun i => n - (intOf i).toNat)
  case atStart => exact ⟨0, Nat.zero_le _, rfl⟩
  case round =>
    obtain ⟨j, hj, rfl⟩ := hrel
    by_cases hlt : j < n
    · have hc := HC.out j hlt
      have hz := HS.out j hlt
      have hz' : (f j == v) = false := by rw [beq_eq_false_iff_ne]; exact hz
      clear hz
      go_wp2
      go_round
      case rel => exact ⟨j + 1, by omega, by go_num⟩
      case measure => simp [intOf]; omega
    · go_wp2
      go_ret
      exact ⟨rfl, rfl⟩
set_option maxHeartbeats 1000000 in
theorem rin_yes (b o n cap : Nat) (v : Int) (f : Nat → Int) (w : World) (hn : n ≤ maxLen)
    (hcell : ∀ i, i < n → w.cell? ⟨b, o + i, none⟩ = some (.int .i64 (f i))) (q : Nat) (hq : q < n) (hs : f q = v) :
    Calls Tryz.prog 11 #[.slice (some ⟨b, o, none⟩) n cap, .int .i64 v] w fun e w' => e = .returned (.bool true) ∧ w = w' := by
  unfold maxLen at hn
  have HC := hide hcell
  have HS := hide hs
  clear hcell hs
  go_enter Tryz.func11, Tryz.ntmps11
  go_wp2
  go_loop [5] (fun i => ∃ j : Nat, j ≤ q ∧ i = .int .i64 j) (fun i => n - (intOf i).toNat)
  case atStart => exact ⟨0, Nat.zero_le _, rfl⟩
  case round =>
    obtain ⟨j, hj, rfl⟩ := hrel
    have hlt : j < n := by omega
    have hc := HC.out j hlt
    by_cases hz : f j = v
    · have hz' : (f j == v) = true := by rw [beq_iff_eq]; exact hz
      clear hz
      go_wp2
      go_ret
      exact ⟨rfl, rfl⟩
    · have hz' : (f j == v) = false := by rw [beq_eq_false_iff_ne]; exact hz
      have hne : j ≠ q := fun e => hz (by rw [e]; exact HS.out)
      have hlt2 : j < q := by omega
      clear hz hne
      go_wp2
      go_round
      case rel => exact ⟨j + 1, by omega, by go_num⟩
      case measure => simp [intOf]; omega
/-- 'in' as the list says it, whichever. -/
theorem rin_any (b o n cap : Nat) (v : Int) (f : Nat → Int) (w : World) (hn : n ≤ maxLen)
    (hcell : ∀ i, i < n → w.cell? ⟨b, o + i, none⟩ = some (.int .i64 (f i))) :
    ∃ r : Bool, (r = true ↔ ∃ q, q < n ∧ f q = v) ∧ Calls Tryz.prog 11 #[.slice (some ⟨b, o, none⟩) n cap, .int .i64 v] w fun e w' => e = .returned (.bool r) ∧ w = w' := by
  by_cases h : ∃ q, q < n ∧ f q = v
  · obtain ⟨q, hq, he⟩ := h
    exact ⟨true, by simp; exact ⟨q, hq, he⟩, rin_yes b o n cap v f w hn hcell q hq he⟩
  · exact ⟨false, by simp; exact fun q hq he => h ⟨q, hq, he⟩, rin_no b o n cap v f w hn hcell (fun i hi he => h ⟨i, hi, he⟩)⟩
end Go.Proofs.YtjgifjkdgoijmaaGreatDoor

namespace Go.Proofs.YtjgifjkdgoijmaaGreatDoor
open Go.RowKit Go.Maps
set_option linter.unusedVariables false
set_option maxRecDepth 100000

theorem rin_empty (a : Option Addr) (cap : Nat) (v : Int) (w : World) : Calls Tryz.prog 11 #[.slice a 0 cap, .int .i64 v] w fun e w' => e = .returned (.bool false) ∧ w = w' := by
  go_enter Tryz.func11, Tryz.ntmps11
  go_wp2
  go_loop [5] (fun i => i = .int .i64 0) (fun _ => 0)
  case atStart => rfl
  case round =>
    obtain rfl := hrel
    go_wp2
    go_ret
    exact ⟨rfl, rfl⟩
/-- 'in' the taken ones. -/
theorem rin_T {w : World} {B : Nat} {vT : Value} {T : List Nat} (h : w.ownsRow B 3 1 vT T.length (toV T)) (seed : Int) : ∃ a cap, vT = .slice a T.length cap ∧ T.length ≤ cap ∧ cap ≤ maxLen ∧
    ∃ r : Bool, (r = true ↔ ∃ n : Nat, seed = n ∧ n ∈ T) ∧ ∀ w', Below w.heap.size w w' → Calls Tryz.prog 11 #[vT, .int .i64 seed] w' fun e w'' => e = .returned (.bool r) ∧ w' = w'' := by
  obtain ⟨a, cap, hv, h1, h2, h3⟩ := own_lsh h
  refine ⟨a, cap, hv, h1, h2, ?_⟩
  rcases Nat.eq_zero_or_pos T.length with e | h0
  · refine ⟨false, ⟨(fun h => by cases h), (fun ⟨n, _, hn⟩ => ?_)⟩, fun w' hb => ?_⟩
    · rw [List.eq_nil_of_length_eq_zero e] at hn; cases hn
    · rw [hv, e]; exact rin_empty a cap seed w'
  · obtain ⟨g, cap', hv', q1, q2, q3⟩ := h3 h0
    by_cases hm : ∃ n : Nat, seed = n ∧ n ∈ T
    · obtain ⟨n, rfl, hn⟩ := hm
      obtain ⟨q, hq, he⟩ := List.getElem_of_mem hn
      refine ⟨true, ⟨fun _ => ⟨n, rfl, hn⟩, fun _ => rfl⟩, fun w' hb => ?_⟩
      rw [hv']
      exact rin_yes g 0 _ cap' _ _ w' (by omega) (fun i hi => cell_below hb (q3 i hi)) q hq (by simp [List.getD, hq, he])
    · refine ⟨false, ⟨(fun h => by cases h), (fun h => absurd h hm)⟩, fun w' hb => ?_⟩
      rw [hv']
      exact rin_no g 0 _ cap' _ _ w' (by omega) (fun i hi => cell_below hb (q3 i hi)) (fun i hi e => hm ⟨T.getD i 0, e.symm, by rw [show T.getD i 0 = T[i] by simp [List.getD, hi]]; exact List.getElem_mem hi⟩)
end Go.Proofs.YtjgifjkdgoijmaaGreatDoor
