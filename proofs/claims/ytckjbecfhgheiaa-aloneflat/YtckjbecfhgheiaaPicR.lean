/-
  Our own contract of slices.Repeat at one number. Lemmas for the laws above; no statement is proved here.
-/
import Derived.Test.YtckjbecfhgheiaaSInts
import Derived.Test.YtckjbecfhgheiaaOwn
import Derived.Shelf.Bits.Mul64
import Derived.Laws.CopyOwn
import Derived.Deep.RegionLaw
import Derived.Deep.DrawnRows
import Derived.Deep.DeepCutAuto
import Derived.Maps.AppendAt
namespace Go.Proofs.Ytckjbecfhgheiaa
open Go.RowKit Go.Shelf Go.Maps
set_option linter.unusedVariables false
set_option maxRecDepth 100000

def renMul : Go.Shelf.Ren := ⟨fun | 212 => 26 | 263 => 27 | 264 => 28 | n => n,
  fun | 9 => 9 | 3 => 3 | 4 => 4 | 0 => 0 | 46 => 48 | 51 => 51 | 53 => 54 | 109 => 49 | 146 => 52 | 148 => 55 | n => n, fun | n => n⟩
theorem laysMul : Go.Proofs.Lays.n212 Try.prog renMul := by constructor <;> (intros; kernel_rfl)
theorem bmul_one (m : Nat) (hm : m ≤ 1000) (w : World) :
    Calls Try.prog 26 #[.int .u64 1, .int .u64 m] w fun e w' => e = .returned (.tuple #[.int .u64 0, .int .u64 m]) ∧ w = w' := by
  refine (Any.bits_Mul laysMul 1 m (by omega) (by omega) w).mono ?_
  rintro e w' ⟨rfl, rfl⟩
  refine ⟨?_, rfl⟩
  rw [Nat.one_mul, Nat.div_eq_of_lt (by omega), Nat.mod_eq_of_lt (by omega)]
  rfl

/-- A row of m, the first j of which are k. -/
def repL (k : Int) (m j : Nat) : List Value := List.replicate j (.int .i64 k) ++ List.replicate (m - j) (.int .i64 0)
def repC (k : Int) (c : Nat) : List Value := List.replicate c (.int .i64 k)
theorem repL_len {k : Int} {m j : Nat} (h : j ≤ m) : (repL k m j).length = m := by simp [repL]; omega
theorem repC_len (k : Int) (c : Nat) : (repC k c).length = c := by simp [repC]
theorem repC_one {k : Int} {c : Nat} : ∀ v ∈ repC k c, v.oneCell' = true := fun v hv => by
  rw [repC, List.mem_replicate] at hv
  rw [hv.2]; rfl
theorem rep_splice {k : Int} {m j c : Nat} (h : j + c ≤ m) : splice (repL k m j) j (repC k c) = repL k m (j + c) := by
  unfold splice repL repC
  rw [List.take_append_of_le_length (by simp), List.take_of_length_le (by simp), List.length_replicate]
  rw [List.drop_append, List.drop_of_length_le (by simp), List.length_replicate, List.drop_replicate, List.nil_append]
  rw [← List.append_assoc, List.replicate_append_replicate]
  congr 2
  omega
theorem rep_src {w : World} {g : Nat} {k : Int} {m j c : Nat} {t : TypeId} (hg : w.heap[g]? = some (.cells (repL k m j).toArray t (0, 0))) (hc : c ≤ j) : ∀ i v, (repC k c)[i]? = some v → w.cell? ((⟨g, 0, none⟩ : Addr).add i) = some v := by
  intro i v hv
  refine World.news_of_block hg i v ?_
  show (repL k m j)[i]? = some v
  have hi : i < c := by
    rw [← repC_len k c]; exact (List.getElem?_eq_some_iff.1 hv).1
  rw [repL, List.getElem?_append_left (by simp; omega), List.getElem?_replicate, if_pos (by omega)]
  rwa [repC, List.getElem?_replicate, if_pos hi] at hv
theorem rep_new {w : World} {b : Nat} {t : TypeId} {m : Nat} (h : w.rowIs b t m (fun _ => .int .i64 0)) (k : Int) : w.heap[b]? = some (.cells (repL k m 0).toArray t (0, 0)) := by
  obtain ⟨c, h1, h2, h3⟩ := h
  rw [h1]
  have e : c.toList = repL k m 0 := by
    apply List.ext_getElem?
    intro i
    rw [Array.getElem?_toList, repL, List.replicate_zero, List.nil_append, Nat.sub_zero, List.getElem?_replicate]
    by_cases hi : i < m
    · rw [h3 i hi, if_pos hi]
    · rw [if_neg hi, Array.getElem?_eq_none (by omega)]
  rw [← e]
theorem rep_in {w : World} {g : Nat} {k : Int} {m : Nat} {t : TypeId} (hg : w.heap[g]? = some (.cells (repL k m m).toArray t (0, 0))) (cap : Nat) : IntsIn w (.slice (some ⟨g, 0, none⟩) m cap) m (fun _ => k) := by
  rcases Nat.eq_zero_or_pos m with rfl | h0
  · exact Or.inl ⟨rfl, _, _, rfl⟩
  · refine Or.inr ⟨h0, g, 0, cap, rfl, fun i hi => ?_⟩
    have := rep_src (c := m) hg (Nat.le_refl _) i (.int .i64 k) (by rw [repC, List.getElem?_replicate, if_pos hi])
    rw [Addr.add_lit] at this
    exact this

set_option maxHeartbeats 2000000 in
theorem prepeat_ok {w : World} {b c1 : Nat} (k : Int) (m : Nat) (h1 : 1 ≤ m) (hm : m ≤ 1000) (hc : w.cell? ⟨b, 0, none⟩ = some (.int .i64 k)) :
    Calls Try.prog 23 #[.slice (some ⟨b, 0, none⟩) 1 c1, .int .i64 m] w fun e w' => ∃ v, e = .returned v ∧ IntsIn w' v m (fun _ => k) ∧ Below w.heap.size w w' ∧ ∀ g, v.ownBlock = some g → w.heap.size ≤ g := by
  have M := hide (bmul_one m hm)
  have hmk := run_make_row' (P := Try.prog) 22 3 (.int .i64 0) 8 Try.underlying22 Try.infoInt rfl .i64 .i64 m (by omega) (by omega)
  have hb0 : Below w.heap.size w (w.alloc (.cells (madeCells #[.int .i64 0] m) 3)) := (Below.refl _ _).alloc (Nat.le_refl _) _
  have R0 := hide (rep_new (World.rowIs_made w (.int .i64 0) m 3) k)
  have hc0 := cell_below hb0 hc
  have HSZ : Hid ((Try.prog.info? 3).map (·.size) = some 1) := by
    unfold Hid
    obtain ⟨i0, hi0, _, hz1, _⟩ := info_parts Try.infoInt
    rw [hi0]; simp [hz1]
  have HB0 := hide hb0
  obtain ⟨cs1, hcs1⟩ : ∃ cs, cs = repC k 1 := ⟨_, rfl⟩
  have hl1 : cs1.length = 1 := by rw [hcs1, repC_len]
  have HO1 : Hid (∀ v ∈ cs1, v.oneCell' = true) := by unfold Hid; rw [hcs1]; exact repC_one
  have HS1 : Hid (∀ j v, cs1[j]? = some v → (w.alloc (.cells (madeCells #[.int .i64 0] m) 3)).cell? ((⟨b, 0, none⟩ : Addr).add j) = some v) := by
    intro j v hv
    rw [hcs1] at hv
    have hj : j < 1 := by rw [← repC_len k 1]; exact (List.getElem?_eq_some_iff.1 hv).1
    obtain rfl : j = 0 := by omega
    rw [repC, List.getElem?_replicate, if_pos hj] at hv
    cases hv
    rw [Addr.add_lit]
    exact hc0
  have HL0 := hide (repL_len (k := k) (Nat.zero_le m))
  have HC1 := hide hcs1
  clear hc hb0 hc0 hcs1
  go_enter Try.func23, Try.ntmps23
  go_wp2_with fail
  refine (M.out _).mono ?_
  rintro e w1 ⟨rfl, rfl⟩
  go_wp2_with (refine wpList_copy_splice rfl (.tmp 31) (.tmp 32) 22 22 rfl 3 Try.underlying22 HSZ.out (some ⟨w.heap.size, 0, none⟩) (some ⟨b, 0, none⟩) m m 1 c1 rfl rfl w.heap.size 0 (repL k m 0) 3 R0.out cs1 (by rw [hl1]; show 1 = min 1 m; omega) (fun _ => ⟨rfl, _, rfl, HS1.out⟩) (by rw [HL0.out, hl1]; omega) HO1.out w.heap.size w HB0.out (Nat.le_refl _) ?_; intro w2 hg2 hb2)
  
  go_loopw [8] (fun i wr => ∃ j : Nat, 1 ≤ j ∧ j ≤ m ∧ i = .int .i64 j ∧ Hid (wr.heap[w.heap.size]? = some (.cells (repL k m j).toArray 3 (0, 0))) ∧ Below w.heap.size w wr) (fun i _ => m - (intOf i).toNat)
  case atStart =>
    refine ⟨1, Nat.le_refl _, h1, rfl, ?_, hb2⟩
    have h9 := hg2.out
    rw [HC1.out, rep_splice (by omega), Nat.zero_add] at h9
    exact h9
  case round =>
    obtain ⟨j, hj1, hj, rfl, hg, hb⟩ := hrel
    by_cases hlt : j < m
    · obtain ⟨c, hc⟩ : ∃ c, c = min j (m - j) := ⟨_, rfl⟩
      obtain ⟨cs, hcs⟩ : ∃ cs, cs = repC k c := ⟨_, rfl⟩
      have hcl : cs.length = c := by rw [hcs, repC_len]
      have HO : Hid (∀ v ∈ cs, v.oneCell' = true) := by unfold Hid; rw [hcs]; exact repC_one
      have HS : Hid (∀ i v, cs[i]? = some v → wr.cell? ((⟨w.heap.size, 0, none⟩ : Addr).add i) = some v) := by
        unfold Hid; rw [hcs]; exact rep_src hg.out (by omega)
      have HF : Hid (j + cs.length ≤ (repL k m j).length) := by unfold Hid; rw [hcl, repL_len (by omega)]; omega
      have HN : Hid (cs.length = Nat.min j (m - j)) := by unfold Hid; rw [hcl, hc]
      have HCS := hide hcs
      have HB := hide hb
      have hcb : c ≤ m - j := by omega
      have hc0 : 1 ≤ c := by omega
      have hwr : IntKind.i64.wrap ((j : Int) + (c : Int)) = (j : Int) + (c : Int) := by rw [IntKind.wrap_i64]; omega
      clear hcs hb hc
      go_wp2_with fail
      go_region_law (refine step_copy_splice rfl (.tmp 41) (.tmp 44) 22 22 rfl 3 Try.underlying22 HSZ.out (some ⟨w.heap.size, j, none⟩) (some ⟨w.heap.size, 0, none⟩) (m - j) (m - j) j m (by simp [Act.eval, Act.put] <;> omega) (by simp [Act.eval, Act.put]) w.heap.size j (repL k m j) 3 hg.out cs HN.out (fun _ => ⟨rfl, _, rfl, HS.out⟩) HF.out HO.out w.heap.size w HB.out.drew (Nat.le_refl _) ?_; intro w4 hg4 hb4)
      all_goals
        go_wp2_with fail
        go_roundw
        case rel =>
          have h9 := hg4.out
          rw [HCS.out, rep_splice (by omega)] at h9
          have R : 1 ≤ j + c ∧ j + c ≤ m ∧ Value.int .i64 ((j : Int) + (c : Int)) = .int .i64 ((j + c : Nat) : Int) ∧ Hid (w4.heap[w.heap.size]? = some (.cells (repL k m (j + c)).toArray 3 (0, 0))) ∧ Below w.heap.size w w4 :=
            ⟨by omega, by omega, by simp, h9, hb4⟩
          first
            | exact ⟨j + c, R⟩
            | exact ⟨j + c, by omega, by omega, by simp, h9⟩
            | ((repeat apply Exists.intro); exact ⟨⟨j + c, R⟩, rfl⟩)
        case measure => simp [intOf]; omega
    · obtain rfl : j = m := by omega
      go_wp2
      go_ret
      exact ⟨_, rfl, rep_in hg.out _, hb, fun g hg => by cases hg; exact Nat.le_refl _⟩
end Go.Proofs.Ytckjbecfhgheiaa
