/-
  Lemmas for the law above, joined into one text (PicR, PicF, ByHdW). No statement is proved here.
-/
import Derived.Test.YtjhflcgphejddaaDoorHG4
import Derived.Shelf.Bits.Mul64
import Derived.Laws.CopyOwn
import Derived.Deep.RegionLaw
import Derived.Deep.DrawnRows
import Derived.Deep.DeepCutAuto
import Derived.Maps.AppendAt
import Derived.Test.YtjhflcgphejddaaDoorHG9
import Derived.Test.YtjhflcgphejddaaDoorHG5
import Derived.Test.YtjhflcgphejddaaDoorHG22
import Derived.Test.YtjhflcgphejddaaDoorHG26
import Derived.Test.YtjhflcgphejddaaDoorHG30
import Derived.Test.YtjhflcgphejddaaDoorHG33
namespace Go.Proofs.YtjhflcgphejddaaDoor
open Go.RowKit Go.Shelf Go.Maps
set_option linter.unusedVariables false
set_option maxRecDepth 100000

def renMul : Go.Shelf.Ren := ⟨fun | 212 => 48 | 263 => 74 | 264 => 75 | n => n,
  fun | 9 => 9 | 3 => 3 | 4 => 4 | 0 => 0 | 46 => 84 | 51 => 124 | 53 => 127 | 109 => 95 | 146 => 125 | 148 => 128 | n => n, fun | n => n⟩
theorem laysMul : Go.Proofs.Lays.n212 Tryd.prog renMul := by constructor <;> (intros; kernel_rfl)
theorem bmul_one (m : Nat) (hm : m ≤ 1000) (w : World) :
    Calls Tryd.prog 48 #[.int .u64 1, .int .u64 m] w fun e w' => e = .returned (.tuple #[.int .u64 0, .int .u64 m]) ∧ w = w' := by
  refine (Any.bits_Mul laysMul 1 m (by omega) (by omega) w).mono ?_
  rintro e w' ⟨rfl, rfl⟩
  refine ⟨?_, rfl⟩
  rw [Nat.one_mul, Nat.div_eq_of_lt (by omega), Nat.mod_eq_of_lt (by omega)]
  rfl

/-- A row of m, the first j of which are k. -/
def repL (k : Int) (m j : Nat) : List Value := List.replicate j (.int .i64 k) ++ List.replicate (m - j) (.int .i64 0)
def repC (k : Int) (c : Nat) : List Value := List.replicate c (.int .i64 k)
theorem repL_len {k : Int} {m j : Nat} (h : j ≤ m) : (repL k m j).length = m := by simp [repL]; omega
theorem repC_len (k : Int) (c : Nat) : (repC k c).length = c := by simp [repC]
theorem repC_one {k : Int} {c : Nat} : ∀ v ∈ repC k c, v.oneCell' = true := fun v hv => by
  rw [repC, List.mem_replicate] at hv
  rw [hv.2]; rfl
theorem rep_splice {k : Int} {m j c : Nat} (h : j + c ≤ m) : splice (repL k m j) j (repC k c) = repL k m (j + c) := by
  unfold splice repL repC
  rw [List.take_append_of_le_length (by simp), List.take_of_length_le (by simp), List.length_replicate]
  rw [List.drop_append, List.drop_of_length_le (by simp), List.length_replicate, List.drop_replicate, List.nil_append]
  rw [← List.append_assoc, List.replicate_append_replicate]
  congr 2
  omega
theorem rep_src {w : World} {g : Nat} {k : Int} {m j c : Nat} {t : TypeId} (hg : w.heap[g]? = some (.cells (repL k m j).toArray t (0, 0))) (hc : c ≤ j) : ∀ i v, (repC k c)[i]? = some v → w.cell? ((⟨g, 0, none⟩ : Addr).add i) = some v := by
  intro i v hv
  refine World.news_of_block hg i v ?_
  show (repL k m j)[i]? = some v
  have hi : i < c := by
    rw [← repC_len k c]; exact (List.getElem?_eq_some_iff.1 hv).1
  rw [repL, List.getElem?_append_left (by simp; omega), List.getElem?_replicate, if_pos (by omega)]
  rwa [repC, List.getElem?_replicate, if_pos hi] at hv
theorem rep_new {w : World} {b : Nat} {t : TypeId} {m : Nat} (h : w.rowIs b t m (fun _ => .int .i64 0)) (k : Int) : w.heap[b]? = some (.cells (repL k m 0).toArray t (0, 0)) := by
  obtain ⟨c, h1, h2, h3⟩ := h
  rw [h1]
  have e : c.toList = repL k m 0 := by
    apply List.ext_getElem?
    intro i
    rw [Array.getElem?_toList, repL, List.replicate_zero, List.nil_append, Nat.sub_zero, List.getElem?_replicate]
    by_cases hi : i < m
    · rw [h3 i hi, if_pos hi]
    · rw [if_neg hi, Array.getElem?_eq_none (by omega)]
  rw [← e]
theorem rep_in {w : World} {g : Nat} {k : Int} {m : Nat} {t : TypeId} (hg : w.heap[g]? = some (.cells (repL k m m).toArray t (0, 0))) (cap : Nat) : IntsIn w (.slice (some ⟨g, 0, none⟩) m cap) m (fun _ => k) := by
  rcases Nat.eq_zero_or_pos m with rfl | h0
  · exact Or.inl ⟨rfl, _, _, rfl⟩
  · refine Or.inr ⟨h0, g, 0, cap, rfl, fun i hi => ?_⟩
    have := rep_src (c := m) hg (Nat.le_refl _) i (.int .i64 k) (by rw [repC, List.getElem?_replicate, if_pos hi])
    rw [Addr.add_lit] at this
    exact this

set_option maxHeartbeats 2000000 in
theorem prepeat_ok {w : World} {b c1 : Nat} (k : Int) (m : Nat) (h1 : 1 ≤ m) (hm : m ≤ 1000) (hc : w.cell? ⟨b, 0, none⟩ = some (.int .i64 k)) :
    Calls Tryd.prog 32 #[.slice (some ⟨b, 0, none⟩) 1 c1, .int .i64 m] w fun e w' => ∃ v, e = .returned v ∧ IntsIn w' v m (fun _ => k) ∧ Below w.heap.size w w' ∧ ∀ g, v.ownBlock = some g → w.heap.size ≤ g := by
  have M := hide (bmul_one m hm)
  have hmk := run_make_row' (P := Tryd.prog) 36 3 (.int .i64 0) 8 Tryd.underlying36 Tryd.infoInt rfl .i64 .i64 m (by omega) (by omega)
  have hb0 : Below w.heap.size w (w.alloc (.cells (madeCells #[.int .i64 0] m) 3)) := (Below.refl _ _).alloc (Nat.le_refl _) _
  have R0 := hide (rep_new (World.rowIs_made w (.int .i64 0) m 3) k)
  have hc0 := cell_below hb0 hc
  have HSZ : Hid ((Tryd.prog.info? 3).map (·.size) = some 1) := by
    unfold Hid
    obtain ⟨i0, hi0, _, hz1, _⟩ := info_parts Tryd.infoInt
    rw [hi0]; simp [hz1]
  have HB0 := hide hb0
  obtain ⟨cs1, hcs1⟩ : ∃ cs, cs = repC k 1 := ⟨_, rfl⟩
  have hl1 : cs1.length = 1 := by rw [hcs1, repC_len]
  have HO1 : Hid (∀ v ∈ cs1, v.oneCell' = true) := by unfold Hid; rw [hcs1]; exact repC_one
  have HS1 : Hid (∀ j v, cs1[j]? = some v → (w.alloc (.cells (madeCells #[.int .i64 0] m) 3)).cell? ((⟨b, 0, none⟩ : Addr).add j) = some v) := by
    intro j v hv
    rw [hcs1] at hv
    have hj : j < 1 := by rw [← repC_len k 1]; exact (List.getElem?_eq_some_iff.1 hv).1
    obtain rfl : j = 0 := by omega
    rw [repC, List.getElem?_replicate, if_pos hj] at hv
    cases hv
    rw [Addr.add_lit]
    exact hc0
  have HL0 := hide (repL_len (k := k) (Nat.zero_le m))
  have HC1 := hide hcs1
  clear hc hb0 hc0 hcs1
  go_enter Tryd.func32, Tryd.ntmps32
  go_wp2_with fail
  refine (M.out _).mono ?_
  rintro e w1 ⟨rfl, rfl⟩
  go_wp2_with (refine wpList_copy_splice rfl (.tmp 31) (.tmp 32) 36 36 rfl 3 Tryd.underlying36 HSZ.out (some ⟨w.heap.size, 0, none⟩) (some ⟨b, 0, none⟩) m m 1 c1 rfl rfl w.heap.size 0 (repL k m 0) 3 R0.out cs1 (by rw [hl1]; show 1 = min 1 m; omega) (fun _ => ⟨rfl, _, rfl, HS1.out⟩) (by rw [HL0.out, hl1]; omega) HO1.out w.heap.size w HB0.out (Nat.le_refl _) ?_; intro w2 hg2 hb2)
  
  go_loopw [8] (fun i wr => ∃ j : Nat, 1 ≤ j ∧ j ≤ m ∧ i = .int .i64 j ∧ Hid (wr.heap[w.heap.size]? = some (.cells (repL k m j).toArray 3 (0, 0))) ∧ Below w.heap.size w wr) (fun i _ => m - (intOf i).toNat)
  case atStart =>
    refine ⟨1, Nat.le_refl _, h1, rfl, ?_, hb2⟩
    have h9 := hg2.out
    rw [HC1.out, rep_splice (by omega), Nat.zero_add] at h9
    exact h9
  case round =>
    obtain ⟨j, hj1, hj, rfl, hg, hb⟩ := hrel
    by_cases hlt : j < m
    · obtain ⟨c, hc⟩ : ∃ c, c = min j (m - j) := ⟨_, rfl⟩
      obtain ⟨cs, hcs⟩ : ∃ cs, cs = repC k c := ⟨_, rfl⟩
      have hcl : cs.length = c := by rw [hcs, repC_len]
      have HO : Hid (∀ v ∈ cs, v.oneCell' = true) := by unfold Hid; rw [hcs]; exact repC_one
      have HS : Hid (∀ i v, cs[i]? = some v → wr.cell? ((⟨w.heap.size, 0, none⟩ : Addr).add i) = some v) := by
        unfold Hid; rw [hcs]; exact rep_src hg.out (by omega)
      have HF : Hid (j + cs.length ≤ (repL k m j).length) := by unfold Hid; rw [hcl, repL_len (by omega)]; omega
      have HN : Hid (cs.length = Nat.min j (m - j)) := by unfold Hid; rw [hcl, hc]
      have HCS := hide hcs
      have HB := hide hb
      have hcb : c ≤ m - j := by omega
      have hc0 : 1 ≤ c := by omega
      have hwr : IntKind.i64.wrap ((j : Int) + (c : Int)) = (j : Int) + (c : Int) := by rw [IntKind.wrap_i64]; omega
      clear hcs hb hc
      go_wp2_with fail
      go_region_law (refine step_copy_splice rfl (.tmp 41) (.tmp 44) 36 36 rfl 3 Tryd.underlying36 HSZ.out (some ⟨w.heap.size, j, none⟩) (some ⟨w.heap.size, 0, none⟩) (m - j) (m - j) j m (by simp [Act.eval, Act.put] <;> omega) (by simp [Act.eval, Act.put]) w.heap.size j (repL k m j) 3 hg.out cs HN.out (fun _ => ⟨rfl, _, rfl, HS.out⟩) HF.out HO.out w.heap.size w HB.out.drew (Nat.le_refl _) ?_; intro w4 hg4 hb4)
      all_goals
        go_wp2_with fail
        go_roundw
        case rel =>
          have h9 := hg4.out
          rw [HCS.out, rep_splice (by omega)] at h9
          have R : 1 ≤ j + c ∧ j + c ≤ m ∧ Value.int .i64 ((j : Int) + (c : Int)) = .int .i64 ((j + c : Nat) : Int) ∧ Hid (w4.heap[w.heap.size]? = some (.cells (repL k m (j + c)).toArray 3 (0, 0))) ∧ Below w.heap.size w w4 :=
            ⟨by omega, by omega, by simp, h9, hb4⟩
          first
            | exact ⟨j + c, R⟩
            | exact ⟨j + c, by omega, by omega, by simp, h9⟩
            | ((repeat apply Exists.intro); exact ⟨⟨j + c, R⟩, rfl⟩)
        case measure => simp [intOf]; omega
    · obtain rfl : j = m := by omega
      go_wp2
      go_ret
      exact ⟨_, rfl, rep_in hg.out _, hb, fun g hg => by cases hg; exact Nat.le_refl _⟩
end Go.Proofs.YtjhflcgphejddaaDoor

namespace Go.Proofs.YtjhflcgphejddaaDoor
open Go.RowKit
set_option linter.unusedVariables false
set_option maxRecDepth 100000

set_option maxHeartbeats 1000000 in
theorem pflat_bad {w : World} (a b k : Int) (hx : flatF a b k ≠ 0) :
    Calls Tryd.prog 13 #[.int .i64 a, .int .i64 b, .int .i64 k] w fun e w' => e = .returned (.tuple #[.agg #[.int .i64 0, .int .i64 0, .slice none 0 0], .iface 60 (.int .i64 1)]) ∧ Below w.heap.size w w' := by
  have p1 := picIn_new w 0 0 (.slice none 0 0)
  have b1 : Below w.heap.size w (w.alloc (.cells #[.int .i64 0, .int .i64 0, .slice none 0 0] 46)) := (Below.refl _ _).alloc (Nat.le_refl _) _
  obtain ⟨⟨c0, g0⟩, ⟨c1, g1⟩, c2, g2⟩ := p1
  have HB := hide b1
  have S := hide (fun x w => pside_ok x w)
  have K := hide (fun x w => ppixel_ok x w)
  have h : sideOk a = false ∨ (sideOk a = true ∧ sideOk b = false) ∨ (sideOk a = true ∧ sideOk b = true ∧ pixelOk k = false) := by
    unfold flatF at hx
    by_cases h1 : sideOk a = true
    · by_cases h2 : sideOk b = true
      · by_cases h3 : pixelOk k = true
        · rw [if_pos ⟨by rw [sides_two, h1, h2]; rfl, pixelOk_iff.1 h3⟩] at hx
          exact absurd rfl hx
        · exact Or.inr (Or.inr ⟨h1, h2, by simpa using h3⟩)
      · exact Or.inr (Or.inl ⟨h1, by simpa using h2⟩)
    · exact Or.inl (by simpa using h1)
  clear hx b1
  rcases h with h1 | ⟨h1, h2⟩ | ⟨h1, h2, h3⟩
  · have S1 := hide (S.out a)
    rw [h1] at S1
    clear h1 S
    go_enter Tryd.func13, Tryd.ntmps13
    go_wp2_with fail
    refine (S1.out _).mono ?_
    rintro e w2 ⟨rfl, rfl⟩
    go_wp2
    refine bodyPost_ret (v := .tuple #[.agg #[.int .i64 0, .int .i64 0, .slice none 0 0], .iface 60 (.int .i64 1)]) (by simp [results, Tryd.results13, go_sem, c0, c1, c2]) rfl ⟨rfl, ?_⟩
    first
      | exact HB.out
      | exact (((HB.out.setCell (Nat.le_refl _) _).setCell (Nat.le_refl _) _).setCell (Nat.le_refl _) _)
  · have S1 := hide (S.out a)
    rw [h1] at S1
    have S2 := hide (S.out b)
    rw [h2] at S2
    clear h1 h2 S
    go_enter Tryd.func13, Tryd.ntmps13
    go_wp2_with fail
    refine (S1.out _).mono ?_
    rintro e w2 ⟨rfl, rfl⟩
    go_wp2_with fail
    refine (S2.out _).mono ?_
    rintro e w2 ⟨rfl, rfl⟩
    go_wp2
    refine bodyPost_ret (v := .tuple #[.agg #[.int .i64 0, .int .i64 0, .slice none 0 0], .iface 60 (.int .i64 1)]) (by simp [results, Tryd.results13, go_sem, c0, c1, c2]) rfl ⟨rfl, ?_⟩
    first
      | exact HB.out
      | exact (((HB.out.setCell (Nat.le_refl _) _).setCell (Nat.le_refl _) _).setCell (Nat.le_refl _) _)
  · have S1 := hide (S.out a)
    rw [h1] at S1
    have S2 := hide (S.out b)
    rw [h2] at S2
    have S3 := hide (K.out k)
    rw [h3] at S3
    clear h1 h2 h3 S K
    go_enter Tryd.func13, Tryd.ntmps13
    go_wp2_with fail
    refine (S1.out _).mono ?_
    rintro e w2 ⟨rfl, rfl⟩
    go_wp2_with fail
    refine (S2.out _).mono ?_
    rintro e w2 ⟨rfl, rfl⟩
    go_wp2_with fail
    refine (S3.out _).mono ?_
    rintro e w2 ⟨rfl, rfl⟩
    go_wp2
    refine bodyPost_ret (v := .tuple #[.agg #[.int .i64 0, .int .i64 0, .slice none 0 0], .iface 60 (.int .i64 1)]) (by simp [results, Tryd.results13, go_sem, c0, c1, c2]) rfl ⟨rfl, ?_⟩
    first
      | exact HB.out
      | exact (((HB.out.setCell (Nat.le_refl _) _).setCell (Nat.le_refl _) _).setCell (Nat.le_refl _) _)

theorem intsIn_set {w : World} {v : Value} {n : Nat} {f : Nat → Int} {b : Nat} (h : IntsIn w v n f) (hne : ∀ g, v.ownBlock = some g → g ≠ b) (o : Nat) (u : Value) : IntsIn (w.setCell ⟨b, o, none⟩ u) v n f := by
  rcases h with h | ⟨h0, g, oo, cap, rfl, hc⟩
  · exact Or.inl h
  · have hg := hne g rfl
    exact Or.inr ⟨h0, g, oo, cap, rfl, fun i hi => by rw [World.cell?_setCell_other _ _ _ _ (fun e => hg (by cases e; rfl))]; exact hc i hi⟩

set_option maxHeartbeats 1000000 in
theorem pflat_new {w : World} (A B : Nat) (k : Int) (hA : 1 ≤ A ∧ A ≤ 6) (hB : 1 ≤ B ∧ B ≤ 6) (hk : 0 ≤ k ∧ k ≤ 255) :
    Calls Tryd.prog 13 #[.int .i64 A, .int .i64 B, .int .i64 k] w fun e w' => ∃ v, e = .returned (.tuple #[.agg #[.int .i64 A, .int .i64 B, v], .nilIface]) ∧ IntsIn w' v (A * B) (fun _ => k) ∧ Below w.heap.size w w' ∧ ∀ g, v.ownBlock = some g → w.heap.size ≤ g := by
  obtain ⟨W1, hW1⟩ : ∃ W1, W1 = w.alloc (.cells #[.int .i64 0, .int .i64 0, .slice none 0 0] 46) := ⟨_, rfl⟩
  obtain ⟨W2, hW2⟩ : ∃ W2, W2 = W1.alloc (.cells #[.int .i64 k] 3) := ⟨_, rfl⟩
  have z1 : W1.heap.size = w.heap.size + 1 := by rw [hW1]; simp
  have z2 : W2.heap.size = w.heap.size + 2 := by rw [hW2]; simp [z1]
  have b1 : Below w.heap.size w W1 := hW1 ▸ (Below.refl _ _).alloc (Nat.le_refl _) _
  have b12 : Below W1.heap.size W1 W2 := hW2 ▸ (Below.refl _ _).alloc (Nat.le_refl _) _
  have b2 := below_two b1 b12
  have p1 : PicIn W2 w.heap.size 0 0 (.slice none 0 0) := PicIn.below (hW1 ▸ picIn_new w 0 0 (.slice none 0 0)) b12
  have hcell : W2.cell? ⟨w.heap.size + 1, 0, none⟩ = some (.int .i64 k) := by
    rw [hW2, ← z1]; simp
  obtain ⟨m, hm⟩ : ∃ m, m = A * B := ⟨_, rfl⟩
  have hm1 : 1 ≤ m := by have := Nat.mul_le_mul hA.1 hB.1; omega
  have hm2 : m ≤ 36 := by have := Nat.mul_le_mul hA.2 hB.2; omega
  have hmi : (A : Int) * (B : Int) = (m : Int) := by rw [hm, Int.natCast_mul]
  have R := hide (prepeat_ok (w := W2) (c1 := 1) k m hm1 (by omega) hcell)
  have S1 := hide (pside_ok A)
  have S2 := hide (pside_ok B)
  have S3 := hide (ppixel_ok k)
  rw [sideOk_iff.2 (by omega)] at S1 S2
  rw [pixelOk_iff.2 hk] at S3
  rw [← hm]
  have P1 := hide p1
  have B2 := hide b2
  have Z2 := hide z2
  obtain ⟨hA1, hA2⟩ := hA
  obtain ⟨hB1, hB2⟩ := hB
  obtain ⟨hk1, hk2⟩ := hk
  subst hW2
  subst hW1
  clear z1 z2 b1 b12 b2 p1 hcell hm
  go_enter Tryd.func13, Tryd.ntmps13
  go_wp2_with fail
  refine (S1.out _).mono ?_
  rintro e w2 ⟨rfl, rfl⟩
  go_wp2_with fail
  refine (S2.out _).mono ?_
  rintro e w2 ⟨rfl, rfl⟩
  go_wp2_with fail
  refine (S3.out _).mono ?_
  rintro e w2 ⟨rfl, rfl⟩
  go_wp2_with fail
  refine (R.out).mono ?_
  rintro e w3 ⟨v, rfl, hv, hb3, hown⟩
  obtain ⟨⟨c0, g0⟩, ⟨c1, g1⟩, c2, g2⟩ := P1.out.below hb3
  have HV := hide hv
  have HO := hide hown
  obtain ⟨ad, cap, rfl⟩ : ∃ ad cap, v = .slice ad m cap := by
    rcases hv with ⟨rfl, a, c, rfl⟩ | ⟨_, b, o, c, rfl, _⟩
    · exact ⟨_, _, rfl⟩
    · exact ⟨_, _, rfl⟩
  have B3 := hide (below_two B2.out hb3)
  clear hv hb3 hown
  go_wp2
  refine bodyPost_ret (v := .tuple #[.agg #[.int .i64 A, .int .i64 B, .slice ad m cap], .nilIface]) (by simp [results, Tryd.results13, go_sem, c0, c1, c2]) rfl ⟨_, rfl, ?_, ?_, fun g hg => by have := HO.out g hg; have := Z2.out; omega⟩
  · have hne : ∀ g, (Value.slice ad m cap).ownBlock = some g → g ≠ w.heap.size := fun g hg => by have := HO.out g hg; have := Z2.out; omega
    exact intsIn_set (intsIn_set (intsIn_set HV.out hne _ _) hne _ _) hne _ _
  · exact ((B3.out.setCell (Nat.le_refl _) _).setCell (Nat.le_refl _) _).setCell (Nat.le_refl _) _
theorem pflat_ok {w : World} (A B : Nat) (k : Int) (hA : 1 ≤ A ∧ A ≤ 6) (hB : 1 ≤ B ∧ B ≤ 6) (hk : 0 ≤ k ∧ k ≤ 255) :
    Calls Tryd.prog 13 #[.int .i64 A, .int .i64 B, .int .i64 k] w fun e w' => ∃ v, e = .returned (.tuple #[.agg #[.int .i64 A, .int .i64 B, v], .nilIface]) ∧ IntsIn w' v (A * B) (fun _ => k) ∧ Below w.heap.size w w' :=
  (pflat_new A B k hA hB hk).mono fun _ _ ⟨v, h1, h2, h3, _⟩ => ⟨v, h1, h2, h3⟩
end Go.Proofs.YtjhflcgphejddaaDoor

namespace Go.Proofs.YtjhflcgphejddaaDoor
open Go.ChangeShapes Go.WideShapes Go.ChangeAt Go.RowKit Go.Maps
set_option linter.unusedVariables false
set_option maxRecDepth 100000

theorem len_zero {f : Nat → Int} : ∀ {n : Nat}, (∀ i, i < n → f i = 0) → lenN 2 f n = 3 * n
  | 0, _ => rfl
  | n + 1, h => by
    rw [lenN_succ, len_zero (n := n) (fun i hi => h i (by omega)), h n (by omega)]
    show 3 * n + (0 / 2 ^ 2 + 1 + 2) = 3 * (n + 1)
    omega
/-- The film of one flat picture, and how many bits it has. -/
theorem flat_film {A B : Nat} {st : Int} {D : Nat → Cd} (hA : 1 ≤ A ∧ A ≤ 6) (hB : 1 ≤ B ∧ B ≤ 6) (hs : 1 ≤ st ∧ st ≤ 64) (hD : D 0 = ⟨true, 0, 0, A * B, restF A st (byPix st fun _ => 128)⟩) :
    bytF (A : Int) (B : Int) st 1 D = 0 ∧ (flmB D 1).length = 1 + 3 * (A * B) := by
  have hm := Nat.mul_le_mul hA.2 hB.2
  have h0 : ∀ k, (D 0).f k = 0 := fun k => by rw [hD]; exact flat_rest hA.1 hs.1 k
  have o : SeeOk (A : Int) (B : Int) st 1 D A B := ⟨by omega, by omega, rfl, rfl, hA.1, hA.2, hB.1, hB.2, hs.1, hs.2, fun i hi => by
    obtain rfl : i = 0 := by omega
    refine ⟨fun _ => ?_, ?_, ?_, ?_, fun k _ => ?_⟩
    · rw [hD]; exact ⟨rfl, rfl⟩
    · rw [hD]; show -1 ≤ (0 : Int) ∧ (0 : Int) ≤ 1; omega
    · rw [hD]; show -1 ≤ (0 : Int) ∧ (0 : Int) ≤ 1; omega
    · rw [hD]
    · rw [h0]; omega⟩
  have hal : (D 0).al = true := by rw [hD]
  have hl : (flmB D 1).length = 1 + 3 * (A * B) := by
    show ([] ++ codB (D 0)).length = _
    rw [List.nil_append]
    unfold codB
    rw [List.length_append, hdB_len, if_pos hal, rowB_len, (o.each 0 (by omega)).n, len_zero (fun i _ => h0 i)]
  refine ⟨bytF_zero.2 ⟨ok_see o hal, ?_⟩, hl⟩
  unfold octs
  omega

set_option maxHeartbeats 2000000 in
theorem byhead_walk (a b st : Int) (w : World) (hg : HasErr w) :
    Calls Tryd.prog 5 #[.int .i64 a, .int .i64 b, .int .i64 st] w fun e w' => e = .returned (.bool true) ∧ Below w.heap.size w w' := by
  have EK := hide (fun (W : World) (hb : Below w.heap.size w W) (k : Nat) => error_right (k : Int) (errN k) W (hg.below hg.lt hb) (errIs_N k))
  clear hg
  by_cases hf : flatF a b 128 = 0
  · have hsd : 1 ≤ a ∧ a ≤ 6 ∧ 1 ≤ b ∧ b ≤ 6 := by
      unfold flatF at hf
      split at hf
      · rename_i q; exact sidesOk_iff.1 q.1
      · cases hf
    obtain ⟨A, rfl⟩ := Int.eq_ofNat_of_zero_le (show 0 ≤ a by omega)
    obtain ⟨B, rfl⟩ := Int.eq_ofNat_of_zero_le (show 0 ≤ b by omega)
    have hA : 1 ≤ A ∧ A ≤ 6 := by omega
    have hB : 1 ≤ B ∧ B ≤ 6 := by omega
    have K1 := hide (pflat_ok (w := w) A B 128 hA hB (by omega))
    have hpic : PicOk (A : Int) (B : Int) (A * B) (fun _ => 128) A B := ⟨rfl, rfl, hA.1, hA.2, hB.1, hB.2, rfl, fun i _ => by omega⟩
    have HPic := hide hpic
    clear hf hsd hpic
    go_enter Tryd.func5, Tryd.ntmps5
    go_wp2_with fail
    refine (K1.out).mono ?_
    rintro e w1 ⟨v, rfl, hv, hb1⟩
    obtain ⟨adv, cpv, rfl⟩ := slice_shape hv
    obtain ⟨w2, hw2⟩ : ∃ w2, w2 = w1.alloc (.cells #[.int .i64 (A : Int), .int .i64 (B : Int), .slice adv (A * B) cpv] 46) := ⟨_, rfl⟩
    have b12 : Below w1.heap.size w1 w2 := hw2 ▸ (Below.refl _ _).alloc (Nat.le_refl _) _
    have HP2 : Hid (PicIn w2 w1.heap.size (A : Int) (B : Int) (.slice adv (A * B) cpv)) := hw2 ▸ picIn_new w1 (A : Int) (B : Int) (.slice adv (A * B) cpv)
    have HV2 := hide (hv.below b12)
    have B2 := hide (below_two hb1 b12)
    have HW2 := hide hw2
    obtain ⟨n, hn⟩ : ∃ n, n = A * B := ⟨_, rfl⟩
    have hn36 : n ≤ 36 := by rw [hn]; exact Nat.mul_le_mul hA.2 hB.2
    have HNn : Hid ((A : Int) * (B : Int) = (n : Int)) := by unfold Hid; rw [hn]; simp
    clear hv hb1 hw2 b12 K1
    go_upto_region 2 with fail
    rw [← HW2.out]
    clear HW2
    obtain ⟨w3, hw3⟩ : ∃ w3, w3 = w2.alloc (.cells #[.int .i64 (A : Int), .int .i64 (B : Int), .slice adv (A * B) cpv] 46) := ⟨_, rfl⟩
    have b23 : Below w2.heap.size w2 w3 := hw3 ▸ (Below.refl _ _).alloc (Nat.le_refl _) _
    have HV3 := HV2.out.below b23
    have hps : PicsIn w3 (.slice (some ⟨w2.heap.size, 0, none⟩) 1 1) 1 (fun _ => ⟨(A : Int), (B : Int), A * B, fun _ => 128⟩) := by
      refine ⟨_, _, rfl, Nat.le_refl _, by unfold maxLen; omega, fun _ => ⟨_, _, rfl, fun i hi => ?_⟩⟩
      obtain rfl : i = 0 := by omega
      exact ⟨.slice adv (A * B) cpv, by rw [hw3]; simp, by rw [hw3]; simp, by rw [hw3]; simp, HV3⟩
    have HPs := hide hps
    have B3 := hide (below_two B2.out b23)
    have HW3 := hide hw3
    have e0 : errN 0 = .nilIface := rfl
    obtain ⟨⟨c0, _⟩, ⟨c1, _⟩, c2, _⟩ := HP2.out
    clear hps hw3 b23 HV3 HV2
    by_cases hs : 1 ≤ st ∧ st ≤ 64
    · have KE := hide (fenc_ok HPs.out (A := A) (B := B) (st := st) (ev := 1) ⟨by omega, by omega, fun _ _ => HPic.out, by omega, by omega, hs.1, hs.2⟩)
      have hfl := flat_film (D := filC A B (A * B) (1 : Int).toNat st fun i => (fun _ : Nat => (128 : Int))) hA hB hs rfl
      simp only [] at KE
      generalize filC A B (A * B) (1 : Int).toNat st (fun i => (fun _ : Nat => (128 : Int))) = D at *
      generalize A * B = n2 at *
      subst hn
      have hsy := says_of hfl.1
      have hz := hsy.size
      have hoc : octs (flmB D 1) = (1 + 3 * n + 7) / 8 := by unfold octs; rw [hfl.2]
      rw [hoc] at hz
      have b0 := hsy.b0
      have b1 := hsy.b1
      have b2 := hsy.b2
      have b3 := hsy.b3
      obtain ⟨x, rfl⟩ := Int.eq_ofNat_of_zero_le (show 0 ≤ st by omega)
      have KP := hide (fun (W : World) (u : Value) (h : CodsIn W u 1 D) => pack_any (A : Int) (B : Int) (x : Int) h)
      rw [hfl.1, e0] at KP
      generalize bytS (A : Int) (B : Int) (x : Int) 1 D = S at *
      rw [Int.toNat_natCast] at b0 b1 b2
      have HNs := hide (none_short (t := ⟨#[1, 1]⟩) (by decide))
      clear hsy hoc hfl
      obtain ⟨Z, hZ⟩ : ∃ Z, Z = (1 + 3 * n + 7) / 8 := ⟨_, rfl⟩
      rw [← hZ] at hz
      have hZ14 : Z ≤ 14 := by omega
      have l0 : 0 < S.size := by omega
      have l1 : 1 < S.size := by omega
      have l2 : 2 < S.size := by omega
      have l3 : 3 < S.size := by omega
      have l0i : (0 : Int) < (S.size : Int) := by omega
      have l1i : (1 : Int) < (S.size : Int) := by omega
      have l2i : (2 : Int) < (S.size : Int) := by omega
      have l3i : (3 : Int) < (S.size : Int) := by omega
      have r0 : (S[0]'l0).toNat = A := by rw [← b0, atB_eq S _ l0]
      have r1 : (S[1]'l1).toNat = B := by rw [← b1, atB_eq S _ l1]
      have r2 : (S[2]'l2).toNat = x := by rw [← b2, atB_eq S _ l2]
      have r3 : (S[3]'l3).toNat = 1 := by rw [← b3, atB_eq S _ l3]
      obtain ⟨Q, hQ⟩ : ∃ Q, Q = 3 * n := ⟨_, rfl⟩
      have hq1 : 3 * (A : Int) * (B : Int) = (Q : Int) := by
        rw [Int.mul_assoc, hQ]
        have : (A : Int) * (B : Int) = (n : Int) := HNn.out
        rw [this]; omega
      have hq2 : ((Q : Int) + 1 + 7).tdiv 8 = (Z : Int) := by rw [Int.tdiv_eq_ediv_of_nonneg (by omega), hZ, hQ]; omega
      have hq3 : ((Q : Int) + 1 + 7) / 8 = (Z : Int) := by rw [hZ, hQ]; omega
      have hQ108 : Q ≤ 108 := by omega
      have hsi : (S.size : Int) = 4 + (Z : Int) := by omega
      have hsb : ((S.size : Int) == 4 + (Z : Int)) = true := by rw [beq_iff_eq]; exact hsi
      have ha8 : ((A : Int) == (A : Int)) = true := beq_self_eq_true _
      have hb8 : ((B : Int) == (B : Int)) = true := beq_self_eq_true _
      have hx8 : ((x : Int) == (x : Int)) = true := beq_self_eq_true _
      have HSi := hide hsi
      clear hQ hZ b0 b1 b2 b3 hsi
      go_wp2_with fail
      rw [← HW3.out]
      refine (KE.out).mono ?_
      rintro e w4 ⟨u, rfl, hu, hb4⟩
      have B4 := hide (below_two B3.out hb4)
      have KP4 := hide (KP.out w4 u hu)
      clear hu hb4 KP KE HW3 HPs
      go_wp2_with fail
      refine (KP4.out).mono ?_
      rintro e w5 ⟨rfl, hb5⟩
      have B5 := hide (below_two B4.out hb5)
      clear hb5 KP4
      go_wp2_with fail
      refine (unpack_any ⟨#[1, 1]⟩).mono ?_
      intro e w6 hub
      obtain ⟨a6, b6, s6, u6, x6, N6, C6, rfl, _, HF6, hb6⟩ := ub_fate hub
      have B6 := hide (below_two B5.out hb6.out)
      obtain rfl : x6 = 2 := by
        rcases HF6.out with h | h | h
        · exact absurd h.2.1 (by decide)
        · exact h.1
        · exact absurd h.2.2.2 (HNs.out _ _ _ _ _ h.2.2.1)
      have K6 := hide (EK.out w6 B6.out 2)
      clear hub HF6 hb6
      go_wp2_with fail
      refine (K6.out).mono ?_
      rintro e w7 ⟨rfl, hb7⟩
      have B7 := hide (below_two B6.out hb7)
      go_wp2
      go_ret
      exact ⟨rfl, B7.out⟩
    · have hx : enfF 1 (fun _ => ⟨(A : Int), (B : Int), A * B, fun _ => 128⟩) 1 st ≠ 0 := fun h => by
        obtain ⟨A', B', o⟩ := enfF_zero.1 h
        exact hs ⟨o.s1, o.s2⟩
      have KE := hide (fenc_bad 1 st HPs.out hx)
      rw [errN_pos hx] at KE
      generalize enfF 1 (fun _ => ⟨(A : Int), (B : Int), A * B, fun _ => 128⟩) 1 st = E at *
      generalize A * B = n2 at *
      rcases Int.lt_or_le st 1 with h1 | h1
      · go_wp2_with fail
        rw [← HW3.out]
        refine (KE.out).mono ?_
        rintro e w4 ⟨rfl, hb4⟩
        have B4 := hide (below_two B3.out hb4)
        clear hb4
        go_wp2
        go_ret
        exact ⟨rfl, B4.out⟩
      · have h64 : 64 < st := by omega
        go_wp2_with fail
        rw [← HW3.out]
        refine (KE.out).mono ?_
        rintro e w4 ⟨rfl, hb4⟩
        have B4 := hide (below_two B3.out hb4)
        clear hb4
        go_wp2
        go_ret
        exact ⟨rfl, B4.out⟩
  · have K1 := hide (pflat_bad (w := w) a b 128 hf)
    clear hf
    go_enter Tryd.func5, Tryd.ntmps5
    go_wp2_with fail
    refine (K1.out).mono ?_
    rintro e w1 ⟨rfl, hb1⟩
    have B1 := hide hb1
    clear hb1
    go_wp2
    go_ret
    exact ⟨rfl, B1.out.alloc (by have := B1.out.size; omega) _⟩
end Go.Proofs.YtjhflcgphejddaaDoor
