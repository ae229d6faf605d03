/-
  Lemmas for the law above, joined into one text (RMany, REarB, Lib, Join, BlkJ). No statement is proved here.
-/
import Derived.Test.YtjgifjkdgoijmaaGreatDoorYG6
import Derived.Deep.QuietTactic
import Derived.BigQuiet
import Derived.Test.YtjgifjkdgoijmaaGreatDoorYG16
import Derived.Test.YtjgifjkdgoijmaaGreatDoorYG26
import Derived.Shelf.Strings.OnBuilder
import Derived.Shelf.LaysM
import Derived.Test.YtjgifjkdgoijmaaGreatDoorYG12
import Derived.WalkKit
import Derived.Test.YtjgifjkdgoijmaaGreatDoorYG2
namespace Go.Proofs.YtjgifjkdgoijmaaGreatDoor
open Go.RowKit
set_option linter.unusedVariables false
set_option maxRecDepth 100000

theorem many_cnt (m n : Nat) (h1 : 1 ≤ n) : cntN m n = if m = 0 then 1 else m / n + if 0 < m % n then 1 else 0 := by
  unfold cntN
  by_cases h0 : m = 0
  · subst h0
    rw [if_pos rfl, Nat.div_eq_of_lt (by omega)]; rfl
  · rw [if_neg h0]
    have hd := Nat.div_add_mod m n
    have hl := Nat.mod_lt m h1
    by_cases hr : 0 < m % n
    · rw [if_pos hr]
      have e : (m + n - 1) / n = m / n + 1 := by
        have : m + n - 1 = (m % n - 1) + n * (m / n + 1) := by rw [Nat.mul_add]; omega
        rw [this, Nat.add_mul_div_left _ _ h1, Nat.div_eq_of_lt (by omega), Nat.zero_add]
      rw [e]; generalize m / n = d; omega
    · rw [if_neg hr]
      have e : (m + n - 1) / n = m / n := by
        have : m + n - 1 = (n - 1) + n * (m / n) := by omega
        rw [this, Nat.add_mul_div_left _ _ h1, Nat.div_eq_of_lt (by omega), Nat.zero_add]
      have h2 : 1 ≤ m / n := (Nat.one_le_div_iff h1).2 (by
        have : n ≤ n * (m / n) := by
          rcases Nat.eq_zero_or_pos (m / n) with h | h
          · rw [h] at hd; omega
          · exact Nat.le_mul_of_pos_right n h
        omega)
      rw [e]; generalize m / n = d at *; omega
theorem rmany (m n : Nat) (w : World) (hm : m ≤ 1000) (h1 : 1 ≤ n) (h8 : n ≤ 8) :
    Calls Tryz.prog 44 #[.int .i64 m, .int .i64 n] w fun e w' => e = .returned (.int .i64 (cntN m n : Nat)) ∧ w = w' := by
  have hc := hide (many_cnt m n h1)
  have hdc : ((m : Int) / (n : Int)) = ((m / n : Nat) : Int) := by simp
  have hrc : ((m : Int) % (n : Int)) = ((m % n : Nat) : Int) := by simp
  have hle := Nat.div_le_self m n
  by_cases h0 : m = 0
  · have b0 : ((m : Int) == 0) = true := by rw [h0]; rfl
    rw [hc.out, if_pos h0]
    go_enter Tryz.func44, Tryz.ntmps44
    go_wp2
    go_ret
    exact ⟨rfl, rfl⟩
  · have b0 : ((m : Int) == 0) = false := by rw [beq_eq_false_iff_ne]; omega
    rw [hc.out, if_neg h0]
    have hb : 0 ≤ (m : Int) / (n : Int) ∧ (m : Int) / (n : Int) ≤ 1000 := by rw [hdc]; generalize m / n = d at *; omega
    obtain ⟨hb1, hb2⟩ := hb
    by_cases hr : 0 < m % n
    · have br : 0 < (m : Int) % (n : Int) := by rw [hrc]; omega
      have HD := hide hdc
      clear hdc hrc
      rw [if_pos hr]
      clear hc hr
      go_enter Tryz.func44, Tryz.ntmps44
      go_wp2
      go_ret
      exact ⟨ret_int (by rw [HD.out]; omega), rfl⟩
    · have br : ¬ 0 < (m : Int) % (n : Int) := by rw [hrc]; omega
      have HD := hide hdc
      clear hdc hrc
      rw [if_neg hr]
      clear hc hr
      go_enter Tryz.func44, Tryz.ntmps44
      go_wp2
      go_ret
      exact ⟨ret_int (by rw [HD.out]), rfl⟩
end Go.Proofs.YtjgifjkdgoijmaaGreatDoor

namespace Go.Proofs.YtjgifjkdgoijmaaGreatDoor
open Go.RowKit Go.Maps
set_option linter.unusedVariables false
set_option maxRecDepth 100000

theorem below_set {w w2 : World} {q i : Nat} {u : Value} (h : Below w.heap.size w w2) (hq : w.heap.size ≤ q) : Below w.heap.size w (w2.setCell ⟨q, i, none⟩ u) := h.setCell hq _
set_option maxHeartbeats 2000000 in
theorem hear_bad {I : PIm0} {w : World} {v : Value} {k z n : Nat} {dr : Int} {F : List Drp} {M : Nat → Prop} (h : ESt I w v k z n dr F M) (seed : Int) (data : ByteArray) (hf : eF k z F seed data.size ≠ 0) :
    Calls Tryz.prog 6 #[v, dropV seed data] w fun e w' => e = .returned (.tuple #[heardV 0 0 0, .iface 64 (.int .i64 (eF k z F seed data.size))]) ∧ Below w.heap.size w w' := by
  obtain ⟨b, vP, vF, p, rfl, hE, _, hO⟩ := h
  have hb0 : Below w.heap.size w (w.alloc (.cells #[.int .i64 seed, .string data] 33)) := (Below.refl _ _).alloc (Nat.le_refl _) _
  have hb1 : Below w.heap.size w ((w.alloc (.cells #[.int .i64 seed, .string data] 33)).alloc (.cells #[.int .i64 0, .int .i64 0, .int .i64 0] 29)) := hb0.alloc hb0.size _
  have HB1 := hide hb1
  have hE1 := hE.below hb1
  have hck := hE1.ck
  have hcz := hE1.cz
  have hcf := hE1.cf
  have hdi := (dropIn_new w seed data).of_block (w' := (w.alloc (.cells #[.int .i64 seed, .string data] 33)).alloc (.cells #[.int .i64 0, .int .i64 0, .int .i64 0] 29)) (((Below.refl _ (w.alloc (.cells #[.int .i64 seed, .string data] 33))).alloc (Nat.le_refl _) _).block _ (by simp))
  obtain ⟨⟨cs, _⟩, cd, _⟩ := hdi
  simp only [Nat.zero_add] at cd
  have hq := tri_new (w.alloc (.cells #[.int .i64 seed, .string data] 33)) 29
  rw [show (w.alloc (.cells #[.int .i64 seed, .string data] 33)).heap.size = w.heap.size + 1 by simp] at hq
  have HQ := hide hq
  obtain ⟨aF, cF, rfl, _, hF2, _⟩ := own_drops hE.row
  have DC := hide (fun W => dcheck_any k z seed data W)
  have hbl := hE.blt
  unfold eF at hf ⊢
  unfold maxLen at hF2
  by_cases hfd : fD k z seed data.size = 0
  · rw [if_neg (by simpa using hfd)] at hf ⊢
    have h60 : 60 ≤ F.length := Classical.byContradiction fun h => hf (if_neg h)
    rw [if_pos h60]
    have DC0 : Hid (∀ W, Calls Tryz.prog 24 #[.int .i64 k, .int .i64 z, dropV seed data] W fun e w' => e = .returned .nilIface ∧ Below W.heap.size W w') := fun W => by
      have ok := fD_ok hfd
      exact dcheck_ok k z seed data W ok.1.1 ok.1.2.1 ok.1.2.2 ok.2
    clear hE hE1 hb0 hb1 hq hf hfd DC hO
    unfold dropV at *
    go_enter Tryz.func6, Tryz.ntmps6
    go_wp2_with fail
    generalize (w.alloc (.cells #[.int .i64 seed, .string data] 33)).alloc (.cells #[.int .i64 0, .int .i64 0, .int .i64 0] 29) = w1 at *
    go_region_held3 (fun w' => w'.cell? ⟨b, 1, none⟩ = some (.int .i64 k) ∧ w'.cell? ⟨b, 2, none⟩ = some (.int .i64 z) ∧ w'.cell? ⟨w.heap.size, 0, none⟩ = some (.int .i64 seed) ∧ w'.cell? ⟨w.heap.size, 1, none⟩ = some (.string data)) (first | go_keep | exact ⟨cell_below hb2 hck, cell_below hb2 hcz, cell_below hb2 cs, cell_below hb2 cd⟩)
      (first | (go_at_call 24; refine (DC0.out _).mono ?_; rintro e w2 ⟨rfl, hb2⟩))
    have hb2' : Below w1.heap.size w1 w2 := ⟨hb2.os, hb2.tape, hb2.output, hb2.size, hb2.block⟩
    have hcf2 := cell_below hb2' hcf
    obtain ⟨x, y, zz, hx, hy, hz, hfr⟩ := HQ.out.below hb2'
    have HB2 := hide (below_two HB1.out hb2')
    have c0 : (((w2.setCell ⟨w.heap.size + 1, 0, none⟩ (.int .i64 0)).setCell ⟨w.heap.size + 1, 1, none⟩ (.int .i64 0)).setCell ⟨w.heap.size + 1, 2, none⟩ (.int .i64 0)).cell? ⟨w.heap.size + 1, 0, none⟩ = some (.int .i64 0) := by
      rw [cell_set_off (by decide), cell_set_off (by decide), World.cell?_setCell_same _ _ _ hx]
    have c1 : (((w2.setCell ⟨w.heap.size + 1, 0, none⟩ (.int .i64 0)).setCell ⟨w.heap.size + 1, 1, none⟩ (.int .i64 0)).setCell ⟨w.heap.size + 1, 2, none⟩ (.int .i64 0)).cell? ⟨w.heap.size + 1, 1, none⟩ = some (.int .i64 0) := by
      rw [cell_set_off (by decide), World.cell?_setCell_same _ _ _ (by rw [cell_set_off (by decide)]; exact hy)]
    have c2 : (((w2.setCell ⟨w.heap.size + 1, 0, none⟩ (.int .i64 0)).setCell ⟨w.heap.size + 1, 1, none⟩ (.int .i64 0)).setCell ⟨w.heap.size + 1, 2, none⟩ (.int .i64 0)).cell? ⟨w.heap.size + 1, 2, none⟩ = some (.int .i64 0) := by
      rw [World.cell?_setCell_same _ _ _ (by rw [cell_set_off (by decide), cell_set_off (by decide)]; exact hz)]
    have HB3 : Hid (Below w.heap.size w (((w2.setCell ⟨w.heap.size + 1, 0, none⟩ (.int .i64 0)).setCell ⟨w.heap.size + 1, 1, none⟩ (.int .i64 0)).setCell ⟨w.heap.size + 1, 2, none⟩ (.int .i64 0))) := below_set (below_set (below_set HB2.out (Nat.le_succ _)) (Nat.le_succ _)) (Nat.le_succ _)
    clear hb2 hb2' hck hcz cs cd
    go_wp2
    refine bodyPost_ret (v := .tuple #[heardV 0 0 0, .iface 64 (.int .i64 4)]) (by simp [results, Tryz.results6, go_sem, c0, c1, c2]; try rfl) rfl ⟨rfl, HB3.out⟩
  · rw [if_pos hfd]
    have DC1 : Hid (∀ W, Calls Tryz.prog 24 #[.int .i64 k, .int .i64 z, dropV seed data] W fun e w' => e = .returned (.iface 64 (.int .i64 (fD k z seed data.size))) ∧ Below W.heap.size W w') := fun W => by
      refine (dcheck_any k z seed data W).mono ?_
      rintro e w' ⟨er, rfl, he, hb⟩
      rcases he with ⟨h0, _⟩ | rfl
      · exact absurd h0 hfd
      · exact ⟨rfl, hb⟩
    generalize fD k z seed data.size = x at *
    clear hE hE1 hb0 hb1 hq hf hfd DC hO
    unfold dropV at *
    go_enter Tryz.func6, Tryz.ntmps6
    go_wp2_with fail
    generalize (w.alloc (.cells #[.int .i64 seed, .string data] 33)).alloc (.cells #[.int .i64 0, .int .i64 0, .int .i64 0] 29) = w1 at *
    go_region_held3 (fun w' => w'.cell? ⟨b, 1, none⟩ = some (.int .i64 k) ∧ w'.cell? ⟨b, 2, none⟩ = some (.int .i64 z) ∧ w'.cell? ⟨w.heap.size, 0, none⟩ = some (.int .i64 seed) ∧ w'.cell? ⟨w.heap.size, 1, none⟩ = some (.string data)) (first | go_keep | exact ⟨cell_below hb2 hck, cell_below hb2 hcz, cell_below hb2 cs, cell_below hb2 cd⟩)
      (first | (go_at_call 24; refine (DC1.out _).mono ?_; rintro e w2 ⟨rfl, hb2⟩))
    have hb2' : Below w1.heap.size w1 w2 := ⟨hb2.os, hb2.tape, hb2.output, hb2.size, hb2.block⟩
    obtain ⟨x1, y, zz, hx, hy, hz, hfr⟩ := HQ.out.below hb2'
    have HB2 := hide (below_two HB1.out hb2')
    have c0 : (((w2.setCell ⟨w.heap.size + 1, 0, none⟩ (.int .i64 0)).setCell ⟨w.heap.size + 1, 1, none⟩ (.int .i64 0)).setCell ⟨w.heap.size + 1, 2, none⟩ (.int .i64 0)).cell? ⟨w.heap.size + 1, 0, none⟩ = some (.int .i64 0) := by
      rw [cell_set_off (by decide), cell_set_off (by decide), World.cell?_setCell_same _ _ _ hx]
    have c1 : (((w2.setCell ⟨w.heap.size + 1, 0, none⟩ (.int .i64 0)).setCell ⟨w.heap.size + 1, 1, none⟩ (.int .i64 0)).setCell ⟨w.heap.size + 1, 2, none⟩ (.int .i64 0)).cell? ⟨w.heap.size + 1, 1, none⟩ = some (.int .i64 0) := by
      rw [cell_set_off (by decide), World.cell?_setCell_same _ _ _ (by rw [cell_set_off (by decide)]; exact hy)]
    have c2 : (((w2.setCell ⟨w.heap.size + 1, 0, none⟩ (.int .i64 0)).setCell ⟨w.heap.size + 1, 1, none⟩ (.int .i64 0)).setCell ⟨w.heap.size + 1, 2, none⟩ (.int .i64 0)).cell? ⟨w.heap.size + 1, 2, none⟩ = some (.int .i64 0) := by
      rw [World.cell?_setCell_same _ _ _ (by rw [cell_set_off (by decide), cell_set_off (by decide)]; exact hz)]
    have HB3 : Hid (Below w.heap.size w (((w2.setCell ⟨w.heap.size + 1, 0, none⟩ (.int .i64 0)).setCell ⟨w.heap.size + 1, 1, none⟩ (.int .i64 0)).setCell ⟨w.heap.size + 1, 2, none⟩ (.int .i64 0))) := below_set (below_set (below_set HB2.out (Nat.le_succ _)) (Nat.le_succ _)) (Nat.le_succ _)
    clear hb2 hb2' hck hcz cs cd
    go_wp2
    refine bodyPost_ret (v := .tuple #[heardV 0 0 0, .iface 64 (.int .i64 x)]) (by simp [results, Tryz.results6, go_sem, c0, c1, c2]; try rfl) rfl ⟨rfl, HB3.out⟩
set_option maxHeartbeats 2000000 in
theorem rhear_bad {w : World} {v : Value} {k z n : Nat} {dr : Int} {F : List Drp} {M : Nat → Prop} (h : RESt w v k z n dr F M) (seed : Int) (data : ByteArray) (hf : eF k z F seed data.size ≠ 0) :
    Calls Tryz.prog 16 #[v, dropV seed data] w fun e w' => e = .returned (.tuple #[heardV 0 0 0, .int .i64 (eF k z F seed data.size)]) ∧ Below w.heap.size w w' := by
  obtain ⟨b, bp, vF, vL, vT, p, rfl, hE, _, hO, _⟩ := h
  have hb0 : Below w.heap.size w (w.alloc (.cells #[.int .i64 seed, .string data] 33)) := (Below.refl _ _).alloc (Nat.le_refl _) _
  have hb1 : Below w.heap.size w ((w.alloc (.cells #[.int .i64 seed, .string data] 33)).alloc (.cells #[.int .i64 0, .int .i64 0, .int .i64 0] 29)) := hb0.alloc hb0.size _
  have HB1 := hide hb1
  have hE1 := hE.below hb1
  have hck := hE1.ck
  have hcz := hE1.cz
  have hcf := hE1.cf
  have hdi := (dropIn_new w seed data).of_block (w' := (w.alloc (.cells #[.int .i64 seed, .string data] 33)).alloc (.cells #[.int .i64 0, .int .i64 0, .int .i64 0] 29)) (((Below.refl _ (w.alloc (.cells #[.int .i64 seed, .string data] 33))).alloc (Nat.le_refl _) _).block _ (by simp))
  obtain ⟨⟨cs, _⟩, cd, _⟩ := hdi
  simp only [Nat.zero_add] at cd
  have hq := tri_new (w.alloc (.cells #[.int .i64 seed, .string data] 33)) 29
  rw [show (w.alloc (.cells #[.int .i64 seed, .string data] 33)).heap.size = w.heap.size + 1 by simp] at hq
  have HQ := hide hq
  obtain ⟨aF, cF, rfl, _, hF2, _⟩ := own_drops hE.row
  have DC := hide (fun W => rdrop_any k z seed data W)
  have hbl := hE.blt
  unfold eF at hf ⊢
  unfold maxLen at hF2
  by_cases hfd : fD k z seed data.size = 0
  · rw [if_neg (by simpa using hfd)] at hf ⊢
    have h60 : 60 ≤ F.length := Classical.byContradiction fun h => hf (if_neg h)
    rw [if_pos h60]
    have DC0 : Hid (∀ W, Calls Tryz.prog 45 #[.int .i64 k, .int .i64 z, dropV seed data] W fun e w' => e = .returned (.int .i64 0) ∧ Below W.heap.size W w') := fun W => by
      have h9 := DC.out W
      rw [hfd] at h9
      exact h9
    clear hE hE1 hb0 hb1 hq hf hfd DC hO
    unfold dropV at *
    go_enter Tryz.func16, Tryz.ntmps16
    go_wp2_with fail
    generalize (w.alloc (.cells #[.int .i64 seed, .string data] 33)).alloc (.cells #[.int .i64 0, .int .i64 0, .int .i64 0] 29) = w1 at *
    go_region_held3 (fun w' => w'.cell? ⟨b, 0, none⟩ = some (.int .i64 k) ∧ w'.cell? ⟨b, 1, none⟩ = some (.int .i64 z) ∧ w'.cell? ⟨w.heap.size, 0, none⟩ = some (.int .i64 seed) ∧ w'.cell? ⟨w.heap.size, 1, none⟩ = some (.string data)) (first | go_keep | exact ⟨cell_below hb2 hck, cell_below hb2 hcz, cell_below hb2 cs, cell_below hb2 cd⟩)
      (first | (go_at_call 45; refine (DC0.out _).mono ?_; rintro e w2 ⟨rfl, hb2⟩))
    have hb2' : Below w1.heap.size w1 w2 := ⟨hb2.os, hb2.tape, hb2.output, hb2.size, hb2.block⟩
    have hcf2 := cell_below hb2' hcf
    obtain ⟨x, y, zz, hx, hy, hz, hfr⟩ := HQ.out.below hb2'
    have HB2 := hide (below_two HB1.out hb2')
    have c0 : (((w2.setCell ⟨w.heap.size + 1, 0, none⟩ (.int .i64 0)).setCell ⟨w.heap.size + 1, 1, none⟩ (.int .i64 0)).setCell ⟨w.heap.size + 1, 2, none⟩ (.int .i64 0)).cell? ⟨w.heap.size + 1, 0, none⟩ = some (.int .i64 0) := by
      rw [cell_set_off (by decide), cell_set_off (by decide), World.cell?_setCell_same _ _ _ hx]
    have c1 : (((w2.setCell ⟨w.heap.size + 1, 0, none⟩ (.int .i64 0)).setCell ⟨w.heap.size + 1, 1, none⟩ (.int .i64 0)).setCell ⟨w.heap.size + 1, 2, none⟩ (.int .i64 0)).cell? ⟨w.heap.size + 1, 1, none⟩ = some (.int .i64 0) := by
      rw [cell_set_off (by decide), World.cell?_setCell_same _ _ _ (by rw [cell_set_off (by decide)]; exact hy)]
    have c2 : (((w2.setCell ⟨w.heap.size + 1, 0, none⟩ (.int .i64 0)).setCell ⟨w.heap.size + 1, 1, none⟩ (.int .i64 0)).setCell ⟨w.heap.size + 1, 2, none⟩ (.int .i64 0)).cell? ⟨w.heap.size + 1, 2, none⟩ = some (.int .i64 0) := by
      rw [World.cell?_setCell_same _ _ _ (by rw [cell_set_off (by decide), cell_set_off (by decide)]; exact hz)]
    have HB3 : Hid (Below w.heap.size w (((w2.setCell ⟨w.heap.size + 1, 0, none⟩ (.int .i64 0)).setCell ⟨w.heap.size + 1, 1, none⟩ (.int .i64 0)).setCell ⟨w.heap.size + 1, 2, none⟩ (.int .i64 0))) := below_set (below_set (below_set HB2.out (Nat.le_succ _)) (Nat.le_succ _)) (Nat.le_succ _)
    clear hb2 hb2' hck hcz cs cd
    go_wp2
    refine bodyPost_ret (v := .tuple #[heardV 0 0 0, .int .i64 4]) (by simp [results, Tryz.results16, go_sem, c0, c1, c2]; try rfl) rfl ⟨rfl, HB3.out⟩
  · rw [if_pos hfd]
    have DC1 := DC
    have hx0 : ((fD k z seed data.size) != 0) = true := by rw [bne_iff_ne]; exact hfd
    generalize fD k z seed data.size = x at *
    clear hE hE1 hb0 hb1 hq hf hfd DC hO
    unfold dropV at *
    go_enter Tryz.func16, Tryz.ntmps16
    go_wp2_with fail
    generalize (w.alloc (.cells #[.int .i64 seed, .string data] 33)).alloc (.cells #[.int .i64 0, .int .i64 0, .int .i64 0] 29) = w1 at *
    go_region_held3 (fun w' => w'.cell? ⟨b, 0, none⟩ = some (.int .i64 k) ∧ w'.cell? ⟨b, 1, none⟩ = some (.int .i64 z) ∧ w'.cell? ⟨w.heap.size, 0, none⟩ = some (.int .i64 seed) ∧ w'.cell? ⟨w.heap.size, 1, none⟩ = some (.string data)) (first | go_keep | exact ⟨cell_below hb2 hck, cell_below hb2 hcz, cell_below hb2 cs, cell_below hb2 cd⟩)
      (first | (go_at_call 45; refine (DC1.out _).mono ?_; rintro e w2 ⟨rfl, hb2⟩))
    have hb2' : Below w1.heap.size w1 w2 := ⟨hb2.os, hb2.tape, hb2.output, hb2.size, hb2.block⟩
    obtain ⟨x1, y, zz, hx, hy, hz, hfr⟩ := HQ.out.below hb2'
    have HB2 := hide (below_two HB1.out hb2')
    have c0 : (((w2.setCell ⟨w.heap.size + 1, 0, none⟩ (.int .i64 0)).setCell ⟨w.heap.size + 1, 1, none⟩ (.int .i64 0)).setCell ⟨w.heap.size + 1, 2, none⟩ (.int .i64 0)).cell? ⟨w.heap.size + 1, 0, none⟩ = some (.int .i64 0) := by
      rw [cell_set_off (by decide), cell_set_off (by decide), World.cell?_setCell_same _ _ _ hx]
    have c1 : (((w2.setCell ⟨w.heap.size + 1, 0, none⟩ (.int .i64 0)).setCell ⟨w.heap.size + 1, 1, none⟩ (.int .i64 0)).setCell ⟨w.heap.size + 1, 2, none⟩ (.int .i64 0)).cell? ⟨w.heap.size + 1, 1, none⟩ = some (.int .i64 0) := by
      rw [cell_set_off (by decide), World.cell?_setCell_same _ _ _ (by rw [cell_set_off (by decide)]; exact hy)]
    have c2 : (((w2.setCell ⟨w.heap.size + 1, 0, none⟩ (.int .i64 0)).setCell ⟨w.heap.size + 1, 1, none⟩ (.int .i64 0)).setCell ⟨w.heap.size + 1, 2, none⟩ (.int .i64 0)).cell? ⟨w.heap.size + 1, 2, none⟩ = some (.int .i64 0) := by
      rw [World.cell?_setCell_same _ _ _ (by rw [cell_set_off (by decide), cell_set_off (by decide)]; exact hz)]
    have HB3 : Hid (Below w.heap.size w (((w2.setCell ⟨w.heap.size + 1, 0, none⟩ (.int .i64 0)).setCell ⟨w.heap.size + 1, 1, none⟩ (.int .i64 0)).setCell ⟨w.heap.size + 1, 2, none⟩ (.int .i64 0))) := below_set (below_set (below_set HB2.out (Nat.le_succ _)) (Nat.le_succ _)) (Nat.le_succ _)
    clear hb2 hb2' hck hcz cs cd
    go_wp2
    refine bodyPost_ret (v := .tuple #[heardV 0 0 0, .int .i64 x]) (by simp [results, Tryz.results16, go_sem, c0, c1, c2]; try rfl) rfl ⟨rfl, HB3.out⟩
/-- dropref1's NewEar where it refuses. -/
theorem rnew_bad (k z n : Int) (w : World) (h : ¬ EMk k z n) :
    Calls Tryz.prog 15 #[.int .i64 k, .int .i64 z, .int .i64 n] w fun e w' => e = .returned (.tuple #[.pointer none, .int .i64 1]) ∧ Below w.heap.size w w' := by
  unfold EMk at h
  by_cases h1 : k < 1
  · clear h
    go_enter Tryz.func15, Tryz.ntmps15
    go_wp2
    go_ret2
    exact ⟨rfl, Below.refl _ _⟩
  by_cases h2 : 16 < k
  · clear h
    go_enter Tryz.func15, Tryz.ntmps15
    go_wp2
    go_ret2
    exact ⟨rfl, Below.refl _ _⟩
  by_cases h3 : z < 1
  · clear h
    go_enter Tryz.func15, Tryz.ntmps15
    go_wp2
    go_ret2
    exact ⟨rfl, Below.refl _ _⟩
  by_cases h4 : 8 < z
  · clear h
    go_enter Tryz.func15, Tryz.ntmps15
    go_wp2
    go_ret2
    exact ⟨rfl, Below.refl _ _⟩
  by_cases h5 : n < 0
  · clear h
    go_enter Tryz.func15, Tryz.ntmps15
    go_wp2
    go_ret2
    exact ⟨rfl, Below.refl _ _⟩
  by_cases h6 : 120 < n
  · clear h
    go_enter Tryz.func15, Tryz.ntmps15
    go_wp2
    go_ret2
    exact ⟨rfl, Below.refl _ _⟩
  obtain ⟨z, rfl⟩ : ∃ q : Nat, z = (q : Nat) := ⟨z.toNat, by omega⟩
  obtain ⟨n, rfl⟩ : ∃ q : Nat, n = (q : Nat) := ⟨n.toNat, by omega⟩
  have R := hide (rmany n z w (by omega) (by omega) (by omega))
  have hne : ((cntN n z : Nat) : Int) ≠ k := fun e => h ⟨⟨⟨by omega, by omega⟩, by omega, by omega⟩, ⟨by omega, by omega⟩, by simpa using e⟩
  have hq : (((cntN n z : Nat) : Int) != k) = true := by rw [bne_iff_ne]; exact hne
  clear h hne
  generalize cntN n z = m at *
  go_enter Tryz.func15, Tryz.ntmps15
  go_wp2_with fail
  refine (R.out).mono ?_
  rintro e w1 ⟨rfl, rfl⟩
  go_wp2
  go_ret2
  exact ⟨rfl, Below.refl _ _⟩
theorem rest_new (w : World) {k z n : Nat} (hk : (1 ≤ k ∧ k ≤ 16) ∧ 1 ≤ z ∧ z ≤ 8) (hn : n ≤ 120) (hc : cntN n z = k) :
    RESt ((w.alloc (.cells #[.int .i64 k, .bool false, .bool false, .bool false, .bool false, .bool false, .bool false, .bool false, .bool false, .bool false, .bool false, .bool false, .bool false, .bool false, .bool false, .bool false, .bool false, .string ⟨#[]⟩, .string ⟨#[]⟩, .string ⟨#[]⟩, .string ⟨#[]⟩, .string ⟨#[]⟩, .string ⟨#[]⟩, .string ⟨#[]⟩, .string ⟨#[]⟩, .string ⟨#[]⟩, .string ⟨#[]⟩, .string ⟨#[]⟩, .string ⟨#[]⟩, .string ⟨#[]⟩, .string ⟨#[]⟩, .string ⟨#[]⟩, .string ⟨#[]⟩, .slice none 0 0, .slice none 0 0] 94)).alloc (.cells #[.int .i64 k, .int .i64 z, .int .i64 n, .int .i64 0, .pointer (some ⟨w.heap.size, 0, none⟩), .slice none 0 0] 96)) (.pointer (some ⟨w.heap.size + 1, 0, none⟩)) k z n 0 [] (fun i => w.heap.size ≤ i ∧ i < w.heap.size + 2) := by
  have hp := rpb_new w k _ rfl 94
  generalize hw1 : w.alloc (.cells #[.int .i64 k, .bool false, .bool false, .bool false, .bool false, .bool false, .bool false, .bool false, .bool false, .bool false, .bool false, .bool false, .bool false, .bool false, .bool false, .bool false, .bool false, .string ⟨#[]⟩, .string ⟨#[]⟩, .string ⟨#[]⟩, .string ⟨#[]⟩, .string ⟨#[]⟩, .string ⟨#[]⟩, .string ⟨#[]⟩, .string ⟨#[]⟩, .string ⟨#[]⟩, .string ⟨#[]⟩, .string ⟨#[]⟩, .string ⟨#[]⟩, .string ⟨#[]⟩, .string ⟨#[]⟩, .string ⟨#[]⟩, .string ⟨#[]⟩, .slice none 0 0, .slice none 0 0] 94) = w1 at *
  have hs1 : w1.heap.size = w.heap.size + 1 := by rw [← hw1]; simp
  rw [← hs1]
  have ha : Below w1.heap.size w1 (w1.alloc (.cells #[.int .i64 k, .int .i64 z, .int .i64 n, .int .i64 0, .pointer (some ⟨w.heap.size, 0, none⟩), .slice none 0 0] 96)) := (Below.refl _ _).alloc (Nat.le_refl _) _
  have hh := (MapKept.heap_alloc w1 (.cells #[.int .i64 k, .int .i64 z, .int .i64 n, .int .i64 0, .pointer (some ⟨w.heap.size, 0, none⟩), .slice none 0 0] 96)).1
  have hcell : ∀ i, (w1.alloc (.cells #[.int .i64 k, .int .i64 z, .int .i64 n, .int .i64 0, .pointer (some ⟨w.heap.size, 0, none⟩), .slice none 0 0] 96)).cell? ⟨w1.heap.size, i, none⟩ = (#[.int .i64 k, .int .i64 z, .int .i64 n, .int .i64 0, .pointer (some ⟨w.heap.size, 0, none⟩), .slice none 0 0] : Array Value)[i]? := fun i => cell_of_row _ _ i _ 96 (0, 0) hh
  have hfr : ∀ i, (w1.alloc (.cells #[.int .i64 k, .int .i64 z, .int .i64 n, .int .i64 0, .pointer (some ⟨w.heap.size, 0, none⟩), .slice none 0 0] 96)).frozen? ⟨w1.heap.size, i, none⟩ = false := fun i => by simp only [World.frozen?, hh]; simp
  have hsz : (w1.alloc (.cells #[.int .i64 k, .int .i64 z, .int .i64 n, .int .i64 0, .pointer (some ⟨w.heap.size, 0, none⟩), .slice none 0 0] 96)).heap.size = w1.heap.size + 1 := by simp
  refine ⟨w1.heap.size, w.heap.size, .slice none 0 0, .slice none 0 0, .slice none 0 0, p0, rfl, ⟨by rw [hcell]; rfl, by rw [hcell]; rfl, by rw [hcell]; rfl, by rw [hcell]; rfl, by rw [hcell]; rfl, by rw [hcell]; rfl, hfr _, hfr _, ⟨hp.below ha, World.ownsRow_nil _ _ _ _, World.ownsRow_nil _ _ _ _, (fun e => by cases e), (fun e => by cases e), Or.inl rfl, Nat.zero_le _⟩, World.ownsRow_nil _ _ _ _, ⟨by omega, by omega⟩, fun i hi => ?_, (fun i e => by cases e), fun i hi => by rw [hsz]; omega, fun hi => ?_, (fun e => by cases e), (fun i e => by cases e), Kept.refl _ _, fun x hx => by cases hx⟩, took_none _ _, ⟨hk.1, hk.2, hn, hc, by simp, (fun d hd => by cases hd), by simp [sds]⟩, ⟨⟨fun d hd => absurd hd (by simp [p0]), (fun r hr => by cases hr)⟩, (fun r hr => by cases hr)⟩⟩
  · rcases hi with rfl | e | e
    · exact Or.inl ⟨Nat.le_refl _, by omega⟩
    · cases e
    · cases e
  · rcases hi with e | e | e
    · omega
    · cases e
    · cases e
set_option maxHeartbeats 2000000 in
theorem rnew_ok (k z n : Nat) (w : World) (hk : (1 ≤ k ∧ k ≤ 16) ∧ 1 ≤ z ∧ z ≤ 8) (hn : n ≤ 120) (hc : cntN n z = k) :
    Calls Tryz.prog 15 #[.int .i64 k, .int .i64 z, .int .i64 n] w fun e w' => ∃ v M, e = .returned (.tuple #[v, .int .i64 0]) ∧ RESt w' v k z n 0 [] M ∧ (∀ i, M i → w.heap.size ≤ i) ∧ Below w.heap.size w w' := by
  have R := hide (rmany n z w (by omega) (by omega) (by omega))
  have hq : (((cntN n z : Nat) : Int) != (k : Int)) = false := by rw [hc]; simp
  obtain ⟨⟨h1, h2⟩, h3, h4⟩ := hk
  have e1 : ¬ (k : Int) < 1 := by omega
  have e2 : ¬ (16 : Int) < (k : Int) := by omega
  have e3 : ¬ (z : Int) < 1 := by omega
  have e4 : ¬ (8 : Int) < (z : Int) := by omega
  have e5 : ¬ (n : Int) < 0 := by omega
  have e6 : ¬ (120 : Int) < (n : Int) := by omega
  have HC := hide hc
  clear hc
  generalize hcn : cntN n z = m at *
  go_enter Tryz.func15, Tryz.ntmps15
  go_wp2_with fail
  refine (R.out).mono ?_
  rintro e w1 ⟨rfl, rfl⟩
  have E := hide (rest_new w (k := k) (z := z) (n := n) ⟨⟨h1, h2⟩, h3, h4⟩ hn (by rw [hcn]; exact HC.out))
  go_wp2
  go_ret2
  exact ⟨_, _, rfl, E.out, fun i hi => hi.1, ((Below.refl _ w).alloc (Nat.le_refl _) _).alloc (by simp) _⟩
end Go.Proofs.YtjgifjkdgoijmaaGreatDoor

namespace Go.Proofs.YtjgifjkdgoijmaaGreatDoor
open Go.Shelf Go.RowKit
set_option linter.unusedVariables false
set_option maxRecDepth 100000
def renJoin : Go.Shelf.Ren := ⟨fun | 156 => 65 | 165 => 89 | 166 => 90 | 169 => 92 | 240 => 114 | 241 => 115 | 276 => 129 | 277 => 130 | n => n,
  fun | 31 => 37 | 9 => 9 | 3 => 3 | 4 => 4 | 0 => 0 | 20 => 20 | 72 => 159 | 76 => 45 | 70 => 157 | 37 => 124 | 75 => 25 | 127 => 169 | 164 => 172 | 5 => 5 | 80 => 162 | n => n, fun | n => n⟩
theorem laysJoin : Go.Proofs.Lays.n156 Tryz.prog renJoin := by constructor <;> (intros; kernel_rfl)
theorem extraJoin0 : Builder.X72 Tryz.prog renJoin := by constructor <;> (intros; kernel_rfl)
theorem extraJoin : Builder.Extra Tryz.prog renJoin :=
  Builder.Extra.mk extraJoin0 (by kernel_rfl) (fun _ => by kernel_rfl) (fun _ => by kernel_rfl) (fun _ => by kernel_rfl) (by kernel_rfl) (by kernel_rfl) (by kernel_rfl) (by decide)
theorem strings_Join (bk o c : Nat) (xs : List ByteArray) (sep : ByteArray) (w : World) (hcells : ∀ (j : Nat) x, xs[j]? = some x → w.cell? ⟨bk, o + j, none⟩ = some (.string x)) (hbk : bk < w.heap.size) (hN : xs.length ≤ 140737488355328) (hcap : xs.length ≤ c) (hlen : (Lib.join (xs.map (·.data.toList)) sep.data.toList).length ≤ 140737488355328) :
    Calls Tryz.prog 65 #[.slice (some ⟨bk, o, none⟩) xs.length c, .string sep] w fun e w' => e = .returned (.string ⟨(Lib.join (xs.map (·.data.toList)) sep.data.toList).toArray⟩) ∧ Below w.heap.size w w' :=
  Any.strings_Join laysJoin extraJoin bk o c xs sep w hcells hbk hN hcap hlen
end Go.Proofs.YtjgifjkdgoijmaaGreatDoor

namespace Go.Proofs.YtjgifjkdgoijmaaGreatDoor
open Go.RowKit
set_option linter.unusedVariables false
set_option maxRecDepth 100000

/-- All strings f 0 .. f (len-1) one behind the other. -/
def allL (f : Nat → ByteArray) (len : Nat) : List UInt8 := ((List.range len).map (fun i => (f i).data.toList)).flatten
theorem allL_succ (f : Nat → ByteArray) (len : Nat) : allL f (len + 1) = allL f len ++ (f len).data.toList := by
  simp [allL, List.range_succ]
theorem allL_length (f : Nat → ByteArray) (m : Nat) : ∀ len, (∀ i, i < len → (f i).size = m) → (allL f len).length = len * m
  | 0, _ => by simp [allL]
  | len + 1, h => by
    rw [allL_succ, List.length_append, allL_length f m len (fun i hi => h i (by omega)), ← Lib.size_eq, h len (by omega), Nat.add_mul, Nat.one_mul]
theorem join_nil (xs : List (List UInt8)) : Lib.join xs [] = xs.flatten := by
  cases xs with
  | nil => rfl
  | cons x r => rw [Lib.join_cons]; simp [Lib.joinTail]
theorem join_checks (a : Option Addr) (len cap : Nat) (n : Int) (x : Int) (w : World)
    (hC : Calls Tryz.prog 35 #[.slice a len cap] w fun e w' => e = .returned (.iface 64 (.int .i64 x)) ∧ Below w.heap.size w w') :
    Calls Tryz.prog 30 #[.slice a len cap, .int .i64 n] w fun e w' => e = .returned (.tuple #[.string ⟨#[]⟩, .iface 64 (.int .i64 x)]) ∧ Below w.heap.size w w' := by
  have K := hide hC
  clear hC
  go_enter Tryz.func30, Tryz.ntmps30
  go_wp2_with fail
  refine (K.out).mono ?_
  rintro e w1 ⟨rfl, hb⟩
  go_wp2
  go_ret2
  exact ⟨rfl, hb⟩
theorem cells_below {w w1 : World} {b o len : Nat} {f : Nat → ByteArray} (hb : Below w.heap.size w w1) (hcell : ∀ i, i < len → w.cell? ⟨b, o + i, none⟩ = some (.string (f i))) :
    ∀ i, i < len → w1.cell? ⟨b, o + i, none⟩ = some (.string (f i)) := fun i hi =>
  (hb.cell (p := ⟨b, o + i, none⟩) (cell_lt (hcell i hi))).trans (hcell i hi)
theorem mul_cast (len m : Nat) (h16 : len ≤ 16) (h8 : m ≤ 8) : 0 ≤ (len : Int) * (m : Int) ∧ (len : Int) * (m : Int) ≤ 128 := by
  have h := Nat.mul_le_mul h16 h8
  have e : (len : Int) * (m : Int) = ((len * m : Nat) : Int) := by simp
  rw [e]; omega
/-- Join where the blocks are well, and n is none that may be. -/
theorem join_range (b o len cap : Nat) (f : Nat → ByteArray) (n : Int) (w : World) (h0 : 0 < len) (h16 : len ≤ 16)
    (hcell : ∀ i, i < len → w.cell? ⟨b, o + i, none⟩ = some (.string (f i))) (h1 : 1 ≤ (f 0).size) (h8 : (f 0).size ≤ 8) (hs : ∀ i, i < len → (f i).size = (f 0).size)
    (hn : n < 0 ∨ (len : Int) * ((f 0).size : Int) < n ∨ (0 ≤ n ∧ n ≤ (len : Int) * ((f 0).size : Int) ∧ cntN n.toNat (f 0).size ≠ len)) :
    Calls Tryz.prog 30 #[.slice (some ⟨b, o, none⟩) len cap, .int .i64 n] w fun e w' => e = .returned (.tuple #[.string ⟨#[]⟩, .iface 64 (.int .i64 1)]) ∧ Below w.heap.size w w' := by
  have hc0 := hcell 0 h0
  simp only [Nat.add_zero] at hc0
  have hbl := cell_lt hc0
  have K := hide (check_ok b o len cap f w h0 h16 hcell h1 h8 hs)
  clear hcell hs
  obtain ⟨hm1, hm2⟩ := mul_cast len (f 0).size h16 h8
  rcases hn with hn | hn | ⟨hn0, hn1, hn2⟩
  · go_enter Tryz.func30, Tryz.ntmps30
    go_wp2_with fail
    refine (K.out).mono ?_
    rintro e w1 ⟨rfl, hb⟩
    have hc1 := (hb.cell (p := ⟨b, o, none⟩) hbl).trans hc0
    go_wp2
    go_ret2
    exact ⟨rfl, hb⟩
  · have hn' : ¬ n < 0 := by omega
    go_enter Tryz.func30, Tryz.ntmps30
    go_wp2_with fail
    refine (K.out).mono ?_
    rintro e w1 ⟨rfl, hb⟩
    have hc1 := (hb.cell (p := ⟨b, o, none⟩) hbl).trans hc0
    go_wp2
    go_ret2
    exact ⟨rfl, hb⟩
  · obtain ⟨q, rfl⟩ := Int.eq_ofNat_of_zero_le hn0
    rw [Int.toNat_natCast] at hn2
    have HC := hide (cast_cnt q (f 0).size h1)
    generalize cntN q (f 0).size = k at *
    have hne : ((k : Int) != (len : Int)) = true := by rw [bne_iff_ne]; omega
    have hn' : ¬ (q : Int) < 0 := by omega
    go_enter Tryz.func30, Tryz.ntmps30
    go_wp2_with fail
    refine (K.out).mono ?_
    rintro e w1 ⟨rfl, hb⟩
    have hc1 := (hb.cell (p := ⟨b, o, none⟩) hbl).trans hc0
    go_wp2_with fail
    refine (count_any _ _ _ (by omega) (by omega) (by omega) (by omega)).mono ?_
    rw [HC.out]
    rintro e w2 ⟨rfl, rfl⟩
    go_wp2
    go_ret2
    exact ⟨rfl, hb⟩

theorem extract_take (l : List UInt8) (q : Nat) : (ByteArray.mk l.toArray).extract 0 q = ⟨(l.take q).toArray⟩ := by
  apply ByteArray.ext
  rw [← Array.toList_inj, Lib.extract_data]
  simp
/-- Join where all is well: the first n bytes. -/
theorem join_ok (b o len cap : Nat) (f : Nat → ByteArray) (q : Nat) (w : World) (h0 : 0 < len) (h16 : len ≤ 16) (hcap : len ≤ cap)
    (hcell : ∀ i, i < len → w.cell? ⟨b, o + i, none⟩ = some (.string (f i))) (h1 : 1 ≤ (f 0).size) (h8 : (f 0).size ≤ 8) (hs : ∀ i, i < len → (f i).size = (f 0).size)
    (hn1 : q ≤ len * (f 0).size) (hn2 : cntN q (f 0).size = len) :
    Calls Tryz.prog 30 #[.slice (some ⟨b, o, none⟩) len cap, .int .i64 q] w fun e w' => e = .returned (.tuple #[.string ⟨((allL f len).take q).toArray⟩, .nilIface]) ∧ Below w.heap.size w w' := by
  have hc0 := hcell 0 h0
  simp only [Nat.add_zero] at hc0
  have hbl := cell_lt hc0
  have K := hide (check_ok b o len cap f w h0 h16 hcell h1 h8 hs)
  have HCell := hide hcell
  have hal := allL_length f (f 0).size len hs
  have hmul := Nat.mul_le_mul h16 h8
  clear hcell hs
  obtain ⟨hm1, hm2⟩ := mul_cast len (f 0).size h16 h8
  have hq2 : (q : Int) ≤ (len : Int) * ((f 0).size : Int) := by rw [← Int.natCast_mul]; omega
  have HC := hide (cast_cnt q (f 0).size h1)
  rw [hn2] at HC
  have hne : ((len : Int) != (len : Int)) = false := by simp
  have hn' : ¬ (q : Int) < 0 := by omega
  have HAL := hide hal
  have hjl : (Lib.join (((List.range len).map f).map (·.data.toList)) (ByteArray.mk #[]).data.toList) = allL f len := by
    show Lib.join _ [] = _
    rw [join_nil, List.map_map]; rfl
  have HJ := hide hjl
  clear hal hjl hn2
  go_enter Tryz.func30, Tryz.ntmps30
  go_wp2_with fail
  refine (K.out).mono ?_
  rintro e w1 ⟨rfl, hb⟩
  have hc1 := (hb.cell (p := ⟨b, o, none⟩) hbl).trans hc0
  have hbl1 : b < w1.heap.size := cell_lt hc1
  go_wp2_with fail
  refine (count_any _ _ _ (by omega) (by omega) (by omega) (by omega)).mono ?_
  rw [HC.out]
  rintro e w2 ⟨rfl, rfl⟩
  go_wp2_with fail
  have J := strings_Join b o cap ((List.range len).map f) ⟨#[]⟩ w1 (fun j x hx => by
    rw [List.getElem?_map] at hx
    obtain ⟨i, hi, rfl⟩ := Option.map_eq_some_iff.1 hx
    have hj := (List.getElem?_eq_some_iff.1 hi).1
    rw [List.length_range] at hj
    rw [List.getElem?_range hj] at hi
    obtain rfl := Option.some.inj hi
    exact cells_below hb HCell.out j hj) hbl1 (by simp; omega) (by simpa using hcap) (by rw [HJ.out, HAL.out]; omega)
  rw [HJ.out, List.length_map, List.length_range] at J
  refine J.mono ?_
  rintro e w2 ⟨rfl, hb2⟩
  have hsz : (ByteArray.mk (allL f len).toArray).size = len * (f 0).size := by rw [← HAL.out]; rfl
  have hqs : q ≤ (ByteArray.mk (allL f len).toArray).size := by rw [hsz]; exact hn1
  clear J
  have hqm := Nat.le_trans hn1 hmul
  go_wp2_with fail
  rw [extract_take]
  refine (strings_Clone _ _ (by rw [Lib.size_eq, List.length_take]; omega)).mono ?_
  rintro e w3 ⟨rfl, hb3⟩
  go_wp2
  go_ret2
  exact ⟨rfl, (hb.trans (hb2.mono hb.size)).trans (hb3.mono (Nat.le_trans hb.size hb2.size))⟩
end Go.Proofs.YtjgifjkdgoijmaaGreatDoor

namespace Go.Proofs.YtjgifjkdgoijmaaGreatDoor
open Go.RowKit
set_option linter.unusedVariables false
set_option maxRecDepth 100000

theorem allL_blk (l : List UInt8) (n : Nat) : ∀ k, allL (blkB l n) k = padL l (k * n)
  | 0 => by simp [allL, padL]
  | k + 1 => by
    rw [allL_succ, allL_blk l n k, blkB, List.toList_toArray, blkL, padL_append, Nat.add_mul, Nat.one_mul]
theorem back_bytes (s : ByteArray) (n : Nat) (h1 : 1 ≤ n) : (ByteArray.mk ((allL (blkB s.data.toList n) (cntN s.size n)).take s.size).toArray) = s := by
  rw [allL_blk]
  have h := cnt_ge s.size n h1
  rw [Lib.size_eq] at h ⊢
  generalize hl : s.data.toList = l at *
  unfold padL
  rw [List.take_of_length_le h, List.take_append_of_le_length (Nat.le_refl _), List.take_length, ← hl]
end Go.Proofs.YtjgifjkdgoijmaaGreatDoor
