/-
  Lemmas for the law above, joined into one text (AirAdd). No statement is proved here.
-/
import Derived.Test.YtjgifjkdgoijmaaGreatWG34
import Derived.Test.YtjgifjkdgoijmaaGreatWG13
import Derived.Deep.RegionLaw
import Derived.Deep.DrawnRows
import Derived.Deep.DeepCutAuto
namespace Go.Proofs.YtjgifjkdgoijmaaGreat
open Go.RowKit Go.Maps
set_option linter.unusedVariables false
set_option maxRecDepth 100000

/-- A block with an empty slice. -/
theorem aq_new {base : Nat} (w : World) (t : TypeId) (hb : base ≤ w.heap.size) : AQ (w.alloc (.cells #[.slice none 0 0] t)) base w.heap.size (.slice none 0 0) [] :=
  ⟨by simp, by simp only [World.frozen?, (MapKept.heap_alloc w _).1]; simp, World.ownsRow_nil _ _ _ _, (fun e => by cases e), hb, by simp, fun d hd => by cases hd⟩
theorem anew_ok (base : Nat) (w : World) (hb : base ≤ w.heap.size) :
    Calls Tryz.prog 8 #[] w fun e w' => e = .returned (.pointer (some ⟨w.heap.size, 0, none⟩)) ∧ AQ w' base w.heap.size (.slice none 0 0) [] ∧ Below w.heap.size w w' := by
  have N := hide (aq_new w 62 hb)
  go_enter Tryz.func8, Tryz.ntmps8
  go_wp2
  go_ret
  exact ⟨rfl, N.out, (Below.refl _ w).alloc (Nat.le_refl _) _⟩

theorem has_in {w : World} {base b : Nat} {v : Value} {X : List Drp} {i : Nat} (h : AQ w base b v X) (hi : i < X.length) :
    Calls Tryz.prog 32 #[.pointer (some ⟨b, 0, none⟩), .int .i64 i] w fun e w' => e = .returned (.bool true) ∧ w = w' := by
  obtain ⟨a, cap, rfl, h1, h2, _⟩ := own_drops h.row
  have hc := h.cell
  clear h
  go_enter Tryz.func32, Tryz.ntmps32
  go_wp2
  go_ret
  exact ⟨rfl, rfl⟩
theorem has_out {w : World} {base b : Nat} {v : Value} {X : List Drp} {i : Int} (h : AQ w base b v X) (hi : i < 0 ∨ (X.length : Int) ≤ i) :
    Calls Tryz.prog 32 #[.pointer (some ⟨b, 0, none⟩), .int .i64 i] w fun e w' => e = .returned (.bool false) ∧ w = w' := by
  obtain ⟨a, cap, rfl, h1, h2, _⟩ := own_drops h.row
  have hc := h.cell
  clear h
  by_cases h0 : i < 0
  · clear hi
    have h9 : ¬ (0 : Int) ≤ i := by omega
    go_enter Tryz.func32, Tryz.ntmps32
    go_wp2
    go_ret
    exact ⟨rfl, rfl⟩
  · have h8 : (0 : Int) ≤ i := by omega
    have h9 : ¬ i < (X.length : Int) := by omega
    clear hi h0
    go_enter Tryz.func32, Tryz.ntmps32
    go_wp2
    go_ret
    exact ⟨rfl, rfl⟩

theorem add_full {w : World} {base b : Nat} {v : Value} {X : List Drp} (s : Int) (data : ByteArray) (h : AQ w base b v X) (hf : 60 ≤ X.length) :
    Calls Tryz.prog 31 #[.pointer (some ⟨b, 0, none⟩), dropV s data] w fun e w' => e = .returned (.iface 54 (.int .i64 4)) ∧ Below w.heap.size w w' := by
  obtain ⟨a, cap, rfl, h1, h2, _⟩ := own_drops h.row
  have hb0 : Below w.heap.size w (w.alloc (.cells #[.int .i64 s, .string data] 37)) := (Below.refl _ _).alloc (Nat.le_refl _) _
  have hc := cell_below hb0 h.cell
  have HB := hide hb0
  clear h hb0
  unfold dropV
  go_enter Tryz.func31, Tryz.ntmps31
  go_wp2
  go_ret
  exact ⟨rfl, HB.out⟩

set_option maxHeartbeats 4000000 in
theorem add_ok {w : World} {base b : Nat} {v : Value} {X : List Drp} {n : Nat} {data : ByteArray} (h : AQ w base b v X) (hl : X.length < 60) (hd : 1 ≤ n ∧ n ≤ 10000 ∧ 1 ≤ data.size ∧ data.size ≤ 8) :
    Calls Tryz.prog 31 #[.pointer (some ⟨b, 0, none⟩), dropV (n : Nat) data] w fun e w' => e = .returned .nilIface ∧ Moved w base b v (X ++ [(n, data)]) w' := by
  have hbl := h.lt b (Or.inl rfl)
  have hbase : base ≤ w.heap.size := by omega
  have hb0 : Below w.heap.size w (w.alloc (.cells #[.int .i64 (n : Nat), .string data] 37)) := (Below.refl _ _).alloc (Nat.le_refl _) _
  have H0 := hide (fun w' => Moved.behind (base := base) (w' := w') (X := X ++ [(n, data)]) hb0 hbl.2 (fun i e => (h.lt i (Or.inr e)).2))
  have H1 := hide (h.below hb0)
  have D1 := hide (dropIn_new w (n : Nat) data)
  have hd8 : data.size ≤ 281474976710656 := by omega
  have CL := hide (fun W => strings_Clone data W hd8)
  have HBs : Hid (base ≤ (w.alloc (.cells #[.int .i64 (n : Nat), .string data] 37)).heap.size) := by unfold Hid; have := hb0.size; omega
  obtain ⟨aW, cW, hvW, hW1, hW2, _⟩ := own_drops h.row
  subst hvW
  have hc1 := H1.out.cell
  have HD := hide hd
  have HF := hide h.few
  clear h hb0 hd8 hbl hd
  unfold dropV
  go_enter Tryz.func31, Tryz.ntmps31
  go_upto_region 3 with fail
  have hsb : w.heap.size < (w.alloc (.cells #[.int .i64 (n : Nat), .string data] 37)).heap.size := by simp
  generalize hgs : w.heap.size = sb at *
  clear hgs
  generalize w.alloc (.cells #[.int .i64 (n : Nat), .string data] 37) = w1 at *
  obtain ⟨⟨cs, _⟩, cd, _⟩ := D1.out
  simp only [Nat.zero_add] at cd
  obtain ⟨i0, hi0, hz0, hz1, hz2⟩ := info_parts Tryz.infoDrop
  have Hi := hide hi0
  have Hz0 := hide hz0
  have Hz1 := hide hz1
  have Hz2 := hide hz2
  have HaB : Hid ((Value.slice aW X.length cW).ownBlock ≠ some b) := H1.out.ap
  have hbl1 : b < w1.heap.size := (H1.out.lt b (Or.inl rfl)).2
  unfold maxLen at hW2
  clear hi0 hz0 hz1 hz2
  go_cut [24] (fun t wx => Moved w1 base b (.slice aW X.length cW) (X ++ [(n, data)]) wx)
  case first =>
    go_region_law ((first
      | (refine step_append_lies _ (by rfl) _ _ _ (by rfl) base 37 i0 _ 2 24 Tryz.underlying60 Hi.out Hz0.out Hz1.out Hz2.out rfl (by omega) (.slice aW X.length cW) X.length (dC X) (by rfl) HO5.out.row
          ⟨w5.heap.size, 0, none⟩ 1 1 [.int .i64 (n : Nat), .string data] (by rfl) (by rfl) (World.news_of_block (cs := #[.int .i64 (n : Nat), .string data]) (t := 37) (fr := (0, 0)) (heap_alloc_new w5 _)) (by simp [Value.oneCell'])
          (by omega) (by unfold maxLen; omega) (by omega) (by have h9 := HBs.out; simp; omega) (w5.heap.size + 1) (by simp) ?_; intro gg cap w6 hown6 hgrow6 hat hlt; have hfz : w6.frozen? ⟨b, 0, none⟩ = false := (hgrow6.frozen_far ⟨b, 0, none⟩ (by simp; omega) (Ne.symm HaB.out)).trans HO5.out.frz; have hcz : w6.cell? ⟨b, 0, none⟩ = some (.slice aW X.length cW) := (hgrow6.cell_far ⟨b, 0, none⟩ (by simp; omega) (Ne.symm HaB.out)).trans HO5.out.cell)
      | (rw [if_pos (by rfl)]; go_simp; go_at_call 37; refine (CL.out _).mono ?_; rintro e w5 ⟨rfl, hb5⟩; have hb5' : Below w1.heap.size w1 w5 := ⟨hb5.os, hb5.tape, hb5.output, hb5.size, hb5.block⟩; have hb5s := hb5'.size; have HO5 := hide ((H1.out.below hb5').below ((Below.refl _ w5).alloc (Nat.le_refl _) (.cells #[.int .i64 (n : Nat), .string data] 37))); have hcw5 := cell_below hb5' hc1; have hcs5 := cell_below hb5' cs; have hcd5 := cell_below hb5' cd; have hcw6 := HO5.out.cell)))
    all_goals
      go_wp2_with fail
      go_meet
      have hbA : Below w1.heap.size w1 (w5.alloc (.cells #[.int .i64 (n : Nat), .string data] 37)) := hb5'.alloc hb5s _
      refine Moved.behind hbA hbl1 (fun i e => (H1.out.lt i (Or.inr e)).2) (HO5.out.store ((Kept.refl _ _).grown hgrow6 fun i e => Or.inl e) (by rw [List.length_append, dC_snoc]; exact hown6) (fun i e => ?_) (by rw [List.length_append]; simp; omega) (fun d hdm => ?_))
      · rcases hat with e9 | e9
        · exact Or.inl (e9.trans e)
        · cases e; exact Or.inr (by rw [e9]; simp)
      · rcases List.mem_append.1 hdm with hdm | hdm
        · exact H1.out.good d hdm
        · rw [List.mem_singleton.1 hdm]; exact HD.out
  case rest =>
  have HM := hide hcut
  clear hcut
  go_wp2
  go_ret
  exact ⟨rfl, H0.out _ HM.out⟩
end Go.Proofs.YtjgifjkdgoijmaaGreat
