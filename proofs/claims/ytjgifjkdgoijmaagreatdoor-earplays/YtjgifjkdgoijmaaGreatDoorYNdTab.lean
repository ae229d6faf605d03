/-
  Lemmas for the law above, joined into one text (NdTab). No statement is proved here.
-/
import Derived.Test.YtjgifjkdgoijmaaGreatDoorYG31
namespace Go.Proofs.YtjgifjkdgoijmaaGreatDoor
open Go.RowKit Go.Maps
set_option linter.unusedVariables false
set_option maxRecDepth 100000

/-- The sets of seeds, as numbers. -/
noncomputable def mD (k : Nat) (s : Nat → Nat) : Nat → Nat := fun i => maskL (setL k (s i))
theorem mD_masks (k : Nat) (s : Nat → Nat) (i : Nat) : masksD k s i = preL (mD k s) i := rfl
theorem mD_lt {k : Nat} {s : Nat → Nat} {n : Nat} (hk : 1 ≤ k) (hs : ∀ j, j < n → 1 ≤ s j ∧ s j ≤ 10000) : ∀ v ∈ preL (mD k s) n, v < 2 ^ k := fun v hv => by
  obtain ⟨j, hj, rfl⟩ := mem_preL.1 hv
  exact setL_mask hk (hs j hj).1
/-- Numbers as values. -/
def iV (l : List Nat) : List Value := l.map fun r : Nat => .int .i64 (r : Nat)
theorem iV_snoc (l : List Nat) (n : Nat) : iV (l ++ [n]) = iV l ++ [.int .i64 (n : Nat)] := by unfold iV; rw [List.map_append]; rfl
theorem own_base {w : World} {B B' e size n : Nat} {v : Value} {xs : List Value} (h : w.ownsRow B e size v n xs) (hB : B' ≤ B) : w.ownsRow B' e size v n xs := by
  refine ⟨h.1, ?_⟩
  rcases h.2 with hn | ⟨g, cap, cur, hv, h1, r⟩
  · exact Or.inl hn
  · exact Or.inr ⟨g, cap, cur, hv, Nat.le_trans hB h1, r⟩
theorem own_slice {w : World} {B e size n : Nat} {v : Value} {xs : List Value} (h : w.ownsRow B e size v n xs) : ∃ a cap, v = .slice a n cap := by
  rcases h.2 with ⟨hv, hn⟩ | ⟨g, cap, cur, hv, _⟩
  · exact ⟨none, 0, by rw [hn]; exact hv⟩
  · exact ⟨_, cap, hv⟩
/-- What tabled has come to, behind the first seeds. -/
def NdInv (w : World) (k : Nat) (M : Nat → Nat) (b j : Nat) (vo : Value) (wr : World) : Prop :=
  ∃ has ofs D, UMap wr b k has ofs D ∧ NTab (preL M j) k has ofs ∧ wr.ownsRow (b + 1) 3 1 vo (upL [] M j).length (iV (upL [] M j)) ∧ w.heap.size ≤ b ∧ Below w.heap.size w wr
theorem ntab_bad {k : Int} {v : Value} {len : Nat} {f : Nat → Int} {w : World} (hv : IntsAt w v len f) (h : fS k len f ≠ 0) :
    Calls Tryz.prog 74 #[.int .i64 k, v] w fun e w' => e = .returned (.tuple #[.map none, .slice none 0 0, .iface 64 (.int .i64 (fS k len f))]) ∧ w = w' := by
  have R := hide (rank_bad hv h)
  obtain ⟨a, cap, rfl, _⟩ := hv.open
  clear hv
  generalize fS k len f = x at *
  go_enter Tryz.func74, Tryz.ntmps74
  go_wp2_with fail
  refine (R.out).mono ?_
  rintro e w1 ⟨rfl, rfl⟩
  go_wp2
  go_ret3
  exact ⟨rfl, rfl⟩
set_option maxHeartbeats 4000000 in
theorem ntab_ok (k : Nat) (v : Value) (len : Nat) (s : Nat → Nat) (w : World) (hv : IntsAt w v len (fun i => (s i : Int))) (h : len ≤ 60) (hk : 1 ≤ k) (hk2 : k ≤ 16) (hs : ∀ j, j < len → 1 ≤ s j ∧ s j ≤ 10000) :
    Calls Tryz.prog 74 #[.int .i64 k, v] w fun e w' => ∃ b vo, e = .returned (.tuple #[.map (some b), vo, .nilIface]) ∧ NdInv w k (mD k s) b len vo w' := by
  have hmm := fun w => run_makeMap (P := Tryz.prog) 136 w
  have R := hide (rank_ok k v len s w hv h hk hk2 hs)
  obtain ⟨a, cap, rfl, h0⟩ := hv.open
  have H0 := hide h0
  have HS := hide hs
  obtain ⟨i0, hi0, hz0, hz1, hz2⟩ := info_parts Tryz.infoInt
  have Hi := hide hi0
  have Hz0 := hide hz0
  have Hz1 := hide hz1
  have Hz2 := hide hz2
  clear hs hv h0 hi0 hz0 hz1 hz2
  go_enter Tryz.func74, Tryz.ntmps74
  go_wp2_with fail
  refine (R.out).mono ?_
  rintro e w1 ⟨r, rfl, _, _, hb1⟩
  have HI : Hid (NdInv w k (mD k s) w1.heap.size 0 (.slice none 0 0) (w1.alloc (.map #[] 0))) := ⟨_, fun _ => 0, _, umap_made w1 k _, ntab_none k _, World.ownsRow_nil _ _ _ _, hb1.size, hb1.alloc hb1.size _⟩
  have HB1 := hide hb1
  clear hb1 R
  go_wp2_with fail
  go_loopw [10, 27] (fun vo i wr => ∃ j : Nat, j ≤ len ∧ i = .int .i64 j ∧ NdInv w k (mD k s) w1.heap.size j vo wr) (fun _ i _ => len - (intOf i).toNat)
  case atStart => exact ⟨0, Nat.zero_le _, rfl, HI.out⟩
  case round =>
    obtain ⟨j, hj, rfl, hI⟩ := hrel
    have HJ := hide hI
    clear hI HI
    by_cases hlt : j < len
    · obtain ⟨bb, o, ha, hc1, hc2, hc⟩ := H0.out (by omega)
      subst ha
      obtain ⟨has, ofs, D, hM, hT, hO, hwb, hb⟩ := HJ.out
      have hcj : wr.cell? ⟨bb, o + j, none⟩ = some (.int .i64 (s j : Nat)) := cell_below hb (hc j hlt)
      have hsj := HS.out j hlt
      have HM := hide hM
      have HT := hide hT
      have HO := hide hO
      have HB := hide hb
      have S := hide (set_new k (s j) wr hk hk2 hsj.1 hsj.2)
      have RS : Hid (∀ W v, Below wr.heap.size wr W → Lst W v (setL k (s j)) → Calls Tryz.prog 75 #[.map (some w1.heap.size), v] W fun e w' => ∃ r : Bool, e = .returned (.bool r) ∧ Raised W (preL (mD k s) j) k w1.heap.size (mD k s j) r w') := fun W v hW hl => raise_ok (preL (mD k s) j) (setL k (s j)) k w1.heap.size v has ofs D W hk2 (HM.out.below hW) HT.out hl (fun p hp => setL_lt hk hsj.1 hp) (setL_few hk hk2 hsj.1 hsj.2)
      have HUl := hide (upL_le [] (mD k s) j)
      unfold maxLen at hc2
      clear hc hM hT hO hb hmm
      generalize hx : s j = x at *
      clear hx
      go_wp2_with fail
      refine (S.out).mono ?_
      rintro e w2 ⟨vs, rfl, hl2, hb2, _⟩
      have RS2 := hide (RS.out w2 vs hb2 hl2)
      have HO2 := hide (ownU HO.out hb2)
      have HB2 := hide (below_two HB.out hb2)
      clear hb2 hl2 S RS hcj
      go_wp2_with fail
      refine (RS2.out).mono ?_
      rintro e w3 ⟨r, rfl, has3, ofs3, D3, hM3, hT3, hr3, hg3⟩
      have HM3 := hide hM3
      have HT3 : Hid (NTab (preL (mD k s) (j + 1)) k has3 ofs3) := by rw [Hid, preL_succ]; exact hT3
      have HB3 : Hid (Below w.heap.size w w3) := HB2.out.grown hg3 HB2.out.size (fun q hq => by cases hq; exact hwb)
      have HO3 : Hid (w3.ownsRow (w1.heap.size + 1) 3 1 u10 (upL [] (mD k s) j).length (iV (upL [] (mD k s) j))) := HO2.out.kept hg3 (by
          cases e : u10.ownBlock with
          | none => exact Or.inl rfl
          | some q => exact Or.inr (fun e2 => by cases e2; have := (HO2.out.lt _ e).1; omega))
      have hw3 := Nat.lt_of_lt_of_le HM3.out.lt (Nat.le_refl _)
      have hul := HUl.out
      clear hM3 hT3 hg3 RS2
      cases r with
      | false =>
        have hin : Sp XN (preL (mD k s) j) (mD k s j) := Classical.byContradiction fun hc => by have := hr3.2 hc; cases this
        have HUp : Hid (upL [] (mD k s) (j + 1) = upL [] (mD k s) j) := upL_in hin
        clear hr3 hin
        go_wp2
        go_roundw
        case rel => exact ⟨j + 1, by omega, by go_num, has3, ofs3, D3, HM3.out, HT3.out, by rw [HUp.out]; exact HO3.out, hwb, HB3.out⟩
        case measure => simp [intOf]; omega
      | true =>
        have HUp : Hid (upL [] (mD k s) (j + 1) = upL [] (mD k s) j ++ [j]) := upL_out (hr3.1 rfl)
        clear hr3
        go_wp2_with (at_builtin; refine wpList_append_own _ rfl _ _ 22 rfl (w1.heap.size + 1) 3 i0 (.int .i64 0) 1 8 Tryz.underlying22 Hi.out Hz0.out Hz1.out Hz2.out rfl (by decide) _ _ _ rfl (HO3.out.alloc _) ⟨w3.heap.size, 0, none⟩ 1 1 [.int .i64 (j : Nat)] rfl rfl (cell_one_new _ _ _) (fun x hx => by simp at hx; subst hx; rfl) (by unfold maxLen; omega) (by omega) (by simp; omega) ?_; intro v5 w5 hown5 hgrow5 hnil5)
        go_roundw
        case rel =>
          have hb5 : Below w3.heap.size w3 (w3.alloc (.cells #[.int .i64 (j : Nat)] 3)) := (Below.refl _ _).alloc (Nat.le_refl _) _
          refine ⟨j + 1, by omega, by go_num, has3, ofs3, D3, (HM3.out.below hb5).of_block (hgrow5.block _ (by simp; omega) fun e => ?_), HT3.out, ?_, hwb, (below_two HB3.out hb5).grown hgrow5 (by have := HB3.out.size; simp; omega) (fun q hq => by have := (HO3.out.lt q hq).1; omega)⟩
          · have := (HO3.out.lt _ e.symm).1; omega
          · rw [HUp.out, List.length_append, iV_snoc]; exact hown5
        case measure => simp [intOf]; omega
    · obtain rfl : j = len := by omega
      go_wp2
      go_ret3
      exact ⟨_, _, rfl, HJ.out⟩
end Go.Proofs.YtjgifjkdgoijmaaGreatDoor
