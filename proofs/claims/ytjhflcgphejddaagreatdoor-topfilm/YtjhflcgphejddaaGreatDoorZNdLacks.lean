/-
  Lemmas for the law above, joined into one text (NdLacks). No statement is proved here.
-/
import Derived.Test.YtjhflcgphejddaaGreatDoorZG38
namespace Go.Proofs.YtjhflcgphejddaaGreatDoor
open Go.RowKit Go.Maps
set_option linter.unusedVariables false
set_option maxRecDepth 100000

theorem lacks_bad {k : Int} {v : Value} {len : Nat} {f : Nat → Int} {w : World} (hv : IntsAt w v len f) (h : fS k len f ≠ 0) :
    Calls Tryz.prog 41 #[.int .i64 k, v] w fun e w' => e = .returned (.tuple #[.slice none 0 0, .iface 61 (.int .i64 (fS k len f))]) ∧ w = w' := by
  have R := hide (ntab_bad hv h)
  obtain ⟨a, cap, rfl, _⟩ := hv.open
  clear hv
  generalize fS k len f = x at *
  go_enter Tryz.func41, Tryz.ntmps41
  go_wp2_with fail
  refine (R.out).mono ?_
  rintro e w1 ⟨rfl, rfl⟩
  go_wp2
  go_ret2
  exact ⟨rfl, rfl⟩
theorem maskL_unit (j : Nat) : maskL [j] = unit j := by simp [maskL, unit]
theorem lst_one (w : World) (j : Nat) : Lst (w.alloc (.cells #[.int .i64 (j : Nat)] 3)) (.slice (some ⟨w.heap.size, 0, none⟩) 1 1) [j] := ⟨_, _, rfl, Nat.le_refl _, by unfold maxLen; simp, fun i hi => by
  obtain rfl : i = 0 := by simpa using hi
  have h9 := cell_one_new w (.int .i64 (j : Nat)) 3 0 _ rfl
  simp only [Addr.add, List.getD_cons_zero] at h9 ⊢
  exact h9⟩
/-- What Lacks has come to, behind the first blocks. -/
def LkInv (w : World) (L : List Nat) (k b j : Nat) (vo : Value) (wr : World) : Prop :=
  ∃ has ofs D, UMap wr b k has ofs D ∧ NTab (L ++ preL unit j) k has ofs ∧ wr.ownsRow (b + 1) 3 1 vo (upL L unit j).length (iV (upL L unit j)) ∧ w.heap.size ≤ b ∧ Below w.heap.size w wr
set_option maxHeartbeats 4000000 in
theorem lacks_ok (k : Nat) (v : Value) (len : Nat) (s : Nat → Nat) (w : World) (hv : IntsAt w v len (fun i => (s i : Int))) (h : len ≤ 60) (hk : 1 ≤ k) (hk2 : k ≤ 16) (hs : ∀ j, j < len → 1 ≤ s j ∧ s j ≤ 10000) :
    Calls Tryz.prog 41 #[.int .i64 k, v] w fun e w' => ∃ vo, e = .returned (.tuple #[vo, .nilIface]) ∧ w'.ownsRow w.heap.size 3 1 vo (upL (preL (mD k s) len) unit k).length (iV (upL (preL (mD k s) len) unit k)) ∧ Below w.heap.size w w' := by
  have R := hide (ntab_ok k v len s w hv h hk hk2 hs)
  obtain ⟨a, cap, rfl, _⟩ := hv.open
  obtain ⟨i0, hi0, hz0, hz1, hz2⟩ := info_parts Tryz.infoInt
  have Hi := hide hi0
  have Hz0 := hide hz0
  have Hz1 := hide hz1
  have Hz2 := hide hz2
  clear hv hs hi0 hz0 hz1 hz2
  go_enter Tryz.func41, Tryz.ntmps41
  go_wp2_with fail
  refine (R.out).mono ?_
  rintro e w1 ⟨b, vo, rfl, hI⟩
  have HI : Hid (LkInv w (preL (mD k s) len) k b 0 (.slice none 0 0) w1) := by
    obtain ⟨has, ofs, D, hM, hT, hO, hwb, hb⟩ := hI
    exact ⟨has, ofs, D, hM, by rw [preL_zero, List.append_nil]; exact hT, World.ownsRow_nil _ _ _ _, hwb, hb⟩
  clear hI R
  generalize hLL : preL (mD k s) len = L at *
  have HLL := hide hLL
  clear hLL
  go_wp2_with fail
  go_loopw [9, 22] (fun vo i wr => ∃ j : Nat, j ≤ k ∧ i = .int .i64 j ∧ LkInv w L k b j vo wr) (fun _ i _ => k - (intOf i).toNat)
  case atStart => exact ⟨0, Nat.zero_le _, rfl, HI.out⟩
  case round =>
    obtain ⟨j, hj, rfl, hI⟩ := hrel
    have HJ := hide hI
    clear hI HI
    by_cases hlt : j < k
    · obtain ⟨has, ofs, D, hM, hT, hO, hwb, hb⟩ := HJ.out
      have HT := hide hT
      have HB := hide hb
      have hb2 : Below wr.heap.size wr (wr.alloc (.cells #[.int .i64 (j : Nat)] 3)) := (Below.refl _ _).alloc (Nat.le_refl _) _
      have RS2 : Hid (Calls Tryz.prog 75 #[.map (some b), .slice (some ⟨wr.heap.size, 0, none⟩) 1 1] (wr.alloc (.cells #[.int .i64 (j : Nat)] 3)) fun e w' => ∃ r : Bool, e = .returned (.bool r) ∧ Raised (wr.alloc (.cells #[.int .i64 (j : Nat)] 3)) (L ++ preL unit j) k b (unit j) r w') := by
        have h9 := raise_ok (L ++ preL unit j) [j] k b _ has ofs D _ hk2 (hM.below hb2) hT (lst_one wr j) (fun p hp => by rw [List.mem_singleton.1 hp]; exact hlt) (by simp)
        rw [maskL_unit] at h9
        exact h9
      have HO2 := hide (ownU hO hb2)
      have HB2 := hide (below_two hb hb2)
      have HUl := hide (upL_le L unit j)
      clear hM hT hO hb hb2
      go_wp2_with fail
      refine (RS2.out).mono ?_
      rintro e w3 ⟨r, rfl, has3, ofs3, D3, hM3, hT3, hr3, hg3⟩
      have HM3 := hide hM3
      have HT3 : Hid (NTab (L ++ preL unit (j + 1)) k has3 ofs3) := by rw [Hid, preL_succ, ← List.append_assoc]; exact hT3
      have HB3 : Hid (Below w.heap.size w w3) := HB2.out.grown hg3 HB2.out.size (fun q hq => by cases hq; exact hwb)
      have HO3 : Hid (w3.ownsRow (b + 1) 3 1 u9 (upL L unit j).length (iV (upL L unit j))) := HO2.out.kept hg3 (by
          cases e : u9.ownBlock with
          | none => exact Or.inl rfl
          | some q => exact Or.inr (fun e2 => by cases e2; have := (HO2.out.lt _ e).1; omega))
      have hw3 := Nat.lt_of_lt_of_le HM3.out.lt (Nat.le_refl _)
      have hul := HUl.out
      clear hM3 hT3 hg3 RS2
      cases r with
      | false =>
        have hin : Sp XN (L ++ preL unit j) (unit j) := Classical.byContradiction fun hc => by have := hr3.2 hc; cases this
        have HUp : Hid (upL L unit (j + 1) = upL L unit j) := upL_in hin
        clear hr3 hin
        go_wp2
        go_roundw
        case rel => exact ⟨j + 1, by omega, by go_num, has3, ofs3, D3, HM3.out, HT3.out, by rw [HUp.out]; exact HO3.out, hwb, HB3.out⟩
        case measure => simp [intOf]; omega
      | true =>
        have HUp : Hid (upL L unit (j + 1) = upL L unit j ++ [j]) := upL_out (hr3.1 rfl)
        clear hr3
        go_wp2_with (at_builtin; refine wpList_append_own _ rfl _ _ 23 rfl (b + 1) 3 i0 (.int .i64 0) 1 8 Tryz.underlying23 Hi.out Hz0.out Hz1.out Hz2.out rfl (by decide) _ _ _ rfl (HO3.out.alloc _) ⟨w3.heap.size, 0, none⟩ 1 1 [.int .i64 (j : Nat)] rfl rfl (cell_one_new _ _ _) (fun x hx => by simp at hx; subst hx; rfl) (by unfold maxLen; omega) (by omega) (by simp; omega) ?_; intro v5 w5 hown5 hgrow5 hnil5)
        go_roundw
        case rel =>
          have hb5 : Below w3.heap.size w3 (w3.alloc (.cells #[.int .i64 (j : Nat)] 3)) := (Below.refl _ _).alloc (Nat.le_refl _) _
          refine ⟨j + 1, by omega, by go_num, has3, ofs3, D3, (HM3.out.below hb5).of_block (hgrow5.block _ (by simp; omega) fun e => ?_), HT3.out, ?_, hwb, (below_two HB3.out hb5).grown hgrow5 (by have := HB3.out.size; simp; omega) (fun q hq => by have := (HO3.out.lt q hq).1; omega)⟩
          · have := (HO3.out.lt _ e.symm).1; omega
          · rw [HUp.out, List.length_append, iV_snoc]; exact hown5
        case measure => simp [intOf]; omega
    · obtain rfl : j = k := by omega
      go_wp2
      go_ret2
      obtain ⟨has, ofs, D, hM, hT, hO, hwb, hb⟩ := HJ.out
      exact ⟨_, rfl, by rw [HLL.out]; exact own_base hO (by omega), hb⟩
end Go.Proofs.YtjhflcgphejddaaGreatDoor
