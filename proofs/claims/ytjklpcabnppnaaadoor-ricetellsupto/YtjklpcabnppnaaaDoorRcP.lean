/-
  Our own contract of rice.put. Lemmas for the laws above; no statement is proved here.
-/
import Derived.Test.YtjklpcabnppnaaaDoorRcV
import Derived.Test.YtjklpcabnppnaaaDoorRcB
import Derived.Deep.AppendLies
import Derived.Laws.MakeOwn
import Derived.Maps.AppendAt
namespace Go.Proofs.YtjklpcabnppnaaaDoor
open Go.RowKit Go.Maps
set_option linter.unusedVariables false
set_option maxRecDepth 100000

set_option maxHeartbeats 2000000 in
theorem put_ok {w : World} {B x low m : Nat} {ad : Option Addr} {cp : Nat} {L : List Int} (hB : B ≤ w.heap.size) (h : w.ownsRow B 3 1 (.slice ad m cp) m (encI L)) (hx : x ≤ 510) (hl : low ≤ 7) (hL : m ≤ 1000000) :
    Calls Tryd.prog 15 #[.slice ad m cp, .int .i64 x, .int .i64 low] w fun e w' => ∃ ad' cp', e = .returned (.slice ad' (m + (x / 2 ^ low + 1 + low)) cp') ∧ w'.ownsRow B 3 1 (.slice ad' (m + (x / 2 ^ low + 1 + low)) cp') (m + (x / 2 ^ low + 1 + low)) (encI (L ++ bitsN low x)) ∧ Below B w w' := by
  obtain ⟨i0, hi0, hz0, hz1, hz2⟩ := info_parts Tryd.infoInt
  have Hi := hide hi0
  have Hz0 := hide hz0
  have Hz1 := hide hz1
  have Hz2 := hide hz2
  have HX := hide h
  have e1 := shr_nat x low
  have e2 := shr_nat' x low
  have hq := Nat.div_le_self x (2 ^ low)
  have HQ : Hid (bitsN low x = (List.replicate (x / 2 ^ low) 1 ++ [0]) ++ lst (lb low x) low) := rfl
  generalize hqq : x / 2 ^ low = q at *
  clear h hi0 hz0 hz1 hz2 hqq
  go_enter Tryd.func15, Tryd.ntmps15
  go_wp2
  go_loopw [0, 11] (fun u i wr => ∃ (j : Nat) (ad : Option Addr) (cp : Nat), j ≤ q ∧ i = .int .i64 j ∧ u = .slice ad (m + j) cp ∧ wr.ownsRow B 3 1 u (m + j) (encI (L ++ List.replicate j 1)) ∧ Below B w wr) (fun _ i _ => q - (intOf i).toNat)
  case atStart => exact ⟨0, ad, cp, Nat.zero_le _, rfl, rfl, by simpa using HX.out, Below.refl _ _⟩
  case round =>
    obtain ⟨j, adr, cpr, hj, rfl, rfl, hY, hb⟩ := hrel
    have HY := hide hY
    have HB := hide hb
    have hsz : B ≤ wr.heap.size := Nat.le_trans hB hb.size
    clear hY hb
    by_cases hlt : j < q
    · go_wp2_with (at_builtin; refine wpList_append_lies _ rfl _ _ 22 rfl B 3 i0 (.int .i64 0) 1 8 Tryd.underlying22 Hi.out Hz0.out Hz1.out Hz2.out rfl (by decide) _ _ _ rfl (HY.out.alloc _) ⟨wr.heap.size, 0, none⟩ 1 1 [.int .i64 1] rfl rfl (cell_one_new _ _ _) (fun x hx => by simp at hx; subst hx; rfl) (by decide) (by unfold maxLen; omega) (by omega) (by simp; omega) _ rfl ?_; intro g3 cap3 w5 hown3 hgrow3 hat3 hlt3)
      go_roundw
      case rel =>
        have hB5 : Below B wr w5 := ((Below.refl B wr).alloc hsz _).grown hgrow3 (by simp; omega) (fun q hq => (HY.out.lt q hq).1)
        have R : j + 1 ≤ q ∧ Value.int .i64 ((j : Int) + 1) = .int .i64 ((j + 1 : Nat) : Int) ∧ Value.slice (some ⟨g3, 0, none⟩) (m + j + 1) cap3 = .slice (some ⟨g3, 0, none⟩) (m + (j + 1)) cap3
            ∧ w5.ownsRow B 3 1 (.slice (some ⟨g3, 0, none⟩) (m + j + 1) cap3) (m + (j + 1)) (encI (L ++ List.replicate (j + 1) 1)) ∧ Below B w w5 :=
          ⟨by omega, by simp, rfl, by rw [List.replicate_succ', ← List.append_assoc, encI_snoc]; exact hown3, HB.out.trans hB5⟩
        first
          | exact ⟨j + 1, some ⟨g3, 0, none⟩, cap3, R⟩
          | ((repeat apply Exists.intro); exact ⟨⟨j + 1, some ⟨g3, 0, none⟩, cap3, R⟩, rfl⟩)
      case measure => simp [intOf]; omega
    · obtain rfl : j = q := by omega
      go_wp2_with (at_builtin; refine wpList_append_lies _ rfl _ _ 22 rfl B 3 i0 (.int .i64 0) 1 8 Tryd.underlying22 Hi.out Hz0.out Hz1.out Hz2.out rfl (by decide) _ _ _ rfl (HY.out.alloc _) ⟨wr.heap.size, 0, none⟩ 1 1 [.int .i64 0] rfl rfl (cell_one_new _ _ _) (fun x hx => by simp at hx; subst hx; rfl) (by decide) (by unfold maxLen; omega) (by omega) (by simp; omega) _ rfl ?_; intro g3 cap3 w5 hown3 hgrow3 hat3 hlt3)
      have hB5 : Below B wr w5 := ((Below.refl B wr).alloc hsz _).grown hgrow3 (by simp; omega) (fun q hq => (HY.out.lt q hq).1)
      have HX5 : Hid (w5.ownsRow B 3 1 (.slice (some ⟨g3, 0, none⟩) (m + j + 1) cap3) (m + j + 1) (encI (L ++ (List.replicate j 1 ++ [0])))) := by
        unfold Hid; rw [← List.append_assoc, encI_snoc]; exact hown3
      have HB5 := hide (HB.out.trans hB5)
      have hsz5 : B ≤ w5.heap.size := Nat.le_trans hsz hB5.size
      clear hown3 hgrow3 hat3 hlt3 hB5 HX HY HB
      go_loopw [0, 21] (fun u i wr => ∃ (k : Nat) (ad : Option Addr) (cp : Nat), k ≤ low ∧ i = .int .i64 k ∧ u = .slice ad (m + j + 1 + k) cp ∧ wr.ownsRow B 3 1 u (m + j + 1 + k) (encI (L ++ ((List.replicate j 1 ++ [0]) ++ lst (lb low x) k))) ∧ Below B w wr) (fun _ i _ => low - (intOf i).toNat)
      case atStart => exact ⟨0, some ⟨g3, 0, none⟩, cap3, Nat.zero_le _, rfl, rfl, by rw [lst_zero, List.append_nil]; exact HX5.out, HB5.out⟩
      case round =>
        obtain ⟨k, adr, cpr, hk, rfl, rfl, hY, hb⟩ := hrel
        have HY := hide hY
        have HB := hide hb
        have hsz : B ≤ wr.heap.size := Nat.le_trans hB hb.size
        clear hY hb
        by_cases hlt : k < low
        · have f1 : ((x : Int) / 2 ^ ((low : Int) - 1 - (k : Int)).toNat) = ((x / 2 ^ (low - 1 - k) : Nat) : Int) := by
            rw [show ((low : Int) - 1 - (k : Int)).toNat = low - 1 - k by omega]; exact shr_nat' _ _
          have f4 := shr_nat' x (low - 1 - k)
          have f2 := i64_and_one (x / 2 ^ (low - 1 - k)) (by have := Nat.div_le_self x (2 ^ (low - 1 - k)); omega)
          have HS := hide (lst_succ (lb low x) k)
          have f3 : lb low x k = ((x / 2 ^ (low - 1 - k) % 2 : Nat) : Int) := rfl
          rw [← f3] at f2
          clear f3
          generalize lb low x k = z at *
          generalize x / 2 ^ (low - 1 - k) = y at *
          go_wp2_with (at_builtin; refine wpList_append_lies _ rfl _ _ 22 rfl B 3 i0 (.int .i64 0) 1 8 Tryd.underlying22 Hi.out Hz0.out Hz1.out Hz2.out rfl (by decide) _ _ _ rfl (HY.out.alloc _) ⟨wr.heap.size, 0, none⟩ 1 1 [.int .i64 z] rfl rfl (cell_one_new _ _ _) (fun x hx => by simp at hx; subst hx; rfl) (by decide) (by unfold maxLen; omega) (by omega) (by simp; omega) _ rfl ?_; intro g6 cap6 w6 hown6 hgrow6 hat6 hlt6)
          go_roundw
          case rel =>
            have hB6 : Below B wr w6 := ((Below.refl B wr).alloc hsz _).grown hgrow6 (by simp; omega) (fun q hq => (HY.out.lt q hq).1)
            have R : k + 1 ≤ low ∧ Value.int .i64 ((k : Int) + 1) = .int .i64 ((k + 1 : Nat) : Int) ∧ Value.slice (some ⟨g6, 0, none⟩) (m + j + 1 + k + 1) cap6 = .slice (some ⟨g6, 0, none⟩) (m + j + 1 + (k + 1)) cap6
                ∧ w6.ownsRow B 3 1 (.slice (some ⟨g6, 0, none⟩) (m + j + 1 + k + 1) cap6) (m + j + 1 + (k + 1)) (encI (L ++ ((List.replicate j 1 ++ [0]) ++ lst (lb low x) (k + 1)))) ∧ Below B w w6 :=
              ⟨by omega, by simp, rfl, by rw [HS.out, ← List.append_assoc, ← List.append_assoc, encI_snoc, List.append_assoc]; exact hown6, HB.out.trans hB6⟩
            first
              | exact ⟨k + 1, some ⟨g6, 0, none⟩, cap6, R⟩
              | ((repeat apply Exists.intro); exact ⟨⟨k + 1, some ⟨g6, 0, none⟩, cap6, R⟩, rfl⟩)
          case measure => simp [intOf]; omega
        · obtain rfl : k = low := by omega
          go_wp2
          go_ret
          have e : m + j + 1 + k = m + (j + 1 + k) := by omega
          rw [e] at HY
          exact ⟨adr, cpr, by show Ending.returned (.slice adr (m + j + 1 + k) cpr) = _; rw [e], by rw [HQ.out]; exact HY.out, HB.out⟩
end Go.Proofs.YtjklpcabnppnaaaDoor
