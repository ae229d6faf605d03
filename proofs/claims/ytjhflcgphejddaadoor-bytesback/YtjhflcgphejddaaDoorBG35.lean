/-
  Lemmas for the law above, joined into one text (RRb, ByN, SInts). No statement is proved here.
-/
import Derived.Test.YtjhflcgphejddaaDoorBG30
import Derived.Test.YtjhflcgphejddaaDoorBG34
import Derived.Test.YtjhflcgphejddaaDoorBG10
import Derived.Test.YtjhflcgphejddaaDoorBG9
import Derived.Deep.DeepCutAuto
import Derived.BigRegion
import Derived.Lib.SliceRun
import Derived.Test.YtjhflcgphejddaaDoorBG29
import Derived.Test.YtjhflcgphejddaaDoorBG0
import Derived.Deep.QuietTactic
import Derived.BigQuiet
namespace Go.Proofs.YtjhflcgphejddaaDoor
open Go.RowKit Go.Maps
set_option linter.unusedVariables false
set_option maxRecDepth 100000

theorem rbytes_any {w : World} {v : Value} {N : Nat} {C : Nat → Cd} (a b st : Int) (h : CodsIn w v N C) :
    Calls Tryd.prog 6 #[.int .i64 a, .int .i64 b, .int .i64 st, v] w fun e w' => e = .returned (.tuple #[.string (bytS a b st N C), .int .i64 (bytF a b st N C : Nat)]) ∧ Below w.heap.size w w' := by
  by_cases hx : seeF a b st N C = 0
  · exact rbytes_ok a b st h hx
  · have e1 : bytF a b st N C = seeF a b st N C := by unfold bytF; rw [if_pos hx]
    have e2 : bytS a b st N C = ByteArray.empty := by unfold bytS; rw [if_neg (by rw [e1]; exact hx)]
    rw [e1, e2]
    exact rbytes_bad a b st h hx

/-- The Reader while its bits are laid: of so many, in a row of its own. -/
structure RRow (w : World) (b B : Nat) (v : Value) (n : Nat) (L : List Int) : Prop where
  c0 : w.cell? ⟨b, 0, none⟩ = some v
  c1 : w.cell? ⟨b, 1, none⟩ = some (.int .i64 0)
  c2 : w.cell? ⟨b, 2, none⟩ = some (.bool false)
  f0 : w.frozen? ⟨b, 0, none⟩ = false
  f1 : w.frozen? ⟨b, 1, none⟩ = false
  f2 : w.frozen? ⟨b, 2, none⟩ = false
  own : w.ownsRow B 3 1 v n (encI L)
  big : b < B
  bw : B ≤ w.heap.size
theorem RRow.below {w w' : World} {b B n : Nat} {v : Value} {L : List Int} (h : RRow w b B v n L) (hb : Below w.heap.size w w') : RRow w' b B v n L := by
  have hlt := cell_lt h.c0
  exact ⟨(hb.cell (p := ⟨b, 0, none⟩) hlt).trans h.c0, (hb.cell (p := ⟨b, 1, none⟩) hlt).trans h.c1, (hb.cell (p := ⟨b, 2, none⟩) hlt).trans h.c2, (hb.frozen (p := ⟨b, 0, none⟩) hlt).trans h.f0, (hb.frozen (p := ⟨b, 1, none⟩) hlt).trans h.f1, (hb.frozen (p := ⟨b, 2, none⟩) hlt).trans h.f2, own_below h.own hb, h.big, Nat.le_trans h.bw hb.size⟩
/-- One more bit, by append, stored into the Reader. -/
theorem RRow.snoc {w w5 : World} {b B n g cap : Nat} {v : Value} {L : List Int} {x : Int} (h : RRow w b B v n L) (hown : w5.ownsRow B 3 1 (.slice (some ⟨g, 0, none⟩) (n + 1) cap) (n + 1) (encI L ++ [.int .i64 x])) (hgrow : w.grownBy w5 v.ownBlock) :
    RRow (w5.setCell ⟨b, 0, none⟩ (.slice (some ⟨g, 0, none⟩) (n + 1) cap)) b B (.slice (some ⟨g, 0, none⟩) (n + 1) cap) (n + 1) (L ++ [x]) := by
  have hlt := cell_lt h.c0
  have hne : v.ownBlock ≠ some b := fun e => by have := (h.own.lt b e).1; have := h.big; omega
  have hg : B ≤ g := (hown.lt g rfl).1
  have hbk : ∀ o, w5.cell? ⟨b, o, none⟩ = w.cell? ⟨b, o, none⟩ := fun o => hgrow.cell_far ⟨b, o, none⟩ hlt (fun e => hne e.symm)
  have hbf : ∀ o, w5.frozen? ⟨b, o, none⟩ = w.frozen? ⟨b, o, none⟩ := fun o => hgrow.frozen_far ⟨b, o, none⟩ hlt (fun e => hne e.symm)
  have hbig := h.big
  refine ⟨World.cell?_setCell_same _ _ _ ((hbk 0).trans h.c0), ?_, ?_, by rw [World.frozen?_setCell, hbf]; exact h.f0, by rw [World.frozen?_setCell, hbf]; exact h.f1, by rw [World.frozen?_setCell, hbf]; exact h.f2, ?_, h.big, by have h1 := hgrow.size; have h2 := h.bw; simp; omega⟩
  · rw [World.cell?_setCell_other _ _ _ _ (fun e => by cases e), hbk]; exact h.c1
  · rw [World.cell?_setCell_other _ _ _ _ (fun e => by cases e), hbk]; exact h.c2
  · rw [encI_snoc]
    refine ⟨hown.1, ?_⟩
    rcases hown.2 with hn | ⟨g', cap', cur, hv, h1, hgg, rest⟩
    · exact .inl hn
    · refine .inr ⟨g', cap', cur, hv, h1, ?_, rest⟩
      rw [Below.heap_setCell _ _ _ _ (by show g' ≠ b; omega)]
      exact hgg

/-- What ReadBytes answers. -/
def RBp (t : ByteArray) (w : World) (e : Ending) (w' : World) : Prop :=
  ((120 < t.size ∧ e = .returned (.tuple #[.int .i64 0, .int .i64 0, .int .i64 0, .slice none 0 0, .int .i64 4])) ∨ (t.size ≤ 120 ∧ NoFilm t ∧ e = .returned (.tuple #[.int .i64 0, .int .i64 0, .int .i64 0, .slice none 0 0, .int .i64 2])) ∨ (t.size ≤ 120 ∧ ∃ a b s N C u, bytF a b s N C = 0 ∧ bytS a b s N C = t ∧ e = .returned (.tuple #[.int .i64 a, .int .i64 b, .int .i64 s, u, .int .i64 0]) ∧ CodsIn w' u N C)) ∧ Below w.heap.size w w'
theorem bit_at (t : ByteArray) {q k : Nat} (hk : k < 8) : bitB t (8 * q + k) = bitU (atB t (4 + q)).toNat k := by
  unfold bitB unO
  rw [show (8 * q + k) / 8 = q by omega, show (8 * q + k) % 8 = k by omega]
theorem pow_half {k : Nat} (hk : k ≤ 7) : 128 / 2 ^ k = 2 ^ (7 - k) := by
  rcases (show k = 0 ∨ k = 1 ∨ k = 2 ∨ k = 3 ∨ k = 4 ∨ k = 5 ∨ k = 6 ∨ k = 7 by omega) with rfl | rfl | rfl | rfl | rfl | rfl | rfl | rfl <;> decide

set_option maxHeartbeats 8000000 in
theorem rread_any {w : World} (t : ByteArray) : Calls Tryd.prog 9 #[.string t] w (RBp t w) := by
  by_cases h120 : 120 < t.size
  · have hi : (120 : Int) < (t.size : Int) := by omega
    have HX := hide h120
    clear h120
    go_enter Tryd.func9, Tryd.ntmps9
    go_wp2
    refine bodyPost_ret (v := .tuple #[.int .i64 0, .int .i64 0, .int .i64 0, .slice none 0 0, .int .i64 4]) (by simp [results, Tryd.results9, go_sem]) rfl ⟨Or.inl ⟨HX.out, rfl⟩, Below.refl _ _⟩
  · by_cases h4 : t.size < 4
    · have HN := hide (none_short h4)
      have HL : Hid (t.size ≤ 120) := by unfold Hid; omega
      have hi : ¬ (120 : Int) < (t.size : Int) := by omega
      have hi4 : (t.size : Int) < 4 := by omega
      clear h120 h4
      go_enter Tryd.func9, Tryd.ntmps9
      go_wp2
      refine bodyPost_ret (v := .tuple #[.int .i64 0, .int .i64 0, .int .i64 0, .slice none 0 0, .int .i64 2]) (by simp [results, Tryd.results9, go_sem]) rfl ⟨Or.inr (Or.inl ⟨HL.out, HN.out, rfl⟩), Below.refl _ _⟩
    · have h3 : 3 < t.size := by omega
      have h2' : 2 < t.size := by omega
      have h1' : 1 < t.size := by omega
      have h0' : 0 < t.size := by omega
      have HL : Hid (t.size ≤ 120) := by unfold Hid; omega
      have hi : ¬ (120 : Int) < (t.size : Int) := by omega
      have hi4 : ¬ (t.size : Int) < 4 := by omega
      have hi3 : (3 : Int) < (t.size : Int) := by omega
      have hT := hide (show 4 ≤ t.size ∧ t.size ≤ 120 by omega)
      obtain ⟨n3, hn3⟩ : ∃ n3, n3 = (atB t 3).toNat := ⟨_, rfl⟩
      have q3 : (t[3]'h3).toNat = n3 := by rw [hn3, atB_eq t 3 h3]
      have hb3 : n3 < 256 := by rw [hn3]; exact (atB t 3).toNat_lt
      have HN3 := hide hn3
      clear h120 h4 hn3
      by_cases h6 : 6 < n3
      · have HN := hide (none_many (t := t) (by rw [← HN3.out]; exact h6))
        go_enter Tryd.func9, Tryd.ntmps9
        go_wp2
        refine bodyPost_ret (v := .tuple #[.int .i64 0, .int .i64 0, .int .i64 0, .slice none 0 0, .int .i64 2]) (by simp [results, Tryd.results9, go_sem]) rfl ⟨Or.inr (Or.inl ⟨HL.out, HN.out, rfl⟩), Below.refl _ _⟩
      · obtain ⟨i0, hi0, hz0, hz1, hz2⟩ := info_parts Tryd.infoInt
        obtain ⟨i1, hi1, hy0, hy1, hy2⟩ := info_parts Tryd.infoCod
        have Hi := hide hi0
        have Hz0 := hide hz0
        have Hz1 := hide hz1
        have Hz2 := hide hz2
        have Hj := hide hi1
        have Hy0 := hide hy0
        have Hy1 := hide hy1
        have Hy2 := hide hy2
        have HR0 : Hid (RRow (w.alloc (.cells #[.slice none 0 0, .int .i64 0, .bool false] 64)) w.heap.size (w.heap.size + 1) (.slice none (8 * 0) 0) (8 * 0) (lst (bitB t) (8 * 0))) := by
          have hh := (MapKept.heap_alloc w (.cells #[.slice none 0 0, .int .i64 0, .bool false] 64)).1
          exact ⟨by simp, by simp, by simp, by simp only [World.frozen?, hh]; simp, by simp only [World.frozen?, hh]; simp, by simp only [World.frozen?, hh]; simp, World.ownsRow_nil _ _ _ _, by omega, by simp⟩
        have HB0 := hide ((Below.refl w.heap.size w).alloc (Nat.le_refl _) (.cells #[.slice none 0 0, .int .i64 0, .bool false] 64))
        clear hi0 hz0 hz1 hz2 hi1 hy0 hy1 hy2
        have h6i : ¬ (6 : Int) < (n3 : Int) := by omega
        go_enter Tryd.func9, Tryd.ntmps9
        go_wp2
        go_loopw [8] (fun i wx => ∃ (q : Nat) (adx : Option Addr) (cpx : Nat), 4 + q ≤ t.size ∧ i = .int .i64 ((4 + q : Nat) : Int) ∧ Hid (RRow wx w.heap.size (w.heap.size + 1) (.slice adx (8 * q) cpx) (8 * q) (lst (bitB t) (8 * q))) ∧ Hid (Below w.heap.size w wx)) (fun i _ => t.size - (intOf i).toNat)
        case atStart => exact ⟨0, none, 0, by omega, rfl, HR0, HB0⟩
        case round =>
          obtain ⟨q, adx, cpx, hq, rfl, HRr, HBr⟩ := hrel
          by_cases hlt : 4 + q < t.size
          · obtain ⟨nq, hnq⟩ : ∃ nq, nq = (atB t (4 + q)).toNat := ⟨_, rfl⟩
            have qq : (t[4 + q]'hlt).toNat = nq := by rw [hnq, atB_eq t _ hlt]
            have hbq : nq < 256 := by rw [hnq]; exact (atB t _).toNat_lt
            have HNQ := hide hnq
            have hq120 := hT.out.2
            clear hnq
            have hli : ((4 + q : Nat) : Int) < (t.size : Int) := by omega
            go_wp2
            obtain ⟨P, hP⟩ : ∃ P : Nat → Nat, P = fun k => 128 / 2 ^ k := ⟨_, rfl⟩
            have HP0 : Hid (P 0 = 128) := by unfold Hid; rw [hP]
            have HP8 : Hid (P 8 = 0) := by unfold Hid; rw [hP]
            have HPs : Hid (∀ k, P (k + 1) = P k / 2) := fun k => by rw [hP]; show 128 / 2 ^ (k + 1) = 128 / 2 ^ k / 2; rw [Nat.pow_succ, Nat.div_div_eq_div_mul]
            have HPp : Hid (∀ k, k < 8 → 1 ≤ P k ∧ P k ≤ 128) := fun k hk => by
              rw [hP]
              show 1 ≤ 128 / 2 ^ k ∧ 128 / 2 ^ k ≤ 128
              rw [pow_half (by omega)]
              exact ⟨Nat.one_le_two_pow, Nat.le_trans (Nat.pow_le_pow_right (by omega) (show 7 - k ≤ 7 by omega)) (by decide)⟩
            have HPb : Hid (∀ k, k < 8 → ((nq / P k % 2 : Nat) : Int) = bitB t (8 * q + k)) := fun k hk => by
              rw [bit_at t hk, ← HNQ.out, hP]
              show ((nq / (128 / 2 ^ k) % 2 : Nat) : Int) = _
              rw [pow_half (by omega)]; rfl
            clear hP
            go_loopw [10] (fun p wx => ∃ (k : Nat) (ad1 : Option Addr) (cp1 : Nat), k ≤ 8 ∧ p = .int .i64 ((P k : Nat) : Int) ∧ Hid (RRow wx w.heap.size (w.heap.size + 1) (.slice ad1 (8 * q + k) cp1) (8 * q + k) (lst (bitB t) (8 * q + k))) ∧ Hid (Below w.heap.size w wx)) (fun p _ => (intOf p).toNat)
            case atStart => exact ⟨0, adx, cpx, by omega, by rw [HP0.out]; rfl, HRr, HBr⟩
            case round =>
              obtain ⟨k, ad1, cp1, hk, rfl, HR1, HB1⟩ := hrel
              clear HRr HBr
              by_cases hk8 : k < 8
              · have hPp := HPp.out k hk8
                have hPb := HPb.out k hk8
                have hPs := HPs.out k
                have HPS := hide hPs
                obtain ⟨z, hz⟩ : ∃ z, z = nq / P k := ⟨_, rfl⟩
                have d1 : ((nq : Nat) : Int).tdiv ((P k : Nat) : Int) = ((z : Nat) : Int) := by rw [Int.tdiv_eq_ediv_of_nonneg (Int.natCast_nonneg _), hz]; simp
                have d2 : ((nq : Nat) : Int) / ((P k : Nat) : Int) = ((z : Nat) : Int) := by rw [hz]; simp
                have d3 : z < 256 := by rw [hz]; exact Nat.lt_of_le_of_lt (Nat.div_le_self _ _) hbq
                rw [← hz] at hPb
                have d4 : ((z : Nat) : Int).tmod 2 = bitB t (8 * q + k) := by rw [Int.tmod_eq_emod_of_nonneg (by omega), ← hPb]; simp
                have hbi := bitB_in t (8 * q + k)
                have d5 : ((z : Nat) : Int) % 2 = bitB t (8 * q + k) := by rw [← hPb]; simp
                have d6 : IntKind.i64.wrap ((z : Nat) : Int) = ((z : Nat) : Int) := by rw [IntKind.wrap_i64]; omega
                clear hz
                have HSn : Hid (lst (bitB t) (8 * q + (k + 1)) = lst (bitB t) (8 * q + k) ++ [bitB t (8 * q + k)]) := lst_succ _ _
                have hPn0 : ¬ ((P k : Nat) : Int) = 0 := by omega
                have hPn1 : ¬ P k = 0 := by omega
                have hqb : q ≤ 116 := by omega
                have HR1f := HR1.out
                have hrow := hide HR1.out
                obtain ⟨a0, a1, a2, g0, g1, g2, _, _, hbw⟩ := HR1f
                clear hPb hPs
                generalize bitB t (8 * q + k) = y at *
                generalize lst (bitB t) (8 * q + k) = L at *
                generalize hL2 : lst (bitB t) (8 * q + (k + 1)) = L2 at *
                have HL2 := hide hL2
                clear hL2
                generalize P k = pk at *
                generalize hpk2 : P (k + 1) = pk2 at *
                have HPK2 := hide hpk2
                clear hpk2
                go_upto_region 12 with fail
                go_cut [] (fun wx => ∃ ad2 cp2, Hid (RRow wx w.heap.size (w.heap.size + 1) (.slice ad2 (8 * q + (k + 1)) cp2) (8 * q + (k + 1)) L2) ∧ Hid (Below w.heap.size w wx))
                case first =>
                  have HD1 : Hid (RRow (wr.alloc (.cells #[.int .i64 y] 3)).drew w.heap.size (w.heap.size + 1) (.slice ad1 (8 * q + k) cp1) (8 * q + k) L) := hrow.out.below ((Below.refl _ wr).alloc (Nat.le_refl _) _).drew
                  have hdw : ∀ o, (wr.alloc o).cell? ⟨w.heap.size, 0, none⟩ = some (.slice ad1 (8 * q + k) cp1) := fun o => cell_below ((Below.refl wr.heap.size wr).alloc (Nat.le_refl _) o) a0
                  have hrb : w.heap.size < wr.heap.size := by omega
                  go_region_law
                    ((refine step_append_lies _ (by rfl) _ _ _ (by rfl) (w.heap.size + 1) 3 i0 (.int .i64 0) 1 8 Tryd.underlying36 Hi.out Hz0.out Hz1.out Hz2.out rfl (by decide) (.slice ad1 (8 * q + k) cp1) (8 * q + k) (encI L) (by rfl) HD1.out.own
                        ⟨wr.heap.size, 0, none⟩ 1 1 [.int .i64 y] (by rfl) (by rfl) (World.news_of_block (cs := #[.int .i64 y]) (t := 3) (fr := (0, 0)) (heap_alloc_new wr _)) (by simp [Value.oneCell'])
                        (by omega) (by unfold maxLen; omega) (by omega) (by simp; omega) (wr.heap.size + 1) (by simp) ?_; intro gg cap w1 hown1 hgrow hat hlt9; have hfz : w1.frozen? ⟨w.heap.size, 0, none⟩ = false := (hgrow.frozen_far ⟨w.heap.size, 0, none⟩ (by simp; omega) (fun e => by have h9 := (HD1.out.own.lt w.heap.size e.symm).1; omega)).trans HD1.out.f0; have hcz : w1.cell? ⟨w.heap.size, 0, none⟩ = some (.slice ad1 (8 * q + k) cp1) := (hgrow.cell_far ⟨w.heap.size, 0, none⟩ (by simp; omega) (fun e => by have h9 := (HD1.out.own.lt w.heap.size e.symm).1; omega)).trans HD1.out.c0))
                  all_goals
                    go_wp2_with fail
                    go_meet
                    have h9 := HD1.out.snoc hown1 hgrow
                    rw [← HSn.out] at h9
                    refine ⟨some ⟨gg, 0, none⟩, cap, h9, ?_⟩
                    have hA : Below w.heap.size w (wr.alloc (.cells #[.int .i64 y] 3)).drew := (below_two HB1.out ((Below.refl _ wr).alloc (Nat.le_refl _) _)).drew
                    exact (hA.trans ((Below.refl w.heap.size _).grown hgrow (by simp; omega) (fun r hr => by have := (HD1.out.own.lt r hr).1; omega))).setCell (Nat.le_refl _) _
                case rest =>
                  obtain ⟨ad2, cp2, HR2, HB2⟩ := hcut
                  clear a0 a1 a2 g0 g1 g2 hrow
                  have e1 : ((pk : Nat) : Int).tdiv 2 = ((pk2 : Nat) : Int) := by rw [Int.tdiv_eq_ediv_of_nonneg (by omega), HPS.out]; simp
                  have e2 : ((pk : Nat) : Int) / 2 = ((pk2 : Nat) : Int) := by rw [HPS.out]; simp
                  have e3 : IntKind.i64.wrap ((pk2 : Nat) : Int) = ((pk2 : Nat) : Int) := by have := HPS.out; rw [IntKind.wrap_i64]; omega
                  go_wp2
                  go_roundw
                  case rel =>
                    have hpq := HPS.out
                    first
                      | exact ⟨k + 1, ad2, cp2, by omega, by rw [HPK2.out], by rw [HL2.out]; exact HR2, HB2⟩
                      | (refine ⟨_, ⟨k + 1, ad2, cp2, by omega, by rw [HPK2.out], by rw [HL2.out]; exact HR2, HB2⟩, rfl⟩)
                  case measure => have hpq := HPS.out; simp [intOf]; omega
              · obtain rfl : k = 8 := by omega
                have hP8 := HP8.out
                rw [hP8]
                go_wp2
                go_roundw
                case rel =>
                  first
                    | exact ⟨q + 1, ad1, cp1, by omega, by go_num, HR1, HB1⟩
                    | (refine ⟨_, ⟨q + 1, ad1, cp1, by omega, by go_num, HR1, HB1⟩, rfl⟩)
                case measure => simp [intOf]; omega
          · have hqe : q = t.size - 4 := by omega
            have HQ := hide hqe
            obtain ⟨m, hm⟩ : ∃ m, m = 8 * q := ⟨_, rfl⟩
            have hm2 : m ≤ 2000 := by omega
            have HM : Hid (m = 8 * (t.size - 4)) := by unfold Hid; rw [hm, hqe]
            rw [← hm] at HRr
            have hrow := HRr.out
            have HI0 : Hid (IntsIn wr (.slice adx m cpx) m (bitB t)) := by
              have h9 := rowV_in hrow.own (by rw [lst_len])
              exact h9.congr (fun k hk => lst_get hk)
            have hne0 : ∀ k, (Value.slice adx m cpx).ownBlock = some k → k ≠ w.heap.size := fun k e => by have := (hrow.own.lt k e).1; omega
            have hlt0 : ∀ k, (Value.slice adx m cpx).ownBlock = some k → k < wr.heap.size := fun k e => (hrow.own.lt k e).2
            have HNE := hide hne0
            have HLT := hide hlt0
            have HD0 : Hid (RdAt wr w.heap.size (.slice adx m cpx) 0 false) := ⟨hrow.c0, hrow.c1, hrow.c2, hrow.f1, hrow.f2⟩
            have HRB : Hid (w.heap.size < wr.heap.size) := by have := hrow.bw; unfold Hid; omega
            have Hbits : Hid (∀ i, i < m → bitB t i = 0 ∨ bitB t i = 1) := fun i _ => bitB_in t i
            obtain ⟨n0, hn0⟩ : ∃ n0, n0 = (atB t 0).toNat := ⟨_, rfl⟩
            obtain ⟨n1, hn1⟩ : ∃ n1, n1 = (atB t 1).toNat := ⟨_, rfl⟩
            obtain ⟨n2, hn2⟩ : ∃ n2, n2 = (atB t 2).toNat := ⟨_, rfl⟩
            have r0 : (t[0]'h0').toNat = n0 := by rw [hn0, atB_eq t _ h0']
            have r1 : (t[1]'h1').toNat = n1 := by rw [hn1, atB_eq t _ h1']
            have r2 : (t[2]'h2').toNat = n2 := by rw [hn2, atB_eq t _ h2']
            have rb0 : n0 < 256 := by rw [hn0]; exact (atB t _).toNat_lt
            have rb1 : n1 < 256 := by rw [hn1]; exact (atB t _).toNat_lt
            have rb2 : n2 < 256 := by rw [hn2]; exact (atB t _).toNat_lt
            have HN0 := hide hn0
            have HN1 := hide hn1
            have HN2 := hide hn2
            have l1i : (1 : Int) < (t.size : Int) := by omega
            have l2i : (2 : Int) < (t.size : Int) := by omega
            have l0i : (0 : Int) < (t.size : Int) := by omega
            clear hqe hm hrow hne0 hlt0 hn0 hn1 hn2 HRr hq
            by_cases h66 : 6 < n0 ∨ 6 < n1
            · have HN := hide (none_side (t := t) (by rw [← HN0.out, ← HN1.out]; exact h66))
              rcases (show 6 < n0 ∨ (n0 ≤ 6 ∧ 6 < n1) by omega) with h7 | ⟨h7, h8⟩
              · clear h66
                go_wp2_with fail
                go_quiet (fail)
                go_wp2
                refine bodyPost_ret (v := .tuple #[.int .i64 0, .int .i64 0, .int .i64 0, .slice none 0 0, .int .i64 2]) (by simp [results, Tryd.results9, go_sem]) rfl ⟨Or.inr (Or.inl ⟨HL.out, HN.out, rfl⟩), ?_⟩
                exact below_drewN HBr.out _
              · clear h66
                go_wp2_with fail
                go_quiet (fail)
                go_wp2
                refine bodyPost_ret (v := .tuple #[.int .i64 0, .int .i64 0, .int .i64 0, .slice none 0 0, .int .i64 2]) (by simp [results, Tryd.results9, go_sem]) rfl ⟨Or.inr (Or.inl ⟨HL.out, HN.out, rfl⟩), ?_⟩
                exact below_drewN HBr.out _
            · have hw6 : n0 ≤ 6 := by omega
              have hh6 : n1 ≤ 6 := by omega
              clear h66
              go_wp2_with fail
              go_quiet (fail)
              generalize hW1 : wr.drewN _ = w1 at *
              have HI1 : Hid (IntsIn w1 (.slice adx m cpx) m (bitB t)) := hW1 ▸ HI0.out.below (below_drewN (Below.refl _ _) _)
              have HD1 : Hid (RdAt w1 w.heap.size (.slice adx m cpx) 0 false) := hW1 ▸ HD0.out.below_ (below_drewN (Below.refl _ _) _)
              have HLT1 : Hid (∀ k, (Value.slice adx m cpx).ownBlock = some k → k < w1.heap.size) := hW1 ▸ HLT.out
              have HRB1 : Hid (w.heap.size < w1.heap.size) := hW1 ▸ HRB.out
              have HB1 : Hid (Below w.heap.size w w1) := hW1 ▸ below_drewN HBr.out _
              clear hW1 HI0 HD0 HLT HRB HBr
              obtain ⟨K, hK⟩ : ∃ K, K = n0 * n1 := ⟨_, rfl⟩
              have hK36 : K ≤ 36 := by have := Nat.mul_le_mul hw6 hh6; omega
              have hKi : ((n0 : Nat) : Int) * ((n1 : Nat) : Int) = ((K : Nat) : Int) := by rw [hK]; simp
              have HK := hide hK
              clear hK
              generalize hsv : Value.slice adx m cpx = sv at *
              clear hsv
              have HDc : Hid (CodR w1 w1.heap.size (.slice none 0 0) 0 (fun _ => ⟨false, 0, 0, 0, fun _ => 0⟩)) := ⟨fun _ => .slice none 0 0, rowS_nil _ _ _ _ _ _ _ _⟩
              go_wp2
              generalize hrb : w.heap.size = rb at *
              have HRBe := hide hrb
              go_loopw [14, 15] (fun u i wx => ∃ (j : Nat) (adl : Option Addr) (cpl a : Nat) (bd : Bool) (D : Nat → Cd), j ≤ n3 ∧ i = .int .i64 ((j : Nat) : Int) ∧ u = .slice adl j cpl ∧ a ≤ m ∧ Hid (CodR wx w1.heap.size u j D) ∧ Hid (RdAt wx rb sv a bd) ∧ Hid (IntsIn wx sv m (bitB t)) ∧ Hid (RSt t m K n3 j a bd D) ∧ Hid (w1.heap.size ≤ wx.heap.size) ∧ Hid (Below rb w wx)) (fun _ i _ => n3 - (intOf i).toNat)
              case atStart => exact ⟨0, none, 0, 0, false, _, Nat.zero_le _, rfl, rfl, Nat.zero_le _, HDc, HD1, HI1, RSt.start _ _ _ _ _, Nat.le_refl _, HB1⟩
              case round =>
                obtain ⟨j, adl, cpl, a, bd, D, hj, rfl, rfl, ha, HCr, HRd, HIr, HSr, HZr, HBr⟩ := hrel
                clear HDc HD1 HI1
                by_cases hlt : j < n3
                · have KB := hide (rbit_two HIr.out HNE.out HRd.out ha hm2)
                  go_wp2_with fail
                  refine (KB.out).mono ?_
                  rintro e w2 ⟨z, a1, bd1, rfl, hr2, hk2, h3'⟩
                  have hz : z = 0 ∨ z = 1 := by
                    rcases h3' with ⟨_, rfl, _⟩ | ⟨_, rfl, _⟩
                    · exact bitB_in t a
                    · exact Or.inl rfl
                  have ha1 : a1 ≤ m := by rcases h3' with ⟨h, _, h5, _⟩ | ⟨_, _, h5, _⟩ <;> omega
                  have HC2 := hide (HCr.out.kept HRB1.out hk2)
                  have HI2 := hide (ints_kept HIr.out HNE.out hk2)
                  have HB2 : Hid (Below rb w w2) := HBr.out.trans (hk2.to_below (Nat.le_trans (Nat.le_of_lt HRB1.out) HZr.out) (fun i hi => by omega))
                  have HZ2 : Hid (w1.heap.size ≤ w2.heap.size) := Nat.le_trans HZr.out hk2.size
                  have HR2 := hide hr2
                  have H3 := hide h3'
                  have HHz := hide hz
                  obtain ⟨al, hal⟩ : ∃ al, (z == 1) = al := ⟨_, rfl⟩
                  obtain ⟨w3, hw3⟩ : ∃ w3, w3 = w2.alloc (.cells #[.bool al, .int .i64 0, .int .i64 0, .slice none 0 0] 40) := ⟨_, rfl⟩
                  have b23 : Below w2.heap.size w2 w3 := hw3 ▸ (Below.refl _ _).alloc (Nat.le_refl _) _
                  have HC3 : Hid (CodIn w3 w2.heap.size al 0 0 (.slice none 0 0)) := hw3 ▸ codIn_new w2 al 0 0 (.slice none 0 0)
                  have HR3 := hide (hr2.below_ b23)
                  have HI3 := hide (HI2.out.below b23)
                  have HK3 : Hid (Kept (fun i => i = rb) w2 w3) := (Kept.refl _ w2).below b23
                  have HAL := hide hal
                  have hcb : rb < w2.heap.size := by have := HRB1.out; have := HZ2.out; omega
                  have HW3 := hide hw3
                  clear hr2 hk2 h3' hz HCr HIr HRd HZr HBr KB b23 hw3
                  go_upto_if 89 with fail
                  rw [← HW3.out]
                  clear HW3
                  generalize hcbe : w2.heap.size = cb at *
                  have HCBe := hide hcbe
                  clear hcbe
                  go_cut [] (fun wx => ∃ (x y : Int) (a2 : Nat) (bd2 : Bool), a2 ≤ m ∧ Hid (CodIn wx cb al x y (.slice none 0 0)) ∧ Hid (RdAt wx rb sv a2 bd2) ∧ Hid (HSt t m a bd al x y a2 bd2) ∧ Hid (Kept (fun i => i = rb) w2 wx))
                  case first =>
                    cases al with
                    | true =>
                      go_wp2_with fail
                      go_meet
                      have hz1 : z = 1 := by have := HAL.out; simpa using this
                      rcases H3.out with ⟨q1, q2, rfl, rfl⟩ | ⟨_, q2, _⟩
                      · exact ⟨0, 0, a + 1, bd1, ha1, HC3, HR3, HSt.alone q1 (by rw [← q2, hz1]), HK3⟩
                      · rw [hz1] at q2; cases q2
                    | false =>
                      have hz0 : z = 0 := by
                        rcases HHz.out with h | h
                        · exact h
                        · have := HAL.out; rw [h] at this; cases this
                      have H0 : Hid ((a < m ∧ bitB t a = 0 ∧ a1 = a + 1 ∧ bd1 = bd) ∨ (a = m ∧ a1 = m ∧ bd1 = true)) := by
                        rcases H3.out with ⟨q1, q2, q3, q4⟩ | ⟨q1, q2, q3, q4⟩
                        · exact Or.inl ⟨q1, by rw [← q2]; exact hz0, q3, q4⟩
                        · exact Or.inr ⟨q1, q3, q4⟩
                      have KM := hide (rmany_two HI3.out HNE.out HR3.out ha1 hm2 Hbits.out)
                      clear hz0 H3 HHz HAL
                      go_wp2_with fail
                      refine (KM.out).mono ?_
                      rintro e w4 ⟨z1, a2, bd2, rfl, hr4, hk4, ha2, ⟨hz1a, hz1b⟩, hi1, hi2⟩
                      have hC4 := HC3.out.kept (by omega) hk4
                      have hI4 := ints_kept HI3.out HNE.out hk4
                      have HK4 := hide (HK3.out.trans_ hk4)
                      have hsvcb : ∀ k, sv.ownBlock = some k → k ≠ cb := fun k e => by have := HLT1.out k e; have := HZ2.out; omega
                      obtain ⟨W5, hW5⟩ : ∃ W5, W5 = w4.setCell ⟨cb, 1, none⟩ (.int .i64 (z1 - 1)) := ⟨_, rfl⟩
                      have HC5 : Hid (CodIn W5 cb false (z1 - 1) 0 (.slice none 0 0)) := hW5 ▸ hC4.setX (z1 - 1)
                      have hR5 : RdAt W5 rb sv a2 bd2 := hW5 ▸ hr4.other (by omega) (.int .i64 (z1 - 1))
                      have hI5 : IntsIn W5 sv m (bitB t) := hW5 ▸ ints_set (o := 1) hI4 hsvcb (.int .i64 (z1 - 1))
                      have HK5 : Hid (Kept (fun i => i = rb) w2 W5) := hW5 ▸ HK4.out.setCell _ _ (Or.inr (by show w2.heap.size ≤ cb; rw [HCBe.out]; exact Nat.le_refl _))
                      have KM2 := hide (rmany_two hI5 HNE.out hR5 ha2 hm2 Hbits.out)
                      have HJ := hide (And.intro hi1 hi2)
                      have HSV := hide hsvcb
                      have x1 : IntKind.i64.wrap (z1 - 1) = z1 - 1 := by rw [IntKind.wrap_i64]; omega
                      obtain ⟨_, k1, _, _, _, g1, _, _⟩ := hC4
                      have HW5 := hide hW5
                      clear hr4 hk4 hI4 hR5 hI5 hi1 hi2 hsvcb KM hW5
                      go_upto_region 24 with fail
                      rw [← HW5.out]
                      clear HW5 k1 g1
                      go_wp2_with fail
                      refine (KM2.out).mono ?_
                      rintro e w6 ⟨z2, a3, bd3, rfl, hr6, hk6, ha3, ⟨hz2a, hz2b⟩, hj1, hj2⟩
                      have hC6 := HC5.out.kept (by omega) hk6
                      have HK6 := hide (HK5.out.trans_ hk6)
                      have HC7 := hide (hC6.setY (z2 - 1))
                      have HR7 := hide (hr6.other (b2 := cb) (o := 2) (by omega) (.int .i64 (z2 - 1)))
                      have HK7 : Hid (Kept (fun i => i = rb) w2 (w6.setCell ⟨cb, 2, none⟩ (.int .i64 (z2 - 1)))) := HK6.out.setCell _ _ (Or.inr (by show w2.heap.size ≤ cb; rw [HCBe.out]; exact Nat.le_refl _))
                      have HH := hide (HSt.moved H0.out HJ.out.1 HJ.out.2 hj1 hj2)
                      have x2 : IntKind.i64.wrap (z2 - 1) = z2 - 1 := by rw [IntKind.wrap_i64]; omega
                      obtain ⟨_, _, k2, _, _, _, g2, _⟩ := hC6
                      clear hr6 hk6 hj1 hj2 KM2 HC5 HK5
                      go_wp2_with fail
                      go_meet
                      exact ⟨z1 - 1, z2 - 1, a3, bd3, ha3, HC7, HR7, HH, HK7⟩
                  case rest =>
                    obtain ⟨x, y, a2, bd2, ha2, HC4, HR4, HHS, HK4⟩ := hcut
                    clear HC3 HR3 HI3 HK3 H3 HHz HAL ha1 HR2
                    have hcw : cb < wc.heap.size := HC4.out.lt
                    have HO0 : Hid (wc.ownsRow wc.heap.size 3 1 (.slice none 0 0) 0 (encI [])) := World.ownsRow_nil _ _ _ _
                    have H2w : Hid (w2.heap.size ≤ wc.heap.size) := HK4.out.size
                    have hKw : IntKind.i64.wrap ((K : Nat) : Int) = ((K : Nat) : Int) := by rw [IntKind.wrap_i64]; omega
                    go_wp2
                    generalize hB4 : wc.heap.size = B4 at *
                    have HB4e := hide hB4
                    clear hB4
                    go_loopw [17] (fun kk wx => ∃ (r : Nat) (xs : List Int) (adv : Option Addr) (cpv a3 : Nat) (bd3 : Bool), r ≤ K ∧ kk = .int .i64 ((r : Nat) : Int) ∧ a3 ≤ m ∧ Hid (xs.length = r) ∧ Hid (CodIn wx cb al x y (.slice adv r cpv)) ∧ Hid (wx.ownsRow B4 3 1 (.slice adv r cpv) r (encI xs)) ∧ Hid (RdAt wx rb sv a3 bd3) ∧ Hid (NSt t m K a2 bd2 r xs a3 bd3) ∧ Hid (Kept (fun i => i = rb) w2 wx) ∧ Hid (B4 ≤ wx.heap.size)) (fun kk _ => K - (intOf kk).toNat)
                    case atStart => exact ⟨0, [], none, 0, a2, bd2, Nat.zero_le _, rfl, ha2, rfl, HC4, HO0, HR4, NSt.start _ _ _ _ _, HK4, by unfold Hid; rw [HB4e.out]; exact Nat.le_refl _⟩
                    case round =>
                      obtain ⟨r, xs, adv, cpv, a3, bd3, hr, rfl, ha3, HXl, HCx, HOx, HRx, HNx, HKx, HZx⟩ := hrel
                      clear HC4 HO0 HR4 HK4
                      by_cases hrK : r < K
                      · have KN := hide (rnum_two (low := 2) (ints_kept HI2.out HNE.out HKx.out) HNE.out HRx.out ha3 hm2 (by omega) Hbits.out)
                        have hzx := HZx.out
                        go_wp2_with fail
                        refine (KN.out).mono ?_
                        rintro e w5 ⟨z5, a4, bd4, rfl, hr5, hk5, ha4, ⟨hz5a, hz5b⟩, hn1', hn2'⟩
                        have HC5 := hide (HCx.out.kept (by omega) hk5)
                        have HO5 := hide (own_kept HOx.out (by omega) hk5)
                        have HK5 := hide (HKx.out.trans_ hk5)
                        have HN5 := hide (HNx.out.step hrK hn1' hn2')
                        have HR5 := hide hr5
                        have hz5 := hk5.size
                        obtain ⟨_, _, _, k3, _, _, _, g3'⟩ := HC5.out
                        have HLe : Hid (encI (xs ++ [z5]) = encI xs ++ [.int .i64 z5]) := encI_snoc _ _
                        clear hr5 hk5 hn1' hn2' KN
                        go_wp2_with (at_builtin; refine wpList_append_lies _ rfl _ _ 36 rfl B4 3 i0 (.int .i64 0) 1 8 Tryd.underlying36 Hi.out Hz0.out Hz1.out Hz2.out rfl (by decide) _ _ _ rfl (HO5.out.alloc _) ⟨w5.heap.size, 0, none⟩ 1 1 [.int .i64 z5] rfl rfl (cell_one_new _ _ _) (fun x hx => by simp at hx; subst hx; rfl) (by decide) (by unfold maxLen; omega) (by omega) (by simp; omega) _ rfl ?_; intro g6 cap6 w6 hown6 hgrow6 hat6 hlt6; have hB6 : Below B4 w5 w6 := ((Below.refl B4 w5).alloc (by omega) _).grown hgrow6 (by simp; omega) (fun q hq => (HO5.out.lt q hq).1); have hC6 := HC5.out.mono hB6 (by omega); have hcz := hC6.c3; have hfz := hC6.g3)
                        go_roundw
                        case rel =>
                          have hC7 := hC6.setRest (.slice (some ⟨g6, 0, none⟩) (r + 1) cap6)
                          have hR7 := (HR5.out.below (B := B4) (by omega) hB6).other (b2 := cb) (o := 3) (by omega) (.slice (some ⟨g6, 0, none⟩) (r + 1) cap6)
                          have hO7 : (w6.setCell ⟨cb, 3, none⟩ (.slice (some ⟨g6, 0, none⟩) (r + 1) cap6)).ownsRow B4 3 1 (.slice (some ⟨g6, 0, none⟩) (r + 1) cap6) (r + 1) (encI (xs ++ [z5])) := by
                            rw [HLe.out]; exact own_set hown6 (by omega) _ _
                          have hK7 : Kept (fun i => i = rb) w2 (w6.setCell ⟨cb, 3, none⟩ (.slice (some ⟨g6, 0, none⟩) (r + 1) cap6)) :=
                            ((HK5.out.below ((Below.refl w5.heap.size w5).alloc (Nat.le_refl _) _)).grown hgrow6 (fun i hi => Or.inr (by have := (HO5.out.lt i hi).1; have := H2w.out; omega))).setCell _ _ (Or.inr (by show w2.heap.size ≤ cb; rw [HCBe.out]; exact Nat.le_refl _))
                          have hZ7 : B4 ≤ (w6.setCell ⟨cb, 3, none⟩ (.slice (some ⟨g6, 0, none⟩) (r + 1) cap6)).heap.size := by have := hB6.size; simp; omega
                          have R : r + 1 ≤ K ∧ Value.int .i64 ((r : Int) + 1) = .int .i64 ((r + 1 : Nat) : Int) ∧ a4 ≤ m ∧ Hid ((xs ++ [z5]).length = r + 1) ∧ Hid (CodIn (w6.setCell ⟨cb, 3, none⟩ (.slice (some ⟨g6, 0, none⟩) (r + 1) cap6)) cb al x y (.slice (some ⟨g6, 0, none⟩) (r + 1) cap6)) ∧ Hid ((w6.setCell ⟨cb, 3, none⟩ (.slice (some ⟨g6, 0, none⟩) (r + 1) cap6)).ownsRow B4 3 1 (.slice (some ⟨g6, 0, none⟩) (r + 1) cap6) (r + 1) (encI (xs ++ [z5]))) ∧ Hid (RdAt (w6.setCell ⟨cb, 3, none⟩ (.slice (some ⟨g6, 0, none⟩) (r + 1) cap6)) rb sv a4 bd4) ∧ Hid (NSt t m K a2 bd2 (r + 1) (xs ++ [z5]) a4 bd4) ∧ Hid (Kept (fun i => i = rb) w2 (w6.setCell ⟨cb, 3, none⟩ (.slice (some ⟨g6, 0, none⟩) (r + 1) cap6))) ∧ Hid (B4 ≤ (w6.setCell ⟨cb, 3, none⟩ (.slice (some ⟨g6, 0, none⟩) (r + 1) cap6)).heap.size) :=
                            ⟨by omega, by simp, ha4, by unfold Hid; rw [List.length_append, HXl.out]; rfl, hC7, hO7, hR7, HN5, hK7, hZ7⟩
                          first
                            | exact ⟨r + 1, xs ++ [z5], some ⟨g6, 0, none⟩, cap6, a4, bd4, R⟩
                            | ((repeat apply Exists.intro); exact ⟨⟨r + 1, xs ++ [z5], some ⟨g6, 0, none⟩, cap6, a4, bd4, R⟩, rfl⟩)
                        case measure => simp [intOf]; omega
                      · obtain rfl : r = K := by omega
                        have HCj := hide (HC2.out.kept HRB1.out HKx.out)
                        have HOB : Hid (∀ k, (Value.slice adl j cpl).ownBlock = some k → k < w2.heap.size) := fun k e => by obtain ⟨S, hS⟩ := HC2.out; exact (hS.own.lt k e).2
                        have HDc := hide (HCj.out.congr (D := fun q => if q = j then ⟨al, x, y, r, fun k => xs.getD k 0⟩ else D q) (fun i hi => (if_neg (by omega)).symm))
                        obtain ⟨S, hS⟩ := HDc.out
                        have HSx := hide hS
                        have HIv : Hid (IntsIn wr (.slice adv r cpv) r (fun k => xs.getD k 0)) := rowV_in HOx.out HXl.out.symm
                        have HOv : Hid (∀ k, (Value.slice adv r cpv).ownBlock = some k → B4 ≤ k) := fun k e => (HOx.out.lt k e).1
                        have HIs := hide (ints_kept HI2.out HNE.out HKx.out)
                        have hzx := HZx.out
                        have h2w := H2w.out
                        have h12 := HZ2.out
                        have HSt' := hide (HSr.out.step hlt HHS.out HNx.out)
                        have HBx : Hid (Below rb w wr) := HB2.out.trans (HKx.out.to_below (by have := HCBe.out; omega) (fun i hi => by omega))
                        obtain ⟨k0, k1, k2, k3, _, _, _, _⟩ := HCx.out
                        clear hS
                        go_wp2_with (at_builtin; refine wpList_append_lies _ rfl _ _ 22 rfl w1.heap.size 40 i1 (.agg #[.bool false, .int .i64 0, .int .i64 0, .slice none 0 0]) 4 48 Tryd.underlying22 Hj.out Hy0.out Hy1.out Hy2.out rfl (by decide) _ _ _ rfl (HSx.out.own.alloc _) ⟨wr.heap.size, 0, none⟩ 1 1 [.bool al, .int .i64 x, .int .i64 y, .slice adv r cpv] rfl rfl (World.news_of_block (cs := #[.bool al, .int .i64 x, .int .i64 y, .slice adv r cpv]) (t := 40) (fr := (0, 0)) (heap_alloc_new wr _)) (fun x hx => by simp at hx; rcases hx with rfl | rfl | rfl | rfl <;> rfl) (by decide) (by unfold maxLen; omega) (by omega) (by simp; omega) _ rfl ?_; intro g3 cap3 w5 hown3 hgrow3 hat3 hlt3)
                        go_roundw
                        case rel =>
                          have hB5 : Below w1.heap.size wr w5 := ((Below.refl w1.heap.size wr).alloc (by omega) _).grown hgrow3 (by simp; omega) (fun q hq => (HSx.out.own.lt q hq).1)
                          have hCR : CodR w5 w1.heap.size (.slice (some ⟨g3, 0, none⟩) (j + 1) cap3) (j + 1) (fun q => if q = j then ⟨al, x, y, r, fun k => xs.getD k 0⟩ else D q) := by
                            refine CodR.snoc (s := .slice adv r cpv) HSx.out ?_ hgrow3 hat3 ?_ (fun k e => ?_) (fun k e e2 => ?_)
                            · simp only [if_true]; exact hown3
                            · simp only [if_true]; exact HIv.out
                            · have := HOv.out k e; omega
                            · have h1 := HOv.out k e; have h2 := HOB.out k e2; omega
                          have hR5 := HRx.out.below (B := w1.heap.size) HRB1.out hB5
                          have hI5 := ints_mono HIs.out hB5 HLT1.out
                          have hZ5 : w1.heap.size ≤ w5.heap.size := by have := hB5.size; omega
                          have hBB : Below rb w w5 := HBx.out.trans (hB5.mono (Nat.le_of_lt HRB1.out))
                          first
                            | exact ⟨j + 1, some ⟨g3, 0, none⟩, cap3, a3, bd3, _, by omega, by go_num, rfl, ha3, hCR, hR5, hI5, HSt'.out, hZ5, hBB⟩
                            | ((repeat apply Exists.intro); exact ⟨⟨j + 1, some ⟨g3, 0, none⟩, cap3, a3, bd3, _, by omega, by go_num, rfl, ha3, hCR, hR5, hI5, HSt'.out, hZ5, hBB⟩, rfl⟩)
                        case measure => simp [intOf]; omega
                · obtain rfl : j = n3 := by omega
                  have KF := hide (rbytes_any ((n0 : Nat) : Int) ((n1 : Nat) : Int) ((n2 : Nat) : Int) HCr.out.cods)
                  have HZ : Hid (bd = true → NoFilm t) := fun hb => by
                    have h9 := HSr.out.2 hb
                    rw [HM.out, HK.out, HN0.out, HN1.out, HN3.out] at h9
                    exact none_read h9
                  have HF : Hid (bd = false → NoFilm t ∨ (bytF ((n0 : Nat) : Int) ((n1 : Nat) : Int) ((n2 : Nat) : Int) j D = 0 ∧ bytS ((n0 : Nat) : Int) ((n1 : Nat) : Int) ((n2 : Nat) : Int) j D = t)) := fun hb => by
                    obtain ⟨l, e1, e2⟩ := HSr.out.1 hb
                    rw [HM.out, HK.out, HN0.out, HN1.out, HN3.out] at e1
                    rw [HN3.out] at e2
                    rw [HN0.out, HN1.out, HN2.out, HN3.out]
                    exact some_read e1 e2
                  have HCd := hide HCr.out.cods
                  clear HSr
                  go_wp2_with fail
                  refine (KF.out).mono ?_
                  rintro e w7 ⟨rfl, hb7⟩
                  have HB7 : Hid (Below rb w w7) := HBr.out.trans (hb7.mono (by have := HRB1.out; have := HZr.out; omega))
                  obtain ⟨_, _, k2, _, _⟩ := HRd.out.below_ hb7
                  have HC7 := hide (HCd.out.below hb7)
                  clear hb7 KF HCd HCr HRd HIr
                  cases bd with
                  | true =>
                    have HN := hide (HZ.out rfl)
                    clear HZ HF
                    go_wp2
                    refine bodyPost_ret (v := .tuple #[.int .i64 0, .int .i64 0, .int .i64 0, .slice none 0 0, .int .i64 2]) (by simp [results, Tryd.results9, go_sem]) rfl ⟨Or.inr (Or.inl ⟨HL.out, HN.out, rfl⟩), by rw [HRBe.out]; exact HB7.out⟩
                  | false =>
                    have hF := HF.out rfl
                    clear HZ HF
                    have HG : Hid (bytF ((n0 : Nat) : Int) ((n1 : Nat) : Int) ((n2 : Nat) : Int) j D = bytF ((n0 : Nat) : Int) ((n1 : Nat) : Int) ((n2 : Nat) : Int) j D ∧ bytS ((n0 : Nat) : Int) ((n1 : Nat) : Int) ((n2 : Nat) : Int) j D = bytS ((n0 : Nat) : Int) ((n1 : Nat) : Int) ((n2 : Nat) : Int) j D) := ⟨rfl, rfl⟩
                    have hFF : ∃ F, F = bytF ((n0 : Nat) : Int) ((n1 : Nat) : Int) ((n2 : Nat) : Int) j D := ⟨_, rfl⟩
                    have hTT : ∃ T, T = bytS ((n0 : Nat) : Int) ((n1 : Nat) : Int) ((n2 : Nat) : Int) j D := ⟨_, rfl⟩
                    obtain ⟨F, hFe⟩ := hFF
                    obtain ⟨T, hTe⟩ := hTT
                    rw [← hFe, ← hTe] at hF
                    rw [← hFe, ← hTe]
                    have HFe := hide hFe
                    have HTe := hide hTe
                    clear hFe hTe HG
                    by_cases hF0 : F = 0
                    · subst hF0
                      by_cases hTt : T = t
                      · subst hTt
                        have hq1 : (T.toList == T.toList) = true := beq_self_eq_true _
                        have hq2 : (T.toList != T.toList) = false := bne_self_eq_false _
                        have HLs := HL
                        go_wp2
                        refine bodyPost_ret (v := .tuple #[.int .i64 ((n0 : Nat) : Int), .int .i64 ((n1 : Nat) : Int), .int .i64 ((n2 : Nat) : Int), .slice adl j cpl, .int .i64 0]) (by simp [results, Tryd.results9, go_sem]) rfl ⟨Or.inr (Or.inr ⟨HLs.out, _, _, _, j, D, _, HFe.out.symm, HTe.out.symm, rfl, HC7.out⟩), by rw [HRBe.out]; exact HB7.out⟩
                      · have HN : Hid (NoFilm t) := by
                          rcases hF with h | h
                          · exact h
                          · exact absurd h.2 hTt
                        have hne : ¬ T.toList = t.toList := fun e => hTt (by rw [ByteArray.toList_eq, ByteArray.toList_eq] at e; exact ByteArray.ext (Array.toList_inj.1 e))
                        have hq1 : (T.toList == t.toList) = false := by rw [beq_eq_false_iff_ne]; exact hne
                        have hq2 : (T.toList != t.toList) = true := by simp [bne, hq1]
                        clear hF
                        go_wp2
                        refine bodyPost_ret (v := .tuple #[.int .i64 0, .int .i64 0, .int .i64 0, .slice none 0 0, .int .i64 2]) (by simp [results, Tryd.results9, go_sem]) rfl ⟨Or.inr (Or.inl ⟨HL.out, HN.out, rfl⟩), by rw [HRBe.out]; exact HB7.out⟩
                    · have HN : Hid (NoFilm t) := by
                        rcases hF with h | h
                        · exact h
                        · exact absurd h.1 hF0
                      have hq1 : ((F : Int) == 0) = false := by rw [beq_eq_false_iff_ne]; omega
                      have hq2 : ((F : Int) != 0) = true := by simp [bne, hq1]
                      clear hF
                      go_wp2
                      refine bodyPost_ret (v := .tuple #[.int .i64 0, .int .i64 0, .int .i64 0, .slice none 0 0, .int .i64 2]) (by simp [results, Tryd.results9, go_sem]) rfl ⟨Or.inr (Or.inl ⟨HL.out, HN.out, rfl⟩), by rw [HRBe.out]; exact HB7.out⟩
end Go.Proofs.YtjhflcgphejddaaDoor

namespace Go.Proofs.YtjhflcgphejddaaDoor
open Go.RowKit
set_option linter.unusedVariables false
set_option maxRecDepth 100000

/-- What bytes are read as: too many, none, or this film. -/
def Fate (t : ByteArray) (x : Nat) (a b s : Int) (N : Nat) (C : Nat → Cd) : Prop :=
  (x = 4 ∧ 120 < t.size ∧ a = 0 ∧ b = 0 ∧ s = 0 ∧ N = 0) ∨ (x = 2 ∧ t.size ≤ 120 ∧ NoFilm t ∧ a = 0 ∧ b = 0 ∧ s = 0 ∧ N = 0) ∨ (x = 0 ∧ t.size ≤ 120 ∧ bytF a b s N C = 0 ∧ bytS a b s N C = t)
theorem cods_none (w : World) (C : Nat → Cd) : CodsIn w (.slice none 0 0) 0 C := ⟨none, 0, rfl, Nat.le_refl _, by unfold maxLen; omega, fun h => absurd h (Nat.lt_irrefl _)⟩
theorem rb_fate {t : ByteArray} {w w' : World} {e : Ending} (h : RBp t w e w') : ∃ (a b s : Int) (u : Value) (x N : Nat) (C : Nat → Cd), e = .returned (.tuple #[.int .i64 a, .int .i64 b, .int .i64 s, u, .int .i64 x]) ∧ Hid (CodsIn w' u N C) ∧ Hid (Fate t x a b s N C) ∧ Hid (Below w.heap.size w w') := by
  obtain ⟨h, hb⟩ := h
  rcases h with ⟨h1, rfl⟩ | ⟨h1, h2, rfl⟩ | ⟨h1, a, b, s, N, C, u, h2, h3, rfl, h4⟩
  · exact ⟨0, 0, 0, _, 4, 0, fun _ => ⟨false, 0, 0, 0, fun _ => 0⟩, rfl, cods_none _ _, Or.inl ⟨rfl, h1, rfl, rfl, rfl, rfl⟩, hb⟩
  · exact ⟨0, 0, 0, _, 2, 0, fun _ => ⟨false, 0, 0, 0, fun _ => 0⟩, rfl, cods_none _ _, Or.inr (Or.inl ⟨rfl, h1, h2, rfl, rfl, rfl, rfl⟩), hb⟩
  · exact ⟨a, b, s, u, 0, N, C, rfl, h4, Or.inr (Or.inr ⟨rfl, h1, h2, h3⟩), hb⟩
theorem ub_fate {t : ByteArray} {w w' : World} {e : Ending} (h : UBp t w e w') : ∃ (a b s : Int) (u : Value) (x N : Nat) (C : Nat → Cd), e = .returned (.tuple #[.int .i64 a, .int .i64 b, .int .i64 s, u, errN x]) ∧ Hid (CodsIn w' u N C) ∧ Hid (Fate t x a b s N C) ∧ Hid (Below w.heap.size w w') := by
  obtain ⟨h, hb⟩ := h
  rcases h with ⟨h1, rfl⟩ | ⟨h1, h2, rfl⟩ | ⟨h1, a, b, s, N, C, u, h2, h3, rfl, h4⟩
  · exact ⟨0, 0, 0, _, 4, 0, fun _ => ⟨false, 0, 0, 0, fun _ => 0⟩, rfl, cods_none _ _, Or.inl ⟨rfl, h1, rfl, rfl, rfl, rfl⟩, hb⟩
  · exact ⟨0, 0, 0, _, 2, 0, fun _ => ⟨false, 0, 0, 0, fun _ => 0⟩, rfl, cods_none _ _, Or.inr (Or.inl ⟨rfl, h1, h2, rfl, rfl, rfl, rfl⟩), hb⟩
  · exact ⟨a, b, s, u, 0, N, C, rfl, h4, Or.inr (Or.inr ⟨rfl, h1, h2, h3⟩), hb⟩
/-- The fate is one. -/
theorem fate_one {t : ByteArray} {x x' : Nat} {a b s a' b' s' : Int} {N N' : Nat} {C C' : Nat → Cd} (h : Fate t x a b s N C) (h' : Fate t x' a' b' s' N' C') : x = x' ∧ a = a' ∧ b = b' ∧ s = s' ∧ N = N' ∧ N ≤ 6 ∧ (∀ i, i < N → (C i).n ≤ 36) ∧ ∀ i, i < N → (C i).al = (C' i).al ∧ (C i).x = (C' i).x ∧ (C i).y = (C' i).y ∧ (C i).n = (C' i).n ∧ ∀ k, k < (C i).n → (C i).f k = (C' i).f k := by
  rcases h with ⟨rfl, q1, rfl, rfl, rfl, rfl⟩ | ⟨rfl, q1, q2, rfl, rfl, rfl, rfl⟩ | ⟨rfl, q1, q2, q3⟩
  · rcases h' with ⟨rfl, r1, rfl, rfl, rfl, rfl⟩ | ⟨rfl, r1, r2, rfl, rfl, rfl, rfl⟩ | ⟨rfl, r1, r2, r3⟩
    · exact ⟨rfl, rfl, rfl, rfl, rfl, by omega, fun i hi => absurd hi (Nat.not_lt_zero _), fun i hi => absurd hi (Nat.not_lt_zero _)⟩
    · omega
    · omega
  · rcases h' with ⟨rfl, r1, rfl, rfl, rfl, rfl⟩ | ⟨rfl, r1, r2, rfl, rfl, rfl, rfl⟩ | ⟨rfl, r1, r2, r3⟩
    · omega
    · exact ⟨rfl, rfl, rfl, rfl, rfl, by omega, fun i hi => absurd hi (Nat.not_lt_zero _), fun i hi => absurd hi (Nat.not_lt_zero _)⟩
    · exact absurd r3 (q2 _ _ _ _ _ r2)
  · rcases h' with ⟨rfl, r1, rfl, rfl, rfl, rfl⟩ | ⟨rfl, r1, r2, rfl, rfl, rfl, rfl⟩ | ⟨rfl, r1, r2, r3⟩
    · omega
    · exact absurd q3 (r2 _ _ _ _ _ q2)
    · obtain ⟨e1, e2, e3, e4, e5⟩ := bytS_one q2 r2 (q3.trans r3.symm)
      obtain ⟨A, B, o⟩ := see_ok (bytF_zero.1 q2).1
      exact ⟨rfl, e1, e2, e3, e4, o.six, fun i hi => by rw [(o.each i hi).n]; exact o.le, e5⟩
end Go.Proofs.YtjhflcgphejddaaDoor

namespace Go.Proofs.YtjhflcgphejddaaDoor
open Go.RowKit
set_option linter.unusedVariables false
set_option maxRecDepth 100000

set_option maxHeartbeats 1000000 in
theorem ints_rows (b o b2 o2 n c c2 : Nat) (f : Nat → Int) (w : World) (hn : n ≤ 1000000)
    (h1 : ∀ i, i < n → w.cell? ⟨b, o + i, none⟩ = some (.int .i64 (f i))) (h2 : ∀ i, i < n → w.cell? ⟨b2, o2 + i, none⟩ = some (.int .i64 (f i))) :
    Calls Tryd.prog 45 #[.slice (some ⟨b, o, none⟩) n c, .slice (some ⟨b2, o2, none⟩) n c2] w fun e w' => e = .returned (.bool true) ∧ Below w.heap.size w w' := by
  have H1 := hide h1
  have H2 := hide h2
  clear h1 h2
  go_enter Tryd.func45, Tryd.ntmps45
  go_wp2
  go_loopw [5] (fun i wr => ∃ j : Nat, j ≤ n ∧ i = .int .i64 j ∧ Below w.heap.size w wr) (fun i _ => n - (intOf i).toNat)
  case atStart => exact ⟨0, Nat.zero_le _, rfl, Below.refl _ _⟩
  case round =>
    obtain ⟨j, hj, rfl, hb⟩ := hrel
    by_cases hlt : j < n
    · have c1 := cell_below hb (H1.out j hlt)
      have c2 := cell_below hb (H2.out j hlt)
      generalize f j = y at *
      go_wp2_with fail
      go_quiet (fail)
      go_wp2
      go_roundw
      case rel => exact ⟨j + 1, by omega, by go_num, below_drewN hb _⟩
      case measure => simp [intOf]; omega
    · go_wp2
      go_ret
      exact ⟨rfl, hb⟩
theorem ints_none (a a2 : Option Addr) (c c2 : Nat) (w : World) :
    Calls Tryd.prog 45 #[.slice a 0 c, .slice a2 0 c2] w fun e w' => e = .returned (.bool true) ∧ Below w.heap.size w w' := by
  go_enter Tryd.func45, Tryd.ntmps45
  go_wp2
  go_loop [5] (fun i => i = .int .i64 0) (fun _ => 0)
  case atStart => rfl
  case round =>
    obtain rfl := hrel
    go_wp2
    go_ret
    exact ⟨rfl, Below.refl _ _⟩
theorem ints_same {v v2 : Value} {n : Nat} {f : Nat → Int} {w : World} (hn : n ≤ 1000000) (h : IntsIn w v n f) (h2 : IntsIn w v2 n f) :
    Calls Tryd.prog 45 #[v, v2] w fun e w' => e = .returned (.bool true) ∧ Below w.heap.size w w' := by
  rcases h with ⟨rfl, a, c, rfl⟩ | ⟨h0, b, o, c, rfl, hc⟩
  · rcases h2 with ⟨_, a2, c2, rfl⟩ | ⟨h0, _⟩
    · exact ints_none a a2 c c2 w
    · omega
  · rcases h2 with ⟨rfl, _⟩ | ⟨_, b2, o2, c2, rfl, hc2⟩
    · omega
    · exact ints_rows b o b2 o2 n c c2 f w hn hc hc2
end Go.Proofs.YtjhflcgphejddaaDoor
