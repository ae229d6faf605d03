/-
  Lemmas for the law above, joined into one text (Told, ErrIs, EarHs). No statement is proved here.
-/
import Derived.Test.YtjgifjkdgoijmaaGreatDoorHAs
import Derived.Test.YtjgifjkdgoijmaaGreatDoorHG8
import Derived.Test.YtjgifjkdgoijmaaGreatDoorHG40
import Derived.Test.YtjgifjkdgoijmaaGreatDoorHG37
import Derived.Test.YtjgifjkdgoijmaaGreatDoorHG26
import Derived.Test.YtjgifjkdgoijmaaGreatDoorHG7
namespace Go.Proofs.YtjgifjkdgoijmaaGreatDoor
open Go.RowKit Go.Extern.Stop Go.Stop Go.Extern
set_option linter.unusedVariables false
set_option maxRecDepth 100000

/-- What the row's list of variables gives: the cell of errors.errorType. -/
def HasErr (w : World) : Prop := w.cell? ⟨0, 0, none⟩ = some (.iface 204 (.agg #[.pointer (some ⟨2, 25, none⟩)]))
theorem HasErr.lt {w : World} (h : HasErr w) : 0 < w.heap.size := by
  rcases Nat.lt_or_ge 0 w.heap.size with h' | h'
  · exact h'
  · simp [HasErr, World.cell?, Array.getElem?_eq_none h'] at h
theorem HasErr.below {w w' : World} (h : HasErr w) {B : Nat} (hB : 0 < B) (hb : Below B w w') : HasErr w' :=
  (hb.cell (p := ⟨0, 0, none⟩) hB).trans h

theorem told_nil (w : World) : Calls Tryz.prog 38 #[.nilIface] w fun e w' => e = .returned (.int .i64 0) ∧ w = w' := by
  go_enter Tryz.func38, Tryz.ntmps38
  go_wp2
  go_ret
  exact ⟨rfl, rfl⟩
set_option maxHeartbeats 1000000 in
theorem told_hit (n : Int) (w : World) (hg : HasErr w) : Calls Tryz.prog 38 #[.iface 64 (.int .i64 n)] w fun e w' => e = .returned (.int .i64 n) ∧ Below w.heap.size w w' := by
  have hA := as_hit n ⟨w.heap.size, 0, none⟩ (.int .i64 0) (w.alloc (.cells #[.int .i64 0] 64)) (by rw [World.cell?_alloc_lt _ _ ⟨0, 0, none⟩ hg.lt]; exact hg) (by simp) (by simp)
  have K := hide hA
  clear hA
  go_enter Tryz.func38, Tryz.ntmps38
  go_wp2_with fail
  refine (K.out).mono ?_
  rintro e w1 ⟨rfl, rfl⟩
  go_wp2
  go_ret
  refine ⟨rfl, ?_⟩
  repeat (first | exact Below.refl _ _ | refine Below.alloc ?_ (by simp <;> omega) _)
theorem error_nil (x : Int) (w : World) : Calls Tryz.prog 12 #[.nilIface, .int .i64 x] w fun e w' => e = .returned (.bool (0 == x)) ∧ w = w' := by
  go_enter Tryz.func12, Tryz.ntmps12
  go_wp2_with fail
  refine (told_nil _).mono ?_
  rintro e w1 ⟨rfl, rfl⟩
  go_wp2
  go_ret
  exact ⟨rfl, rfl⟩
theorem error_hit (n x : Int) (w : World) (hg : HasErr w) : Calls Tryz.prog 12 #[.iface 64 (.int .i64 n), .int .i64 x] w fun e w' => e = .returned (.bool (n == x)) ∧ Below w.heap.size w w' := by
  go_enter Tryz.func12, Tryz.ntmps12
  go_wp2_with fail
  refine (told_hit _ _ hg).mono ?_
  rintro e w1 ⟨rfl, hb⟩
  go_wp2
  go_ret
  exact ⟨rfl, hb⟩

/-! What the row's list gives a walk, and a world that meets it. -/
theorem errGlobal : Tryz.prog.globalNamed "errors.errorType" = some 0 := by kernel_rfl
theorem errRt : (Tryz.prog.cutTypes.find? (·.1 == "internal/reflectlite.rtype")).map (·.2) = some 204 := by kernel_rfl
theorem errOneRow : ((List.range 268).filter fun t => Tryz.prog.rowNamed t [101, 114, 114, 111, 114]) = [25] := by kernel_rfl
theorem errSize : Tryz.prog.types.size = 268 := by kernel_rfl
theorem hasErr_of_laid {W : World} (h : laidMetH Tryz.prog [("errors.errorType", Rows.laid_errors_errorType)] W) : HasErr W := by
  have h' : laidMet Tryz.prog [] W ∧ handlesMet Tryz.prog [("errors.errorType", Rows.laid_errors_errorType)] W := h
  obtain ⟨name, u, ty, e1, e2, e3, e4, e5⟩ := h'.2 _ (List.mem_singleton.2 rfl)
  have en : name = [101, 114, 114, 111, 114] := (Option.some.inj e1).symm
  subst en
  obtain rfl := Option.some.inj (errRt.symm.trans e2)
  have hm : ty ∈ (List.range 268).filter fun t => Tryz.prog.rowNamed t [101, 114, 114, 111, 114] := List.mem_filter.2 ⟨List.mem_range.2 (by rw [← errSize]; exact e3), e4⟩
  rw [errOneRow] at hm
  obtain rfl := List.mem_singleton.1 hm
  have hh : typeHandle Tryz.prog 25 = .pointer (some ⟨2, 25, none⟩) := by kernel_rfl
  rw [hh] at e5
  have := World.var?_cell errGlobal e5 0
  simpa [HasErr] using this
end Go.Proofs.YtjgifjkdgoijmaaGreatDoor

namespace Go.Proofs.YtjgifjkdgoijmaaGreatDoor
open Go.RowKit
set_option linter.unusedVariables false
set_option maxRecDepth 100000

theorem error_right (x : Int) (err : Value) (w : World) (hg : HasErr w) (h : ErrIs x err) :
    Calls Tryz.prog 12 #[err, .int .i64 x] w fun e w' => e = .returned (.bool true) ∧ Below w.heap.size w w' := by
  rcases h with ⟨rfl, rfl⟩ | rfl
  · exact (error_nil 0 w).mono fun e w' ⟨he, hw⟩ => ⟨he, hw ▸ Below.refl _ _⟩
  · exact (error_hit x x w hg).mono fun e w' ⟨he, hb⟩ => ⟨by rw [he]; simp, hb⟩
end Go.Proofs.YtjgifjkdgoijmaaGreatDoor

namespace Go.Proofs.YtjgifjkdgoijmaaGreatDoor
open Go.RowKit Go.Maps
set_option linter.unusedVariables false
set_option maxRecDepth 100000

/-- The Ear is told by a pointer. -/
theorem ESt.ptr {I : PIm0} {w : World} {v : Value} {k z n : Nat} {dr : Int} {F : List Drp} {M : Nat → Prop} (h : ESt I w v k z n dr F M) : ∃ a, v = .pointer a := by
  obtain ⟨b, _, _, _, rfl, _⟩ := h
  exact ⟨_, rfl⟩
/-- The closed fact of EarHears. -/
theorem hs_new (w : World) : Calls Tryz.prog 5 #[.int .i64 1, .int .i64 2, .int .i64 1] w fun e w' => ∃ a M, e = .returned (.tuple #[.pointer a, .nilIface]) ∧ ESt peelI0 w' (.pointer a) 1 2 1 0 [] M ∧ (∀ i, M i → w.heap.size ≤ i) ∧ Below w.heap.size w w' :=
  (enew_ok 1 2 1 w (by decide) (by decide) (by decide)).mono fun e w' ⟨v, M, he, hE, hM, hb⟩ => by
    obtain ⟨a, rfl⟩ := hE.ptr
    exact ⟨a, M, he, hE, hM, hb⟩
theorem hs_hear {w0 w : World} {a : Option Addr} {M : Nat → Prop} (h : ESt peelI0 w (.pointer a) 1 2 1 0 [] M) (hb : Below w0.heap.size w0 w) (hM : ∀ i, M i → w0.heap.size ≤ i) :
    Calls Tryz.prog 6 #[.pointer a, .agg #[.int .i64 1, .string ⟨#[113, 0]⟩]] w fun e w' => ∃ M', e = .returned (.tuple #[.agg #[.int .i64 1, .int .i64 1, .int .i64 1], .nilIface]) ∧ ESt peelI0 w' (.pointer a) 1 2 1 1 [(1, ⟨#[113, 0]⟩)] M' ∧ Below w0.heap.size w0 w' := by
  refine (hear_from peel_ptr h hb hM 1 ⟨#[113, 0]⟩ (eF_made h.ok (by decide) (by rfl) (by decide)) (by decide)).mono fun e w' ⟨q, M', hT, he, hE, hM', hb', _, _⟩ => ?_
  rw [eAdd_out _ (by simp [sds]), List.nil_append] at hT he hE
  have hw : wrap64 ((0 : Int) + 1) = 1 := by unfold wrap64; omega
  rw [hw] at he hE
  rw [knows_one hT] at he
  exact ⟨M', he, hE, hb'⟩
theorem hs_data {w : World} {a : Option Addr} {M : Nat → Prop} (h : ESt peelI0 w (.pointer a) 1 2 1 1 [(1, ⟨#[113, 0]⟩)] M) :
    Calls Tryz.prog 7 #[.pointer a] w fun e w' => e = .returned (.tuple #[.string ⟨#[113]⟩, .nilIface]) ∧ Below w.heap.size w w' :=
  (data_ok h).mono fun e w' ⟨x, s, he, hd, hb⟩ => by
    obtain ⟨rfl, rfl⟩ := one_fact (t := ⟨#[113]⟩) h.ok rfl hd
    exact ⟨he, hb⟩
theorem hs_done {w : World} {a : Option Addr} {M : Nat → Prop} (h : ESt peelI0 w (.pointer a) 1 2 1 1 [(1, ⟨#[113, 0]⟩)] M) :
    Calls Tryz.prog 8 #[.pointer a] w fun e w' => e = .returned (.bool true) ∧ Below w.heap.size w w' :=
  (done_ok h).mono fun e w' ⟨he, hb⟩ => by
    have hr : rkL (mS 1 (sds [(1, ByteArray.mk #[113, 0])])) = 1 := rk_one (mask_some ⟨by omega, by omega⟩ ⟨by omega, by omega⟩)
    rw [hr] at he
    exact ⟨he, hb⟩
/-- An Ear, a list of the seeds that were new, and blocks. -/
structure Lis (w wr : World) (a : Option Addr) (k z n : Nat) (dr : Int) (F : List Drp) (M : Nat → Prop) (A : List Nat) (vn : Value) (bk : Nat) (g : Nat → ByteArray) : Prop where
  ear : ESt peelI0 wr (.pointer a) k z n dr F M
  made : Made g k F
  rng : -9223372036854775808 ≤ dr ∧ dr ≤ 9223372036854775807
  inM : ∀ i, M i → w.heap.size ≤ i
  ap : ∀ i, vn.ownBlock = some i → ¬ M i
  row : wr.ownsRow w.heap.size 3 1 vn A.length (toV A)
  blk : Blks wr bk 0 k g
  blkM : ¬ M bk
  apB : vn.ownBlock ≠ some bk
  below : Below w.heap.size w wr
theorem Blks.lt {w : World} {b o len : Nat} {g : Nat → ByteArray} (h : Blks w b o len g) : b < w.heap.size := cell_lt (h.cells 0 h.pos)
theorem Blks.of_block {w w' : World} {b o len : Nat} {g : Nat → ByteArray} (h : Blks w b o len g) (hb : w'.heap[b]? = w.heap[b]?) : Blks w' b o len g :=
  ⟨h.pos, h.most, fun i hi => (World.cell?_of_block (w := w) hb).trans (h.cells i hi), h.one, h.eight, h.same⟩
theorem Lis.grow {w wr w' : World} {a : Option Addr} {k z n : Nat} {dr : Int} {F : List Drp} {M : Nat → Prop} {A : List Nat} {vn : Value} {bk : Nat} {g : Nat → ByteArray} (h : Lis w wr a k z n dr F M A vn bk g) (hb : Below wr.heap.size wr w') : Lis w w' a k z n dr F M A vn bk g :=
  ⟨h.ear.below hb, h.made, h.rng, h.inM, h.ap, own_under' h.row hb, h.blk.below hb, h.blkM, h.apB, below_two h.below hb⟩
theorem wrap_rng (x : Int) : -9223372036854775808 ≤ wrap64 x ∧ wrap64 x ≤ 9223372036854775807 := by unfold wrap64; omega
/-- A drop of the blocks is heard. -/
theorem Lis.hear {w wr : World} {a : Option Addr} {k z n : Nat} {dr : Int} {F : List Drp} {M : Nat → Prop} {A : List Nat} {vn : Value} {bk : Nat} {g : Nat → ByteArray} (h : Lis w wr a k z n dr F M A vn bk g) (hz : (g 0).size = z) (hl : F.length < 60) (s : Nat) (hs : 1 ≤ s ∧ s ≤ 10000) :
    Calls Tryz.prog 6 #[.pointer a, .agg #[.int .i64 s, .string (dropB g k s)]] wr fun e w' => ∃ (kn : Nat) (dr' : Int) (M' : Nat → Prop), e = .returned (.tuple #[.agg #[.int .i64 dr', .int .i64 (eAdd F s (dropB g k s)).length, .int .i64 kn], .nilIface]) ∧ kn ≤ k ∧ Lis w w' a k z n dr' (eAdd F s (dropB g k s)) M' A vn bk g :=
  (hear_from peel_ptr h.ear h.below h.inM s (dropB g k s) (eF_made h.ear.ok hs (by rw [dropB_size, hz]) hl) h.rng).mono fun e w' ⟨q, M', hT, he, hE, hM', hb', hk, hf⟩ =>
    ⟨_, _, M', he, knows_len k q.known, hE, h.made.add, wrap_rng _, hM', fun i e hi => (hf i hi).elim (h.ap i e) fun e2 => by have := (h.row.lt i e).2; omega,
      own_blk h.row fun i e => hk.block i (h.row.lt i e).2 (h.ap i e), h.blk.of_block (hk.block _ h.blk.lt h.blkM), fun hi => (hf _ hi).elim h.blkM fun e2 => by have := h.blk.lt; omega, h.apB, hb'⟩
/-- The list grows. -/
theorem Lis.push {w wr w' : World} {a : Option Addr} {k z n : Nat} {dr : Int} {F : List Drp} {M : Nat → Prop} {A A' : List Nat} {vn v' : Value} {bk : Nat} {g : Nat → ByteArray} (h : Lis w wr a k z n dr F M A vn bk g) (hg : wr.grownBy w' vn.ownBlock) (ho : w'.ownsRow w.heap.size 3 1 v' A'.length (toV A')) (hat : v'.ownBlock = vn.ownBlock ∨ ∃ i, v'.ownBlock = some i ∧ wr.heap.size ≤ i) : Lis w w' a k z n dr F M A' v' bk g :=
  ⟨h.ear.far hg.size fun i hi => hg.block i (h.ear.lt i hi) fun e => h.ap i e.symm hi, h.made, h.rng, h.inM, fun i e hi => by
    rcases hat with e2 | ⟨j, e2, hj⟩
    · exact h.ap i (e2 ▸ e) hi
    · rw [e] at e2; cases e2; have := h.ear.lt i hi; omega, ho, h.blk.of_block (hg.block _ h.blk.lt fun e => h.apB e.symm), h.blkM, fun e => by
    rcases hat with e2 | ⟨j, e2, hj⟩
    · exact h.apB (e2 ▸ e)
    · rw [e] at e2; cases e2; have := h.blk.lt; omega, h.below.grown hg h.below.size fun i e => (h.row.lt i e).1⟩
theorem rin_nat {s : Nat} {A : List Nat} {r : Bool} (h : r = true ↔ ∃ n : Nat, (s : Int) = n ∧ n ∈ A) : r = true ↔ s ∈ A := by
  rw [h]
  constructor
  · rintro ⟨n, e, hn⟩
    have : s = n := by omega
    rw [this]; exact hn
  · exact fun hn => ⟨s, rfl, hn⟩
set_option maxHeartbeats 8000000 in
theorem hears_walk {w : World} (t : ByteArray) (wt : t.size ≤ maxLen) (zi : Int) (v : Value) (len : Nat) (f : Nat → Int) (hv : IntsAt w v len f) (hg : HasErr w) :
    Calls Tryz.prog 3 #[.string t, .int .i64 zi, v] w fun e w' => e = .returned (.bool true) ∧ Below w.heap.size w w' := by
  have SW := split_ways t zi wt
  have N := hide (hs_new w)
  have HH := hide (fun w1 a M h hb hM => hs_hear (w0 := w) (w := w1) (a := a) (M := M) h hb hM)
  have HDT := hide (fun w1 a M h => hs_data (w := w1) (a := a) (M := M) h)
  have HDN := hide (fun w1 a M h => hs_done (w := w1) (a := a) (M := M) h)
  have HG := hide hg
  have HGL := hide hg.lt
  have HV := hide hv
  obtain ⟨av, capv, rfl, hv0⟩ := hv.open
  have HV0 := hide hv0
  have HSW := hide SW
  clear hg SW hv hv0
  go_enter Tryz.func3, Tryz.ntmps3
  go_wp2_with fail
  refine (N.out).mono ?_
  rintro e w1 ⟨a1, M1, rfl, hE1, hM1, hb1⟩
  have H1 := hide (HH.out w1 a1 M1 hE1 hb1 hM1)
  clear hE1 hM1 hb1 N HH
  go_wp2_with fail
  refine (H1.out).mono ?_
  rintro e w2 ⟨M2, rfl, hE2, hb2⟩
  have HB3 := hide (hb2.alloc hb2.size (.cells #[.int .i64 1, .int .i64 1, .int .i64 1] 29))
  have HE3 := hide (hE2.below ((Below.refl _ w2).alloc (Nat.le_refl _) (.cells #[.int .i64 1, .int .i64 1, .int .i64 1] 29)))
  have D3 := hide (HDT.out _ a1 M2 HE3.out)
  clear hE2 hb2 H1
  have c0 : (w2.alloc (.cells #[.int .i64 1, .int .i64 1, .int .i64 1] 29)).cell? ⟨w2.heap.size, 0, none⟩ = some (.int .i64 1) := by simp
  have c1 : (w2.alloc (.cells #[.int .i64 1, .int .i64 1, .int .i64 1] 29)).cell? ⟨w2.heap.size, 1, none⟩ = some (.int .i64 1) := by simp
  have c2 : (w2.alloc (.cells #[.int .i64 1, .int .i64 1, .int .i64 1] 29)).cell? ⟨w2.heap.size, 2, none⟩ = some (.int .i64 1) := by simp
  go_wp2_with fail
  generalize w2.alloc (.cells #[.int .i64 1, .int .i64 1, .int .i64 1] 29) = w3 at *
  refine (D3.out).mono ?_
  rintro e w4 ⟨rfl, hb4⟩
  have d1 := cell_below hb4 c1
  have d2 := cell_below hb4 c2
  have HB4 := hide (below_two HB3.out hb4)
  have N4 := hide (HDN.out w4 a1 M2 (HE3.out.below hb4))
  clear hb4 c0 c1 c2 D3 HE3 HB3 HDT HDN
  go_wp2_with fail
  refine (N4.out).mono ?_
  rintro e w5 ⟨rfl, hb5⟩
  have HB5 := hide (below_two HB4.out hb5)
  clear hb5 d1 d2 N4 HB4
  rcases HSW.out with ⟨x, hx⟩ | ⟨z, hz, h1, h8, h120, hc, hS⟩
  · have S := hide (hx w5)
    clear hx HSW
    go_wp2_with fail
    refine (S.out).mono ?_
    rintro e w6 ⟨rfl, rfl⟩
    go_wp2
    go_ret
    exact ⟨rfl, HB5.out⟩
  subst hz
  have S := hide (hS w5)
  obtain ⟨k, hk⟩ : ∃ k, cntN t.size z = k := ⟨_, rfl⟩
  obtain ⟨g, hgg⟩ : ∃ g, blkB t.data.toList z = g := ⟨_, rfl⟩
  have HK := hide hk
  have HGG := hide hgg
  have hz0 : Hid ((g 0).size = z) := by rw [← hgg]; exact blkB_size _ _ _
  rw [hk, hgg] at S
  rw [hk] at hc
  have hk1 : 1 ≤ k := by rw [← hk]; unfold cntN; omega
  clear hk hgg hS HSW
  go_wp2_with fail
  refine (S.out).mono ?_
  rintro e w6 ⟨rfl, hB, hb6⟩
  have HB6 := hide (below_two HB5.out hb6)
  have HBk := hide hB
  clear hB hb6 S
  have NW := hide (fun W => enew_ok k z t.size W ⟨⟨hk1, hc⟩, h1, h8⟩ h120 HK.out)
  go_wp2_with fail
  refine (NW.out _).mono ?_
  rintro e w7 ⟨v2, M, rfl, hE, hM, hb7⟩
  obtain ⟨a2, rfl⟩ := hE.ptr
  have HL0 : Hid (Lis w w7 a2 k z t.size 0 [] M [] (.slice none 0 0) w5.heap.size g) := ⟨hE, made_none _ _, by decide, fun i hi => Nat.le_trans HB6.out.size (hM i hi), (fun i e => by cases e), World.ownsRow_nil _ _ _ _, HBk.out.below hb7, fun hi => by have := hM _ hi; have := HBk.out.lt; omega, (fun e => by cases e), below_two HB6.out hb7⟩
  clear hE hM hb7 NW HBk
  obtain ⟨i0, hi0, hy0, hy1, hy2⟩ := info_parts Tryz.infoInt
  have Hi := hide hi0
  have Hy0 := hide hy0
  have Hy1 := hide hy1
  have Hy2 := hide hy2
  clear hi0 hy0 hy1 hy2
  obtain ⟨bk, hbk⟩ : ∃ bk, w5.heap.size = bk := ⟨_, rfl⟩
  rw [hbk] at HL0
  go_wp2_with fail
  clear hbk
  go_loopw [17, 18] (fun vn i wr => ∃ j : Nat, j ≤ len ∧ i = .int .i64 j ∧ ∃ (A : List Nat) (F : List Drp) (dr : Int) (M : Nat → Prop) (aN : Option Addr) (cN : Nat), vn = .slice aN A.length cN ∧ A.length ≤ 40 ∧ sds F = A ∧ Lis w wr a2 k z t.size dr F M A vn bk g) (fun _ i _ => len - (intOf i).toNat)
  case atStart => exact ⟨0, Nat.zero_le _, rfl, [], [], 0, M, none, 0, rfl, by simp, rfl, HL0.out⟩
  case round =>
    obtain ⟨j, hj, rfl, A, F, dr, M, aN, cN, rfl, hA40, hsd, hL⟩ := hrel
    have HL := hide hL
    have HSd := hide hsd
    clear hL hsd HL0
    by_cases hin : j < len ∧ A.length < 40
    · obtain ⟨hlt, hA⟩ := hin
      obtain ⟨bs, os, rfl, hcs1, hcs2, hcs3⟩ := HV0.out (by omega)
      have hcw := hcs3 j hlt
      have hcj := cell_below HL.out.below hcw
      have HCW := hide hcw
      unfold maxLen at hcs2
      clear hcs3 hcw
      by_cases hs : f j < 1 ∨ 10000 < f j
      · have MK := hide (make_seed bk 0 k k g (f j) wr HL.out.blk.pos HL.out.blk.most HL.out.blk.cells HL.out.blk.one HL.out.blk.eight HL.out.blk.same hs)
        unfold dropV at MK
        clear hs HCW
        generalize f j = fj at *
        go_wp2_with fail
        refine (MK.out).mono ?_
        rintro e w8 ⟨rfl, hb8⟩
        have HL8 := hide ((HL.out.grow hb8).grow ((Below.refl _ w8).alloc (Nat.le_refl _) (.cells #[.int .i64 0, .string ⟨#[]⟩] 33)))
        clear hb8 MK hcj
        go_wp2
        go_roundw
        case rel => exact ⟨j + 1, by omega, by go_num, A, F, dr, M, aN, cN, rfl, hA40, HSd.out, HL8.out⟩
        case measure => simp [intOf]; omega
      · obtain ⟨s, hsj⟩ : ∃ s : Nat, f j = (s : Int) := ⟨(f j).toNat, by omega⟩
        rw [hsj] at hcj HCW
        have hs1 : 1 ≤ s ∧ s ≤ 10000 := by omega
        have hF60 : F.length < 60 := by have h9 := sds_len F; rw [HSd.out] at h9; omega
        have MK := hide (make_ok bk 0 k k g s wr HL.out.blk.pos HL.out.blk.most HL.out.blk.cells HL.out.blk.one HL.out.blk.eight HL.out.blk.same hs1.1 hs1.2)
        unfold dropV at MK
        clear hs hsj
        obtain ⟨dd, hdd⟩ : ∃ dd, dropB g k s = dd := ⟨_, rfl⟩
        rw [hdd] at MK
        go_wp2_with fail
        refine (MK.out).mono ?_
        rintro e w8 ⟨rfl, hb8⟩
        have HL8 := hide ((HL.out.grow hb8).grow ((Below.refl _ w8).alloc (Nat.le_refl _) (.cells #[.int .i64 (s : Nat), .string dd] 33)))
        have HR := hide (HL8.out.hear hz0.out hF60 s hs1)
        rw [hdd] at HR
        clear hb8 MK hcj
        go_wp2_with fail
        refine (HR.out).mono ?_
        rintro e w9 ⟨kn, dr', M', rfl, hkn, hL9⟩
        have HL9 := hide hL9
        clear hL9 HR HL8
        have HL10 := hide (HL9.out.grow ((Below.refl _ w9).alloc (Nat.le_refl _) (.cells #[.int .i64 dr', .int .i64 (eAdd F s dd).length, .int .i64 kn] 29)))
        have hcs10 := cell_below HL10.out.below HCW.out
        obtain ⟨_, _, _, _, _, r, hr, hIn⟩ := rin_T HL10.out.row (s : Int)
        have IN := hide (hIn _ (Below.refl _ _))
        have hr2 : r = true ↔ s ∈ A := rin_nat hr
        have HRR := hide hr2
        have c0 : (w9.alloc (.cells #[.int .i64 dr', .int .i64 (eAdd F s dd).length, .int .i64 kn] 29)).cell? ⟨w9.heap.size, 1, none⟩ = some (.int .i64 (eAdd F s dd).length) := by simp
        have c1 : (w9.alloc (.cells #[.int .i64 dr', .int .i64 (eAdd F s dd).length, .int .i64 kn] 29)).cell? ⟨w9.heap.size, 2, none⟩ = some (.int .i64 kn) := by simp
        have HaH : Hid ((Value.slice aN A.length cN).ownBlock ≠ some w9.heap.size) := fun e => by have := (HL9.out.row.lt _ e).2; omega
        have hq9 : w9.heap.size < (w9.alloc (.cells #[.int .i64 dr', .int .i64 (eAdd F s dd).length, .int .i64 kn] 29)).heap.size := by simp
        clear hr hr2 hIn
        go_wp2_with fail
        generalize hw10 : w9.alloc (.cells #[.int .i64 dr', .int .i64 (eAdd F s dd).length, .int .i64 kn] 29) = w10 at *
        clear hw10
        refine (IN.out).mono ?_
        rintro e w11 ⟨rfl, rfl⟩
        clear IN HL9
        cases r with
        | true =>
          have hmem : s ∈ sds F := by rw [HSd.out]; exact HRR.out.1 rfl
          rw [eAdd_in dd hmem] at HL10 c0
          have hm : F.length = A.length := by rw [← HSd.out, sds_len]
          have hm2 : ((F.length : Int) != (A.length : Int)) = false := by rw [hm]; simp
          have hkn2 : ¬ ((kn : Int) > (k : Int)) := by omega
          have HFm := hide hm
          clear hmem hm HRR
          go_wp2
          go_roundw
          case rel => exact ⟨j + 1, by omega, by go_num, A, F, dr', M', aN, cN, rfl, hA40, HSd.out, HL10.out⟩
          case measure => simp [intOf]; omega
        | false =>
          have hmem : s ∉ sds F := by rw [HSd.out]; exact fun h => Bool.noConfusion (HRR.out.2 h)
          rw [eAdd_out dd hmem] at HL10 c0
          have hm : (F ++ [(s, dd)]).length = A.length + 1 := by rw [List.length_append, ← sds_len F, HSd.out]; rfl
          rw [hm] at c0
          have hm2 : (((A.length + 1 : Nat) : Int) != ((A.length + 1 : Nat) : Int)) = false := by simp
          have hkn2 : ¬ ((kn : Int) > (k : Int)) := by omega
          have HRow := hide (HL10.out.row.alloc (.cells #[.int .i64 (s : Nat)] 3))
          have hsz10 := HL10.out.below.size
          have HSd2 : Hid (sds (F ++ [(s, dd)]) = A ++ [s]) := by rw [Hid, sds_add, HSd.out]
          clear hmem hm HRR
          go_wp2_with ((at_builtin; refine wpList_append_lies _ rfl _ _ 22 rfl w.heap.size 3 i0 (.int .i64 0) 1 8 Tryz.underlying22 Hi.out Hy0.out Hy1.out Hy2.out rfl (by decide) _ _ _ rfl HRow.out ⟨w10.heap.size, 0, none⟩ 1 1 [.int .i64 (s : Nat)] rfl rfl (cell_one_new _ _ _) (fun x hx => by simp at hx; subst hx; rfl) (by decide) (by unfold maxLen; omega) (by omega) (by simp; omega) _ rfl ?_; intro gg cg w12 hown12 hgrow12 hat12 hlt12; have hL12 := (HL10.out.grow ((Below.refl _ w10).alloc (Nat.le_refl _) (.cells #[.int .i64 (s : Nat)] 3))).push (A' := A ++ [s]) (v' := .slice (some ⟨gg, 0, none⟩) (A.length + 1) cg) hgrow12 (by rw [List.length_append, show toV (A ++ [s]) = toV A ++ [.int .i64 (s : Nat)] by simp [toV]]; exact hown12) (hat12.elim (fun e => Or.inl e.symm) (fun e => Or.inr ⟨gg, rfl, by rw [e]; simp⟩)); have hcc := (hgrow12.cell_far ⟨w9.heap.size, 1, none⟩ (by simp; omega) (Ne.symm HaH.out)).trans (cell_below ((Below.refl _ w10).alloc (Nat.le_refl _) (.cells #[.int .i64 (s : Nat)] 3)) c0); have hcd := (hgrow12.cell_far ⟨w9.heap.size, 2, none⟩ (by simp; omega) (Ne.symm HaH.out)).trans (cell_below ((Below.refl _ w10).alloc (Nat.le_refl _) (.cells #[.int .i64 (s : Nat)] 3)) c1); have HL12 := hide hL12; clear hL12 hown12 hgrow12 hat12 hlt12))
          go_roundw
          case rel => exact ⟨j + 1, by omega, by go_num, A ++ [s], F ++ [(s, dd)], dr', M', some ⟨gg, 0, none⟩, cg, by rw [List.length_append]; rfl, by rw [List.length_append]; simp; omega, HSd2.out, HL12.out⟩
          case measure => simp [intOf]; omega
    · go_upto_region 16 with fail
      go_cut [101] (fun t wx => t = .bool false ∧ wr = wx)
      case first =>
        by_cases hlt : j < len
        · have hA : ¬ A.length < 40 := fun h => hin ⟨hlt, h⟩
          clear hin
          go_wp2
          go_meet
          exact ⟨by first | rfl | (simp; omega), rfl⟩
        · obtain rfl : j = len := by omega
          clear hin
          go_wp2
          go_meet
          exact ⟨by first | rfl | simp, rfl⟩
      case rest =>
      obtain ⟨ht1, hw1⟩ := hcut
      subst ht1 hw1
      have DT := hide (data_text HL.out.ear (by rw [HGG.out]; exact HL.out.made))
      go_wp2_with fail
      refine (DT.out).mono ?_
      rintro e w13 ⟨x, s, rfl, hx, hb13⟩
      have HL13 := hide (HL.out.grow hb13)
      unfold TextOf at hx
      rw [HSd.out] at hx
      have DN : Hid (∀ W, Below w13.heap.size w13 W → Calls Tryz.prog 8 #[.pointer a2] W fun e w' => e = .returned (.bool (decide (rkL (mS k A) = k))) ∧ Below W.heap.size W w') := fun W hb => by
        have h9 := done_ok (HL13.out.ear.below hb)
        rw [HSd.out] at h9
        exact h9
      have HBd : Hid (Below w13.heap.size w13 w13.drew) := ⟨rfl, rfl, rfl, Nat.le_refl _, fun _ _ => rfl⟩
      clear hb13 DT HL
      obtain ⟨ι, Fm, hFm⟩ := fam_some w13
      have hne := hFm.ne
      have HFm := hide hFm
      clear hFm
      go_upto_region 27 with fail
      go_cut [179] (fun t wx => t = .bool false ∧ Below w13.heap.size w13 wx)
      case first =>
        rcases hx with ⟨hr, rfl, rfl⟩ | ⟨hr, rfl, rfl⟩
        · have ht : Tell 0 = .nilIface := rfl
          rw [ht]
          rw [decide_eq_true hr] at DN
          have hq : (s.toList == s.toList) = true := by simp
          clear hr
          have DNF : Hid (∀ i : ι, Calls Tryz.prog 8 #[.pointer a2] (Fm i) fun e w' => e = .returned (.bool true) ∧ Below (Fm i).heap.size (Fm i) w') := fun i => DN.out _ (HFm.out.above i)
          refine HFm.out.region (by kernel_rfl) (by kernel_rfl) ?_
          repeat (go_big_quiet_step (exact HFm.out.call (DNF.out _)))
          refine wpQuiet_nil ?_
          intro wq hw
          obtain ⟨i1, hw2⟩ := hw
          subst hw2
          have hb14 := HFm.out.above i1
          go_wp2_with fail
          go_meet
          exact ⟨by first | rfl | simp, hb14⟩
        · have ht : Tell 8 = .iface 64 (.int .i64 8) := rfl
          rw [ht]
          rw [decide_eq_false (by omega)] at DN
          have ER := hide (fun W (hW : HasErr W) => error_right 8 (.iface 64 (.int .i64 8)) W hW (Or.inr rfl))
          clear hr
          have HG13 := hide (HG.out.below HGL.out HL13.out.below)
          have HGL13 := hide (HG13.out.lt)
          have DNF : Hid (∀ i : ι, Calls Tryz.prog 8 #[.pointer a2] (Fm i) fun e w' => e = .returned (.bool false) ∧ Below (Fm i).heap.size (Fm i) w') := fun i => DN.out _ (HFm.out.above i)
          have ERF : Hid (∀ i : ι, Calls Tryz.prog 12 #[.iface 64 (.int .i64 8), .int .i64 8] (Fm i) fun e w' => e = .returned (.bool true) ∧ Below (Fm i).heap.size (Fm i) w') := fun i => ER.out _ (HG13.out.below HGL13.out (HFm.out.above i))
          refine HFm.out.region (by kernel_rfl) (by kernel_rfl) ?_
          repeat (go_big_quiet_step (first | exact HFm.out.call (DNF.out _) | exact HFm.out.call (ERF.out _)))
          refine wpQuiet_nil ?_
          intro wq hw
          obtain ⟨i1, hw2⟩ := hw
          subst hw2
          have hb14 := HFm.out.above i1
          go_wp2_with fail
          go_meet
          exact ⟨by first | rfl | simp, hb14⟩
      case rest =>
      obtain ⟨ht1, hb1⟩ := hcut
      subst ht1
      have HL14 := hide (HL13.out.grow hb1)
      clear hb1 HL13 DN HBd hx HFm hne
      generalize wc = w14 at *
      have LK := hide (elacks_ok HL14.out.ear)
      rw [HSd.out] at LK
      have hll := lack_len (L := mS k A) (k := k) (mS_lt hk1 (fun x hx => (HL14.out.ear.ok.seeds x (by rw [HSd.out]; exact hx)).1))
      have RK : Hid (∀ W, Below w14.heap.size w14 W → Calls Tryz.prog 14 #[.int .i64 k, .slice aN A.length cN] W fun e w' => e = .returned (.tuple #[.int .i64 (rkL (mS k A) : Nat), .nilIface]) ∧ Below W.heap.size W w') := fun W hb => by
        refine rank_list' k _ A W (intsAt_list (own_under' HL14.out.row hb) fun x hx => ?_) (by omega) ⟨hk1, hc⟩ fun x hx => ?_
        · exact HL14.out.ear.ok.seeds x (by rw [HSd.out]; exact hx)
        · exact HL14.out.ear.ok.seeds x (by rw [HSd.out]; exact hx)
      have HM14 : Hid ((∀ i, M i → i < w14.heap.size) ∧ bk < w14.heap.size ∧ w.heap.size ≤ w14.heap.size) := ⟨HL14.out.ear.lt, HL14.out.blk.lt, HL14.out.below.size⟩
      have hF40 : F.length = A.length := by rw [← HSd.out, sds_len]
      obtain ⟨U, hU⟩ : ∃ U, upL (mS k A) unit k = U := ⟨_, rfl⟩
      rw [hU] at LK hll
      have HU : Hid (∀ u ∈ U, u < k) := fun u hu => by rw [← hU] at hu; exact upL_lt hu
      have HFill : Hid (rkL (mS k A ++ U.map unit) = k) := by rw [← hU]; exact lack_fills (mS_lt hk1 (fun x hx => (HL14.out.ear.ok.seeds x (by rw [HSd.out]; exact hx)).1))
      obtain ⟨rk, hrk⟩ : ∃ rk, rkL (mS k A) = rk := ⟨_, rfl⟩
      rw [hrk] at RK hll
      clear hU hrk
      go_wp2_with fail
      refine (LK.out).mono ?_
      rintro e w15 ⟨vo, rfl, ho, hb15⟩
      have HL15 := hide (HL14.out.grow hb15)
      have HO15 := hide ho
      obtain ⟨aU, cU, rfl⟩ := own_slice ho
      have RK15 := hide (RK.out w15 hb15)
      clear LK RK ho hb15 HL14
      go_wp2_with fail
      refine (RK15.out).mono ?_
      rintro e w16 ⟨rfl, hb16⟩
      have HL16 := hide (HL15.out.grow hb16)
      have HO16 := hide (own_under' HO15.out hb16)
      clear hb16 RK15 HL15 HO15
      have hqn : ((U.length : Int) != (k : Int) - (rk : Int)) = false := by
        have e : (U.length : Int) = (k : Int) - (rk : Int) := by omega
        rw [e]; simp
      have HLU : Hid (Lis w w16 a2 k z t.size dr F M U (.slice aU U.length cU) bk g) := ⟨HL16.out.ear, HL16.out.made, HL16.out.rng, HL16.out.inM, fun i e hi => by
        have := (HO16.out.lt i e).1
        have := HM14.out.1 i hi
        omega, own_base HO16.out HM14.out.2.2, HL16.out.blk, HL16.out.blkM, fun e => by
        have := (HO16.out.lt bk e).1
        have := HM14.out.2.1
        omega, HL16.out.below⟩
      have hUk : U.length ≤ k := by omega
      clear HL16 HO16
      go_wp2_with fail
      go_loopw [27] (fun i wr => ∃ j : Nat, j ≤ U.length ∧ i = .int .i64 j ∧ ∃ (F2 : List Drp) (dr : Int) (M : Nat → Prop), Lis w wr a2 k z t.size dr F2 M U (.slice aU U.length cU) bk g ∧ F2.length ≤ A.length + j ∧ (∀ x ∈ A, x ∈ sds F2) ∧ ∀ i, i < j → U.getD i 0 + 1 ∈ sds F2) (fun i _ => U.length - (intOf i).toNat)
      case atStart => exact ⟨0, Nat.zero_le _, rfl, F, dr, M, HLU.out, by omega, fun x hx => by rw [HSd.out]; exact hx, fun i hi => absurd hi (Nat.not_lt_zero _)⟩
      case round =>
        obtain ⟨j2, hj2, rfl, F2, dr2, M2, hL, hlen, hA2, hU2⟩ := hrel
        have HL2 := hide hL
        have HA2 := hide hA2
        have HU2 := hide hU2
        clear hL hA2 hU2 HLU
        by_cases hlt2 : j2 < U.length
        · obtain ⟨gU, cU2, hvU, hu1, hu2, hu3⟩ := own_lst HL2.out.row (by omega)
          injection hvU with eA _ eC
          subst eA eC
          have hcj := hu3 j2 hlt2
          rw [Nat.zero_add] at hcj
          have huk : U.getD j2 0 < k := HU.out _ (getD_mem hlt2)
          obtain ⟨u, hu⟩ : ∃ u, U.getD j2 0 = u := ⟨_, rfl⟩
          rw [hu] at hcj huk
          obtain ⟨u1, hu1'⟩ : ∃ u1 : Nat, u + 1 = u1 := ⟨_, rfl⟩
          have HUj : Hid (U.getD j2 0 + 1 = u1) := by rw [hu]; exact hu1'
          have MK := hide (make_ok bk 0 k k g u1 wr HL2.out.blk.pos HL2.out.blk.most HL2.out.blk.cells HL2.out.blk.one HL2.out.blk.eight HL2.out.blk.same (by omega) (by omega))
          have e1 : (u : Int) + 1 = (u1 : Int) := by omega
          have hu16 : 1 ≤ u1 ∧ u1 ≤ 16 := by omega
          unfold dropV at MK
          obtain ⟨dd, hdd⟩ : ∃ dd, dropB g k u1 = dd := ⟨_, rfl⟩
          rw [hdd] at MK
          unfold maxLen at hu2
          clear hu hu3 hu1'
          go_wp2_with fail
          refine (MK.out).mono ?_
          rintro e w17 ⟨rfl, hb17⟩
          have HL17 := hide ((HL2.out.grow hb17).grow ((Below.refl _ w17).alloc (Nat.le_refl _) (.cells #[.int .i64 (u1 : Int), .string dd] 33)))
          have HR := hide (HL17.out.hear hz0.out (by omega) u1 (by omega))
          rw [hdd] at HR
          clear hb17 MK hcj
          go_wp2_with fail
          refine (HR.out).mono ?_
          rintro e w18 ⟨kn, dr', M', rfl, hkn, hL18⟩
          have HL18 := hide hL18
          clear hL18 HR HL17 HL2
          have hl18 : (eAdd F2 u1 dd).length ≤ F2.length + 1 := eAdd_len
          have HA18 : Hid (∀ x ∈ A, x ∈ sds (eAdd F2 u1 dd)) := fun x hx => eAdd_sds.2 (Or.inl (HA2.out x hx))
          have HU18 : Hid (∀ i, i < j2 + 1 → U.getD i 0 + 1 ∈ sds (eAdd F2 u1 dd)) := fun i hi => by
            by_cases e : i = j2
            · rw [e, HUj.out]; exact eAdd_sds.2 (Or.inr rfl)
            · exact eAdd_sds.2 (Or.inl (HU2.out i (by omega)))
          generalize eAdd F2 u1 dd = F3 at *
          go_wp2
          go_roundw
          case rel => exact ⟨j2 + 1, by omega, by go_num, F3, dr', M', HL18.out.grow ((Below.refl _ w18).alloc (Nat.le_refl _) _), by omega, HA18.out, HU18.out⟩
          case measure => simp [intOf]; omega
        · obtain rfl : j2 = U.length := by omega
          have hrk : rkL (mS k (sds F2)) = k := by
            have h1 := full_rank HL2.out.ear.ok
            have h2 := rkL_sub (A := mS k A ++ U.map unit) (B := mS k (sds F2)) (fun v hv => by
              rcases List.mem_append.1 hv with hv | hv
              · obtain ⟨x, hx, rfl⟩ := List.mem_map.1 hv
                exact List.mem_map.2 ⟨x, HA2.out x hx, rfl⟩
              · obtain ⟨u, hu, rfl⟩ := List.mem_map.1 hv
                obtain ⟨i, hi, rfl⟩ := List.getElem_of_mem hu
                have h9 := HU2.out i hi
                rw [show U.getD i 0 = U[i] by simp [List.getD, hi]] at h9
                refine List.mem_map.2 ⟨_, h9, ?_⟩
                show maskL (setL k (U[i] + 1)) = unit U[i]
                rw [setL_one (by have := HU.out _ hu; omega), Nat.add_sub_cancel, maskL_unit])
            rw [HFill.out] at h2
            omega
          have DT := hide (data_text HL2.out.ear (by rw [HGG.out]; exact HL2.out.made))
          have DN : Hid (∀ W, Below wr.heap.size wr W → Calls Tryz.prog 8 #[.pointer a2] W fun e w' => e = .returned (.bool true) ∧ Below W.heap.size W w') := fun W hb => by
            have h9 := done_ok (HL2.out.ear.below hb)
            rw [hrk, decide_eq_true rfl] at h9
            exact h9
          have LK : Hid (∀ W, Below wr.heap.size wr W → Calls Tryz.prog 13 #[.pointer a2] W fun e w' => ∃ a c, e = .returned (.slice a 0 c) ∧ Below W.heap.size W w') := fun W hb => by
            have hl := lack_len (L := mS k (sds F2)) (k := k) (mS_lt hk1 fun x hx => (HL2.out.ear.ok.seeds x hx).1)
            rw [hrk] at hl
            refine (elacks_ok (HL2.out.ear.below hb)).mono fun e w' ⟨vo, he, ho, hb2⟩ => ?_
            obtain ⟨a, c, rfl⟩ := own_slice ho
            rw [show (upL (mS k (sds F2)) unit k).length = 0 by omega] at he
            exact ⟨a, c, he, hb2⟩
          have HBw := hide HL2.out.below
          go_wp2_with fail
          refine (DT.out).mono ?_
          rintro e w19 ⟨x, s, rfl, hx, hb19⟩
          obtain ⟨rfl, rfl⟩ : x = 0 ∧ s = t := by
            rcases hx with ⟨_, h1, h2⟩ | ⟨h1, _⟩
            · exact ⟨h1, h2⟩
            · omega
          have ht : Tell 0 = .nilIface := rfl
          rw [ht]
          have hq : (s.toList == s.toList) = true := by simp
          have DN19 := hide (DN.out w19 hb19)
          have HB19 := hide (below_two HBw.out hb19)
          have LK19 := hide (fun W (hb : Below w19.heap.size w19 W) => LK.out W (below_two hb19 hb))
          clear hx hb19 DT DN LK HL2 hrk
          go_wp2_with fail
          refine (DN19.out).mono ?_
          rintro e w20 ⟨rfl, hb20⟩
          have LK20 := hide (LK19.out w20 hb20)
          have HB20 := hide (below_two HB19.out hb20)
          clear hb20 LK19 DN19
          go_wp2_with fail
          refine (LK20.out).mono ?_
          rintro e w21 ⟨aa, cc, rfl, hb21⟩
          have HB21 := hide (below_two HB20.out hb21)
          clear hb21 LK20
          go_wp2
          go_ret
          exact ⟨by first | rfl | simp, HB21.out⟩
end Go.Proofs.YtjgifjkdgoijmaaGreatDoor
