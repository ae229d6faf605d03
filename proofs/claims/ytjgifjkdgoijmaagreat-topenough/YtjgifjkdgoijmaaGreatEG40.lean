/-
  Lemmas for the law above, joined into one text (EarM, TopOne, TopEn). No statement is proved here.
-/
import Derived.Test.YtjgifjkdgoijmaaGreatEG31
import Derived.Test.YtjgifjkdgoijmaaGreatEG39
import Derived.Test.YtjgifjkdgoijmaaGreatEG37
import Derived.Test.YtjgifjkdgoijmaaGreatEG26
namespace Go.Proofs.YtjgifjkdgoijmaaGreat
open Go.RowKit Go.Maps
set_option linter.unusedVariables false
set_option maxRecDepth 100000

theorem rkL_sub {A B : List Nat} (h : ∀ v ∈ A, v ∈ B) : rkL A ≤ rkL B := by
  obtain ⟨C, h1, h2, h3⟩ := rkL_dim A
  have h9 := (rkL_dim B).least h2 fun v hv => Sp.mono h ((h3 v).1 (Sp.mem hv))
  omega
theorem know_one {k s p : Nat} {d : ByteArray} {q : PS} {F : List Drp} (h : Took (setL k) q F) (hm : (s, d) ∈ F) (hs : setL k s = [p]) : q.known p = true := by
  have h9 := h.shut _ hm
  cases e : q.known p with
  | true => rfl
  | false =>
    refine absurd ?_ h9
    show ((setL k s).filter fun r => !q.known r).length = 1
    rw [hs]; simp [e]
theorem knows_one {q : PS} {d : ByteArray} (h : Took (setL 1) q [(1, d)]) : (knows 1 q.known).length = 1 := by
  have h9 := know_one (p := 0) (s := 1) (d := d) h (by simp) (by rw [setL_one (by omega)])
  simp [knows, List.range_succ, h9]
/-- Drops of the blocks g. -/
def Made (g : Nat → ByteArray) (k : Nat) (F : List Drp) : Prop := ∀ d ∈ F, d.2 = dropB g k d.1
theorem made_none (g : Nat → ByteArray) (k : Nat) : Made g k [] := fun d hd => by cases hd
theorem Made.add {g : Nat → ByteArray} {k s : Nat} {F : List Drp} (h : Made g k F) : Made g k (eAdd F s (dropB g k s)) := by
  unfold eAdd
  split
  · exact h
  · intro d hd
    rcases List.mem_append.1 hd with hd | hd
    · exact h d hd
    · rw [List.mem_singleton.1 hd]
theorem eAdd_sds {F : List Drp} {s : Nat} {d : ByteArray} {x : Nat} : x ∈ sds (eAdd F s d) ↔ x ∈ sds F ∨ x = s := by
  unfold eAdd
  split
  · rename_i h
    exact ⟨Or.inl, fun h9 => h9.elim id fun e => e ▸ h⟩
  · rw [sds_add]; simp
theorem eAdd_len {F : List Drp} {s : Nat} {d : ByteArray} : (eAdd F s d).length ≤ F.length + 1 := by
  unfold eAdd
  split <;> simp
/-- What Data tells of drops of a text. -/
def TextOf (k : Nat) (F : List Drp) (t : ByteArray) (x : Int) (s : ByteArray) : Prop := (rkL (mS k (sds F)) = k ∧ x = 0 ∧ s = t) ∨ (rkL (mS k (sds F)) < k ∧ x = 8 ∧ s = ⟨#[]⟩)
theorem data_text {I : PIm0} {w : World} {v : Value} {k z : Nat} {dr : Int} {F : List Drp} {M : Nat → Prop} {t : ByteArray} (h : ESt I w v k z t.size dr F M) (hF : Made (blkB t.data.toList z) k F) :
    Calls Tryz.prog 16 #[v] w fun e w' => ∃ x s, e = .returned (.tuple #[.string s, Tell x]) ∧ TextOf k F t x s ∧ Below w.heap.size w w' :=
  (data_ok h).mono fun e w' ⟨x, s, he, hd, hb⟩ => ⟨x, s, he, (dataOf_made h.ok hF (fun p => blkB_size _ _ _) hd).imp (fun ⟨h1, h2, h3⟩ => ⟨h1, h2, by
    have h9 := back_bytes t z h.ok.nz.1
    rw [h.ok.cnt] at h9
    rw [h3, h9]⟩) id, hb⟩
theorem full_rank {k z n : Nat} {F : List Drp} (h : FOk k z n F) : rkL (mS k (sds F)) ≤ k := rk_le (mS_lt h.nk.1 fun x hx => (h.seeds x hx).1)
/-- A text of one block is there when that was heard. -/
theorem one_fact {z n : Nat} {x : Int} {s d t : ByteArray} (hO : FOk 1 z n [(1, d)]) (ht : ((d.data.toList).take n) = t.data.toList) (h : DataOf 1 z n [(1, d)] x s) : x = 0 ∧ s = t := by
  have hz : d.size = z := (hO.good (1, d) (by simp)).2.2
  have hr : rkL (mS 1 (sds [(1, d)])) = 1 := rk_one (mask_some ⟨by omega, by omega⟩ ⟨by omega, by omega⟩)
  rcases dataOf_made (g := fun _ => d) hO (fun e he => by
    rw [List.mem_singleton.1 he]
    exact (dropB_one (g := fun _ => d) (len := 1) (seed := 1) (by omega) (by omega) rfl).symm) (fun _ => hz) h with ⟨_, h1, h2⟩ | ⟨h1, _⟩
  · refine ⟨h1, ?_⟩
    rw [h2]
    have e : allL (fun _ => d) 1 = d.data.toList := by rw [allL_succ]; simp [allL]
    rw [e, ht]
  · rw [hr] at h1; omega
end Go.Proofs.YtjgifjkdgoijmaaGreat

namespace Go.Proofs.YtjgifjkdgoijmaaGreat
open Go.RowKit Go.Maps
set_option linter.unusedVariables false
set_option maxRecDepth 100000

/-- The Ear is told by a pointer. -/
theorem ESt.ptr {I : PIm0} {w : World} {v : Value} {k z n : Nat} {dr : Int} {F : List Drp} {M : Nat → Prop} (h : ESt I w v k z n dr F M) : ∃ a, v = .pointer a := by
  obtain ⟨b, _, _, _, rfl, _⟩ := h
  exact ⟨_, rfl⟩
theorem wrap_rng (x : Int) : -9223372036854775808 ≤ wrap64 x ∧ wrap64 x ≤ 9223372036854775807 := by unfold wrap64; omega
theorem o_new (w : World) : Calls Tryz.prog 9 #[.int .i64 1, .int .i64 1, .int .i64 1] w fun e w' => ∃ a M, e = .returned (.tuple #[.pointer a, .nilIface]) ∧ ESt peelI0 w' (.pointer a) 1 1 1 0 [] M ∧ (∀ i, M i → w.heap.size ≤ i) ∧ Below w.heap.size w w' :=
  (enew_ok 1 1 1 w (by decide) (by decide) (by decide)).mono fun e w' ⟨v, M, he, hE, hM, hb⟩ => by
    obtain ⟨a, rfl⟩ := hE.ptr
    exact ⟨a, M, he, hE, hM, hb⟩
theorem o_hear {w0 w : World} {a : Option Addr} {M : Nat → Prop} (h : ESt peelI0 w (.pointer a) 1 1 1 0 [] M) (hb : Below w0.heap.size w0 w) (hM : ∀ i, M i → w0.heap.size ≤ i) :
    Calls Tryz.prog 14 #[.pointer a, .agg #[.int .i64 1, .string ⟨#[122]⟩]] w fun e w' => ∃ M', e = .returned (.tuple #[.agg #[.int .i64 1, .int .i64 1, .int .i64 1], .nilIface]) ∧ ESt peelI0 w' (.pointer a) 1 1 1 1 [(1, ⟨#[122]⟩)] M' ∧ Below w0.heap.size w0 w' := by
  refine (hear_from peel_ptr h hb hM 1 ⟨#[122]⟩ (eF_made h.ok (by decide) (by rfl) (by decide)) (by decide)).mono fun e w' ⟨q, M', hT, he, hE, hM', hb', _, _⟩ => ?_
  rw [eAdd_out _ (by simp [sds]), List.nil_append] at hT he hE
  have hw : wrap64 ((0 : Int) + 1) = 1 := by unfold wrap64; omega
  rw [hw] at he hE
  rw [knows_one hT] at he
  exact ⟨M', he, hE, hb'⟩
theorem o_data {w : World} {a : Option Addr} {M : Nat → Prop} (h : ESt peelI0 w (.pointer a) 1 1 1 1 [(1, ⟨#[122]⟩)] M) :
    Calls Tryz.prog 16 #[.pointer a] w fun e w' => e = .returned (.tuple #[.string ⟨#[122]⟩, .nilIface]) ∧ Below w.heap.size w w' :=
  (data_ok h).mono fun e w' ⟨x, s, he, hd, hb⟩ => by
    obtain ⟨rfl, rfl⟩ := one_fact (t := ⟨#[122]⟩) h.ok rfl hd
    exact ⟨he, hb⟩
theorem o_done {w : World} {a : Option Addr} {M : Nat → Prop} (h : ESt peelI0 w (.pointer a) 1 1 1 1 [(1, ⟨#[122]⟩)] M) :
    Calls Tryz.prog 17 #[.pointer a] w fun e w' => e = .returned (.bool true) ∧ Below w.heap.size w w' :=
  (done_ok h).mono fun e w' ⟨he, hb⟩ => by
    have hr : rkL (mS 1 (sds [(1, ByteArray.mk #[122])])) = 1 := rk_one (mask_some ⟨by omega, by omega⟩ ⟨by omega, by omega⟩)
    rw [hr] at he
    exact ⟨he, hb⟩
set_option maxHeartbeats 2000000 in
theorem one_true (w : World) : Calls Tryz.prog 5 #[] w fun e w' => e = .returned (.bool true) ∧ Below w.heap.size w w' := by
  have N := hide (o_new w)
  have HH := hide (fun w1 a M h hb hM => o_hear (w0 := w) (w := w1) (a := a) (M := M) h hb hM)
  have HDT := hide (fun w1 a M h => o_data (w := w1) (a := a) (M := M) h)
  have HDN := hide (fun w1 a M h => o_done (w := w1) (a := a) (M := M) h)
  go_enter Tryz.func5, Tryz.ntmps5
  go_wp2_with fail
  refine (N.out).mono ?_
  rintro e w1 ⟨a1, M1, rfl, hE1, hM1, hb1⟩
  have H1 := hide (HH.out w1 a1 M1 hE1 hb1 hM1)
  clear hE1 hM1 hb1 N HH
  go_wp2_with fail
  refine (H1.out).mono ?_
  rintro e w2 ⟨M2, rfl, hE2, hb2⟩
  have HE2 := hide (hE2.below ((Below.refl _ w2).alloc (Nat.le_refl _) (.cells #[.int .i64 1, .int .i64 1, .int .i64 1] 44)))
  have HB2 := hide (hb2.alloc hb2.size (.cells #[.int .i64 1, .int .i64 1, .int .i64 1] 44))
  have D2 := hide (HDT.out _ a1 M2 HE2.out)
  clear hE2 hb2 H1
  go_wp2_with fail
  refine (D2.out).mono ?_
  rintro e w3 ⟨rfl, hb3⟩
  have HB3 := hide (below_two HB2.out hb3)
  have N3 := hide (HDN.out w3 a1 M2 (HE2.out.below hb3))
  clear hb3 D2 HE2 HDT HDN
  go_wp2_with fail
  refine (N3.out).mono ?_
  rintro e w4 ⟨rfl, hb4⟩
  have HB4 := hide (below_two HB3.out hb4)
  clear hb4
  go_wp2
  go_ret
  exact ⟨by first | rfl | simp, HB4.out⟩
end Go.Proofs.YtjgifjkdgoijmaaGreat

namespace Go.Proofs.YtjgifjkdgoijmaaGreat
open Go.RowKit Go.Maps
set_option linter.unusedVariables false
set_option maxRecDepth 100000

theorem Blks.lt {w : World} {b o len : Nat} {g : Nat → ByteArray} (h : Blks w b o len g) : b < w.heap.size := cell_lt (h.cells 0 h.pos)
theorem Blks.of_block {w w' : World} {b o len : Nat} {g : Nat → ByteArray} (h : Blks w b o len g) (hb : w'.heap[b]? = w.heap[b]?) : Blks w' b o len g :=
  ⟨h.pos, h.most, fun i hi => (World.cell?_of_block (w := w) hb).trans (h.cells i hi), h.one, h.eight, h.same⟩
theorem rkL_set {A B : List Nat} {k : Nat} (h : ∀ x, x ∈ A ↔ x ∈ B) : rkL (mS k A) = rkL (mS k B) := by
  have h1 := rkL_sub (A := mS k A) (B := mS k B) fun v hv => by
    obtain ⟨x, hx, rfl⟩ := List.mem_map.1 hv
    exact List.mem_map.2 ⟨x, (h x).1 hx, rfl⟩
  have h2 := rkL_sub (A := mS k B) (B := mS k A) fun v hv => by
    obtain ⟨x, hx, rfl⟩ := List.mem_map.1 hv
    exact List.mem_map.2 ⟨x, (h x).2 hx, rfl⟩
  omega
/-- Two Ears, and the blocks of two texts. -/
structure Duo (w wr : World) (k z : Nat) (a : Option Addr) (n : Nat) (dr : Int) (F : List Drp) (M : Nat → Prop) (bk : Nat) (g : Nat → ByteArray)
    (a' : Option Addr) (n' : Nat) (dr' : Int) (F' : List Drp) (M' : Nat → Prop) (bk' : Nat) (g' : Nat → ByteArray) : Prop where
  e1 : ESt peelI0 wr (.pointer a) k z n dr F M
  e2 : ESt peelI0 wr (.pointer a') k z n' dr' F' M'
  m1 : Made g k F
  m2 : Made g' k F'
  r1 : -9223372036854775808 ≤ dr ∧ dr ≤ 9223372036854775807
  r2 : -9223372036854775808 ≤ dr' ∧ dr' ≤ 9223372036854775807
  i1 : ∀ i, M i → w.heap.size ≤ i
  i2 : ∀ i, M' i → w.heap.size ≤ i
  ap : ∀ i, M i → ¬ M' i
  b1 : Blks wr bk 0 k g
  b2 : Blks wr bk' 0 k g'
  o1 : ¬ M bk ∧ ¬ M bk'
  o2 : ¬ M' bk ∧ ¬ M' bk'
  below : Below w.heap.size w wr
variable {w wr w' : World} {k z : Nat} {a : Option Addr} {n : Nat} {dr : Int} {F : List Drp} {M : Nat → Prop} {bk : Nat} {g : Nat → ByteArray} {a' : Option Addr} {n' : Nat} {dr' : Int} {F' : List Drp} {M' : Nat → Prop} {bk' : Nat} {g' : Nat → ByteArray}
theorem Duo.grow (h : Duo w wr k z a n dr F M bk g a' n' dr' F' M' bk' g') (hb : Below wr.heap.size wr w') : Duo w w' k z a n dr F M bk g a' n' dr' F' M' bk' g' :=
  ⟨h.e1.below hb, h.e2.below hb, h.m1, h.m2, h.r1, h.r2, h.i1, h.i2, h.ap, h.b1.below hb, h.b2.below hb, h.o1, h.o2, below_two h.below hb⟩
theorem Duo.swap (h : Duo w wr k z a n dr F M bk g a' n' dr' F' M' bk' g') : Duo w wr k z a' n' dr' F' M' bk' g' a n dr F M bk g :=
  ⟨h.e2, h.e1, h.m2, h.m1, h.r2, h.r1, h.i2, h.i1, fun i h1 h2 => h.ap i h2 h1, h.b2, h.b1, ⟨h.o2.2, h.o2.1⟩, ⟨h.o1.2, h.o1.1⟩, h.below⟩
/-- The first hears a drop of its blocks. -/
theorem Duo.hear (h : Duo w wr k z a n dr F M bk g a' n' dr' F' M' bk' g') (hz : (g 0).size = z) (hl : F.length < 60) (s : Nat) (hs : 1 ≤ s ∧ s ≤ 10000) :
    Calls Tryz.prog 14 #[.pointer a, .agg #[.int .i64 s, .string (dropB g k s)]] wr fun e w' => ∃ (kn m : Nat) (d2 : Int) (M2 : Nat → Prop), e = .returned (.tuple #[.agg #[.int .i64 d2, .int .i64 m, .int .i64 kn], .nilIface]) ∧ Duo w w' k z a n d2 (eAdd F s (dropB g k s)) M2 bk g a' n' dr' F' M' bk' g' ∧ Kept M wr w' ∧ ∀ i, M2 i → M i ∨ wr.heap.size ≤ i :=
  (hear_from peel_ptr h.e1 h.below h.i1 s (dropB g k s) (eF_made h.e1.ok hs (by rw [dropB_size, hz]) hl) h.r1).mono fun e w' ⟨q, M2, hT, he, hE, hM', hb', hk, hf⟩ =>
    ⟨_, _, _, M2, he, ⟨hE, h.e2.kept hk fun i h2 h1 => h.ap i h1 h2, h.m1.add, h.m2, wrap_rng _, h.r2, hM', h.i2, fun i hi h2 => (hf i hi).elim (fun e => h.ap i e h2) fun e => by have := h.e2.lt i h2; omega,
      h.b1.of_block (hk.block _ h.b1.lt h.o1.1), h.b2.of_block (hk.block _ h.b2.lt h.o1.2), ⟨fun hi => (hf _ hi).elim h.o1.1 fun e2 => by have := h.b1.lt; omega, fun hi => (hf _ hi).elim h.o1.2 fun e2 => by have := h.b2.lt; omega⟩, h.o2, hb'⟩, hk, hf⟩
set_option maxHeartbeats 8000000 in
theorem enough_walk {w : World} (t : ByteArray) (wt : t.size ≤ maxLen) (u : ByteArray) (wu : u.size ≤ maxLen) (zi : Int) (v : Value) (len : Nat) (f : Nat → Int) (hv : IntsAt w v len f) :
    Calls Tryz.prog 4 #[.string t, .string u, .int .i64 zi, v] w fun e w' => e = .returned (.bool true) ∧ Below w.heap.size w w' := by
  have O := hide (one_true w)
  have HST := hide (split_ways t zi wt)
  have HSU := hide (split_ways u zi wu)
  have HV := hide hv
  obtain ⟨av, capv, rfl, hv0⟩ := hv.open
  have HV0 := hide hv0
  clear hv hv0
  go_enter Tryz.func4, Tryz.ntmps4
  go_wp2_with fail
  refine (O.out).mono ?_
  rintro e w1 ⟨rfl, hb1⟩
  have HB1 := hide hb1
  clear hb1 O
  rcases HST.out with ⟨x, hx⟩ | ⟨z, hz, h1, h8, h120, hc, hS⟩
  · rcases HSU.out with ⟨y, hy⟩ | ⟨z', hz', _, _, _, _, hS'⟩
    · have S := hide (hx w1)
      have S' := hide (hy w1)
      clear hx hy HST HSU
      go_wp2_with fail
      refine (S.out).mono ?_
      rintro e w2 ⟨rfl, rfl⟩
      go_wp2_with fail
      refine (S'.out).mono ?_
      rintro e w3 ⟨rfl, rfl⟩
      go_wp2
      go_ret
      exact ⟨rfl, HB1.out⟩
    · subst hz'
      have S := hide (hx w1)
      have S' := hide (hS' w1)
      clear hx hS' HST HSU
      go_wp2_with fail
      refine (S.out).mono ?_
      rintro e w2 ⟨rfl, rfl⟩
      go_wp2_with fail
      refine (S'.out).mono ?_
      rintro e w3 ⟨rfl, _, hb3⟩
      have HB3 := hide (below_two HB1.out hb3)
      clear hb3
      go_wp2
      go_ret
      exact ⟨rfl, HB3.out⟩
  subst hz
  have S := hide (hS w1)
  obtain ⟨k, hk⟩ : ∃ k, cntN t.size z = k := ⟨_, rfl⟩
  obtain ⟨g, hgg⟩ : ∃ g, blkB t.data.toList z = g := ⟨_, rfl⟩
  have HK := hide hk
  have HGG := hide hgg
  have hz0 : Hid ((g 0).size = z) := by rw [← hgg]; exact blkB_size _ _ _
  rw [hk, hgg] at S
  rw [hk] at hc
  have hk1 : 1 ≤ k := by rw [← hk]; unfold cntN; omega
  clear hk hgg hS HST
  go_wp2_with fail
  refine (S.out).mono ?_
  rintro e w2 ⟨rfl, hB, hb2⟩
  have HB2 := hide (below_two HB1.out hb2)
  have HBk := hide hB
  clear hB hb2 S
  rcases HSU.out with ⟨y, hy⟩ | ⟨z', hz', _, _, hu120, hc', hS'⟩
  · have S' := hide (hy w2)
    clear hy HSU
    go_wp2_with fail
    refine (S'.out).mono ?_
    rintro e w3 ⟨rfl, rfl⟩
    go_wp2
    go_ret
    exact ⟨rfl, HB2.out⟩
  obtain rfl : z = z' := by omega
  have S' := hide (hS' w2)
  clear hS' HSU
  obtain ⟨k', hk'⟩ : ∃ k', cntN u.size z = k' := ⟨_, rfl⟩
  obtain ⟨g', hgg'⟩ : ∃ g', blkB u.data.toList z = g' := ⟨_, rfl⟩
  have HK' := hide hk'
  have HGG' := hide hgg'
  have hz0' : Hid ((g' 0).size = z) := by rw [← hgg']; exact blkB_size _ _ _
  rw [hk', hgg'] at S'
  rw [hk'] at hc'
  clear hk' hgg'
  go_wp2_with fail
  refine (S'.out).mono ?_
  rintro e w3 ⟨rfl, hB', hb3⟩
  have HB3 := hide (below_two HB2.out hb3)
  have HBk' := hide hB'
  have HBk3 := hide (HBk.out.below hb3)
  clear hB' hb3 S' HBk
  by_cases hkk : ¬ k = k'
  · have hq : ((k : Int) != (k' : Int)) = true := by rw [bne_iff_ne]; omega
    go_wp2
    go_ret
    exact ⟨by first | rfl | simp, HB3.out⟩
  have hkk' : k = k' := Classical.not_not.1 hkk
  subst hkk'
  clear hkk
  have hq : ((k : Int) != (k : Int)) = false := by simp
  have NW := hide (fun W => enew_ok k z t.size W ⟨⟨hk1, hc⟩, h1, h8⟩ h120 HK.out)
  have NW' := hide (fun W => enew_ok k z u.size W ⟨⟨hk1, hc⟩, h1, h8⟩ hu120 HK'.out)
  go_wp2_with fail
  refine (NW.out _).mono ?_
  rintro e w4 ⟨v4, M, rfl, hE, hM, hb4⟩
  obtain ⟨a1, rfl⟩ := hE.ptr
  have HE4 := hide hE
  have HM4 := hide hM
  have HB4 := hide (below_two HB3.out hb4)
  have HBA := hide (HBk3.out.below hb4)
  have HBB := hide (HBk'.out.below hb4)
  have HSz : Hid (w1.heap.size < w3.heap.size ∧ w2.heap.size < w3.heap.size) := ⟨HBk3.out.lt, HBk'.out.lt⟩
  clear hE hM hb4 NW HBk3 HBk'
  go_wp2_with fail
  refine (NW'.out _).mono ?_
  rintro e w5 ⟨v5, M', rfl, hE', hM', hb5⟩
  obtain ⟨a2, rfl⟩ := hE'.ptr
  have HD : Hid (Duo w w5 k z a1 t.size 0 [] M w1.heap.size g a2 u.size 0 [] M' w2.heap.size g') := ⟨HE4.out.below hb5, hE', made_none _ _, made_none _ _, by decide, by decide, fun i hi => Nat.le_trans HB3.out.size (HM4.out i hi), fun i hi => Nat.le_trans HB4.out.size (hM' i hi), fun i h1 h2 => by
    have := HE4.out.lt i h1; have := hM' i h2; omega, HBA.out.below hb5, HBB.out.below hb5, ⟨fun hi => by have := HM4.out _ hi; have := HSz.out.1; omega, fun hi => by have := HM4.out _ hi; have := HSz.out.2; omega⟩, ⟨fun hi => by have := hM' _ hi; have := HBA.out.lt; omega, fun hi => by have := hM' _ hi; have := HBB.out.lt; omega⟩, below_two HB4.out hb5⟩
  clear hE' hM' hb5 NW' HE4 HM4 HBA HBB HSz
  obtain ⟨bk, hbk⟩ : ∃ bk, w1.heap.size = bk := ⟨_, rfl⟩
  obtain ⟨bk', hbk'⟩ : ∃ bk, w2.heap.size = bk := ⟨_, rfl⟩
  rw [hbk, hbk'] at HD
  by_cases hf : fS k len f ≠ 0
  · have R := hide (rank_bad (k := k) (HV.out.below (w' := w5) HD.out.below) hf)
    generalize fS k len f = x at *
    have HB5 := hide HD.out.below
    clear HD
    go_wp2_with fail
    refine (R.out).mono ?_
    rintro e w6 ⟨rfl, rfl⟩
    go_wp2
    go_ret
    exact ⟨rfl, HB5.out⟩
  have hf0 : fS k len f = 0 := Classical.not_not.1 hf
  obtain ⟨hl, hkk, hs⟩ := fS_ok hf0
  obtain ⟨s, hsf⟩ : ∃ s : Nat → Nat, s = fun i => (f i).toNat := ⟨_, rfl⟩
  have hs2 : Hid (∀ i, i < len → f i = (s i : Int) ∧ 1 ≤ s i ∧ s i ≤ 10000) := fun i hi => by
    have := hs i hi
    subst hsf
    show f i = ((f i).toNat : Int) ∧ 1 ≤ (f i).toNat ∧ (f i).toNat ≤ 10000
    omega
  have RK := hide (rank_ok k (.slice av len capv) len s w5 ((HV.out.below HD.out.below).congr fun i hi => (hs2.out i hi).1) hl hk1 hc (fun j hj => (hs2.out j hj).2))
  clear hf hf0 hs hsf hkk
  go_wp2_with fail
  refine (RK.out).mono ?_
  rintro e w6 ⟨r, rfl, hdim, _, hb6⟩
  have HR := hide (rkL_eq hdim)
  have HD6 := hide (HD.out.grow hb6)
  clear hdim hb6 RK HD hbk hbk'
  go_wp2_with fail
  go_loopw [18] (fun i wr => ∃ j : Nat, j ≤ len ∧ i = .int .i64 j ∧ ∃ (dr : Int) (F : List Drp) (M : Nat → Prop) (dr' : Int) (F' : List Drp) (M' : Nat → Prop), Duo w wr k z a1 t.size dr F M bk g a2 u.size dr' F' M' bk' g' ∧ F.length ≤ j ∧ F'.length ≤ j ∧ (∀ x, x ∈ sds F ↔ ∃ i, i < j ∧ s i = x) ∧ ∀ x, x ∈ sds F' ↔ ∃ i, i < j ∧ s (len - 1 - i) = x) (fun i _ => len - (intOf i).toNat)
  case atStart => exact ⟨0, Nat.zero_le _, rfl, 0, [], M, 0, [], M', HD6.out, by simp, by simp, fun x => ⟨(fun h => by cases h), fun ⟨i, hi, _⟩ => absurd hi (Nat.not_lt_zero _)⟩, fun x => ⟨(fun h => by cases h), fun ⟨i, hi, _⟩ => absurd hi (Nat.not_lt_zero _)⟩⟩
  case round =>
    obtain ⟨j, hj, rfl, dr, F, M, dr', F', M', hD, hF, hF', hm, hm'⟩ := hrel
    have HDr := hide hD
    have HM := hide hm
    have HM' := hide hm'
    clear hD hm hm' HD6
    by_cases hlt : j < len
    · obtain ⟨bs, os, rfl, hcs1, hcs2, hcs3⟩ := HV0.out (by omega)
      obtain ⟨q, hq'⟩ : ∃ q : Nat, len - 1 - j = q := ⟨_, rfl⟩
      have e1 : (len : Int) - 1 - (j : Int) = (q : Int) := by omega
      have hql : q < len := by omega
      have hcj := hcs3 j hlt
      have hcq := hcs3 q hql
      rw [(hs2.out j hlt).1] at hcj
      rw [(hs2.out q hql).1] at hcq
      have hn1 := (hs2.out j hlt).2
      have hn2 := (hs2.out q hql).2
      unfold maxLen at hcs2
      obtain ⟨n1, hn1'⟩ : ∃ n, s j = n := ⟨_, rfl⟩
      obtain ⟨n2, hn2'⟩ : ∃ n, s q = n := ⟨_, rfl⟩
      rw [hn1'] at hcj hn1
      rw [hn2'] at hcq hn2
      obtain ⟨d1, hd1⟩ : ∃ d, dropB g k n1 = d := ⟨_, rfl⟩
      obtain ⟨d2, hd2⟩ : ∃ d, dropB g' k n2 = d := ⟨_, rfl⟩
      have HN1 : Hid (∀ x, x ∈ sds (eAdd F n1 d1) ↔ ∃ i, i < j + 1 ∧ s i = x) := fun x => by
        rw [eAdd_sds, HM.out]
        constructor
        · rintro (⟨i, hi, rfl⟩ | rfl)
          · exact ⟨i, by omega, rfl⟩
          · exact ⟨j, by omega, hn1'⟩
        · rintro ⟨i, hi, rfl⟩
          by_cases e : i = j
          · rw [e]; exact Or.inr hn1'
          · exact Or.inl ⟨i, by omega, rfl⟩
      have HN2 : Hid (∀ x, x ∈ sds (eAdd F' n2 d2) ↔ ∃ i, i < j + 1 ∧ s (len - 1 - i) = x) := fun x => by
        rw [eAdd_sds, HM'.out]
        constructor
        · rintro (⟨i, hi, rfl⟩ | rfl)
          · exact ⟨i, by omega, rfl⟩
          · exact ⟨j, by omega, by rw [hq']; exact hn2'⟩
        · rintro ⟨i, hi, rfl⟩
          by_cases e : i = j
          · rw [e, hq']; exact Or.inr hn2'
          · exact Or.inl ⟨i, by omega, rfl⟩
      have hL1 : (eAdd F n1 d1).length ≤ F.length + 1 := eAdd_len
      have hL2 : (eAdd F' n2 d2).length ≤ F'.length + 1 := eAdd_len
      have HCj := hide hcj
      have HCq := hide hcq
      have hcj1 := cell_below HDr.out.below hcj
      have hMlt : Hid ((∀ i, M i → i < wr.heap.size) ∧ ∀ i, M' i → i < wr.heap.size) := ⟨HDr.out.e1.lt, HDr.out.e2.lt⟩
      have MK := hide (make_ok bk 0 k k g n1 wr HDr.out.b1.pos HDr.out.b1.most HDr.out.b1.cells HDr.out.b1.one HDr.out.b1.eight HDr.out.b1.same hn1.1 hn1.2)
      have MK' := hide (fun W (h : Blks W bk' 0 k g') => make_ok bk' 0 k k g' n2 W h.pos h.most h.cells h.one h.eight h.same hn2.1 hn2.2)
      unfold dropV at MK MK'
      rw [hd1] at MK
      rw [hd2] at MK'
      clear hcs3 hn1' hn2' hq' hcj hcq HM HM'
      go_wp2_with fail
      refine (MK.out).mono ?_
      rintro e w7 ⟨rfl, hb7⟩
      have HD8 := hide ((HDr.out.grow hb7).grow ((Below.refl _ w7).alloc (Nat.le_refl _) (.cells #[.int .i64 (n1 : Nat), .string d1] 37)))
      have HI8 := hide (dropIn_new w7 (n1 : Nat) d1)
      have hcq8 := cell_below HD8.out.below HCq.out
      have hsz7 := hb7.size
      have hsz8 : w7.heap.size < (w7.alloc (.cells #[.int .i64 (n1 : Nat), .string d1] 37)).heap.size := by simp
      clear hb7 MK hcj1
      go_wp2_with fail
      generalize w7.alloc (.cells #[.int .i64 (n1 : Nat), .string d1] 37) = w8 at *
      refine (MK'.out w8 HD8.out.b2).mono ?_
      rintro e w9 ⟨rfl, hb9⟩
      have hba9 : Below w9.heap.size w9 (w9.alloc (.cells #[.int .i64 (n2 : Nat), .string d2] 37)) := (Below.refl _ w9).alloc (Nat.le_refl _) _
      have HD10 := hide ((HD8.out.grow hb9).grow hba9)
      have HI10 := hide ((HI8.out.below hb9).below hba9)
      have HJ10 := hide (dropIn_new w9 (n2 : Nat) d2)
      have hsz9 : w8.heap.size ≤ w9.heap.size := hb9.size
      have hsz10 : w9.heap.size < (w9.alloc (.cells #[.int .i64 (n2 : Nat), .string d2] 37)).heap.size := by simp
      have HR := hide (HD10.out.hear hz0.out (by omega) n1 hn1)
      rw [hd1] at HR
      obtain ⟨⟨cs1, _⟩, cd1, _⟩ := HI10.out
      simp only [Nat.zero_add] at cd1
      clear hb9 hba9 MK' HD8 HI8 hcq8 HDr
      go_wp2_with fail
      generalize w9.alloc (.cells #[.int .i64 (n2 : Nat), .string d2] 37) = w10 at *
      refine (HR.out).mono ?_
      rintro e w11 ⟨kn, m, dx, M2, rfl, hD11, hk11, hM2⟩
      have hba11 : Below w11.heap.size w11 (w11.alloc (.cells #[.int .i64 dx, .int .i64 m, .int .i64 kn] 44)) := (Below.refl _ w11).alloc (Nat.le_refl _) _
      have HD12 := hide (hD11.grow hba11)
      have HJ12 := hide ((HJ10.out.kept hk11 (fun hi => by have := hMlt.out.1 _ hi; omega)).below hba11)
      have HR2 := hide (HD12.out.swap.hear hz0'.out (by omega) n2 hn2)
      rw [hd2] at HR2
      obtain ⟨⟨cs2, _⟩, cd2, _⟩ := HJ12.out
      simp only [Nat.zero_add] at cd2
      clear hD11 hk11 hM2 hba11 HR HJ10 HI10 HD10 cs1 cd1
      go_wp2_with fail
      generalize w11.alloc (.cells #[.int .i64 dx, .int .i64 m, .int .i64 kn] 44) = w12 at *
      refine (HR2.out).mono ?_
      rintro e w13 ⟨kn', m', dx', M2', rfl, hD13, _, _⟩
      have HD13 := hide (hD13.swap.grow ((Below.refl _ w13).alloc (Nat.le_refl _) (.cells #[.int .i64 dx', .int .i64 m', .int .i64 kn'] 44)))
      clear hD13 HR2 HJ12 HD12 cs2 cd2
      generalize eAdd F n1 d1 = F2 at *
      generalize eAdd F' n2 d2 = F2' at *
      go_wp2
      go_roundw
      case rel => exact ⟨j + 1, by omega, by go_num, dx, F2, M2, dx', F2', M2', HD13.out, by omega, by omega, HN1.out, HN2.out⟩
      case measure => simp [intOf]; omega
    · obtain rfl : j = len := by omega
      have hr1 : rkL (mS k (sds F)) = r := by
        have h9 := HR.out
        have e : masksD k s j = mS k ((List.range j).map s) := by unfold masksD mS; rw [List.map_map]; rfl
        rw [e] at h9
        rw [← h9]
        exact rkL_set fun x => by rw [HM.out]; simp
      have hr2 : rkL (mS k (sds F')) = r := by
        rw [← hr1]
        refine rkL_set fun x => ?_
        rw [HM.out, HM'.out]
        constructor
        · rintro ⟨i, hi, rfl⟩; exact ⟨j - 1 - i, by omega, rfl⟩
        · rintro ⟨i, hi, rfl⟩; exact ⟨j - 1 - i, by omega, by congr 1; omega⟩
      have hrk : r ≤ k := by rw [← hr1]; exact full_rank HDr.out.e1.ok
      have DN1 : Hid (∀ W, Below wr.heap.size wr W → Calls Tryz.prog 17 #[.pointer a1] W fun e w' => e = .returned (.bool (decide (r = k))) ∧ Below W.heap.size W w') := fun W hb => by
        have h9 := done_ok (HDr.out.e1.below hb)
        rw [hr1] at h9
        exact h9
      have DN2 : Hid (∀ W, Below wr.heap.size wr W → Calls Tryz.prog 17 #[.pointer a2] W fun e w' => e = .returned (.bool (decide (r = k))) ∧ Below W.heap.size W w') := fun W hb => by
        have h9 := done_ok (HDr.out.e2.below hb)
        rw [hr2] at h9
        exact h9
      have DT1 : Hid (∀ W, Below wr.heap.size wr W → Calls Tryz.prog 16 #[.pointer a1] W fun e w' => ∃ x s, e = .returned (.tuple #[.string s, Tell x]) ∧ ((r = k ∧ x = 0 ∧ s = t) ∨ r < k) ∧ Below W.heap.size W w') := fun W hb => by
        refine (data_text (t := t) (HDr.out.e1.below hb) (by rw [HGG.out]; exact HDr.out.m1)).mono fun e w' ⟨x, s, he, hx, hb⟩ => ⟨x, s, he, ?_, hb⟩
        unfold TextOf at hx
        rw [hr1] at hx
        exact hx.imp id fun h => h.1
      have DT2 : Hid (∀ W, Below wr.heap.size wr W → Calls Tryz.prog 16 #[.pointer a2] W fun e w' => ∃ x s, e = .returned (.tuple #[.string s, Tell x]) ∧ ((r = k ∧ x = 0 ∧ s = u) ∨ r < k) ∧ Below W.heap.size W w') := fun W hb => by
        refine (data_text (t := u) (HDr.out.e2.below hb) (by rw [HGG'.out]; exact HDr.out.m2)).mono fun e w' ⟨x, s, he, hx, hb⟩ => ⟨x, s, he, ?_, hb⟩
        unfold TextOf at hx
        rw [hr2] at hx
        exact hx.imp id fun h => h.1
      have HBw := hide HDr.out.below
      clear hr1 hr2 HM HM' HDr HR
      by_cases hfull : r = k
      · subst hfull
        have hqq : ((r : Int) == (r : Int)) = true := by simp
        rw [decide_eq_true rfl] at DN1 DN2
        go_wp2_with fail
        refine (DN1.out _ (Below.refl _ _)).mono ?_
        rintro e w7 ⟨rfl, hb7⟩
        have HB7 := hide hb7
        clear hb7
        go_wp2_with fail
        refine (DN2.out _ HB7.out).mono ?_
        rintro e w8 ⟨rfl, hb8⟩
        have HB8 := hide (below_two HB7.out hb8)
        clear hb8
        go_wp2_with fail
        refine (DN1.out _ HB8.out).mono ?_
        rintro e w9 ⟨rfl, hb9⟩
        have HB9 := hide (below_two HB8.out hb9)
        clear hb9
        go_wp2_with fail
        refine (DT1.out _ HB9.out).mono ?_
        rintro e w10 ⟨x, sx, rfl, hx, hb10⟩
        obtain ⟨rfl, rfl⟩ : x = 0 ∧ sx = t := hx.elim (fun h => ⟨h.2.1, h.2.2⟩) fun h => by omega
        have HB10 := hide (below_two HB9.out hb10)
        have ht : Tell 0 = .nilIface := rfl
        rw [ht]
        clear hx hb10
        go_wp2_with fail
        refine (DT2.out _ HB10.out).mono ?_
        rintro e w11 ⟨y, sy, rfl, hy, hb11⟩
        obtain ⟨rfl, rfl⟩ : y = 0 ∧ sy = u := hy.elim (fun h => ⟨h.2.1, h.2.2⟩) fun h => by omega
        have HB11 := hide (below_two HB10.out hb11)
        rw [ht]
        have hq1 : (sx.toList == sx.toList) = true := by simp
        have hq2 : (sy.toList == sy.toList) = true := by simp
        clear hy hb11 ht
        go_wp2
        go_ret
        exact ⟨by first | rfl | simp, below_two HBw.out HB11.out⟩
      · have hqq : ((r : Int) == (k : Int)) = false := by rw [beq_eq_false_iff_ne]; omega
        rw [decide_eq_false hfull] at DN1 DN2
        have hlt2 : r < k := by omega
        clear hfull
        go_wp2_with fail
        refine (DN1.out _ (Below.refl _ _)).mono ?_
        rintro e w7 ⟨rfl, hb7⟩
        have HB7 := hide hb7
        clear hb7
        go_wp2_with fail
        refine (DN2.out _ HB7.out).mono ?_
        rintro e w8 ⟨rfl, hb8⟩
        have HB8 := hide (below_two HB7.out hb8)
        clear hb8
        go_wp2_with fail
        refine (DN1.out _ HB8.out).mono ?_
        rintro e w9 ⟨rfl, hb9⟩
        have HB9 := hide (below_two HB8.out hb9)
        clear hb9
        go_wp2
        go_ret
        exact ⟨by first | rfl | simp, below_two HBw.out HB9.out⟩
end Go.Proofs.YtjgifjkdgoijmaaGreat
