/-
  Lemmas for the law above, joined into one text (REarD, EarM, RkN, RkReg). No statement is proved here.
-/
import Derived.Test.YtjgifjkdgoijmaaGreatDoorYG27
import Derived.Test.YtjgifjkdgoijmaaGreatDoorYG34
import Derived.Test.YtjgifjkdgoijmaaGreatDoorYRSolve
import Derived.Test.YtjgifjkdgoijmaaGreatDoorYRClr
import Derived.Test.YtjgifjkdgoijmaaGreatDoorYG26
import Derived.Test.YtjgifjkdgoijmaaGreatDoorYG25
import Derived.Test.YtjgifjkdgoijmaaGreatDoorYG35
import Derived.Test.YtjgifjkdgoijmaaGreatDoorYG36
namespace Go.Proofs.YtjgifjkdgoijmaaGreatDoor
open Go.RowKit Go.Maps
set_option linter.unusedVariables false
set_option maxRecDepth 100000

/-- What the document's Solve has answered: a slice, a fault's number. -/
def RSolvedV (L : List RV) (k z : Nat) (w' : World) (a : Option Addr) (m c : Nat) (x : Int) : Prop :=
  (Clash L ∧ x = 7) ∨ (¬ Clash L ∧ (∃ r, r < k ∧ Dim (Sp XN (L.map Prod.fst)) r) ∧ x = 8) ∨
  (¬ Clash L ∧ Dim (Sp XN (L.map Prod.fst)) k ∧ x = 0 ∧ m = k ∧ ∃ G : Nat → ByteArray, StrsIn w' (.slice a m c) k G ∧ ∀ p, p < k → (G p).size = z ∧ Sp XV L (rv (2 ^ p) (G p)))
theorem rsolved_v {L : List RV} {k z : Nat} {e : Ending} {w' : World} (h : RSolved L k z e w') : ∃ a m c x, e = .returned (.tuple #[.slice a m c, .int .i64 x]) ∧ RSolvedV L k z w' a m c x := by
  rcases h with ⟨h1, h2⟩ | ⟨h1, h2, h3⟩ | ⟨h1, h2, v, G, h3, h4, h5⟩
  · exact ⟨none, 0, 0, 7, h2, Or.inl ⟨h1, rfl⟩⟩
  · exact ⟨none, 0, 0, 8, h3, Or.inr (Or.inl ⟨h1, h2, rfl⟩)⟩
  · have h4' := h4
    rcases h4 with ⟨h0, a, cap, rfl⟩ | ⟨h0, b, o, cap, rfl, hc⟩
    · exact ⟨_, _, _, 0, h3, Or.inr (Or.inr ⟨h1, h2, rfl, h0.symm, G, h4', h5⟩)⟩
    · exact ⟨_, _, _, 0, h3, Or.inr (Or.inr ⟨h1, h2, rfl, rfl, G, h4', h5⟩)⟩
theorem bytes_app (l : List UInt8) (b : ByteArray) : (ByteArray.mk l.toArray) ++ b = ⟨(l ++ b.data.toList).toArray⟩ := by
  apply ByteArray.ext
  rw [ByteArray.data_append]
  simp
theorem allL_le {G : Nat → ByteArray} {z mo : Nat} (h : ∀ i, i < mo → (G i).size = z) (hz : z ≤ 8) (hm : mo ≤ 16) {j : Nat} (hj : j ≤ mo) : (ByteArray.mk (allL G j).toArray).size ≤ 128 := by
  rw [Lib.size_eq, List.toList_toArray, allL_length G z j (fun i hi => h i (by omega))]
  have := Nat.mul_le_mul (show j ≤ 16 by omega) hz
  omega
set_option maxHeartbeats 4000000 in
theorem rdata_ok {w : World} {v : Value} {k z n : Nat} {dr : Int} {F : List Drp} {M : Nat → Prop} (h : RESt w v k z n dr F M) :
    Calls Tryz.prog 19 #[v] w fun e w' => ∃ x s, e = .returned (.tuple #[.string s, .int .i64 x]) ∧ DataOf k z n F x s ∧ Below w.heap.size w w' := by
  obtain ⟨b, bp, vF, vL, vT, p, rfl, hE, hT, hO, _⟩ := h
  have SO := hide (fun W (hb : Below w.heap.size w W) => rsolve_ok clearOk k z vF F.length (fun i => (sds F).getD i 0) (fun i => (dAt F i).2) W (own_dropsAt2 (hE.below hb).row (fun d hd => by have := hO.good d hd; have := hO.nz; omega)) hO.solves)
  have hck := hE.ck
  have hcz := hE.cz
  have hcn := hE.cn
  have hcf := hE.cf
  have hbl := hE.blt
  have HO := hide hO
  obtain ⟨aF, cF, rfl, hF1, hF2, _⟩ := own_drops hE.row
  have h120 := hO.nn
  have hk16 := hO.nk
  clear hE hT hO
  go_enter Tryz.func19, Tryz.ntmps19
  go_wp2_with fail
  go_region_held3 (fun w' => w'.cell? ⟨b, 0, none⟩ = some (.int .i64 k) ∧ w'.cell? ⟨b, 1, none⟩ = some (.int .i64 z) ∧ w'.cell? ⟨b, 5, none⟩ = some (.slice aF F.length cF)) (first | go_keep | exact ⟨cell_below HB1.out hck, cell_below HB1.out hcz, cell_below HB1.out hcf⟩)
    (first | (go_at_call 51; refine (SO.out w.drew ⟨rfl, rfl, rfl, Nat.le_refl _, fun _ _ => rfl⟩).mono ?_; rintro e w1 ⟨hs, hb1⟩; obtain ⟨ao, mo, co, x, rfl, hs2⟩ := rsolved_v hs; have HB1 : Hid (Below w.heap.size w w1) := ⟨hb1.os, hb1.tape, hb1.output, hb1.size, hb1.block⟩; have HS := hide hs2; clear hs hs2))
  clear hb1 SO
  rcases HS.out with ⟨h1, rfl⟩ | ⟨h1, h2, rfl⟩ | ⟨h1, h2, rfl, hmk, G, h3, h4⟩
  · have H1 := hide h1
    clear h1
    go_wp2
    go_ret2
    exact ⟨7, _, rfl, Or.inl ⟨H1.out, rfl, rfl⟩, HB1.out⟩
  · have H1 := hide h1
    have H2 := hide h2
    clear h1 h2
    go_wp2
    go_ret2
    exact ⟨8, _, rfl, Or.inr (Or.inl ⟨H1.out, H2.out, rfl, rfl⟩), HB1.out⟩
  · have H1 := hide h1
    have H2 := hide h2
    have H4 := hide h4
    have hge := cnt_ge n z HO.out.nz.1
    rw [HO.out.cnt] at hge
    have hz8 := HO.out.nz.2
    have hcn1 := cell_below HB1.out hcn
    rcases h3 with ⟨h0, _⟩ | ⟨h0, bo, oo, co2, hv, hc⟩
    · have := hk16.1; omega
    injection hv with e1 e2 e3
    subst e1 e2 e3
    have HC := hide hc
    have hal := allL_length G z mo (fun i hi => (H4.out i hi).1)
    clear h1 h2 h4 hc hmk
    go_wp2
    go_loop [6, 7] (fun s i => ∃ j : Nat, j ≤ mo ∧ i = .int .i64 j ∧ s = .string ⟨(allL G j).toArray⟩) (fun _ i => mo - (intOf i).toNat)
    case atStart => exact ⟨0, Nat.zero_le _, rfl, rfl⟩
    case round =>
      obtain ⟨j, hj, rfl, rfl⟩ := hrel
      by_cases hlt : j < mo
      · have hcj := HC.out j hlt
        have hs1 := allL_le (fun i hi => (H4.out i hi).1) hz8 hk16.2 hj
        have hs2 := (H4.out j hlt).1
        have hs3 := allL_le (fun i hi => (H4.out i hi).1) hz8 hk16.2 (show j + 1 ≤ mo by omega)
        have hap : ByteArray.mk (allL G j).toArray ++ G j = ⟨(allL G (j + 1)).toArray⟩ := by rw [bytes_app, allL_succ]
        have HAp := hide hap
        clear hap
        generalize hsa : ByteArray.mk (allL G j).toArray = sa at *
        generalize hsg : G j = sg at *
        have hsum : sa.size + sg.size ≤ 136 := by omega
        clear hsa hsg
        go_wp2
        go_round
        case rel => exact ⟨j + 1, by omega, by go_num, by rw [HAp.out]⟩
        case measure => simp [intOf]; omega
      · obtain rfl : j = mo := by omega
        have hsz : (ByteArray.mk (allL G j).toArray).size = j * z := by rw [← hal]; rfl
        have hn1 : n ≤ (ByteArray.mk (allL G j).toArray).size := by rw [hsz]; exact hge
        go_wp2
        rw [extract_take]
        go_ret2
        exact ⟨0, _, rfl, Or.inr (Or.inr ⟨H1.out, H2.out, rfl, G, H4.out, rfl⟩), HB1.out⟩
end Go.Proofs.YtjgifjkdgoijmaaGreatDoor

namespace Go.Proofs.YtjgifjkdgoijmaaGreatDoor
open Go.RowKit Go.Maps
set_option linter.unusedVariables false
set_option maxRecDepth 100000

theorem rkL_sub {A B : List Nat} (h : ∀ v ∈ A, v ∈ B) : rkL A ≤ rkL B := by
  obtain ⟨C, h1, h2, h3⟩ := rkL_dim A
  have h9 := (rkL_dim B).least h2 fun v hv => Sp.mono h ((h3 v).1 (Sp.mem hv))
  omega
theorem know_one {k s p : Nat} {d : ByteArray} {q : PS} {F : List Drp} (h : Took (setL k) q F) (hm : (s, d) ∈ F) (hs : setL k s = [p]) : q.known p = true := by
  have h9 := h.shut _ hm
  cases e : q.known p with
  | true => rfl
  | false =>
    refine absurd ?_ h9
    show ((setL k s).filter fun r => !q.known r).length = 1
    rw [hs]; simp [e]
theorem knows_one {q : PS} {d : ByteArray} (h : Took (setL 1) q [(1, d)]) : (knows 1 q.known).length = 1 := by
  have h9 := know_one (p := 0) (s := 1) (d := d) h (by simp) (by rw [setL_one (by omega)])
  simp [knows, List.range_succ, h9]
/-- Drops of the blocks g. -/
def Made (g : Nat → ByteArray) (k : Nat) (F : List Drp) : Prop := ∀ d ∈ F, d.2 = dropB g k d.1
theorem made_none (g : Nat → ByteArray) (k : Nat) : Made g k [] := fun d hd => by cases hd
theorem Made.add {g : Nat → ByteArray} {k s : Nat} {F : List Drp} (h : Made g k F) : Made g k (eAdd F s (dropB g k s)) := by
  unfold eAdd
  split
  · exact h
  · intro d hd
    rcases List.mem_append.1 hd with hd | hd
    · exact h d hd
    · rw [List.mem_singleton.1 hd]
theorem eAdd_sds {F : List Drp} {s : Nat} {d : ByteArray} {x : Nat} : x ∈ sds (eAdd F s d) ↔ x ∈ sds F ∨ x = s := by
  unfold eAdd
  split
  · rename_i h
    exact ⟨Or.inl, fun h9 => h9.elim id fun e => e ▸ h⟩
  · rw [sds_add]; simp
theorem eAdd_len {F : List Drp} {s : Nat} {d : ByteArray} : (eAdd F s d).length ≤ F.length + 1 := by
  unfold eAdd
  split <;> simp
/-- What Data tells of drops of a text. -/
def TextOf (k : Nat) (F : List Drp) (t : ByteArray) (x : Int) (s : ByteArray) : Prop := (rkL (mS k (sds F)) = k ∧ x = 0 ∧ s = t) ∨ (rkL (mS k (sds F)) < k ∧ x = 8 ∧ s = ⟨#[]⟩)
theorem data_text {I : PIm0} {w : World} {v : Value} {k z : Nat} {dr : Int} {F : List Drp} {M : Nat → Prop} {t : ByteArray} (h : ESt I w v k z t.size dr F M) (hF : Made (blkB t.data.toList z) k F) :
    Calls Tryz.prog 7 #[v] w fun e w' => ∃ x s, e = .returned (.tuple #[.string s, Tell x]) ∧ TextOf k F t x s ∧ Below w.heap.size w w' :=
  (data_ok h).mono fun e w' ⟨x, s, he, hd, hb⟩ => ⟨x, s, he, (dataOf_made h.ok hF (fun p => blkB_size _ _ _) hd).imp (fun ⟨h1, h2, h3⟩ => ⟨h1, h2, by
    have h9 := back_bytes t z h.ok.nz.1
    rw [h.ok.cnt] at h9
    rw [h3, h9]⟩) id, hb⟩
theorem full_rank {k z n : Nat} {F : List Drp} (h : FOk k z n F) : rkL (mS k (sds F)) ≤ k := rk_le (mS_lt h.nk.1 fun x hx => (h.seeds x hx).1)
/-- A text of one block is there when that was heard. -/
theorem one_fact {z n : Nat} {x : Int} {s d t : ByteArray} (hO : FOk 1 z n [(1, d)]) (ht : ((d.data.toList).take n) = t.data.toList) (h : DataOf 1 z n [(1, d)] x s) : x = 0 ∧ s = t := by
  have hz : d.size = z := (hO.good (1, d) (by simp)).2.2
  have hr : rkL (mS 1 (sds [(1, d)])) = 1 := rk_one (mask_some ⟨by omega, by omega⟩ ⟨by omega, by omega⟩)
  rcases dataOf_made (g := fun _ => d) hO (fun e he => by
    rw [List.mem_singleton.1 he]
    exact (dropB_one (g := fun _ => d) (len := 1) (seed := 1) (by omega) (by omega) rfl).symm) (fun _ => hz) h with ⟨_, h1, h2⟩ | ⟨h1, _⟩
  · refine ⟨h1, ?_⟩
    rw [h2]
    have e : allL (fun _ => d) 1 = d.data.toList := by rw [allL_succ]; simp [allL]
    rw [e, ht]
  · rw [hr] at h1; omega
end Go.Proofs.YtjgifjkdgoijmaaGreatDoor

namespace Go.Proofs.YtjgifjkdgoijmaaGreatDoor
set_option linter.unusedVariables false
set_option maxRecDepth 100000

/-- Behind b places: n lines are chosen. -/
structure Elim (L : List Nat) (k N b n : Nat) (R pv : Nat → Nat) : Prop where
  span : ∀ x, Sp XN (preL R N) x ↔ Sp XN L x
  lt : ∀ i, i < N → R i < 2 ^ k
  few : n ≤ N
  pivs : ∀ j, j < n → (R j).testBit (pv j) = true ∧ ∀ i, j < i → i < N → (R i).testBit (pv j) = false
  low : ∀ i, n ≤ i → i < N → ∀ c, c < b → (R i).testBit c = false
theorem elim_none {L : List Nat} {k N : Nat} {R pv : Nat → Nat} (hL : L = preL R N) (hlt : ∀ i, i < N → R i < 2 ^ k) : Elim L k N 0 0 R pv :=
  ⟨fun x => by rw [hL], hlt, Nat.zero_le _, fun j hj => absurd hj (Nat.not_lt_zero _), fun i _ _ c hc => absurd hc (Nat.not_lt_zero _)⟩
theorem Elim.skip {L : List Nat} {k N b n : Nat} {R pv : Nat → Nat} (h : Elim L k N b n R pv) (hno : ∀ i, n ≤ i → i < N → (R i).testBit b = false) : Elim L k N (b + 1) n R pv :=
  ⟨h.span, h.lt, h.few, h.pivs, fun i h1 h2 c hc => by
    by_cases e : c = b
    · rw [e]; exact hno i h1 h2
    · exact h.low i h1 h2 c (by omega)⟩
/-- Two change their places. -/
def swp (R : Nat → Nat) (n p : Nat) : Nat → Nat := fun j => if j = n then R p else if j = p then R n else R j
/-- Those behind n, up to i, without the place b. -/
def rid (R : Nat → Nat) (x b n i : Nat) : Nat → Nat := fun j => if n < j ∧ j < i ∧ (R j).testBit b = true then R j ^^^ x else R j
theorem rid_none (R : Nat → Nat) (x b n j : Nat) : rid R x b n (n + 1) j = R j := by unfold rid; rw [if_neg (by omega)]
theorem rid_same {R : Nat → Nat} {x b n i : Nat} (h : (R i).testBit b = false) (j : Nat) : rid R x b n (i + 1) j = rid R x b n i j := by
  unfold rid
  by_cases e : j = i
  · rw [if_neg (fun h9 => by rw [e, h] at h9; cases h9.2.2), if_neg (by omega)]
  · have e2 : (n < j ∧ j < i + 1 ∧ (R j).testBit b = true) = (n < j ∧ j < i ∧ (R j).testBit b = true) := by rw [show (j < i + 1) = (j < i) from propext ⟨fun h => by omega, fun h => by omega⟩]
    simp only [e2]
theorem rid_next {R : Nat → Nat} {x b n i : Nat} (h : (R i).testBit b = true) (hi : n < i) (j : Nat) : rid R x b n (i + 1) j = if j = i then R i ^^^ x else rid R x b n i j := by
  unfold rid
  by_cases e : j = i
  · rw [if_pos e, e, if_pos ⟨hi, by omega, h⟩]
  · have e2 : (n < j ∧ j < i + 1 ∧ (R j).testBit b = true) = (n < j ∧ j < i ∧ (R j).testBit b = true) := by rw [show (j < i + 1) = (j < i) from propext ⟨fun h => by omega, fun h => by omega⟩]
    rw [if_neg e]
    simp only [e2]
theorem rid_at {R : Nat → Nat} {x b n i : Nat} : rid R x b n i i = R i := by unfold rid; rw [if_neg (by omega)]
theorem Elim.take {L : List Nat} {k N b n p : Nat} {R pv : Nat → Nat} (h : Elim L k N b n R pv) (h1 : n ≤ p) (h2 : p < N) (hb : (R p).testBit b = true) :
    Elim L k N (b + 1) (n + 1) (rid (swp R n p) (R p) b n N) (fun j => if j = n then b else pv j) := by
  have hmem : ∀ {i}, i < N → Sp XN (preL R N) (R i) := fun {i} hi => Sp.mem (mem_preL.2 ⟨i, hi, rfl⟩)
  have hsw : ∀ i, i < N → ∃ i', i' < N ∧ swp R n p i = R i' ∧ (n ≤ i → n ≤ i') ∧ (i < n → i' = i) := fun i hi => by
    unfold swp
    by_cases e : i = n
    · exact ⟨p, h2, by rw [if_pos e], fun _ => h1, fun h => by omega⟩
    · by_cases e2 : i = p
      · exact ⟨n, by omega, by rw [if_neg e, if_pos e2], fun _ => Nat.le_refl _, fun h => by omega⟩
      · exact ⟨i, hi, by rw [if_neg e, if_neg e2], fun h => h, fun _ => rfl⟩
  have hswb : ∀ i, n ≤ i → i < N → ∀ c, c < b → (swp R n p i).testBit c = false := fun i h3 h4 c hc => by
    obtain ⟨i', a1, a2, a3, _⟩ := hsw i h4
    rw [a2]; exact h.low i' (a3 h3) a1 c hc
  have hrn : rid (swp R n p) (R p) b n N n = R p := by unfold rid swp; rw [if_neg (by omega), if_pos rfl]
  have hlow : ∀ i, i < n → rid (swp R n p) (R p) b n N i = R i := fun i hi => by unfold rid swp; rw [if_neg (by omega), if_neg (by omega), if_neg (by omega)]
  have hrc : ∀ i, n < i → i < N → ∀ c, c < b → (rid (swp R n p) (R p) b n N i).testBit c = false := fun i h3 h4 c hc => by
    unfold rid
    by_cases e : n < i ∧ i < N ∧ (swp R n p i).testBit b = true
    · rw [if_pos e, Nat.testBit_xor, hswb i (by omega) h4 c hc, h.low p h1 h2 c hc]; rfl
    · rw [if_neg e]; exact hswb i (by omega) h4 c hc
  have hrb : ∀ i, n < i → i < N → (rid (swp R n p) (R p) b n N i).testBit b = false := fun i h3 h4 => by
    unfold rid
    by_cases e : (swp R n p i).testBit b = true
    · rw [if_pos ⟨h3, h4, e⟩, Nat.testBit_xor, e, hb]; rfl
    · rw [if_neg (fun h9 => e h9.2.2)]; simpa using e
  have hpv : ∀ j, j < n → ∀ i, j < i → i < N → (rid (swp R n p) (R p) b n N i).testBit (pv j) = false := fun j hj i h3 h4 => by
    have key : ∀ i, j < i → i < N → (swp R n p i).testBit (pv j) = false := fun i h5 h6 => by
      obtain ⟨i', a1, a2, a3, a4⟩ := hsw i h6
      rw [a2]
      refine (h.pivs j hj).2 i' ?_ a1
      rcases Nat.lt_or_ge i n with h7 | h7
      · rw [a4 h7]; exact h5
      · have := a3 h7; omega
    unfold rid
    by_cases e : n < i ∧ i < N ∧ (swp R n p i).testBit b = true
    · rw [if_pos e, Nat.testBit_xor, key i h3 h4, (h.pivs j hj).2 p (by omega) h2]; rfl
    · rw [if_neg e]; exact key i h3 h4
  refine ⟨fun x => ?_, fun i hi => ?_, by omega, fun j hj => ?_, fun i h3 h4 c hc => ?_⟩
  · rw [← h.span x]
    have hx : Sp XN (preL (rid (swp R n p) (R p) b n N) N) (R p) := Sp.mem (mem_preL.2 ⟨n, by omega, hrn⟩)
    have hsw2 : ∀ i, i < N → Sp XN (preL (rid (swp R n p) (R p) b n N) N) (swp R n p i) := fun i hi => by
      have h9 : Sp XN (preL (rid (swp R n p) (R p) b n N) N) (rid (swp R n p) (R p) b n N i) := Sp.mem (mem_preL.2 ⟨i, hi, rfl⟩)
      unfold rid at h9 ⊢
      by_cases e : n < i ∧ i < N ∧ (swp R n p i).testBit b = true
      · rw [if_pos e] at h9
        have h8 := Sp.add h9 hx
        rwa [show XN.add (swp R n p i ^^^ R p) (R p) = swp R n p i from by show swp R n p i ^^^ R p ^^^ R p = _; rw [Nat.xor_assoc, Nat.xor_self, Nat.xor_zero]] at h8
      · rw [if_neg e] at h9; exact h9
    refine Sp.same (fun v hv => ?_) (fun v hv => ?_) x
    · obtain ⟨i, hi, rfl⟩ := mem_preL.1 hv
      obtain ⟨i', a1, a2, _⟩ := hsw i hi
      unfold rid
      by_cases e : n < i ∧ i < N ∧ (swp R n p i).testBit b = true
      · rw [if_pos e, a2]; exact Sp.add (hmem a1) (hmem h2)
      · rw [if_neg e, a2]; exact hmem a1
    · obtain ⟨i, hi, rfl⟩ := mem_preL.1 hv
      by_cases e : i = p
      · rw [e]; exact hx
      · by_cases e2 : i = n
        · have h9 := hsw2 p h2
          have e3 : swp R n p p = R n := by
            unfold swp
            by_cases e4 : p = n
            · rw [if_pos e4, e4]
            · rw [if_neg e4, if_pos rfl]
          rw [e3] at h9
          rw [e2]; exact h9
        · have h9 := hsw2 i hi
          have e3 : swp R n p i = R i := by unfold swp; rw [if_neg e2, if_neg e]
          rwa [e3] at h9
  · obtain ⟨i', a1, a2, _⟩ := hsw i hi
    unfold rid
    by_cases e : n < i ∧ i < N ∧ (swp R n p i).testBit b = true
    · rw [if_pos e, a2]; exact Nat.xor_lt_two_pow (h.lt i' a1) (h.lt p h2)
    · rw [if_neg e, a2]; exact h.lt i' a1
  · by_cases e : j = n
    · subst e
      simp only [if_true]
      exact ⟨by rw [hrn]; exact hb, fun i h3 h4 => hrb i h3 h4⟩
    · simp only [if_neg e]
      have hj' : j < n := by omega
      exact ⟨by rw [hlow j hj']; exact (h.pivs j hj').1, hpv j hj'⟩
  · by_cases e : c = b
    · rw [e]; exact hrb i (by omega) h4
    · exact hrc i (by omega) h4 c (by omega)
theorem Elim.rank {L : List Nat} {k N n : Nat} {R pv : Nat → Nat} (h : Elim L k N k n R pv) : rkL L = n := by
  have hind : ∀ d, d ≤ n → Indep ((List.range d).map fun j => R (n - d + j)) := by
    intro d
    induction d with
    | zero => intro _; trivial
    | succ d ih =>
      intro hd
      have e : (List.range (d + 1)).map (fun j => R (n - (d + 1) + j)) = R (n - (d + 1)) :: (List.range d).map fun j => R (n - d + j) := by
        rw [List.range_succ_eq_map, List.map_cons, List.map_map]
        congr 1
        refine List.map_congr_left fun j _ => ?_
        show R (n - (d + 1) + (j + 1)) = R (n - d + j)
        congr 1; omega
      rw [e]
      refine ⟨ih (by omega), fun hs => ?_⟩
      obtain ⟨p1, p2⟩ := h.pivs (n - (d + 1)) (by omega)
      have h9 := Sp.bit (b := pv (n - (d + 1))) (fun v hv => by
        obtain ⟨j, hj, rfl⟩ := List.mem_map.1 hv
        have hj := List.mem_range.1 hj
        exact p2 (n - d + j) (by omega) (by have := h.few; omega)) hs
      rw [h9] at p1; cases p1
  have hi := hind n (Nat.le_refl _)
  rw [show (fun j => R (n - n + j)) = R from funext fun j => by rw [Nat.sub_self, Nat.zero_add]] at hi
  refine rkL_eq ⟨(List.range n).map R, by simp, hi, fun x => ?_⟩
  rw [← h.span x]
  refine Sp.same (fun v hv => ?_) (fun v hv => ?_) x
  · obtain ⟨j, hj, rfl⟩ := List.mem_map.1 hv
    exact Sp.mem (mem_preL.2 ⟨j, by have := List.mem_range.1 hj; have := h.few; omega, rfl⟩)
  · obtain ⟨i, hi, rfl⟩ := mem_preL.1 hv
    rcases Nat.lt_or_ge i n with h1 | h1
    · exact Sp.mem (List.mem_map.2 ⟨i, List.mem_range.2 h1, rfl⟩)
    · rw [no_bits (h.lt i hi) (fun c hc => h.low i h1 hi c hc)]; exact Sp.zero XN _
end Go.Proofs.YtjgifjkdgoijmaaGreatDoor

namespace Go.Proofs.YtjgifjkdgoijmaaGreatDoor
open Go.RowKit
set_option linter.unusedVariables false
set_option maxRecDepth 100000

theorem idx_rowM (g N cap i : Nat) (w : World) (hi : i < N) (hN : N ≤ 1000) : (Instr.indexAt 99 (.slice (some ⟨g, 0, none⟩) N cap) (.int .i64 i)).run Tryz.prog w = .ok (.pointer (some ⟨g, i * 17, none⟩)) w := by
  have h1 : (i : Int) < (N : Int) := by omega
  go_simp
def opR21x0 : Oper := { dst := some 71, op := Op.move (Operand.tmp 5), type := 99, pos := "base.go:406", after := #[], guard := none }
def opR21x1 : Oper := { dst := some 72, op := Op.move (Operand.tmp 11), type := 3, pos := "base.go:406", after := #[], guard := none }
def opR21x2 : Oper := { dst := some 73, op := Op.move (Operand.tmp 5), type := 99, pos := "base.go:406", after := #[], guard := none }
def opR21x3 : Oper := { dst := some 74, op := Op.move (Operand.tmp 11), type := 3, pos := "base.go:406", after := #[], guard := none }
def opR21x4 : Oper := { dst := some 75, op := Op.indexAddr 99 (Operand.tmp 73) (Operand.tmp 74), type := 0, pos := "base.go:406", after := #[{ on := 2, ground := Ground.data }, { on := 3, ground := Ground.data }], guard := none }
def opR21x5 : Oper := { dst := some 76, op := Op.load 101 (Operand.tmp 75), type := 101, pos := "base.go:406", after := #[{ on := 4, ground := Ground.data }], guard := none }
def opR21x6 : Oper := { dst := some 77, op := Op.load 101 (Operand.tmp 10), type := 101, pos := "base.go:406", after := #[], guard := none }
def opR21x7 : Oper := { dst := some 78, op := Op.call { callee := Callee.value (Operand.func 85), args := #[Operand.tmp 76, Operand.tmp 77], argTypes := #[101, 101] }, type := 101, pos := "base.go:406", after := #[{ on := 5, ground := Ground.data }, { on := 6, ground := Ground.data }], guard := none }
def opR21x8 : Oper := { dst := some 79, op := Op.indexAddr 99 (Operand.tmp 71) (Operand.tmp 72), type := 0, pos := "base.go:406", after := #[{ on := 0, ground := Ground.data }, { on := 1, ground := Ground.data }, { on := 0, ground := Ground.phase }, { on := 1, ground := Ground.phase }, { on := 2, ground := Ground.phase }, { on := 3, ground := Ground.phase }, { on := 4, ground := Ground.phase }, { on := 5, ground := Ground.phase }, { on := 6, ground := Ground.phase }, { on := 7, ground := Ground.phase }], guard := none }
def opR21x9 : Oper := { dst := none, op := Op.store 101 (Operand.tmp 79) (Operand.tmp 78), type := 0, pos := "base.go:406", after := #[{ on := 8, ground := Ground.data }, { on := 7, ground := Ground.data }, { on := 7, ground := Ground.chain }, { on := 0, ground := Ground.phase }, { on := 1, ground := Ground.phase }, { on := 2, ground := Ground.phase }, { on := 3, ground := Ground.phase }, { on := 4, ground := Ground.phase }, { on := 5, ground := Ground.phase }, { on := 6, ground := Ground.phase }, { on := 7, ground := Ground.phase }], guard := none }
def opR21 : Array Oper := #[opR21x0, opR21x1, opR21x2, opR21x3, opR21x4, opR21x5, opR21x6, opR21x7, opR21x8, opR21x9]
theorem atopR21x0 : opR21[0]? = some opR21x0 := rfl
theorem atopR21x1 : opR21[1]? = some opR21x1 := rfl
theorem atopR21x2 : opR21[2]? = some opR21x2 := rfl
theorem atopR21x3 : opR21[3]? = some opR21x3 := rfl
theorem atopR21x4 : opR21[4]? = some opR21x4 := rfl
theorem atopR21x5 : opR21[5]? = some opR21x5 := rfl
theorem atopR21x6 : opR21[6]? = some opR21x6 := rfl
theorem atopR21x7 : opR21[7]? = some opR21x7 := rfl
theorem atopR21x8 : opR21[8]? = some opR21x8 := rfl
theorem atopR21x9 : opR21[9]? = some opR21x9 := rfl

set_option maxHeartbeats 1000000 in
theorem tailR21 {Q : Exit → Act → World → Prop} {a : Act} {w w0 : World} {listed : Array Bool} (g N cap i : Nat) (ci cx cc : Array Value) (hs : a.tmps.size = 83) (hb0 : Below w.heap.size w w0)
    (h71 : a.eval (.tmp 71) = .slice (some ⟨g, 0, none⟩) N cap) (h72 : a.eval (.tmp 72) = .int .i64 i) (h76 : a.eval (.tmp 76) = .agg ci) (h77 : a.eval (.tmp 77) = .agg cx) (hi : i < N) (hN : N ≤ 1000) (hth : ∀ W, Below w.heap.size w W → W.there g (i * 17) cc.size) (hcs : cc.size = 17) (hc1 : cc.all (·.oneCell') = true)
    (OV : ∀ W, Calls Tryz.prog 85 #[.agg ci, .agg cx] W fun e w' => e = .returned (.agg cc) ∧ Below W.heap.size W w')
    (r7 : Region.ready .any opR21 listed = [7]) (r8 : Region.ready .any opR21 (listed.setIfInBounds 7 true) = [8]) (r9 : Region.ready .any opR21 ((listed.setIfInBounds 7 true).setIfInBounds 8 true) = [9]) (r10 : Region.ready .any opR21 (((listed.setIfInBounds 7 true).setIfInBounds 8 true).setIfInBounds 9 true) = [])
    (hend : ∀ W, Below w.heap.size w W → Q .normal ((a.put (some 78) (.agg cc)).put (some 79) (.pointer (some ⟨g, i * 17, none⟩))) (W.setCells g (i * 17) cc.toList)) :
    wpAny Tryz.prog .any opR21 Q 3 listed a w0 := by
  refine any_one r7 atopR21x7 rfl (fun K hK => ?_)
  refine wp_call_at (R := fun v w' => v = .agg cc ∧ Below w0.heap.size w0 w') #[.agg ci, .agg cx] (d := 78) rfl rfl (by simp [h76, h77]) (by go_simp) ((OV w0).mono fun e w' h => ⟨_, h.1, rfl, h.2⟩) (fun v w' hv => hK _ _ ?_)
  obtain ⟨rfl, hb1⟩ := hv
  clear hK K OV
  have hbW := below_two hb0 hb1
  refine any_one r8 atopR21x8 rfl (fun K hK => ?_)
  refine wp_value_at (d := 79) (v := .pointer (some ⟨g, i * 17, none⟩)) rfl (run_index rfl (Act.ev_ne (by decide) h71) (Act.ev_ne (by decide) h72) (idx_rowM g N cap i w' hi hN)) (hK _ _ ?_)
  clear hK K
  refine any_one r9 atopR21x9 rfl (fun K hK => ?_)
  refine wp_store_at 101 _ _ rfl rfl g (i * 17) cc (Act.ev_eq (Act.sz hs) (by decide)) (Act.ev_ne (by decide) (Act.ev_eq hs (by decide))) (hth _ hbW) (by rw [hcs]; exact Tryz.sizeLine) hc1 (hK _ _ ?_)
  clear hK K
  exact wpAny_done r10 (hend _ hbW) _

set_option maxHeartbeats 1000000 in
theorem regionR21 {Q : Exit → Act → World → Prop} {a : Act} {w : World} (g gx N cap i : Nat) (ci cx cc : Array Value) (hs : a.tmps.size = 83)
    (h5 : a.eval (.tmp 5) = .slice (some ⟨g, 0, none⟩) N cap) (h11 : a.eval (.tmp 11) = .int .i64 i) (h10 : a.eval (.tmp 10) = .pointer (some ⟨gx, 0, none⟩))
    (hi : i < N) (hN : N ≤ 1000) (hRi : w.rangeAt g (i * 17) ci.toList) (hRx : w.rangeAt gx 0 cx.toList) (hci : ci.size = 17) (hcx : cx.size = 17)
    (hth : ∀ W, Below w.heap.size w W → W.there g (i * 17) cc.size) (hcs : cc.size = 17) (hc1 : cc.all (·.oneCell') = true)
    (OV : ∀ W, Calls Tryz.prog 85 #[.agg ci, .agg cx] W fun e w' => e = .returned (.agg cc) ∧ Below W.heap.size W w')
    (hQ : ∀ c a (d : Tmp) v w, Q (.panic c) (Act.put a (some d) v) w → Q (.panic c) a w)
    (hend : ∀ W, Below w.heap.size w W → Q .normal (((((((((a.put (some 71) (.slice (some ⟨g, 0, none⟩) N cap)).put (some 72) (.int .i64 i)).put (some 73) (.slice (some ⟨g, 0, none⟩) N cap)).put (some 74) (.int .i64 i)).put (some 75) (.pointer (some ⟨g, i * 17, none⟩))).put (some 76) (.agg ci)).put (some 77) (.agg cx)).put (some 78) (.agg cc)).put (some 79) (.pointer (some ⟨g, i * 17, none⟩))) (W.setCells g (i * 17) cc.toList)) :
    (Code.region 21 opR21 true).wp Tryz.prog Q a w := by
  refine wp_region_any (by kernel_rfl) ?_
  show wpAny _ _ _ _ 10 (Array.replicate 10 false) a w.drew
  have hRi' := (World.rangeAt_drew w g (i * 17) ci.toList).2 hRi
  have hRx' := (World.rangeAt_drew w gx 0 cx.toList).2 hRx
  have hb0 : Below w.heap.size w w.drew := (Below.refl _ _).drew
  generalize w.drew = w0 at *
  have ldI : (Instr.loadAt 101 (.pointer (some ⟨g, i * 17, none⟩))).run Tryz.prog w0 = .ok (.agg ci) w0 := by
    have h := run_loadAt_mid (P := Tryz.prog) w0 g (i * 17) 101 ci.toList _ hRi' Tryz.underlying101 rfl (by rw [Array.length_toList, hci]; exact Tryz.sizeLine)
    rw [Array.toArray_toList] at h; exact h
  have ldX : (Instr.loadAt 101 (.pointer (some ⟨gx, 0, none⟩))).run Tryz.prog w0 = .ok (.agg cx) w0 := by
    have h := run_loadAt_mid (P := Tryz.prog) w0 gx 0 101 cx.toList _ hRx' Tryz.underlying101 rfl (by rw [Array.length_toList, hcx]; exact Tryz.sizeLine)
    rw [Array.toArray_toList] at h; exact h
  refine any_take (i := 0) (d := 71) (v := (.slice (some ⟨g, 0, none⟩) N cap)) atopR21x0 rfl (by kernel_rfl) (by kernel_rfl) (by kernel_rfl) rfl hQ (fun w => (run_move rfl h5 w)) ?_
  refine any_take (i := 1) (d := 72) (v := (.int .i64 i)) atopR21x1 rfl (by kernel_rfl) (by kernel_rfl) (by kernel_rfl) rfl hQ (fun w => (run_move rfl (Act.ev_ne (by decide) h11) w)) ?_
  refine any_take (i := 2) (d := 73) (v := (.slice (some ⟨g, 0, none⟩) N cap)) atopR21x2 rfl (by kernel_rfl) (by kernel_rfl) (by kernel_rfl) rfl hQ (fun w => (run_move rfl (Act.ev_ne (by decide) (Act.ev_ne (by decide) h5)) w)) ?_
  refine any_take (i := 3) (d := 74) (v := (.int .i64 i)) atopR21x3 rfl (by kernel_rfl) (by kernel_rfl) (by kernel_rfl) rfl hQ (fun w => (run_move rfl (Act.ev_ne (by decide) (Act.ev_ne (by decide) (Act.ev_ne (by decide) h11))) w)) ?_
  refine any_take (i := 4) (d := 75) (v := (.pointer (some ⟨g, i * 17, none⟩))) atopR21x4 rfl (by kernel_rfl) (by kernel_rfl) (by kernel_rfl) rfl hQ (fun w => (run_index rfl (Act.ev_ne (by decide) (Act.ev_eq (Act.sz (Act.sz hs)) (by decide))) (Act.ev_eq (Act.sz (Act.sz (Act.sz hs))) (by decide)) (idx_rowM g N cap i w hi hN))) ?_
  refine any_two (i := 5) (j := 6) (by kernel_rfl) atopR21x5 rfl atopR21x6 rfl (fun K hK => ?_) (fun K hK => ?_)
  · refine wp_value_at (d := 76) (v := (.agg ci)) rfl (run_load rfl (Act.ev_eq (Act.sz (Act.sz (Act.sz (Act.sz hs)))) (by decide)) ldI) (hK _ _ ?_)
    clear hK K
    refine any_one (i := 6) (by kernel_rfl) atopR21x6 rfl (fun K hK => ?_)
    refine wp_value_at (d := 77) (v := (.agg cx)) rfl (run_load rfl (Act.ev_ne (by decide) (Act.ev_ne (by decide) (Act.ev_ne (by decide) (Act.ev_ne (by decide) (Act.ev_ne (by decide) (Act.ev_ne (by decide) h10)))))) ldX) (hK _ _ ?_)
    clear hK K
    refine tailR21 g N cap i ci cx cc (Act.sz (Act.sz (Act.sz (Act.sz (Act.sz (Act.sz (Act.sz hs))))))) hb0 (Act.ev_ne (by decide) (Act.ev_ne (by decide) (Act.ev_ne (by decide) (Act.ev_ne (by decide) (Act.ev_ne (by decide) (Act.ev_ne (by decide) (Act.ev_eq hs (by decide)))))))) (Act.ev_ne (by decide) (Act.ev_ne (by decide) (Act.ev_ne (by decide) (Act.ev_ne (by decide) (Act.ev_ne (by decide) (Act.ev_eq (Act.sz hs) (by decide))))))) (Act.ev_ne (by decide) (Act.ev_eq (Act.sz (Act.sz (Act.sz (Act.sz (Act.sz hs))))) (by decide))) (Act.ev_eq (Act.sz (Act.sz (Act.sz (Act.sz (Act.sz (Act.sz hs)))))) (by decide)) hi hN hth hcs hc1 OV (by kernel_rfl) (by kernel_rfl) (by kernel_rfl) (by kernel_rfl) ?_
    exact hend
  · refine wp_value_at (d := 77) (v := (.agg cx)) rfl (run_load rfl (Act.ev_ne (by decide) (Act.ev_ne (by decide) (Act.ev_ne (by decide) (Act.ev_ne (by decide) (Act.ev_ne (by decide) h10))))) ldX) (hK _ _ ?_)
    clear hK K
    refine any_one (i := 5) (by kernel_rfl) atopR21x5 rfl (fun K hK => ?_)
    refine wp_value_at (d := 76) (v := (.agg ci)) rfl (run_load rfl (Act.ev_ne (by decide) (Act.ev_eq (Act.sz (Act.sz (Act.sz (Act.sz hs)))) (by decide))) ldI) (hK _ _ ?_)
    clear hK K
    refine tailR21 g N cap i ci cx cc (Act.sz (Act.sz (Act.sz (Act.sz (Act.sz (Act.sz (Act.sz hs))))))) hb0 (Act.ev_ne (by decide) (Act.ev_ne (by decide) (Act.ev_ne (by decide) (Act.ev_ne (by decide) (Act.ev_ne (by decide) (Act.ev_ne (by decide) (Act.ev_eq hs (by decide)))))))) (Act.ev_ne (by decide) (Act.ev_ne (by decide) (Act.ev_ne (by decide) (Act.ev_ne (by decide) (Act.ev_ne (by decide) (Act.ev_eq (Act.sz hs) (by decide))))))) (Act.ev_eq (Act.sz (Act.sz (Act.sz (Act.sz (Act.sz (Act.sz hs)))))) (by decide)) (Act.ev_ne (by decide) (Act.ev_eq (Act.sz (Act.sz (Act.sz (Act.sz (Act.sz hs))))) (by decide))) hi hN hth hcs hc1 OV (by kernel_rfl) (by kernel_rfl) (by kernel_rfl) (by kernel_rfl) ?_
    rw [Act.put_swap _ (.agg cx) (.agg ci) (show (77 : Nat) ≠ 76 by decide)]
    exact hend
end Go.Proofs.YtjgifjkdgoijmaaGreatDoor
