/-
  Lemmas for the law above, joined into one text (LstN, AlD, MvE, MvI, MvK, PicG, PicM). No statement is proved here.
-/
import Derived.Test.YtjhflcgphejddaaGreatDoorZG3
import Derived.Test.YtjhflcgphejddaaGreatDoorZG6
import Derived.Laws.MakeOwn
import Derived.Maps.AppendAt
import Derived.Test.YtjhflcgphejddaaGreatDoorZG5
import Derived.Test.YtjhflcgphejddaaGreatDoorZG0
import Derived.Test.YtjhflcgphejddaaGreatDoorZG1
import Derived.Test.YtjhflcgphejddaaGreatDoorZG4
import Derived.Deep.DeepCutAuto
namespace Go.Proofs.YtjhflcgphejddaaGreatDoor
open Go.RowKit
set_option linter.unusedVariables false
set_option maxRecDepth 100000

/-- A slice that holds just the numbers of the list l. -/
def Lst (w : World) (v : Value) (l : List Nat) : Prop :=
  ∃ g cap, v = .slice (some ⟨g, 0, none⟩) l.length cap ∧ l.length ≤ cap ∧ cap ≤ maxLen ∧ ∀ i, i < l.length → w.cell? ⟨g, 0 + i, none⟩ = some (.int .i64 (l.getD i 0 : Nat))
theorem Lst.below {w w' : World} {v : Value} {l : List Nat} (h : Lst w v l) (hb : Below w.heap.size w w') : Lst w' v l := by
  obtain ⟨g, cap, hv, h1, h2, h3⟩ := h
  exact ⟨g, cap, hv, h1, h2, fun i hi => cell_below hb (h3 i hi)⟩
theorem own_lst {w : World} {B : Nat} {v : Value} {l : List Nat} (h : w.ownsRow B 3 1 v l.length (l.map fun r : Nat => .int .i64 (r : Nat))) (hn : 0 < l.length) : Lst w v l := by
  have e : (l.map fun r : Nat => Value.int .i64 (r : Nat)) = (List.range l.length).map fun k : Nat => .int .i64 (l.getD k 0 : Nat) := by
    apply List.ext_getElem
    · simp
    · intro i h1 h2
      simp at h1
      simp [h1]
  rw [e] at h
  obtain ⟨g, cap, hv, h1, h2, h3⟩ := own_ints (f := fun k => ((l.getD k 0 : Nat) : Int)) h hn
  exact ⟨g, cap, hv, h1, h2, h3⟩
/-- Numbers as a slice holds them. -/
def toV (l : List Nat) : List Value := l.map fun r => .int .i64 (r : Nat)
theorem toV_one (l : List Nat) : ∀ u ∈ toV l, u.oneCell' = true := fun u hu => by
  obtain ⟨r, _, rfl⟩ := List.mem_map.1 hu
  rfl
theorem take_snocR (l : List Nat) (j : Nat) (h : j < l.length) : toV (l.take (j + 1)) = toV (l.take j) ++ [.int .i64 (l.getD j 0 : Nat)] := by
  unfold toV
  rw [List.take_add_one, List.map_append]
  simp [List.getD, h]
/-- A slice that holds just the numbers of the list l, or an empty one. -/
def Lsh (w : World) (v : Value) (l : List Nat) : Prop := ∃ a cap, v = .slice a l.length cap ∧ l.length ≤ cap ∧ cap ≤ maxLen ∧ (0 < l.length → Lst w v l)
theorem own_lsh {w : World} {B : Nat} {v : Value} {l : List Nat} (h : w.ownsRow B 3 1 v l.length (toV l)) : Lsh w v l := by
  rcases Nat.eq_zero_or_pos l.length with e | h0
  · rcases h.2 with ⟨hv, _⟩ | ⟨g, cap, cur, hv, _, _, h1, h2, _⟩
    · exact ⟨none, 0, by rw [e]; exact hv, by omega, by omega, fun h => by omega⟩
    · exact ⟨_, cap, hv, h1, h2, fun h => by omega⟩
  · obtain ⟨g, cap, hv, h1, h2, h3⟩ := own_lst h h0
    exact ⟨_, cap, hv, h1, h2, fun _ => ⟨g, cap, hv, h1, h2, h3⟩⟩
theorem Lsh.below {w w' : World} {v : Value} {l : List Nat} (h : Lsh w v l) (hb : Below w.heap.size w w') : Lsh w' v l := by
  obtain ⟨a, cap, hv, h1, h2, h3⟩ := h
  exact ⟨a, cap, hv, h1, h2, fun h0 => (h3 h0).below hb⟩
/-- What is below w's size is as it was, but for the blocks of M. -/
structure Kept (M : Nat → Prop) (w w' : World) : Prop where
  os : w'.os = w.os
  tape : w'.tape = w.tape
  output : w'.output = w.output
  size : w.heap.size ≤ w'.heap.size
  block : ∀ i, i < w.heap.size → ¬ M i → w'.heap[i]? = w.heap[i]?
theorem Kept.refl (M : Nat → Prop) (w : World) : Kept M w w := ⟨rfl, rfl, rfl, Nat.le_refl _, fun _ _ _ => rfl⟩
theorem Kept.below {M : Nat → Prop} {w0 w w' : World} (h : Kept M w0 w) (hb : Below w.heap.size w w') : Kept M w0 w' :=
  ⟨hb.os.trans h.os, hb.tape.trans h.tape, hb.output.trans h.output, Nat.le_trans h.size hb.size, fun i hi hm => (hb.block i (Nat.lt_of_lt_of_le hi h.size)).trans (h.block i hi hm)⟩
theorem Kept.grown {M : Nat → Prop} {w0 w w' : World} (h : Kept M w0 w) {row : Option Nat} (hg : w.grownBy w' row) (hr : ∀ i, row = some i → M i ∨ w0.heap.size ≤ i) : Kept M w0 w' := by
  have hb : Below 0 w w' := (Below.refl 0 w).grown hg (Nat.zero_le _) (fun _ _ => Nat.zero_le _)
  refine ⟨hb.os.trans h.os, hb.tape.trans h.tape, hb.output.trans h.output, Nat.le_trans h.size hb.size, fun i hi hm => ?_⟩
  refine (hg.block i (Nat.lt_of_lt_of_le hi h.size) (fun e => ?_)).trans (h.block i hi hm)
  rcases hr i e.symm with h1 | h1
  · exact hm h1
  · omega
theorem Kept.setCell {M : Nat → Prop} {w0 w : World} (h : Kept M w0 w) (a : Addr) (u : Value) (hr : M a.block ∨ w0.heap.size ≤ a.block) : Kept M w0 (w.setCell a u) := by
  have hb : Below 0 w (w.setCell a u) := (Below.refl 0 w).setCell (Nat.zero_le _) _
  refine ⟨hb.os.trans h.os, hb.tape.trans h.tape, hb.output.trans h.output, Nat.le_trans h.size hb.size, fun i hi hm => ?_⟩
  refine (Below.heap_setCell w a u i (fun e => ?_)).trans (h.block i hi hm)
  rcases hr with h1 | h1
  · exact hm (e ▸ h1)
  · omega

theorem own_under' {w w' : World} {B e size n : Nat} {v : Value} {xs : List Value} (h : w.ownsRow B e size v n xs) (hb : Below w.heap.size w w') : w'.ownsRow B e size v n xs := by
  refine ⟨h.1, ?_⟩
  rcases h.2 with hn | ⟨g, cap, cur, hv, h1, hgg, rest⟩
  · exact .inl hn
  · exact .inr ⟨g, cap, cur, hv, h1, (hb.block g (Array.getElem?_eq_some_iff.1 hgg).1).trans hgg, rest⟩
theorem getD_mem {l : List Nat} {j : Nat} (h : j < l.length) : l.getD j 0 ∈ l := by
  rw [show l.getD j 0 = l[j] by simp [List.getD, h]]; exact List.getElem_mem h
end Go.Proofs.YtjhflcgphejddaaGreatDoor

namespace Go.Proofs.YtjhflcgphejddaaGreatDoor
open Go.RowKit Go.Maps
set_option linter.unusedVariables false
set_option maxRecDepth 100000

set_option maxHeartbeats 1000000 in
theorem adec_bad {w : World} {v : Value} {n : Nat} {f : Nat → Int} (a b s : Int) (h : IntsIn w v n f) (hx : decF a b s n f ≠ 0) :
    Calls Tryz.prog 52 #[.int .i64 a, .int .i64 b, .int .i64 s, v] w fun e w' => e = .returned (.tuple #[.agg #[.int .i64 0, .int .i64 0, .slice none 0 0], errN (decF a b s n f)]) ∧ Below w.heap.size w w' := by
  have p1 := picIn_new w 0 0 (.slice none 0 0)
  have b1 : Below w.heap.size w (w.alloc (.cells #[.int .i64 0, .int .i64 0, .slice none 0 0] 33)) := (Below.refl _ _).alloc (Nat.le_refl _) _
  obtain ⟨⟨c0, g0⟩, ⟨c1, g1⟩, c2, g2⟩ := p1
  have HB := hide b1
  have HI := hide (h.below b1)
  obtain ⟨ad, cap, rfl⟩ := slice_shape h
  have S := hide (fun x w => aside_ok x w)
  have K := hide (fun x w => astep_ok x w)
  have HD : Hid (decF a b s n f = if ((sideOk a && sideOk b) && stepOk s) = false then 1 else if (n : Int) ≠ a * b then 3 else if restsOk n f = false then 1 else 0) := by
    unfold Hid decF restsF; rw [sides_two]
  clear h b1
  cases h1 : sideOk a with
  | false =>
    have S1 := hide (S.out a)
    rw [h1] at S1
    have HE : Hid (decF a b s n f = 1) := by unfold Hid; rw [HD.out, h1, Bool.false_and, Bool.false_and, if_pos rfl]
    clear h1 S HD hx
    go_enter Tryz.func52, Tryz.ntmps52
    go_wp2_with fail
    refine (S1.out _).mono ?_
    rintro e w2 ⟨rfl, rfl⟩
    go_wp2
    refine bodyPost_ret (v := .tuple #[.agg #[.int .i64 0, .int .i64 0, .slice none 0 0], .iface 61 (.int .i64 1)]) (by simp [results, Tryz.results52, go_sem, c0, c1, c2]) rfl ⟨by rw [HE.out]; rfl, ?_⟩
    first
      | exact HB.out
      | exact (((HB.out.setCell (Nat.le_refl _) _).setCell (Nat.le_refl _) _).setCell (Nat.le_refl _) _)
  | true =>
    have S1 := hide (S.out a)
    rw [h1] at S1
    cases h2 : sideOk b with
    | false =>
      have S2 := hide (S.out b)
      rw [h2] at S2
      have HE : Hid (decF a b s n f = 1) := by unfold Hid; rw [HD.out, h1, h2, Bool.and_false, Bool.false_and, if_pos rfl]
      clear h1 h2 S HD hx
      go_enter Tryz.func52, Tryz.ntmps52
      go_wp2_with fail
      refine (S1.out _).mono ?_
      rintro e w2 ⟨rfl, rfl⟩
      go_wp2_with fail
      refine (S2.out _).mono ?_
      rintro e w2 ⟨rfl, rfl⟩
      go_wp2
      refine bodyPost_ret (v := .tuple #[.agg #[.int .i64 0, .int .i64 0, .slice none 0 0], .iface 61 (.int .i64 1)]) (by simp [results, Tryz.results52, go_sem, c0, c1, c2]) rfl ⟨by rw [HE.out]; rfl, ?_⟩
      first
        | exact HB.out
        | exact (((HB.out.setCell (Nat.le_refl _) _).setCell (Nat.le_refl _) _).setCell (Nat.le_refl _) _)
    | true =>
      have S2 := hide (S.out b)
      rw [h2] at S2
      cases h3 : stepOk s with
      | false =>
        have S3 := hide (K.out s)
        rw [h3] at S3
        have HE : Hid (decF a b s n f = 1) := by unfold Hid; rw [HD.out, h3, Bool.and_false, if_pos rfl]
        clear h1 h2 h3 S K HD hx
        go_enter Tryz.func52, Tryz.ntmps52
        go_wp2_with fail
        refine (S1.out _).mono ?_
        rintro e w2 ⟨rfl, rfl⟩
        go_wp2_with fail
        refine (S2.out _).mono ?_
        rintro e w2 ⟨rfl, rfl⟩
        go_wp2_with fail
        refine (S3.out _).mono ?_
        rintro e w2 ⟨rfl, rfl⟩
        go_wp2
        refine bodyPost_ret (v := .tuple #[.agg #[.int .i64 0, .int .i64 0, .slice none 0 0], .iface 61 (.int .i64 1)]) (by simp [results, Tryz.results52, go_sem, c0, c1, c2]) rfl ⟨by rw [HE.out]; rfl, ?_⟩
        first
          | exact HB.out
          | exact (((HB.out.setCell (Nat.le_refl _) _).setCell (Nat.le_refl _) _).setCell (Nat.le_refl _) _)
      | true =>
        have S3 := hide (K.out s)
        rw [h3] at S3
        have q1 := sideOk_iff.1 h1
        have q2 := sideOk_iff.1 h2
        have hp0 : 0 ≤ a * b := Int.mul_nonneg (by omega) (by omega)
        have hp1 : a * b ≤ 36 := by
          have e1 : a * b ≤ 6 * b := Int.mul_le_mul_of_nonneg_right (by omega) (by omega)
          omega
        rw [h1, h2, h3, if_neg (by simp)] at HD
        clear h1 h2 h3 S K
        by_cases hn : (n : Int) = a * b
        · have hn1 : ((n : Int) == a * b) = true := by rw [beq_iff_eq]; exact hn
          have hn3 : ((n : Int) != a * b) = false := by simp [bne, hn1]
          have hn2 : n ≤ 36 := by omega
          have C := hide (acont_ok HI.out (by omega))
          rw [if_neg (by simp [hn])] at HD
          have hq : restsOk n f = false := by
            cases hq : restsOk n f with
            | false => rfl
            | true => rw [HD.out, hq, if_neg (by simp)] at hx; exact absurd rfl hx
          rw [hq] at C
          have HE : Hid (decF a b s n f = 1) := by unfold Hid; rw [HD.out, hq, if_pos rfl]
          clear hn hq HD hx
          go_enter Tryz.func52, Tryz.ntmps52
          go_wp2_with fail
          refine (S1.out _).mono ?_
          rintro e w2 ⟨rfl, rfl⟩
          go_wp2_with fail
          refine (S2.out _).mono ?_
          rintro e w2 ⟨rfl, rfl⟩
          go_wp2_with fail
          refine (S3.out _).mono ?_
          rintro e w2 ⟨rfl, rfl⟩
          go_wp2_with fail
          refine (C.out).mono ?_
          rintro e w2 ⟨rfl, rfl⟩
          go_wp2
          refine bodyPost_ret (v := .tuple #[.agg #[.int .i64 0, .int .i64 0, .slice none 0 0], .iface 61 (.int .i64 1)]) (by simp [results, Tryz.results52, go_sem, c0, c1, c2]) rfl ⟨by rw [HE.out]; rfl, ?_⟩
          first
            | exact HB.out
            | exact (((HB.out.setCell (Nat.le_refl _) _).setCell (Nat.le_refl _) _).setCell (Nat.le_refl _) _)
        · have hn1 : ((n : Int) == a * b) = false := by rw [beq_eq_false_iff_ne]; exact hn
          have hn3 : ((n : Int) != a * b) = true := by simp [bne, hn1]
          have HE : Hid (decF a b s n f = 3) := by unfold Hid; rw [HD.out, if_pos hn]
          clear hn HD hx
          go_enter Tryz.func52, Tryz.ntmps52
          go_wp2_with fail
          refine (S1.out _).mono ?_
          rintro e w2 ⟨rfl, rfl⟩
          go_wp2_with fail
          refine (S2.out _).mono ?_
          rintro e w2 ⟨rfl, rfl⟩
          go_wp2_with fail
          refine (S3.out _).mono ?_
          rintro e w2 ⟨rfl, rfl⟩
          go_wp2
          refine bodyPost_ret (v := .tuple #[.agg #[.int .i64 0, .int .i64 0, .slice none 0 0], .iface 61 (.int .i64 3)]) (by simp [results, Tryz.results52, go_sem, c0, c1, c2]) rfl ⟨by rw [HE.out]; rfl, ?_⟩
          first
            | exact HB.out
            | exact (((HB.out.setCell (Nat.le_refl _) _).setCell (Nat.le_refl _) _).setCell (Nat.le_refl _) _)

set_option maxHeartbeats 4000000 in
theorem adec_ok {w : World} {v : Value} {n : Nat} {f : Nat → Int} {a b s : Int} {A B : Nat} (h : IntsIn w v n f) (o : DecOk a b s n f A B) :
    Calls Tryz.prog 52 #[.int .i64 a, .int .i64 b, .int .i64 s, v] w fun e w' => ∃ u, e = .returned (.tuple #[.agg #[.int .i64 a, .int .i64 b, u], .nilIface]) ∧ IntsIn w' u n (tellF A s fun i _ => f i) ∧ Below w.heap.size w w' ∧ ∀ g, u.ownBlock = some g → w.heap.size ≤ g := by
  obtain ⟨w1, hw1⟩ : ∃ w1, w1 = w.alloc (.cells #[.int .i64 0, .int .i64 0, .slice none 0 0] 33) := ⟨_, rfl⟩
  have b1 : Below w.heap.size w w1 := hw1 ▸ (Below.refl _ _).alloc (Nat.le_refl _) _
  have P1 : Hid (PicIn w1 w.heap.size 0 0 (.slice none 0 0)) := hide (hw1 ▸ picIn_new w _ _ _)
  have B1 := hide b1
  have HI := hide (h.below b1)
  have S1 := hide (aside_ok a w1)
  have S2 := hide (aside_ok b w1)
  have S3 := hide (astep_ok s w1)
  rw [sideOk_iff.2 (by have := o.wide; have := o.w1; have := o.w6; omega)] at S1
  rw [sideOk_iff.2 (by have := o.high; have := o.h1; have := o.h6; omega)] at S2
  rw [stepOk_iff.2 ⟨o.s1, o.s2⟩] at S3
  have C := hide (acont_ok HI.out (by have := o.le; omega))
  rw [restsOk_iff.2 o.rest] at C
  have hl := o.le
  have h0 := o.pos
  have hn : (n : Int) = a * b := by rw [o.wide, o.high, o.many, Int.natCast_mul]
  have hn1 : ((n : Int) == a * b) = true := by rw [beq_iff_eq]; exact hn
  have hn3 : ((n : Int) != a * b) = false := by simp [bne, hn1]
  have hp0 : 0 ≤ a * b := by omega
  have hp1 : a * b ≤ 36 := by omega
  have HR := hide o.rest
  have HT := hide (fun i => tellF_eq o.w1 s (fun j _ => f j) i)
  have HG := hide (fun i => gsN_in (A := A) (tellF_in o.w1 s (fun j _ => f j)) i)
  have a1 := o.w1
  have a6 := o.w6
  have s1 := o.s1
  have s2 := o.s2
  have ea := o.wide
  obtain ⟨i0, hi0, hz0, hz1, hz2⟩ := info_parts Tryz.infoInt
  have Hi := hide hi0
  have Hz0 := hide hz0
  have Hz1 := hide hz1
  have Hz2 := hide hz2
  obtain ⟨bb, oo, cap, rfl, hc⟩ : ∃ bb oo cap, v = .slice (some ⟨bb, oo, none⟩) n cap ∧ ∀ i, i < n → w.cell? ⟨bb, oo + i, none⟩ = some (.int .i64 (f i)) := by
    rcases h with ⟨h, _⟩ | ⟨_, b', o', c', e, hc⟩
    · omega
    · exact ⟨_, _, _, e, hc⟩
  have HC := hide hc
  obtain ⟨w2, hmk, hown, hgrow⟩ := run_make_own (P := Tryz.prog) w1 w1.heap.size 23 3 i0 (.int .i64 0) 1 Tryz.underlying23 Hi.out Hz0.out (by have := Hz1.out; simpa using this) .i64 .i64 n (by rw [Hz2.out]; omega) (by unfold maxLen; omega) (Nat.le_refl _)
  have bg : Below w1.heap.size w1 w2 := (Below.refl _ _).grown hgrow (Nat.le_refl _) (fun k hk => by cases hk)
  have hs1 : w1.heap.size = w.heap.size + 1 := by rw [hw1]; simp
  have P2 := hide (P1.out.below bg)
  have B2 := hide (below_two B1.out bg)
  rw [hs1] at hmk hown
  have HOWN := hide hown
  subst ea
  generalize hTT : tellF A s (fun j _ => f j) = T at *
  clear h o b1 hc hn hi0 hz0 hz1 hz2 bg hown hgrow hTT hs1 P1 B1
  subst hw1
  go_enter Tryz.func52, Tryz.ntmps52
  go_wp2_with fail
  refine (S1.out).mono ?_
  rintro e w3 ⟨rfl, rfl⟩
  go_wp2_with fail
  refine (S2.out).mono ?_
  rintro e w3 ⟨rfl, rfl⟩
  go_wp2_with fail
  refine (S3.out).mono ?_
  rintro e w3 ⟨rfl, rfl⟩
  go_wp2_with fail
  refine (C.out).mono ?_
  rintro e w3 ⟨rfl, rfl⟩
  go_wp2
  go_loopw [10, 45] (fun u i wr => ∃ (j : Nat) (ad : Option Addr) (cp : Nat), j ≤ n ∧ i = .int .i64 j ∧ u = .slice ad j cp ∧ wr.ownsRow (w.heap.size + 1) 3 1 u j ((List.range j).map fun k : Nat => .int .i64 (T k)) ∧ Hid (PicIn wr w.heap.size 0 0 (.slice none 0 0)) ∧ Below w.heap.size w wr) (fun _ i _ => n - (intOf i).toNat)
  case atStart => exact ⟨0, _, n, Nat.zero_le _, rfl, rfl, HOWN.out, P2, B2.out⟩
  case round =>
    obtain ⟨j, adr, cpr, hj, rfl, rfl, hX, PR, hb⟩ := hrel
    have HX := hide hX
    have HB := hide hb
    have hbig := PR.out.lt
    clear hX hb
    by_cases hlt : j < n
    · have hcj := cell_below HB.out (HC.out j hlt)
      have hr := HR.out j hlt
      have hg := HG.out j
      have K1 := hide (aguess_ok (w := wr) (own_in HX.out) a1 a6 (by omega))
      have K2 := hide (atell_ok (gsN A T j) (f j) s wr hg.1 hg.2 hr.1 hr.2 s1 s2)
      rw [← HT.out j] at K2
      have HM : Hid ((List.range (j + 1)).map (fun k : Nat => Value.int .i64 (T k)) = (List.range j).map (fun k : Nat => Value.int .i64 (T k)) ++ [.int .i64 (T j)]) := by
        unfold Hid; rw [List.range_succ, List.map_append]; rfl
      generalize gsN A T j = g at *
      generalize f j = x at *
      generalize T j = z at *
      clear hr hg
      go_wp2_with fail
      refine (K1.out).mono ?_
      rintro e w3 ⟨rfl, rfl⟩
      go_wp2_with fail
      refine (K2.out).mono ?_
      rintro e w3 ⟨rfl, rfl⟩
      have hz1' := Hz1.out
      go_wp2_with (at_builtin; refine wpList_append_lies _ rfl _ _ 23 rfl (w.heap.size + 1) 3 i0 (.int .i64 0) 1 8 Tryz.underlying23 Hi.out Hz0.out Hz1.out Hz2.out rfl (by decide) _ _ _ rfl (HX.out.alloc _) ⟨wr.heap.size, 0, none⟩ 1 1 [.int .i64 z] rfl rfl (cell_one_new _ _ _) (fun x hx => by simp at hx; subst hx; rfl) (by decide) (by unfold maxLen; omega) (by omega) (by simp; omega) _ rfl ?_; intro g3 cap3 w5 hown3 hgrow3 hat3 hlt3)
      go_roundw
      case rel =>
        have hB5 : Below (w.heap.size + 1) wr w5 := ((Below.refl (w.heap.size + 1) wr).alloc (by omega) _).grown hgrow3 (by simp; omega) (fun q hq => (HX.out.lt q hq).1)
        have R : j + 1 ≤ n ∧ Value.int .i64 ((j : Int) + 1) = .int .i64 ((j + 1 : Nat) : Int) ∧ Value.slice (some ⟨g3, 0, none⟩) (j + 1) cap3 = .slice (some ⟨g3, 0, none⟩) (j + 1) cap3
            ∧ w5.ownsRow (w.heap.size + 1) 3 1 (.slice (some ⟨g3, 0, none⟩) (j + 1) cap3) (j + 1) ((List.range (j + 1)).map fun k : Nat => .int .i64 (T k)) ∧ Hid (PicIn w5 w.heap.size 0 0 (.slice none 0 0)) ∧ Below w.heap.size w w5 :=
          ⟨by omega, by simp, rfl, by rw [HM.out]; exact hown3, PR.out.mono hB5 (by omega), HB.out.trans (hB5.mono (by omega))⟩
        first
          | exact ⟨j + 1, some ⟨g3, 0, none⟩, cap3, R⟩
          | ((repeat apply Exists.intro); exact ⟨⟨j + 1, some ⟨g3, 0, none⟩, cap3, R⟩, rfl⟩)
      case measure => simp [intOf]; omega
    · obtain rfl : j = n := by omega
      obtain ⟨⟨u0, g0⟩, ⟨u1, g1⟩, u2, g2⟩ := PR.out
      go_wp2
      refine bodyPost_ret (v := .tuple #[.agg #[.int .i64 A, .int .i64 b, .slice adr j cpr], .nilIface]) (by simp [results, Tryz.results52, go_sem, u0, u1, u2]) rfl ⟨_, rfl, ?_, ?_, fun g hg => by have := (HX.out.lt g hg).1; omega⟩
      · have hlt9 : w.heap.size < w.heap.size + 1 := by omega
        exact own_in (ownsRow_setCell_below (ownsRow_setCell_below (ownsRow_setCell_below HX.out hlt9 _) hlt9 _) hlt9 _)
      · exact ((HB.out.setCell (Nat.le_refl _) _).setCell (Nat.le_refl _) _).setCell (Nat.le_refl _) _
end Go.Proofs.YtjhflcgphejddaaGreatDoor

namespace Go.Proofs.YtjhflcgphejddaaGreatDoor
open Go.RowKit
set_option linter.unusedVariables false
set_option maxRecDepth 100000

def nearOk (n : Int) : Bool := decide (-1 ≤ n) && decide (n ≤ 1)
theorem nearOk_iff {n : Int} : nearOk n = true ↔ -1 ≤ n ∧ n ≤ 1 := by simp [nearOk]
theorem nearOk_not {n : Int} : nearOk n = false ↔ n < -1 ∨ 1 < n := by rw [← Bool.not_eq_true, nearOk_iff]; omega

theorem mnear_ok (n : Int) (w : World) : Calls Tryz.prog 135 #[.int .i64 n] w fun e w' => e = .returned (.bool (nearOk n)) ∧ w = w' := by
  rcases Int.lt_or_le n (-1) with h | h
  · go_enter Tryz.func135, Tryz.ntmps135
    go_wp2
    go_ret
    exact ⟨ret_bool (nearOk_not.2 (Or.inl h)).symm, rfl⟩
  · rcases Int.lt_or_le 1 n with k | k
    · go_enter Tryz.func135, Tryz.ntmps135
      go_wp2
      go_ret
      exact ⟨ret_bool (by first | exact (nearOk_not.2 (Or.inr k)).symm | (rw [Bool.eq_iff_iff, nearOk_iff, decide_eq_true_iff]; omega)), rfl⟩
    · go_enter Tryz.func135, Tryz.ntmps135
      go_wp2
      go_ret
      exact ⟨ret_bool (nearOk_iff.2 ⟨h, k⟩).symm, rfl⟩
theorem mstep_ok (n : Int) (w : World) : Calls Tryz.prog 97 #[.int .i64 n] w fun e w' => e = .returned (.bool (stepOk n)) ∧ w = w' := by
  rcases Int.lt_or_le n 1 with h | h
  · go_enter Tryz.func97, Tryz.ntmps97
    go_wp2
    go_ret
    exact ⟨ret_bool (stepOk_not.2 (Or.inl h)).symm, rfl⟩
  · rcases Int.lt_or_le 64 n with k | k
    · go_enter Tryz.func97, Tryz.ntmps97
      go_wp2
      go_ret
      exact ⟨ret_bool (by first | exact (stepOk_not.2 (Or.inr k)).symm | (rw [Bool.eq_iff_iff, stepOk_iff, decide_eq_true_iff]; omega)), rfl⟩
    · go_enter Tryz.func97, Tryz.ntmps97
      go_wp2
      go_ret
      exact ⟨ret_bool (stepOk_iff.2 ⟨h, k⟩).symm, rfl⟩
theorem mrest_ok (n : Int) (w : World) : Calls Tryz.prog 137 #[.int .i64 n] w fun e w' => e = .returned (.bool (restOk n)) ∧ w = w' := by
  rcases Int.lt_or_le n (-255) with h | h
  · go_enter Tryz.func137, Tryz.ntmps137
    go_wp2
    go_ret
    exact ⟨ret_bool (restOk_not.2 (Or.inl h)).symm, rfl⟩
  · rcases Int.lt_or_le 255 n with k | k
    · go_enter Tryz.func137, Tryz.ntmps137
      go_wp2
      go_ret
      exact ⟨ret_bool (by first | exact (restOk_not.2 (Or.inr k)).symm | (rw [Bool.eq_iff_iff, restOk_iff, decide_eq_true_iff]; omega)), rfl⟩
    · go_enter Tryz.func137, Tryz.ntmps137
      go_wp2
      go_ret
      exact ⟨ret_bool (restOk_iff.2 ⟨h, k⟩).symm, rfl⟩
end Go.Proofs.YtjhflcgphejddaaGreatDoor

namespace Go.Proofs.YtjhflcgphejddaaGreatDoor
open Go.RowKit
set_option linter.unusedVariables false
set_option maxRecDepth 100000

theorem mnot_ok (n : Int) (w : World) : Calls Tryz.prog 136 #[.int .i64 n] w fun e w' => e = .returned (.bool (!restOk n)) ∧ w = w' := by
  have K := hide (mrest_ok n w)
  go_enter Tryz.func136, Tryz.ntmps136
  go_wp2_with fail
  refine (K.out).mono ?_
  rintro e w1 ⟨rfl, rfl⟩
  go_wp2
  go_ret
  exact ⟨rfl, rfl⟩

set_option maxHeartbeats 1000000 in
theorem midx_ok {w : World} {v : Value} {n : Nat} {f : Nat → Int} (h : IntsIn w v n f) (hn : n ≤ 1000) :
    Calls Tryz.prog 131 #[v, .func (.func 136) #[] #[]] w fun e w' => ∃ i : Int, e = .returned (.int .i64 i) ∧ IsAt (fun j => !restOk (f j)) n i ∧ w = w' := by
  rcases h with ⟨rfl, a, cap, rfl⟩ | ⟨h0, b, o, cap, rfl, hc⟩
  · go_enter Tryz.func131, Tryz.ntmps131
    go_wp2
    go_loop [8] (fun i => i = .int .i64 0) (fun _ => 0)
    case atStart => rfl
    case round =>
      obtain rfl := hrel
      go_wp2
      go_ret
      exact ⟨_, rfl, Or.inl ⟨rfl, fun j hj => absurd hj (Nat.not_lt_zero _)⟩, rfl⟩
  · have HC := hide hc
    clear hc
    go_enter Tryz.func131, Tryz.ntmps131
    go_wp2
    go_loop [5, 8] (fun _ i => ∃ j : Nat, j ≤ n ∧ i = .int .i64 j ∧ ∀ q, q < j → restOk (f q) = true) (fun _ i => n - (intOf i).toNat)
    case atStart => exact ⟨0, Nat.zero_le _, rfl, fun q hq => absurd hq (Nat.not_lt_zero _)⟩
    case round =>
      obtain ⟨j, hj, rfl, hno⟩ := hrel
      have HN := hide hno
      clear hno
      by_cases hlt : j < n
      · have hc := HC.out j hlt
        have K := hide (mnot_ok (f j) w)
        generalize hx : f j = x at *
        have HX := hide hx
        clear hx
        cases hq : restOk x with
        | false =>
          have HQ := hide hq
          rw [hq] at K
          clear hq
          go_wp2_with (go_at_call 136; refine (K.out).mono ?_; rintro e w1 ⟨rfl, rfl⟩)
          go_ret
          exact ⟨_, rfl, Or.inr ⟨j, rfl, hlt, by show (!restOk (f j)) = true; rw [HX.out, HQ.out]; rfl⟩, rfl⟩
        | true =>
          have HQ := hide hq
          rw [hq] at K
          clear hq
          go_wp2_with (go_at_call 136; refine (K.out).mono ?_; rintro e w1 ⟨rfl, rfl⟩)
          go_round
          case rel =>
            refine ⟨j + 1, by omega, by go_num, fun q hq => ?_⟩
            by_cases c : q = j
            · rw [c, HX.out]; exact HQ.out
            · exact HN.out q (by omega)
          case measure => simp [intOf]; omega
      · obtain rfl : j = n := by omega
        go_wp2
        go_ret
        exact ⟨_, rfl, Or.inl ⟨rfl, fun q hq => by show (!restOk (f q)) = false; rw [HN.out q hq]; rfl⟩, rfl⟩

theorem mcont_ok {w : World} {v : Value} {n : Nat} {f : Nat → Int} (h : IntsIn w v n f) (hn : n ≤ 1000) :
    Calls Tryz.prog 85 #[v, .func (.func 136) #[] #[]] w fun e w' => e = .returned (.bool (!restsOk n f)) ∧ w = w' := by
  have K := hide (midx_ok h hn)
  clear h
  go_enter Tryz.func85, Tryz.ntmps85
  go_wp2_with fail
  refine (K.out).mono ?_
  rintro e w1 ⟨i, rfl, hi, rfl⟩
  rcases hi with ⟨rfl, ha⟩ | ⟨j, rfl, hj, hq⟩
  · have e : restsOk n f = true := restsOk_iff.2 fun i hi => restOk_iff.1 (by have := ha i hi; simpa using this)
    have HE := hide e
    clear e ha
    go_wp2
    go_ret
    exact ⟨ret_bool (by rw [HE.out]; rfl), rfl⟩
  · have e : restsOk n f = false := by
      rw [← Bool.not_eq_true, restsOk_iff]
      intro hall
      have h9 := restOk_iff.2 (hall j hj)
      simp [h9] at hq
    have HE := hide e
    clear e hq
    go_wp2
    go_ret
    exact ⟨ret_bool (by rw [HE.out]; rfl), rfl⟩
end Go.Proofs.YtjhflcgphejddaaGreatDoor

namespace Go.Proofs.YtjhflcgphejddaaGreatDoor
open Go.RowKit
set_option linter.unusedVariables false
set_option maxRecDepth 100000

theorem mvOk_two {x y : Int} : mvOk x y = (nearOk x && nearOk y) := rfl

set_option maxHeartbeats 1000000 in
theorem mcheck_ok {w : World} {v : Value} {n : Nat} {f : Nat → Int} (al : Bool) (x y m : Int) (h : IntsIn w v n f) (hm : m ≤ 1000) :
    Calls Tryz.prog 98 #[.agg #[.bool al, .int .i64 x, .int .i64 y, v], .int .i64 m] w fun e w' => e = .returned (errN (chkF al x y n f m)) ∧ Below w.heap.size w w' := by
  obtain ⟨W1, hW1⟩ : ∃ W1, W1 = w.alloc (.cells #[.bool al, .int .i64 x, .int .i64 y, v] 66) := ⟨_, rfl⟩
  have b1 : Below w.heap.size w W1 := hW1 ▸ (Below.refl _ _).alloc (Nat.le_refl _) _
  have P1 : CodIn W1 w.heap.size al x y v := hW1 ▸ codIn_new w al x y v
  obtain ⟨c0, c1, c2, c3, _, _, _, _⟩ := P1
  have B1 := hide b1
  have HI := hide (h.below b1)
  have S1 := hide (mnear_ok x)
  have S2 := hide (mnear_ok y)
  have HD : Hid (chkF al x y n f m = if al = true then 3 else if (nearOk x && nearOk y) = false then 1 else restsF n f m) := rfl
  obtain ⟨ad, cap, rfl⟩ := slice_shape h
  subst hW1
  clear h b1
  cases al with
  | true =>
    have HE : Hid (chkF true x y n f m = 3) := HD.out
    clear HD
    go_enter Tryz.func98, Tryz.ntmps98
    go_wp2
    go_ret
    exact ⟨by rw [HE.out]; rfl, B1.out⟩
  | false =>
    rw [if_neg (by simp)] at HD
    cases h1 : nearOk x with
    | false =>
      rw [h1] at S1
      have HE : Hid (chkF false x y n f m = 1) := by unfold Hid; rw [HD.out, h1, Bool.false_and, if_pos rfl]
      clear HD h1
      go_enter Tryz.func98, Tryz.ntmps98
      go_wp2_with fail
      refine (S1.out _).mono ?_
      rintro e w2 ⟨rfl, rfl⟩
      go_wp2
      go_ret
      exact ⟨by rw [HE.out]; rfl, B1.out⟩
    | true =>
      rw [h1] at S1
      cases h2 : nearOk y with
      | false =>
        rw [h2] at S2
        have HE : Hid (chkF false x y n f m = 1) := by unfold Hid; rw [HD.out, h2, Bool.and_false, if_pos rfl]
        clear HD h1 h2
        go_enter Tryz.func98, Tryz.ntmps98
        go_wp2_with fail
        refine (S1.out _).mono ?_
        rintro e w2 ⟨rfl, rfl⟩
        go_wp2_with fail
        refine (S2.out _).mono ?_
        rintro e w2 ⟨rfl, rfl⟩
        go_wp2
        go_ret
        exact ⟨by rw [HE.out]; rfl, B1.out⟩
      | true =>
        rw [h2] at S2
        rw [h1, h2, Bool.and_true, if_neg (by simp)] at HD
        have HR : Hid (restsF n f m = if (n : Int) ≠ m then 3 else if restsOk n f = false then 1 else 0) := rfl
        clear h1 h2
        by_cases hne : (n : Int) = m
        · subst hne
          have C := hide (mcont_ok HI.out (by omega))
          rw [if_neg (by simp)] at HR
          cases h3 : restsOk n f with
          | false =>
            rw [h3] at C
            have HE : Hid (chkF false x y n f n = 1) := by unfold Hid; rw [HD.out, HR.out, h3, if_pos rfl]
            clear HD HR h3
            go_enter Tryz.func98, Tryz.ntmps98
            go_wp2_with fail
            refine (S1.out _).mono ?_
            rintro e w2 ⟨rfl, rfl⟩
            go_wp2_with fail
            refine (S2.out _).mono ?_
            rintro e w2 ⟨rfl, rfl⟩
            go_wp2_with fail
            refine (C.out).mono ?_
            rintro e w2 ⟨rfl, rfl⟩
            go_wp2
            go_ret
            exact ⟨by rw [HE.out]; rfl, B1.out⟩
          | true =>
            rw [h3] at C
            have HE : Hid (chkF false x y n f n = 0) := by unfold Hid; rw [HD.out, HR.out, h3, if_neg (by simp)]
            clear HD HR h3
            go_enter Tryz.func98, Tryz.ntmps98
            go_wp2_with fail
            refine (S1.out _).mono ?_
            rintro e w2 ⟨rfl, rfl⟩
            go_wp2_with fail
            refine (S2.out _).mono ?_
            rintro e w2 ⟨rfl, rfl⟩
            go_wp2_with fail
            refine (C.out).mono ?_
            rintro e w2 ⟨rfl, rfl⟩
            go_wp2
            go_ret
            exact ⟨by rw [HE.out]; rfl, B1.out⟩
        · have hn1 : ((n : Int) == m) = false := by rw [beq_eq_false_iff_ne]; exact hne
          have hn3 : ((n : Int) != m) = true := by simp [bne, hn1]
          have HE : Hid (chkF false x y n f m = 3) := by unfold Hid; rw [HD.out, HR.out, if_pos hne]
          clear HD HR hne
          go_enter Tryz.func98, Tryz.ntmps98
          go_wp2_with fail
          refine (S1.out _).mono ?_
          rintro e w2 ⟨rfl, rfl⟩
          go_wp2_with fail
          refine (S2.out _).mono ?_
          rintro e w2 ⟨rfl, rfl⟩
          go_wp2
          go_ret
          exact ⟨by rw [HE.out]; rfl, B1.out⟩
end Go.Proofs.YtjhflcgphejddaaGreatDoor

namespace Go.Proofs.YtjhflcgphejddaaGreatDoor
open Go.RowKit
set_option linter.unusedVariables false
set_option maxRecDepth 100000

theorem pfar_ok (n : Int) (w : World) : Calls Tryz.prog 133 #[.int .i64 n] w fun e w' => e = .returned (.bool (farOk n)) ∧ w = w' := by
  rcases Int.lt_or_le n (-6) with h | h
  · go_enter Tryz.func133, Tryz.ntmps133
    go_wp2
    go_ret
    exact ⟨ret_bool (farOk_not.2 (Or.inl h)).symm, rfl⟩
  · rcases Int.lt_or_le 6 n with k | k
    · go_enter Tryz.func133, Tryz.ntmps133
      go_wp2
      go_ret
      exact ⟨ret_bool (by first | exact (farOk_not.2 (Or.inr k)).symm | (rw [Bool.eq_iff_iff, farOk_iff, decide_eq_true_iff]; omega)), rfl⟩
    · go_enter Tryz.func133, Tryz.ntmps133
      go_wp2
      go_ret
      exact ⟨ret_bool (farOk_iff.2 ⟨h, k⟩).symm, rfl⟩
end Go.Proofs.YtjhflcgphejddaaGreatDoor

namespace Go.Proofs.YtjhflcgphejddaaGreatDoor
open Go.RowKit
set_option linter.unusedVariables false
set_option maxRecDepth 100000

set_option maxHeartbeats 1000000 in
theorem pnear_ok {w : World} {s : Value} {n : Nat} {f : Nat → Int} {a b : Int} {A B : Nat} (x y : Int) (h : IntsIn w s n f) (o : PicOk a b n f A B) :
    Calls Tryz.prog 134 #[.agg #[.int .i64 a, .int .i64 b, s], .int .i64 x, .int .i64 y] w fun e w' => e = .returned (.int .i64 (f (near y B * A + near x A))) ∧ Below w.heap.size w w' := by
  have hl := o.le
  have h0 := o.pos
  obtain ⟨ad, oo, cap, rfl, hc⟩ : ∃ ad oo cap, s = .slice (some ⟨ad, oo, none⟩) n cap ∧ ∀ i, i < n → w.cell? ⟨ad, oo + i, none⟩ = some (.int .i64 (f i)) := by
    rcases h with ⟨h, _⟩ | ⟨_, b, o, c, rfl, hc⟩
    · omega
    · exact ⟨_, _, _, rfl, hc⟩
  have b1 : Below w.heap.size w (w.alloc (.cells #[.int .i64 a, .int .i64 b, .slice (some ⟨ad, oo, none⟩) n cap] 33)) := (Below.refl _ _).alloc (Nat.le_refl _) _
  have p1 := picIn_new w a b (.slice (some ⟨ad, oo, none⟩) n cap)
  obtain ⟨⟨c0, _⟩, ⟨c1, _⟩, c2, _⟩ := p1
  have HB := hide b1
  have ea := o.wide
  have eb := o.high
  subst ea
  subst eb
  have a1 := o.w1
  have a6 := o.w6
  have b1' := o.h1
  have b6 := o.h6
  have nx := near_lt x o.w1
  have ny := near_lt y o.h1
  have hq : near y B * A + near x A < n := by
    have h3 : (near y B + 1) * A ≤ B * A := Nat.mul_le_mul_right _ (by omega)
    rw [Nat.add_mul, Nat.one_mul] at h3
    rw [o.many, Nat.mul_comm A B]
    omega
  have hcell := cell_below b1 (hc _ hq)
  have IX := hide (near_int x o.w1)
  have IY := hide (near_int y o.h1)
  have hqi : ((near y B : Nat) : Int) * (A : Int) + ((near x A : Nat) : Int) = ((near y B * A + near x A : Nat) : Int) := by rw [Int.natCast_add, Int.natCast_mul]
  have hp0 : (0 : Int) ≤ ((near y B : Nat) : Int) * (A : Int) := Int.mul_nonneg (by omega) (by omega)
  have hp1 : ((near y B : Nat) : Int) * (A : Int) ≤ 36 := by omega
  clear h hc o b1
  generalize hQ : near y B * A + near x A = q at *
  generalize hX : near x A = xx at *
  generalize hY : near y B = yy at *
  clear hQ hX hY
  go_enter Tryz.func134, Tryz.ntmps134
  go_upto_region 1 with fail
  go_cut [1] (fun t wx => t = .int .i64 xx ∧ wx = w.alloc (.cells #[.int .i64 A, .int .i64 B, .slice (some ⟨ad, oo, none⟩) n cap] 33))
  case first =>
    go_wp2
    all_goals
      go_meet
      refine ⟨?_, rfl⟩
      rw [IX.out]
      congr 1
      first | omega | ((repeat' split) <;> omega)
  case rest =>
  obtain ⟨rfl, rfl⟩ := hcut
  go_upto_region 2 with fail
  go_cut [2] (fun t wx => t = .int .i64 yy ∧ wx = w.alloc (.cells #[.int .i64 A, .int .i64 B, .slice (some ⟨ad, oo, none⟩) n cap] 33))
  case first =>
    go_wp2
    all_goals
      go_meet
      refine ⟨?_, rfl⟩
      rw [IY.out]
      congr 1
      first | omega | ((repeat' split) <;> omega)
  case rest =>
  obtain ⟨rfl, rfl⟩ := hcut
  generalize hz : f q = z at *
  have HZ := hide hz
  clear hz
  go_wp2
  go_ret
  exact ⟨ret_int HZ.out.symm, HB.out⟩
end Go.Proofs.YtjhflcgphejddaaGreatDoor
