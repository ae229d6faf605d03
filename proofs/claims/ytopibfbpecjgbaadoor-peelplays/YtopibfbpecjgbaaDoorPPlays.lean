/-
  'dropletmill/droplaw1.PeelPlays' over any Peeler that keeps its contracts (PIm). Lemmas for the laws above; no statement is proved here.
-/
import Derived.Test.YtopibfbpecjgbaaDoorPIm
import Derived.Test.YtopibfbpecjgbaaDoorRTake
import Derived.Test.YtopibfbpecjgbaaDoorRKnows
import Derived.Test.YtopibfbpecjgbaaDoorDFrame
import Derived.Test.YtopibfbpecjgbaaDoorInOwn
namespace Go.Proofs.YtopibfbpecjgbaaDoor
open Go.RowKit Go.Maps
set_option linter.unusedVariables false
set_option maxRecDepth 100000

theorem rin_empty (a : Option Addr) (cap : Nat) (v : Int) (w : World) : Calls Tryd.prog 16 #[.slice a 0 cap, .int .i64 v] w fun e w' => e = .returned (.bool false) ∧ w = w' := by
  go_enter Tryd.func16, Tryd.ntmps16
  go_wp2
  go_loop [5] (fun i => i = .int .i64 0) (fun _ => 0)
  case atStart => rfl
  case round =>
    obtain rfl := hrel
    go_wp2
    go_ret
    exact ⟨rfl, rfl⟩
/-- 'in' the taken ones. -/
theorem rin_T {w : World} {B : Nat} {vT : Value} {T : List Nat} (h : w.ownsRow B 3 1 vT T.length (toV T)) (seed : Int) : ∃ a cap, vT = .slice a T.length cap ∧ T.length ≤ cap ∧ cap ≤ maxLen ∧
    ∃ r : Bool, (r = true ↔ ∃ n : Nat, seed = n ∧ n ∈ T) ∧ ∀ w', Below w.heap.size w w' → Calls Tryd.prog 16 #[vT, .int .i64 seed] w' fun e w'' => e = .returned (.bool r) ∧ w' = w'' := by
  obtain ⟨a, cap, hv, h1, h2, h3⟩ := own_lsh h
  refine ⟨a, cap, hv, h1, h2, ?_⟩
  rcases Nat.eq_zero_or_pos T.length with e | h0
  · refine ⟨false, ⟨(fun h => by cases h), (fun ⟨n, _, hn⟩ => ?_)⟩, fun w' hb => ?_⟩
    · rw [List.eq_nil_of_length_eq_zero e] at hn; cases hn
    · rw [hv, e]; exact rin_empty a cap seed w'
  · obtain ⟨g, cap', hv', q1, q2, q3⟩ := h3 h0
    by_cases hm : ∃ n : Nat, seed = n ∧ n ∈ T
    · obtain ⟨n, rfl, hn⟩ := hm
      obtain ⟨q, hq, he⟩ := List.getElem_of_mem hn
      refine ⟨true, ⟨fun _ => ⟨n, rfl, hn⟩, fun _ => rfl⟩, fun w' hb => ?_⟩
      rw [hv']
      exact rin_yes g 0 _ cap' _ _ w' (by omega) (fun i hi => cell_below hb (q3 i hi)) q hq (by simp [List.getD, hq, he])
    · refine ⟨false, ⟨(fun h => by cases h), (fun h => absurd h hm)⟩, fun w' hb => ?_⟩
      rw [hv']
      exact rin_no g 0 _ cap' _ _ w' (by omega) (fun i hi => cell_below hb (q3 i hi)) (fun i hi e => hm ⟨T.getD i 0, e.symm, by rw [show T.getD i 0 = T[i] by simp [List.getD, hi]]; exact List.getElem_mem hi⟩)

set_option maxHeartbeats 1000000 in
theorem plays_range (I : PIm) (k size : Int) (v : Value) (i : Int) (w : World) (hg : HasErr w) (h : ¬ ((1 ≤ k ∧ k ≤ 16) ∧ 1 ≤ size ∧ size ≤ 8)) :
    Calls Tryd.prog 5 #[.int .i64 k, .int .i64 size, v, .int .i64 i] w fun e w' => e = .returned (.bool true) ∧ Below w.heap.size w w' := by
  have N := hide (I.new_range k size w h)
  have HG := hide hg
  have HGL := hide hg.lt
  clear hg
  have ways : ∀ c : Prop, c → c := fun c h => h
  go_enter Tryd.func5, Tryd.ntmps5
  go_upto_region 2 with fail
  go_cut [35] (fun t wx => t = .bool true ∧ w = wx)
  case first =>
    by_cases h1 : k < 1
    · clear h
      go_wp2
      go_meet
      exact ⟨rfl, rfl⟩
    · by_cases h2 : 16 < k
      · clear h
        go_wp2
        go_meet
        exact ⟨by first | rfl | simp <;> omega, rfl⟩
      · by_cases h3 : size < 1
        · clear h
          go_wp2
          go_meet
          exact ⟨by first | rfl | simp <;> omega, rfl⟩
        · have h4 : 8 < size := by omega
          clear h
          go_wp2
          go_meet
          exact ⟨by first | rfl | simp <;> omega, rfl⟩
  case rest =>
  obtain ⟨rfl, rfl⟩ := hcut
  clear h
  go_wp2_with fail
  refine (N.out).mono ?_
  rintro e w1 ⟨v1, rfl, hb1⟩
  have E := hide (error_right 1 _ w1 (HG.out.below HGL.out hb1) (Or.inr rfl))
  have HB1 := hide hb1
  clear hb1 N
  go_wp2_with fail
  refine (E.out).mono ?_
  rintro e w2 ⟨rfl, hb2⟩
  have HB2 := hide (below_two HB1.out hb2)
  clear hb2
  go_wp2
  go_ret
  exact ⟨rfl, HB2.out⟩

/-- dropref1's Peeler and its rows, as they lie. -/
structure RQ (w : World) (base b k : Nat) (p : PS) (T : List Nat) (vL vT : Value) : Prop where
  blk : RPb w b k p.known p.B vL vT
  ownL : w.ownsRow base 32 2 vL p.L.length (dC p.L)
  ownT : w.ownsRow base 3 1 vT T.length (toV T)
  apL : vL.ownBlock ≠ some b
  apT : vT.ownBlock ≠ some b
  apLT : Apart vL vT
  inb : base ≤ b
def footR (b : Nat) (vL vT : Value) (i : Nat) : Prop := i = b ∨ vL.ownBlock = some i ∨ vT.ownBlock = some i
theorem RQ.st {w : World} {base b k : Nat} {p : PS} {T : List Nat} {vL vT : Value} (h : RQ w base b k p T vL vT) : RSt (footR b vL vT) w w base b k p T vL vT :=
  ⟨h.blk, h.ownL, h.ownT, h.apL, h.apT, h.apLT, fun i e => Or.inl (Or.inr (Or.inl e)), fun i e => Or.inl (Or.inr (Or.inr e)), Or.inl rfl, Kept.refl _ _⟩
theorem RSt.rq {M : Nat → Prop} {w0 w : World} {base b k : Nat} {p : PS} {T : List Nat} {vL vT : Value} (h : RSt M w0 w base b k p T vL vT) (hb : base ≤ b) : RQ w base b k p T vL vT := ⟨h.blk, h.ownL, h.ownT, h.apL, h.apT, h.apLT, hb⟩
theorem own_block {w w' : World} {B e size n : Nat} {v : Value} {xs : List Value} (h : w.ownsRow B e size v n xs) (hb : ∀ i, v.ownBlock = some i → w'.heap[i]? = w.heap[i]?) : w'.ownsRow B e size v n xs := by
  refine ⟨h.1, ?_⟩
  rcases h.2 with hn | ⟨g, cap, cur, hv, h1, hgg, rest⟩
  · exact .inl hn
  · exact .inr ⟨g, cap, cur, hv, h1, (hb g (by rw [hv]; rfl)).trans hgg, rest⟩
theorem RQ.keep {w w' : World} {base b k : Nat} {p : PS} {T : List Nat} {vL vT : Value} (h : RQ w base b k p T vL vT) (hb : ∀ i, footR b vL vT i → w'.heap[i]? = w.heap[i]?) : RQ w' base b k p T vL vT :=
  ⟨h.blk.of_block (hb b (Or.inl rfl)), own_block h.ownL fun i e => hb i (Or.inr (Or.inl e)), own_block h.ownT fun i e => hb i (Or.inr (Or.inr e)), h.apL, h.apT, h.apLT, h.inb⟩
theorem RQ.lt {w : World} {base b k : Nat} {p : PS} {T : List Nat} {vL vT : Value} (h : RQ w base b k p T vL vT) : ∀ i, footR b vL vT i → base ≤ i ∧ i < w.heap.size := fun i hi => by
  rcases hi with rfl | e | e
  · exact ⟨h.inb, h.blk.lt⟩
  · exact h.ownL.lt i e
  · exact h.ownT.lt i e
theorem below_two' {w0 w w' : World} (h : Below w0.heap.size w0 w) (k : Below w.heap.size w w') : Below w0.heap.size w0 w' := below_two h k
theorem kept_below {M : Nat → Prop} {w0 w w' : World} (h : Below w0.heap.size w0 w) (k : Kept M w w') (hm : ∀ i, M i → w0.heap.size ≤ i) : Below w0.heap.size w0 w' :=
  ⟨k.os.trans h.os, k.tape.trans h.tape, k.output.trans h.output, Nat.le_trans h.size k.size, fun i hi => (k.block i (Nat.lt_of_lt_of_le hi h.size) (fun e => by have := hm i e; omega)).trans (h.block i hi)⟩
/-- Both, side by side. -/
structure Both (I : PIm) (w0 w : World) (vP : Value) (b k z : Nat) (p : PS) (T : List Nat) (vL vT : Value) : Prop where
  st : I.St w vP k z p T
  rq : RQ w w0.heap.size b k p T vL vT
  ap : ∀ i, I.foot w vP i → ¬ footR b vL vT i
  fr : ∀ i, I.foot w vP i → w0.heap.size ≤ i
  below : Below w0.heap.size w0 w
theorem Both.grow {I : PIm} {w0 w w' : World} {vP : Value} {b k z : Nat} {p : PS} {T : List Nat} {vL vT : Value} (h : Both I w0 w vP b k z p T vL vT) (hb : Below w.heap.size w w') : Both I w0 w' vP b k z p T vL vT := by
  have h1 := I.below h.st hb
  exact ⟨h1.1, h.rq.keep fun i hi => hb.block i (h.rq.lt i hi).2, fun i hi => h.ap i (h1.2 i hi), fun i hi => h.fr i (h1.2 i hi), below_two' h.below hb⟩
/-- dropref1's takes one. -/
theorem Both.rtook {I : PIm} {w0 w w' : World} {vP v : Value} {b k z : Nat} {p : PS} {T : List Nat} {vL vT : Value} {d : Drp} (h : Both I w0 w vP b k z p T vL vT) (ht : RTook (footR b vL vT) w w0.heap.size b k z p T d v w') :
    ∃ q vL' vT', Peels (setL k) ⟨p.known, p.B, p.L ++ [d]⟩ q ∧ I.St w' vP k z p T ∧ RQ w' w0.heap.size b k q (T ++ [d.1]) vL' vT' ∧ (∀ i, I.foot w' vP i → ¬ footR b vL' vT' i) ∧ (∀ i, I.foot w' vP i → w0.heap.size ≤ i) ∧ Below w0.heap.size w0 w' ∧ Lsh w' v (came k p.known q.known) ∧ Good z q ∧ ∀ i, v.ownBlock = some i → ¬ I.foot w' vP i := by
  obtain ⟨q, vL', vT', h1, h2, h3, h4, h5⟩ := ht
  have hk := I.keep h.st h2.kept.size fun i hi => h2.kept.block i (I.foot_lt h.st i hi) (h.ap i hi)
  refine ⟨q, vL', vT', h1, hk.1, h2.rq h.rq.inb, fun i hi hr => ?_, fun i hi => h.fr i (hk.2 i hi), kept_below h.below h2.kept fun i hi => (h.rq.lt i hi).1, h3, h4, fun i e hf => by
    have := h5 i e
    have := I.foot_lt h.st i (hk.2 i hf)
    omega⟩
  have hf := hk.2 i hi
  have hlt := I.foot_lt h.st i hf
  rcases hr with rfl | e | e
  · exact h.ap i hf (Or.inl rfl)
  · rcases h2.inL i e with h9 | h9
    · exact h.ap i hf h9
    · omega
  · rcases h2.inT i e with h9 | h9
    · exact h.ap i hf h9
    · omega
theorem Lsh.ints {w : World} {v : Value} {l : List Nat} (h : Lsh w v l) : IntsIn w v l.length (fun i => ((l.getD i 0 : Nat) : Int)) := by
  obtain ⟨a, cap, hv, _, _, h3⟩ := h
  rcases Nat.eq_zero_or_pos l.length with e | h0
  · rw [e] at hv ⊢; exact Or.inl ⟨rfl, _, _, hv⟩
  · obtain ⟨g, cap', hv', _, _, hc⟩ := h3 h0
    exact Or.inr ⟨h0, g, 0, cap', hv', hc⟩
/-- The Peeler takes one, or does not. -/
theorem Both.ptook {I : PIm} {w0 w w' : World} {vP : Value} {b k z : Nat} {p q : PS} {T T' : List Nat} {vL vT : Value} (hst : I.St w vP k z p T) (hrq : RQ w w0.heap.size b k q T' vL vT) (hap : ∀ i, I.foot w vP i → ¬ footR b vL vT i) (hfr : ∀ i, I.foot w vP i → w0.heap.size ≤ i) (hb : Below w0.heap.size w0 w)
    (hs : I.St w' vP k z q T') (hk : Kept (I.foot w vP) w w') (hf : ∀ i, I.foot w' vP i → I.foot w vP i ∨ w.heap.size ≤ i) : Both I w0 w' vP b k z q T' vL vT := by
  refine ⟨hs, hrq.keep fun i hi => hk.block i (hrq.lt i hi).2 (fun e => hap i e hi), fun i hi hr => ?_, fun i hi => ?_, kept_below hb hk hfr⟩
  · rcases hf i hi with h | h
    · exact hap i h hr
    · have := (hrq.lt i hr).2; omega
  · rcases hf i hi with h | h
    · exact hfr i h
    · exact Nat.le_trans hb.size h
theorem came_self (k : Nat) (kn : Nat → Bool) : came k kn kn = [] := List.filter_eq_nil_iff.2 fun r _ => by cases kn r <;> simp
theorem Lsh.kept {M : Nat → Prop} {w w' : World} {v : Value} {l : List Nat} (h : Lsh w v l) (k : Kept M w w') (hm : ∀ i, v.ownBlock = some i → ¬ M i) : Lsh w' v l := by
  obtain ⟨a, cap, hv, h1, h2, h3⟩ := h
  refine ⟨a, cap, hv, h1, h2, fun h0 => ?_⟩
  obtain ⟨g, cap', hv', q1, q2, q3⟩ := h3 h0
  have hlt : g < w.heap.size := cell_lt (q3 0 h0)
  have hb : w'.heap[g]? = w.heap[g]? := k.block g hlt (hm g (by rw [hv']; rfl))
  exact ⟨g, cap', hv', q1, q2, fun i hi => (World.cell?_of_block (w := w) hb).trans (q3 i hi)⟩
theorem Peels.shrinks {S : Nat → List Nat} {p a : PS} (h : Peels S p a) : a.L.length ≤ p.L.length := by rw [h.waits]; exact sift_len _
theorem tF_ok {k z : Nat} {T : List Nat} {n d : Nat} (hf : fD k z (n : Int) d = 0) (hm : n ∉ T) (h : ¬ 60 ≤ T.length) : tF k z T (n : Int) d = 0 := by
  unfold tF
  rw [if_neg (by simp [hf]), if_neg (by simpa using hm), if_neg h]
/-- dropref1's has taken it, or has not; the Peeler has yet to. -/
def Join (I : PIm) (w0 : World) (vP : Value) (b k z : Nat) (p : PS) (T : List Nat) (sj : Int) (dj : ByteArray) (q : PS) (T' : List Nat) (vL vT want : Value) (wx : World) : Prop :=
  I.St wx vP k z p T ∧ RQ wx w0.heap.size b k q T' vL vT ∧ (∀ i, I.foot wx vP i → ¬ footR b vL vT i) ∧ (∀ i, I.foot wx vP i → w0.heap.size ≤ i) ∧ Below w0.heap.size w0 wx ∧ Lsh wx want (came k p.known q.known) ∧ (∀ i, want.ownBlock = some i → ¬ I.foot wx vP i) ∧
  (Good z q ∧ q.L.length ≤ T'.length ∧ T'.length ≤ 60 ∧ ∀ r, q.known r = true → r < k) ∧
  ((tF k z T sj dj.size ≠ 0 ∧ q = p ∧ T' = T) ∨ ∃ n : Nat, sj = (n : Int) ∧ tF k z T (n : Int) dj.size = 0 ∧ Peels (setL k) ⟨p.known, p.B, p.L ++ [(n, dj)]⟩ q ∧ T' = T ++ [n])
theorem join_take {I : PIm} {w0 wx : World} {vP vL vT want : Value} {b k z : Nat} {p q : PS} {T T' : List Nat} {sj : Int} {dj : ByteArray} (h : Join I w0 vP b k z p T sj dj q T' vL vT want wx) (hd : dj.size ≤ maxLen) :
    Calls Tryd.prog 7 #[vP, dropV sj dj] wx fun e w' => ∃ vs err, e = .returned (.tuple #[vs, err]) ∧ ErrIs (tF k z T sj dj.size) err ∧ Lsh w' vs (came k p.known q.known) ∧ Lsh w' want (came k p.known q.known) ∧ Both I w0 w' vP b k z q T' vL vT := by
  obtain ⟨h1, h2, h3, h4, h5, h6, h7, _, h9 | ⟨n, rfl, h10, h11, rfl⟩⟩ := h
  · obtain ⟨hne, rfl, rfl⟩ := h9
    refine (I.take_bad h1 sj dj hd hne).mono ?_
    rintro e w' ⟨vs, he, hl, hs, hk, hf⟩
    exact ⟨vs, _, he, Or.inr rfl, by rw [came_self]; exact hl, h6.kept hk h7, Both.ptook h1 h2 h3 h4 h5 hs hk hf⟩
  · refine (I.take_ok h1 n dj h10).mono ?_
    rintro e w' ⟨vs, q', he, hp, hl, hs, hk, hf⟩
    obtain rfl := h11.det hp
    exact ⟨vs, _, he, Or.inl ⟨h10, rfl⟩, hl, h6.kept hk h7, Both.ptook h1 h2 h3 h4 h5 hs hk hf⟩
end Go.Proofs.YtopibfbpecjgbaaDoor
