/-
  Lemmas for the law above, joined into one text (LstN, RShift). No statement is proved here.
-/
import Derived.Test.YtcicoblejaippaaDoorTG6
import Derived.Test.YtcicoblejaippaaDoorTG3
import Derived.Test.YtcicoblejaippaaDoorTG5
import Derived.Test.YtcicoblejaippaaDoorTG2
import Derived.Maps.AppendAt
import Derived.Deep.RegionLaw
import Derived.Deep.DrawnRows
import Derived.Deep.DeepCutAuto
import Derived.Deep.QuietTactic
import Derived.BigQuiet
namespace Go.Proofs.YtcicoblejaippaaDoor
open Go.RowKit
set_option linter.unusedVariables false
set_option maxRecDepth 100000

/-- A slice that holds just the numbers of the list l. -/
def Lst (w : World) (v : Value) (l : List Nat) : Prop :=
  ∃ g cap, v = .slice (some ⟨g, 0, none⟩) l.length cap ∧ l.length ≤ cap ∧ cap ≤ maxLen ∧ ∀ i, i < l.length → w.cell? ⟨g, 0 + i, none⟩ = some (.int .i64 (l.getD i 0 : Nat))
theorem Lst.below {w w' : World} {v : Value} {l : List Nat} (h : Lst w v l) (hb : Below w.heap.size w w') : Lst w' v l := by
  obtain ⟨g, cap, hv, h1, h2, h3⟩ := h
  exact ⟨g, cap, hv, h1, h2, fun i hi => cell_below hb (h3 i hi)⟩
theorem own_lst {w : World} {B : Nat} {v : Value} {l : List Nat} (h : w.ownsRow B 3 1 v l.length (l.map fun r : Nat => .int .i64 (r : Nat))) (hn : 0 < l.length) : Lst w v l := by
  have e : (l.map fun r : Nat => Value.int .i64 (r : Nat)) = (List.range l.length).map fun k : Nat => .int .i64 (l.getD k 0 : Nat) := by
    apply List.ext_getElem
    · simp
    · intro i h1 h2
      simp at h1
      simp [h1]
  rw [e] at h
  obtain ⟨g, cap, hv, h1, h2, h3⟩ := own_ints (f := fun k => ((l.getD k 0 : Nat) : Int)) h hn
  exact ⟨g, cap, hv, h1, h2, h3⟩
/-- Numbers as a slice holds them. -/
def toV (l : List Nat) : List Value := l.map fun r => .int .i64 (r : Nat)
theorem toV_one (l : List Nat) : ∀ u ∈ toV l, u.oneCell' = true := fun u hu => by
  obtain ⟨r, _, rfl⟩ := List.mem_map.1 hu
  rfl
theorem take_snocR (l : List Nat) (j : Nat) (h : j < l.length) : toV (l.take (j + 1)) = toV (l.take j) ++ [.int .i64 (l.getD j 0 : Nat)] := by
  unfold toV
  rw [List.take_add_one, List.map_append]
  simp [List.getD, h]
/-- A slice that holds just the numbers of the list l, or an empty one. -/
def Lsh (w : World) (v : Value) (l : List Nat) : Prop := ∃ a cap, v = .slice a l.length cap ∧ l.length ≤ cap ∧ cap ≤ maxLen ∧ (0 < l.length → Lst w v l)
theorem own_lsh {w : World} {B : Nat} {v : Value} {l : List Nat} (h : w.ownsRow B 3 1 v l.length (toV l)) : Lsh w v l := by
  rcases Nat.eq_zero_or_pos l.length with e | h0
  · rcases h.2 with ⟨hv, _⟩ | ⟨g, cap, cur, hv, _, _, h1, h2, _⟩
    · exact ⟨none, 0, by rw [e]; exact hv, by omega, by omega, fun h => by omega⟩
    · exact ⟨_, cap, hv, h1, h2, fun h => by omega⟩
  · obtain ⟨g, cap, hv, h1, h2, h3⟩ := own_lst h h0
    exact ⟨_, cap, hv, h1, h2, fun _ => ⟨g, cap, hv, h1, h2, h3⟩⟩
theorem Lsh.below {w w' : World} {v : Value} {l : List Nat} (h : Lsh w v l) (hb : Below w.heap.size w w') : Lsh w' v l := by
  obtain ⟨a, cap, hv, h1, h2, h3⟩ := h
  exact ⟨a, cap, hv, h1, h2, fun h0 => (h3 h0).below hb⟩
/-- What is below w's size is as it was, but for the blocks of M. -/
structure Kept (M : Nat → Prop) (w w' : World) : Prop where
  os : w'.os = w.os
  tape : w'.tape = w.tape
  output : w'.output = w.output
  size : w.heap.size ≤ w'.heap.size
  block : ∀ i, i < w.heap.size → ¬ M i → w'.heap[i]? = w.heap[i]?
theorem Kept.refl (M : Nat → Prop) (w : World) : Kept M w w := ⟨rfl, rfl, rfl, Nat.le_refl _, fun _ _ _ => rfl⟩
theorem Kept.below {M : Nat → Prop} {w0 w w' : World} (h : Kept M w0 w) (hb : Below w.heap.size w w') : Kept M w0 w' :=
  ⟨hb.os.trans h.os, hb.tape.trans h.tape, hb.output.trans h.output, Nat.le_trans h.size hb.size, fun i hi hm => (hb.block i (Nat.lt_of_lt_of_le hi h.size)).trans (h.block i hi hm)⟩
theorem Kept.grown {M : Nat → Prop} {w0 w w' : World} (h : Kept M w0 w) {row : Option Nat} (hg : w.grownBy w' row) (hr : ∀ i, row = some i → M i ∨ w0.heap.size ≤ i) : Kept M w0 w' := by
  have hb : Below 0 w w' := (Below.refl 0 w).grown hg (Nat.zero_le _) (fun _ _ => Nat.zero_le _)
  refine ⟨hb.os.trans h.os, hb.tape.trans h.tape, hb.output.trans h.output, Nat.le_trans h.size hb.size, fun i hi hm => ?_⟩
  refine (hg.block i (Nat.lt_of_lt_of_le hi h.size) (fun e => ?_)).trans (h.block i hi hm)
  rcases hr i e.symm with h1 | h1
  · exact hm h1
  · omega
theorem Kept.setCell {M : Nat → Prop} {w0 w : World} (h : Kept M w0 w) (a : Addr) (u : Value) (hr : M a.block ∨ w0.heap.size ≤ a.block) : Kept M w0 (w.setCell a u) := by
  have hb : Below 0 w (w.setCell a u) := (Below.refl 0 w).setCell (Nat.zero_le _) _
  refine ⟨hb.os.trans h.os, hb.tape.trans h.tape, hb.output.trans h.output, Nat.le_trans h.size hb.size, fun i hi hm => ?_⟩
  refine (Below.heap_setCell w a u i (fun e => ?_)).trans (h.block i hi hm)
  rcases hr with h1 | h1
  · exact hm (e ▸ h1)
  · omega

theorem own_under' {w w' : World} {B e size n : Nat} {v : Value} {xs : List Value} (h : w.ownsRow B e size v n xs) (hb : Below w.heap.size w w') : w'.ownsRow B e size v n xs := by
  refine ⟨h.1, ?_⟩
  rcases h.2 with hn | ⟨g, cap, cur, hv, h1, hgg, rest⟩
  · exact .inl hn
  · exact .inr ⟨g, cap, cur, hv, h1, (hb.block g (Array.getElem?_eq_some_iff.1 hgg).1).trans hgg, rest⟩
theorem getD_mem {l : List Nat} {j : Nat} (h : j < l.length) : l.getD j 0 ∈ l := by
  rw [show l.getD j 0 = l[j] by simp [List.getD, h]]; exact List.getElem_mem h
end Go.Proofs.YtcicoblejaippaaDoor

namespace Go.Proofs.YtcicoblejaippaaDoor
open Go.RowKit Go.Maps
set_option linter.unusedVariables false
set_option maxRecDepth 100000

/-- The blocks that dropref2's Shift works over, behind so many pixels. -/
structure RSh (w wr : World) (a b : Int) (s : Value) (n : Nat) (mx my : Int) (v : Value) (j : Nat) (F : Nat → Int) : Prop where
  p : PicIn wr w.heap.size a b s
  m : MoveIn wr (w.heap.size + 1) mx my
  r : PicIn wr (w.heap.size + 1 + 1) 0 0 (.slice none 0 0)
  q : PicIn wr (w.heap.size + 1 + 1 + 1) a b v
  own : wr.ownsRow (w.heap.size + 1 + 1 + 1 + 1) 3 1 v j ((List.range j).map fun k : Nat => .int .i64 (F k))
  big : w.heap.size + 1 + 1 + 1 + 1 ≤ wr.heap.size
  b : Below w.heap.size w wr
theorem RSh.below {w wr w' : World} {a b : Int} {s : Value} {n : Nat} {mx my : Int} {v : Value} {j : Nat} {F : Nat → Int} (h : RSh w wr a b s n mx my v j F) (hb : Below wr.heap.size wr w') : RSh w w' a b s n mx my v j F :=
  ⟨h.p.below hb, h.m.below hb, h.r.below hb, h.q.below hb, own_under' h.own hb, Nat.le_trans h.big hb.size, below_two h.b hb⟩
theorem RSh.stored {w wr w' : World} {a b : Int} {s : Value} {n : Nat} {mx my : Int} {v : Value} {j : Nat} {F : Nat → Int} (h : RSh w wr a b s n mx my v j F) (hb : Below (w.heap.size + 1 + 1 + 1 + 1) wr w') {v' : Value}
    (hown : w'.ownsRow (w.heap.size + 1 + 1 + 1 + 1) 3 1 v' (j + 1) ((List.range (j + 1)).map fun k : Nat => .int .i64 (F k))) : RSh w (w'.setCell ⟨w.heap.size + 1 + 1 + 1, 2, none⟩ v') a b s n mx my v' (j + 1) F :=
  ⟨(h.p.mono hb (by omega)).setOther (by omega) _, (h.m.mono hb (by omega)).setOther (by omega) _, (h.r.mono hb (by omega)).setOther (by omega) _, (h.q.mono hb (by omega)).setPix _,
    ownsRow_setCell_below hown (by show w.heap.size + 1 + 1 + 1 < w.heap.size + 1 + 1 + 1 + 1; omega) _, Nat.le_trans h.big (by have := hb.size; simpa [World.setCell] using this), (h.b.trans (hb.mono (by omega))).setCell (by show w.heap.size ≤ w.heap.size + 1 + 1 + 1; omega) _⟩

set_option maxHeartbeats 4000000 in
theorem rshift_ok {w : World} {s : Value} {n : Nat} {f : Nat → Int} {a b : Int} {A B : Nat} (mx my : Int) (h : IntsIn w s n f) (o : PicOk a b n f A B) (hm : farF mx my = 0) :
    Calls Tryd.prog 16 #[.agg #[.int .i64 a, .int .i64 b, s], .agg #[.int .i64 mx, .int .i64 my]] w fun e w' => ∃ v, e = .returned (.agg #[.int .i64 a, .int .i64 b, v]) ∧ IntsIn w' v n (shiftN A B mx my f) ∧ Below w.heap.size w w' ∧ ∀ g, v.ownBlock = some g → w.heap.size ≤ g := by
  obtain ⟨W1, hW1⟩ : ∃ W1, W1 = w.alloc (.cells #[.int .i64 a, .int .i64 b, s] 24) := ⟨_, rfl⟩
  obtain ⟨W2, hW2⟩ : ∃ W2, W2 = W1.alloc (.cells #[.int .i64 mx, .int .i64 my] 26) := ⟨_, rfl⟩
  obtain ⟨W3, hW3⟩ : ∃ W3, W3 = W2.alloc (.cells #[.int .i64 0, .int .i64 0, .slice none 0 0] 24) := ⟨_, rfl⟩
  obtain ⟨W4, hW4⟩ : ∃ W4, W4 = W3.alloc (.cells #[.int .i64 a, .int .i64 b, .slice none 0 0] 24) := ⟨_, rfl⟩
  have b1 : Below w.heap.size w W1 := hW1 ▸ (Below.refl _ _).alloc (Nat.le_refl _) _
  have b12 : Below W1.heap.size W1 W2 := hW2 ▸ (Below.refl _ _).alloc (Nat.le_refl _) _
  have b23 : Below W2.heap.size W2 W3 := hW3 ▸ (Below.refl _ _).alloc (Nat.le_refl _) _
  have b34 : Below W3.heap.size W3 W4 := hW4 ▸ (Below.refl _ _).alloc (Nat.le_refl _) _
  have b4 := below_two (below_two (below_two b1 b12) b23) b34
  have z1 : W1.heap.size = w.heap.size + 1 := by rw [hW1]; simp
  have z2 : W2.heap.size = w.heap.size + 1 + 1 := by rw [hW2]; simp [z1]
  have z3 : W3.heap.size = w.heap.size + 1 + 1 + 1 := by rw [hW3]; simp [z2]
  have z4 : W4.heap.size = w.heap.size + 1 + 1 + 1 + 1 := by rw [hW4]; simp [z3]
  have H0 : RSh w W4 a b s n mx my (.slice none 0 0) 0 (shiftN A B mx my f) := by
    refine ⟨PicIn.below (hW1 ▸ picIn_new w a b s) (below_two (below_two b12 b23) b34), ?_, ?_, ?_, World.ownsRow_nil _ _ _ _, by omega, b4⟩
    · have := moveIn_new W1 mx my
      rw [← hW2, z1] at this
      exact this.below (below_two b23 b34)
    · have := picIn_new W2 0 0 (.slice none 0 0)
      rw [← hW3, z2] at this
      exact this.below b34
    · have := picIn_new W3 a b (.slice none 0 0)
      rw [← hW4, z3] at this
      exact this
  have HR0 := hide H0
  obtain ⟨m1, m2, m3, m4⟩ := farF_zero.1 hm
  have hl := o.le
  have h0 := o.pos
  obtain ⟨ads, os, caps, rfl, hc⟩ : ∃ ad oo cap, s = .slice (some ⟨ad, oo, none⟩) n cap ∧ ∀ i, i < n → w.cell? ⟨ad, oo + i, none⟩ = some (.int .i64 (f i)) := by
    rcases h with ⟨h, _⟩ | ⟨_, b, o, c, rfl, hc⟩
    · omega
    · exact ⟨_, _, _, rfl, hc⟩
  have HC := hide hc
  have ea := o.wide
  have eb := o.high
  subst ea
  subst eb
  have a1 := o.w1
  have a6 := o.w6
  have o1 := o.h1
  have o6 := o.h6
  have hmany := hide o.many
  obtain ⟨⟨c0, _⟩, ⟨c1, _⟩, c2, _⟩ := H0.p
  obtain ⟨⟨c3, _⟩, ⟨c4, _⟩, c5, _⟩ := H0.q
  subst hW4
  subst hW3
  subst hW2
  subst hW1
  obtain ⟨i0, hi0, hz0, hz1, hz2⟩ := info_parts Tryd.infoInt
  have Hi := hide hi0
  have Hz0 := hide hz0
  have Hz1 := hide hz1
  have Hz2 := hide hz2
  clear h o hm hc H0 b1 b12 b23 b34 b4 z1 z2 z3 z4 hi0 hz0 hz1 hz2
  go_enter Tryd.func16, Tryd.ntmps16
  go_wp2
  clear c0 c1 c2 c3 c4 c5
  go_loopw [6, 7, 8] (fun i _ _ wr => ∃ (j : Nat) (v : Value), j ≤ n ∧ i = .int .i64 j ∧ RSh w wr A B (.slice (some ⟨ads, os, none⟩) n caps) n mx my v j (shiftN A B mx my f)) (fun i _ _ _ => n - (intOf i).toNat)
  case atStart => exact ⟨0, _, Nat.zero_le _, rfl, HR0.out⟩
  case round =>
    obtain ⟨j, v, hj, rfl, hr⟩ := hrel
    have HR := hide hr
    obtain ⟨⟨c0, _⟩, ⟨c1, _⟩, c2, _⟩ := hr.p
    obtain ⟨c3, c4⟩ := hr.m
    by_cases hlt : j < n
    · have hq1 : j / A < B := Nat.div_lt_of_lt_mul (by rw [← hmany.out]; exact hlt)
      have hr1 : j % A < A := Nat.mod_lt _ (by omega)
      have e1 : (j : Int) / (A : Int) = ((j / A : Nat) : Int) := (Int.natCast_ediv j A).symm
      have e2 : (j : Int) % (A : Int) = ((j % A : Nat) : Int) := (Int.natCast_emod j A).symm
      have e3 : (j : Int).tdiv (A : Int) = ((j / A : Nat) : Int) := by rw [Int.tdiv_eq_ediv_of_nonneg (by omega)]; exact e1
      have e4 : (j : Int).tmod (A : Int) = ((j % A : Nat) : Int) := by rw [Int.tmod_eq_emod_of_nonneg (by omega)]; exact e2
      have K1 := hide (fun w => rwithin_ok (((j % A : Nat) : Int) - mx) A w a1)
      have K2 := hide (fun w => rwithin_ok (((j / A : Nat) : Int) - my) B w o1)
      have n1 := near_lt (((j % A : Nat) : Int) - mx) a1
      have n2 := near_lt (((j / A : Nat) : Int) - my) o1
      have hfrom : Hid (fromAt A B mx my j = near (((j / A : Nat) : Int) - my) B * A + near (((j % A : Nat) : Int) - mx) A) := rfl
      have hfl := fromAt_lt a1 o1 mx my j
      rw [← hmany.out] at hfl
      have hcell : Hid (∀ w', Below w.heap.size w w' → w'.cell? ⟨ads, os + fromAt A B mx my j, none⟩ = some (.int .i64 (shiftN A B mx my f j))) := fun w' hb => cell_below hb (HC.out _ hfl)
      have HM : Hid ((List.range (j + 1)).map (fun k : Nat => Value.int .i64 (shiftN A B mx my f k)) = (List.range j).map (fun k : Nat => Value.int .i64 (shiftN A B mx my f k)) ++ [.int .i64 (shiftN A B mx my f j)]) := by
        unfold Hid; rw [List.range_succ, List.map_append]; rfl
      generalize shiftN A B mx my f j = z at *
      generalize hF : fromAt A B mx my j = fr at *
      clear hF
      generalize near (((j / A : Nat) : Int) - my) B = yy at *
      generalize near (((j % A : Nat) : Int) - mx) A = xx at *
      generalize j / A = jq at *
      generalize j % A = jr at *
      have hfi : (yy : Int) * (A : Int) + (xx : Int) = (fr : Int) := by rw [hfrom.out, Int.natCast_add, Int.natCast_mul]
      have hp0 : (0 : Int) ≤ (yy : Int) * (A : Int) := Int.mul_nonneg (by omega) (by omega)
      have hp1 : (yy : Int) * (A : Int) ≤ 36 := by omega
      have HB := hide hr.b
      have hA0 : ¬ A = 0 := by omega
      have hwj : IntKind.i64.wrap (jq : Int) = (jq : Int) := by rw [IntKind.wrap_i64]; omega
      have hwk : IntKind.i64.wrap ((jq : Int) - my) = (jq : Int) - my := by rw [IntKind.wrap_i64]; omega
      have hwl : IntKind.i64.wrap ((B : Int) - 1) = (B : Int) - 1 := by rw [IntKind.wrap_i64]; omega
      clear hr
      go_wp2_with fail
      go_quiet ((go_at_call 26; exact Calls.quiet_of_same ((K1.out _).mono fun e w' ⟨h1, h2⟩ => ⟨h1, h2.symm⟩)))
      have HR1 := hide (HR.out.below (below_drewN (Below.refl _ wr) nq))
      clear c0 c1 c2 c3 c4
      generalize wr.drewN nq = v1 at *
      obtain ⟨⟨c0, _⟩, ⟨c1, _⟩, c2, _⟩ := HR1.out.p
      obtain ⟨c3, c4⟩ := HR1.out.m
      go_wp2_with fail
      go_quiet ((go_at_call 26; exact Calls.quiet_of_same ((K2.out _).mono fun e w' ⟨h1, h2⟩ => ⟨h1, h2.symm⟩)))
      have HR2 := hide (HR1.out.below (below_drewN (Below.refl _ v1) nq))
      clear c0 c1 c2 c3 c4 HR HR1 HB
      generalize v1.drewN nq = v2 at *
      obtain ⟨⟨c0, _⟩, ⟨c1, _⟩, c2, _⟩ := HR2.out.p
      obtain ⟨⟨c3, _⟩, ⟨c4, _⟩, c5, g5⟩ := HR2.out.q
      have hcj := hcell.out v2 HR2.out.b
      have hbig := HR2.out.big
      obtain ⟨adv, capv, rfl⟩ : ∃ a c, v = .slice a j c := by
        rcases HR2.out.own.2 with ⟨rfl, rfl⟩ | ⟨g, cap, cur, rfl, _⟩
        · exact ⟨_, _, rfl⟩
        · exact ⟨_, _, rfl⟩
      go_wp2_with fail
      have HOW := hide (own_under' HR2.out.own (show Below v2.heap.size v2 (v2.drew.alloc (.cells #[.int .i64 z] 3)) from (Below.refl _ v2).drew.alloc (Nat.le_refl _) _))
      have hwx : IntKind.i64.wrap ((yy : Int) * (A : Int)) = (yy : Int) * (A : Int) := by rw [IntKind.wrap_i64]; omega
      have hwy : IntKind.i64.wrap (fr : Int) = (fr : Int) := by rw [IntKind.wrap_i64]; omega
      have hne5 : some (w.heap.size + 1 + 1 + 1) ≠ (Value.slice adv j capv).ownBlock := fun e => by have := (HR2.out.own.lt _ e.symm).1; omega
      have HZ5 : Hid (∀ (W w5 : World), Below v2.heap.size v2 W → W.grownBy w5 (Value.slice adv j capv).ownBlock → w5.cell? ⟨w.heap.size + 1 + 1 + 1, 2, none⟩ = some (.slice adv j capv) ∧ w5.frozen? ⟨w.heap.size + 1 + 1 + 1, 2, none⟩ = false) := by
        intro W w5 hb hg
        have hs := hb.size
        refine ⟨(hg.cell_far ⟨w.heap.size + 1 + 1 + 1, 2, none⟩ (by show w.heap.size + 1 + 1 + 1 < W.heap.size; omega) hne5).trans ((hb.cell (p := ⟨w.heap.size + 1 + 1 + 1, 2, none⟩) (by show w.heap.size + 1 + 1 + 1 < v2.heap.size; omega)).trans c5), ?_⟩
        exact (hg.frozen_far ⟨w.heap.size + 1 + 1 + 1, 2, none⟩ (by show w.heap.size + 1 + 1 + 1 < W.heap.size; omega) hne5).trans ((hb.frozen (p := ⟨w.heap.size + 1 + 1 + 1, 2, none⟩) (by show w.heap.size + 1 + 1 + 1 < v2.heap.size; omega)).trans g5)
      have HBW : Hid (Below v2.heap.size v2 (v2.drew.alloc (.cells #[.int .i64 z] 3))) := (Below.refl _ v2).drew.alloc (Nat.le_refl _) _
      have hca : (v2.alloc (.cells #[.int .i64 z] 3)).cell? ⟨w.heap.size + 1 + 1 + 1, 2, none⟩ = some (.slice adv j capv) := cell_below ((Below.refl _ v2).alloc (Nat.le_refl _) _) c5
      go_region_law
        ((refine step_append_lies _ rfl (.tmp 44) (.tmp 55) 22 rfl (w.heap.size + 1 + 1 + 1 + 1) 3 i0 (.int .i64 0) 1 8 Tryd.underlying22 Hi.out Hz0.out Hz1.out Hz2.out rfl (by decide) (.slice adv j capv) j ((List.range j).map fun k : Nat => .int .i64 (shiftN A B mx my f k)) rfl HOW.out ⟨v2.heap.size, 0, none⟩ 1 1 [.int .i64 z] (by rfl) (by rfl) (World.news_of_block (cs := #[.int .i64 z]) (t := 3) (fr := (0, 0)) (heap_alloc_new v2 _)) (fun x hx => by simp at hx; subst hx; rfl) (by omega) (by unfold maxLen; omega) (by omega) (by simp; omega) (v2.heap.size + 1) (by simp) ?_; intro gg cap w5 hown5 hgrow5 hat5 hlt5; have hcz := (HZ5.out _ w5 HBW.out hgrow5).1; have hfz := (HZ5.out _ w5 HBW.out hgrow5).2))
      all_goals
        have hn5 := HM.out ▸ hown5
        have HR5 := hide (HR2.out.stored (HBW.out.mono (by omega) |>.grown hgrow5 (Nat.le_trans hbig HBW.out.size) (fun q hq => (HR2.out.own.lt q hq).1)) hn5)
        go_wp2_with fail
        go_roundw
        case rel => exact ⟨j + 1, _, by omega, by go_num, HR5.out⟩
        case measure => simp [intOf]; omega
    · obtain rfl : j = n := by omega
      have HI := hide (own_in hr.own)
      obtain ⟨⟨c5, g5⟩, ⟨c6, g6⟩, c7, g7⟩ := hr.r
      obtain ⟨⟨d5, _⟩, ⟨d6, _⟩, d7, _⟩ := hr.q
      have hbig := hr.big
      obtain ⟨adv, capv, rfl⟩ := slice_shape (own_in hr.own)
      go_wp2
      refine bodyPost_ret (v := .agg #[.int .i64 A, .int .i64 B, .slice adv j capv]) (by simp [results, Tryd.results16, go_sem, c5, c6, c7]) rfl ⟨_, rfl, ?_, ?_, fun g hg => by have := (HR.out.own.lt g hg).1; omega⟩
      · exact own_in (ownsRow_setCell_below (ownsRow_setCell_below (ownsRow_setCell_below HR.out.own (by show w.heap.size + 1 + 1 < w.heap.size + 1 + 1 + 1 + 1; omega) _) (by show w.heap.size + 1 + 1 < w.heap.size + 1 + 1 + 1 + 1; omega) _) (by show w.heap.size + 1 + 1 < w.heap.size + 1 + 1 + 1 + 1; omega) _)
      · exact ((HR.out.b.setCell (by show w.heap.size ≤ w.heap.size + 1 + 1; omega) _).setCell (by show w.heap.size ≤ w.heap.size + 1 + 1; omega) _).setCell (by show w.heap.size ≤ w.heap.size + 1 + 1; omega) _
end Go.Proofs.YtcicoblejaippaaDoor
