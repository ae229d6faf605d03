/-
  Lemmas for the law above, joined into one text (MvTlN, PicQ). No statement is proved here.
-/
import Derived.Test.YtcicoblejaippaaDoorTG18
import Derived.Test.YtcicoblejaippaaDoorTG19
import Derived.Test.YtcicoblejaippaaDoorTG22
import Derived.Test.YtcicoblejaippaaDoorTG0
import Derived.Test.YtcicoblejaippaaDoorTG2
namespace Go.Proofs.YtcicoblejaippaaDoor
open Go.RowKit
set_option linter.unusedVariables false
set_option maxRecDepth 100000

theorem rbehind_any {w : World} {s s' : Value} {n n' : Nat} {f f' : Nat → Int} (a b : Int) (al : Bool) (x y st : Int) (h : IntsIn w s n f) (h' : IntsIn w s' n' f') :
    Calls Tryd.prog 12 #[.agg #[.int .i64 a, .int .i64 b, s], .agg #[.bool al, .int .i64 x, .int .i64 y, s'], .int .i64 st] w fun e w' => ∃ u, e = .returned (.tuple #[.agg #[.int .i64 (mdX a b n f al x y n' f' st), .int .i64 (mdY a b n f al x y n' f' st), u], .int .i64 (mdeF a b n f al x y n' f' st : Nat)]) ∧ IntsIn w' u (mdM a b n f al x y n' f' st) (mdG a b f x y f' st) ∧ Below w.heap.size w w' := by
  by_cases hx : mdeF a b n f al x y n' f' st = 0
  · obtain ⟨hp, ⟨s1, s2⟩, hc⟩ := mdeF_zero.1 hx
    obtain ⟨A, B, o⟩ := picF_zero.1 hp
    obtain ⟨rfl, hm, hn, hr⟩ := chkF_zero.1 hc
    obtain rfl : n' = n := by omega
    refine (rbehind_ok x y st h h' o s1 s2 hm hr).mono ?_
    rintro e w' ⟨u, rfl, hu, hb⟩
    refine ⟨u, ?_, ?_, hb⟩
    · unfold mdX mdY
      rw [hx, if_pos rfl, if_pos rfl]
      rfl
    · unfold mdM mdG
      rw [if_pos hx, o.wide, o.high]
      exact hu
  · refine (rbehind_bad a b al x y st h h' hx).mono ?_
    rintro e w' ⟨rfl, hb⟩
    refine ⟨.slice none 0 0, ?_, ?_, hb⟩
    · unfold mdX mdY
      rw [if_neg hx, if_neg hx]
    · unfold mdM
      rw [if_neg hx]
      exact Or.inl ⟨rfl, _, _, rfl⟩

/-- The law's arguments as they lie in blocks of their own. -/
structure Tt (w0 w : World) (a b : Int) (s : Value) (a' b' : Int) (s' : Value) (al : Bool) (x y : Int) (cs : Value) : Prop where
  p : PicIn w w0.heap.size a b s
  q : PicIn w (w0.heap.size + 1) a' b' s'
  c : CodIn w (w0.heap.size + 1 + 1) al x y cs
  b : Below w0.heap.size w0 w
theorem Tt.below {w0 w w' : World} {a b : Int} {s : Value} {a' b' : Int} {s' : Value} {al : Bool} {x y : Int} {cs : Value} (h : Tt w0 w a b s a' b' s' al x y cs) (hb : Below w.heap.size w w') : Tt w0 w' a b s a' b' s' al x y cs :=
  ⟨h.p.below hb, h.q.below hb, h.c.below hb, below_two h.b hb⟩
theorem Tt.set {w0 w : World} {a b : Int} {s : Value} {a' b' : Int} {s' : Value} {al : Bool} {x y : Int} {cs : Value} (h : Tt w0 w a b s a' b' s' al x y cs) {k : Nat} (hk : w0.heap.size + 1 + 1 < k) (o : Nat) (u : Value) : Tt w0 (w.setCell ⟨k, o, none⟩ u) a b s a' b' s' al x y cs :=
  ⟨h.p.setOther (by omega) u, h.q.setOther (by omega) u, h.c.setOther (by omega) u, h.b.setCell (by show w0.heap.size ≤ k; omega) u⟩
theorem tt_new (w : World) (a b : Int) (s : Value) (a' b' : Int) (s' : Value) (al : Bool) (x y : Int) (cs : Value) :
    Tt w (((w.alloc (.cells #[.int .i64 a, .int .i64 b, s] 24)).alloc (.cells #[.int .i64 a', .int .i64 b', s'] 24)).alloc (.cells #[.bool al, .int .i64 x, .int .i64 y, cs] 28)) a b s a' b' s' al x y cs := by
  obtain ⟨W1, hW1⟩ : ∃ W1, W1 = w.alloc (.cells #[.int .i64 a, .int .i64 b, s] 24) := ⟨_, rfl⟩
  obtain ⟨W2, hW2⟩ : ∃ W2, W2 = W1.alloc (.cells #[.int .i64 a', .int .i64 b', s'] 24) := ⟨_, rfl⟩
  obtain ⟨W4, hW4⟩ : ∃ W4, W4 = W2.alloc (.cells #[.bool al, .int .i64 x, .int .i64 y, cs] 28) := ⟨_, rfl⟩
  rw [← hW1, ← hW2, ← hW4]
  have b1 : Below w.heap.size w W1 := hW1 ▸ (Below.refl _ _).alloc (Nat.le_refl _) _
  have b12 : Below W1.heap.size W1 W2 := hW2 ▸ (Below.refl _ _).alloc (Nat.le_refl _) _
  have b24 : Below W2.heap.size W2 W4 := hW4 ▸ (Below.refl _ _).alloc (Nat.le_refl _) _
  have z1 : W1.heap.size = w.heap.size + 1 := by rw [hW1]; simp
  have z2 : W2.heap.size = w.heap.size + 1 + 1 := by rw [hW2]; simp [z1]
  refine ⟨PicIn.below (hW1 ▸ picIn_new w a b s) (below_two b12 b24), ?_, ?_, below_two (below_two b1 b12) b24⟩
  · have := picIn_new W1 a' b' s'
    rw [← hW2, z1] at this
    exact this.below b24
  · have := codIn_new W2 al x y cs
    rw [← hW4, z2] at this
    exact this
theorem Tt.cells {w0 w : World} {a b : Int} {s : Value} {a' b' : Int} {s' : Value} {al : Bool} {x y : Int} {cs : Value} (h : Tt w0 w a b s a' b' s' al x y cs) :
    w.cell? ⟨w0.heap.size, 0, none⟩ = some (.int .i64 a) ∧ w.cell? ⟨w0.heap.size, 1, none⟩ = some (.int .i64 b) ∧ w.cell? ⟨w0.heap.size, 2, none⟩ = some s ∧
    w.cell? ⟨w0.heap.size + 1, 0, none⟩ = some (.int .i64 a') ∧ w.cell? ⟨w0.heap.size + 1, 1, none⟩ = some (.int .i64 b') ∧ w.cell? ⟨w0.heap.size + 1, 2, none⟩ = some s' ∧
    w.cell? ⟨w0.heap.size + 1 + 1, 0, none⟩ = some (.bool al) ∧ w.cell? ⟨w0.heap.size + 1 + 1, 1, none⟩ = some (.int .i64 x) ∧ w.cell? ⟨w0.heap.size + 1 + 1, 2, none⟩ = some (.int .i64 y) ∧ w.cell? ⟨w0.heap.size + 1 + 1, 3, none⟩ = some cs :=
  ⟨h.p.1.1, h.p.2.1.1, h.p.2.2.1, h.q.1.1, h.q.2.1.1, h.q.2.2.1, h.c.c0, h.c.c1, h.c.c2, h.c.c3⟩
end Go.Proofs.YtcicoblejaippaaDoor

namespace Go.Proofs.YtcicoblejaippaaDoor
open Go.RowKit
set_option linter.unusedVariables false
set_option maxRecDepth 100000

set_option maxHeartbeats 1000000 in
theorem ints_rows_any (b o b2 o2 n c c2 : Nat) (f g : Nat → Int) (w : World) (hn : n ≤ 1000000)
    (h1 : ∀ i, i < n → w.cell? ⟨b, o + i, none⟩ = some (.int .i64 (f i))) (h2 : ∀ i, i < n → w.cell? ⟨b2, o2 + i, none⟩ = some (.int .i64 (g i))) :
    Calls Tryd.prog 24 #[.slice (some ⟨b, o, none⟩) n c, .slice (some ⟨b2, o2, none⟩) n c2] w fun e w' => ∃ r : Bool, e = .returned (.bool r) ∧ (r = true ↔ ∀ i, i < n → f i = g i) ∧ Below w.heap.size w w' := by
  have H1 := hide h1
  have H2 := hide h2
  clear h1 h2
  go_enter Tryd.func24, Tryd.ntmps24
  go_wp2
  go_loopw [5] (fun i wr => ∃ j : Nat, j ≤ n ∧ i = .int .i64 j ∧ Below w.heap.size w wr ∧ ∀ q, q < j → f q = g q) (fun i _ => n - (intOf i).toNat)
  case atStart => exact ⟨0, Nat.zero_le _, rfl, Below.refl _ _, fun q hq => absurd hq (Nat.not_lt_zero _)⟩
  case round =>
    obtain ⟨j, hj, rfl, hb, hno⟩ := hrel
    have HN := hide hno
    clear hno
    by_cases hlt : j < n
    · have c1 := cell_below hb (H1.out j hlt)
      have c2 := cell_below hb (H2.out j hlt)
      by_cases hz : f j = g j
      · have HZ := hide hz
        rw [← hz] at c2
        clear hz
        generalize f j = y at c1 c2
        go_wp2_with fail
        go_quiet (fail)
        go_wp2
        go_roundw
        case rel =>
          refine ⟨j + 1, by omega, by go_num, below_drewN hb _, fun q hq => ?_⟩
          by_cases c : q = j
          · rw [c]; exact HZ.out
          · exact HN.out q (by omega)
        case measure => simp [intOf]; omega
      · have HZ := hide hz
        have e1 : (f j == g j) = false := by rw [beq_eq_false_iff_ne]; exact hz
        have e2 : (f j != g j) = true := by simp [bne, e1]
        clear hz
        generalize hfj : f j = y at *
        generalize hgj : g j = z at *
        have F1 := hide hfj
        have F2 := hide hgj
        clear hfj hgj
        go_wp2_with fail
        go_quiet (fail)
        go_wp2
        go_ret
        exact ⟨false, rfl, ⟨fun h => Bool.noConfusion h, fun h => absurd (by rw [← F1.out, ← F2.out]; exact h j hlt) HZ.out⟩, below_drewN hb _⟩
    · obtain rfl : j = n := by omega
      go_wp2
      go_ret
      exact ⟨true, rfl, ⟨fun _ => HN.out, fun _ => rfl⟩, hb⟩

theorem ints_any {v v2 : Value} {n n2 : Nat} {f g : Nat → Int} {w : World} (hn : n ≤ 1000000) (h : IntsIn w v n f) (h2 : IntsIn w v2 n2 g) :
    Calls Tryd.prog 24 #[v, v2] w fun e w' => ∃ r : Bool, e = .returned (.bool r) ∧ (r = true ↔ n = n2 ∧ ∀ i, i < n → f i = g i) ∧ Below w.heap.size w w' := by
  by_cases hne : n = n2
  · subst hne
    rcases h with ⟨rfl, a, c, rfl⟩ | ⟨h0, b, o, c, rfl, hc⟩
    · rcases h2 with ⟨_, a2, c2, rfl⟩ | ⟨h0, _⟩
      · refine (ints_none a a2 c c2 w).mono ?_
        rintro e w' ⟨rfl, hb⟩
        exact ⟨true, rfl, ⟨fun _ => ⟨rfl, fun i hi => absurd hi (Nat.not_lt_zero _)⟩, fun _ => rfl⟩, hb⟩
      · omega
    · rcases h2 with ⟨rfl, _⟩ | ⟨_, b2, o2, c2, rfl, hc2⟩
      · omega
      · refine (ints_rows_any b o b2 o2 n c c2 f g w hn hc hc2).mono ?_
        rintro e w' ⟨r, rfl, hr, hb⟩
        exact ⟨r, rfl, ⟨fun h => ⟨rfl, hr.1 h⟩, fun h => hr.2 h.2⟩, hb⟩
  · obtain ⟨a, c, rfl⟩ : ∃ a c, v = .slice a n c := by
      rcases h with ⟨rfl, a, c, rfl⟩ | ⟨_, b, o, c, rfl, _⟩
      · exact ⟨_, _, rfl⟩
      · exact ⟨_, _, rfl⟩
    obtain ⟨a2, c2, rfl⟩ : ∃ a c, v2 = .slice a n2 c := by
      rcases h2 with ⟨rfl, a, c, rfl⟩ | ⟨_, b, o, c, rfl, _⟩
      · exact ⟨_, _, rfl⟩
      · exact ⟨_, _, rfl⟩
    have HZ := hide hne
    have e1 : ((n : Int) == (n2 : Int)) = false := by rw [beq_eq_false_iff_ne]; omega
    have e2 : ((n : Int) != (n2 : Int)) = true := by simp [bne, e1]
    clear h h2 hne
    go_enter Tryd.func24, Tryd.ntmps24
    go_wp2
    go_ret
    exact ⟨false, rfl, ⟨fun h => Bool.noConfusion h, fun h => absurd h.1 HZ.out⟩, Below.refl _ _⟩

set_option maxHeartbeats 1000000 in
theorem pics_any {v v2 : Value} {n n2 : Nat} {f g : Nat → Int} {w : World} (a b a2 b2 : Int) (hn : n ≤ 1000000) (h : IntsIn w v n f) (h2 : IntsIn w v2 n2 g) :
    Calls Tryd.prog 14 #[.agg #[.int .i64 a, .int .i64 b, v], .agg #[.int .i64 a2, .int .i64 b2, v2]] w fun e w' => ∃ r : Bool, e = .returned (.bool r) ∧ (r = true ↔ a = a2 ∧ b = b2 ∧ n = n2 ∧ ∀ i, i < n → f i = g i) ∧ Below w.heap.size w w' := by
  obtain ⟨W1, hW1⟩ : ∃ W1, W1 = w.alloc (.cells #[.int .i64 a, .int .i64 b, v] 24) := ⟨_, rfl⟩
  obtain ⟨W2, hW2⟩ : ∃ W2, W2 = W1.alloc (.cells #[.int .i64 a2, .int .i64 b2, v2] 24) := ⟨_, rfl⟩
  have b1 : Below w.heap.size w W1 := hW1 ▸ (Below.refl _ _).alloc (Nat.le_refl _) _
  have b2' : Below W1.heap.size W1 W2 := hW2 ▸ (Below.refl _ _).alloc (Nat.le_refl _) _
  have hb2 := below_two b1 b2'
  have p1 : PicIn W2 w.heap.size a b v := PicIn.below (hW1 ▸ picIn_new w a b v) b2'
  have p2 : PicIn W2 (w.heap.size + 1) a2 b2 v2 := by
    have := picIn_new W1 a2 b2 v2
    rw [← hW2] at this
    rwa [show W1.heap.size = w.heap.size + 1 by rw [hW1]; simp] at this
  have I := hide (ints_any hn (h.below hb2) (h2.below hb2))
  have B2 := hide hb2
  subst hW2
  subst hW1
  obtain ⟨⟨c0, _⟩, ⟨c1, _⟩, c2, _⟩ := p1
  obtain ⟨⟨c3, _⟩, ⟨c4, _⟩, c5, _⟩ := p2
  clear h h2 b1 b2' hb2
  by_cases ha : a = a2
  · by_cases hb : b = b2
    · have HA := hide ha
      have HB := hide hb
      have e1 : (a == a2) = true := by rw [beq_iff_eq]; exact ha
      have e2 : (b == b2) = true := by rw [beq_iff_eq]; exact hb
      clear ha hb
      go_enter Tryd.func14, Tryd.ntmps14
      go_wp2_with fail
      refine (I.out).mono ?_
      rintro e w1 ⟨r, rfl, hr, hb1⟩
      have HR := hide hr
      have B3 := hide (below_two B2.out hb1)
      clear hr hb1
      go_wp2
      go_ret
      exact ⟨r, rfl, ⟨fun h => ⟨HA.out, HB.out, HR.out.1 h⟩, fun h => HR.out.2 h.2.2⟩, B3.out⟩
    · have HB := hide hb
      have e1 : (a == a2) = true := by rw [beq_iff_eq]; exact ha
      have e2 : (b == b2) = false := by rw [beq_eq_false_iff_ne]; exact hb
      clear ha hb
      go_enter Tryd.func14, Tryd.ntmps14
      go_wp2
      go_ret
      exact ⟨false, rfl, ⟨fun h => Bool.noConfusion h, fun h => absurd h.2.1 HB.out⟩, B2.out⟩
  · have HA := hide ha
    have e1 : (a == a2) = false := by rw [beq_eq_false_iff_ne]; exact ha
    clear ha
    go_enter Tryd.func14, Tryd.ntmps14
    go_wp2
    go_ret
    exact ⟨false, rfl, ⟨fun h => Bool.noConfusion h, fun h => absurd h.1 HA.out⟩, B2.out⟩
theorem pics_alike {v v2 : Value} {n : Nat} {f g : Nat → Int} {w : World} (a b : Int) (hn : n ≤ 1000000) (h : IntsIn w v n f) (h2 : IntsIn w v2 n g) (e : ∀ i, i < n → f i = g i) :
    Calls Tryd.prog 14 #[.agg #[.int .i64 a, .int .i64 b, v], .agg #[.int .i64 a, .int .i64 b, v2]] w fun e w' => e = .returned (.bool true) ∧ Below w.heap.size w w' := by
  refine (pics_any a b a b hn h h2).mono ?_
  rintro x w' ⟨r, rfl, hr, hb⟩
  rw [hr.2 ⟨rfl, rfl, rfl, e⟩]
  exact ⟨rfl, hb⟩
end Go.Proofs.YtcicoblejaippaaDoor
