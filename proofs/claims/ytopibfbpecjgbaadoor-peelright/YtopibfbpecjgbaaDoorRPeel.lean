/-
  Our own contracts of dropref1's Peeler over this seat's translation. Lemmas for the laws above; no statement is proved here.
-/
import Derived.Test.YtopibfbpecjgbaaDoorRSet
import Derived.Test.YtopibfbpecjgbaaDoorPeelN
import Derived.Test.YtopibfbpecjgbaaDoorFam
import Derived.Deep.RegionHeld3
namespace Go.Proofs.YtopibfbpecjgbaaDoor
open Go.RowKit Go.Maps
set_option linter.unusedVariables false
set_option maxRecDepth 100000

/-- A slice that holds just the numbers of the list l, or an empty one. -/
def Lsh (w : World) (v : Value) (l : List Nat) : Prop := ∃ a cap, v = .slice a l.length cap ∧ l.length ≤ cap ∧ cap ≤ maxLen ∧ (0 < l.length → Lst w v l)
theorem own_lsh {w : World} {B : Nat} {v : Value} {l : List Nat} (h : w.ownsRow B 3 1 v l.length (toV l)) : Lsh w v l := by
  rcases Nat.eq_zero_or_pos l.length with e | h0
  · rcases h.2 with ⟨hv, _⟩ | ⟨g, cap, cur, hv, _, _, h1, h2, _⟩
    · exact ⟨none, 0, by rw [e]; exact hv, by omega, by omega, fun h => by omega⟩
    · exact ⟨_, cap, hv, h1, h2, fun h => by omega⟩
  · obtain ⟨g, cap, hv, h1, h2, h3⟩ := own_lst h h0
    exact ⟨_, cap, hv, h1, h2, fun _ => ⟨g, cap, hv, h1, h2, h3⟩⟩
theorem Lsh.below {w w' : World} {v : Value} {l : List Nat} (h : Lsh w v l) (hb : Below w.heap.size w w') : Lsh w' v l := by
  obtain ⟨a, cap, hv, h1, h2, h3⟩ := h
  exact ⟨a, cap, hv, h1, h2, fun h0 => (h3 h0).below hb⟩

/-- A Peeler of dropref1's in block b: what it knows; its two slices. -/
structure RPb (w : World) (b k : Nat) (kn : Nat → Bool) (B : Nat → ByteArray) (vL vT : Value) : Prop where
  kk : w.cell? ⟨b, 0, none⟩ = some (.int .i64 k)
  known : ∀ r, r < 16 → w.cell? ⟨b, 1 + r, none⟩ = some (.bool (kn r)) ∧ w.frozen? ⟨b, 1 + r, none⟩ = false
  blocks : ∀ r, r < 16 → w.cell? ⟨b, 17 + r, none⟩ = some (.string (B r)) ∧ w.frozen? ⟨b, 17 + r, none⟩ = false
  waits : w.cell? ⟨b, 33, none⟩ = some vL ∧ w.frozen? ⟨b, 33, none⟩ = false
  taken : w.cell? ⟨b, 34, none⟩ = some vT ∧ w.frozen? ⟨b, 34, none⟩ = false
theorem RPb.lt {w : World} {b k : Nat} {kn : Nat → Bool} {B : Nat → ByteArray} {vL vT : Value} (h : RPb w b k kn B vL vT) : b < w.heap.size := cell_lt h.kk
theorem RPb.of_block {w w' : World} {b k : Nat} {kn : Nat → Bool} {B : Nat → ByteArray} {vL vT : Value} (h : RPb w b k kn B vL vT) (hb : w'.heap[b]? = w.heap[b]?) : RPb w' b k kn B vL vT := by
  have hc : ∀ i, w'.cell? ⟨b, i, none⟩ = w.cell? ⟨b, i, none⟩ := fun i => World.cell?_of_block (w := w) hb
  have hf : ∀ i, w'.frozen? ⟨b, i, none⟩ = w.frozen? ⟨b, i, none⟩ := fun i => World.frozen?_of_block (w := w) hb
  refine ⟨by rw [hc]; exact h.kk, fun r hr => ?_, fun r hr => ?_, ?_, ?_⟩
  · rw [hc, hf]; exact h.known r hr
  · rw [hc, hf]; exact h.blocks r hr
  · rw [hc, hf]; exact h.waits
  · rw [hc, hf]; exact h.taken
theorem RPb.below {w w' : World} {b k : Nat} {kn : Nat → Bool} {B : Nat → ByteArray} {vL vT : Value} (h : RPb w b k kn B vL vT) (hb : Below w.heap.size w w') : RPb w' b k kn B vL vT := h.of_block (hb.block b h.lt)

theorem filt_snoc {s : List Nat} {p : Nat → Bool} {j : Nat} (h : j < s.length) : (s.take (j + 1)).filter p = (s.take j).filter p ++ if p (s.getD j 0) then [s.getD j 0] else [] := by
  have e : s.take (j + 1) = s.take j ++ [s.getD j 0] := by rw [List.take_add_one]; simp [List.getD, h]
  rw [e, List.filter_append]
  generalize s.getD j 0 = x
  congr 1
  by_cases c : p x = true
  · rw [List.filter_cons_of_pos c, if_pos c]; rfl
  · rw [List.filter_cons_of_neg c, if_neg c]; rfl

set_option maxHeartbeats 2000000 in
theorem rleft_ok (b k seed : Nat) (kn : Nat → Bool) (B : Nat → ByteArray) (vL vT : Value) (data : ByteArray) (w : World) (hk : 1 ≤ k) (hk2 : k ≤ 16) (h1 : 1 ≤ seed) (h2 : seed ≤ 10000) (hp : RPb w b k kn B vL vT) :
    Calls Tryd.prog 29 #[.pointer (some ⟨b, 0, none⟩), dropV seed data] w fun e w' => ∃ v, e = .returned v ∧ Lsh w' v (lft (setL k) kn (seed, data)) ∧ Below w.heap.size w w' ∧ ∀ i, v.ownBlock = some i → w.heap.size ≤ i := by
  have HP := hide hp
  have hb0 : Below w.heap.size w (w.alloc (.cells #[.int .i64 seed, .string data] 32)) := (Below.refl _ _).alloc (Nat.le_refl _) _
  have ck := cell_below hb0 hp.kk
  have cs := (dropIn_new w seed data).1.1
  have HB0 := hide hb0
  have RS := hide (fun w1 => rset_ok k seed w1 hk hk2 h1 h2)
  have HSL : Hid (∀ r ∈ setL k seed, r < k) := fun r hr => setL_lt hk h1 hr
  have hsl := (setL_len hk hk2 h1 h2).2
  obtain ⟨i0, hi, hz0, hz1, hz2⟩ := info_parts Tryd.infoInt
  have Hi := hide hi
  have Hz0 := hide hz0
  have Hz1 := hide hz1
  have Hz2 := hide hz2
  clear hp hb0 hi hz0 hz1 hz2
  unfold dropV
  show Calls _ _ _ _ fun e w' => ∃ v, e = .returned v ∧ Lsh w' v ((setL k seed).filter fun r => !kn r) ∧ Below w.heap.size w w' ∧ ∀ i, v.ownBlock = some i → w.heap.size ≤ i
  generalize setL k seed = l at *
  go_enter Tryd.func29, Tryd.ntmps29
  go_wp2_with fail
  go_region_held3 (fun w' => w'.cell? ⟨b, 0, none⟩ = some (.int .i64 k) ∧ w'.cell? ⟨w.heap.size, 0, none⟩ = some (.int .i64 seed)) (first | go_keep | exact ⟨cell_below hb1 ck, cell_below hb1 cs⟩)
    (first | (go_at_call 30; refine (RS.out _).mono ?_; rintro e w1 ⟨vs, rfl, hl, hb1⟩))
  obtain ⟨g, cap, rfl, hc1, hc2, hc⟩ := hl
  have hb1' : Below w.heap.size w w1 := below_two HB0.out ⟨hb1.os, hb1.tape, hb1.output, hb1.size, hb1.block⟩
  have HB1 := hide hb1'
  have HC := hide hc
  unfold maxLen at hc2
  clear hb1 hb1' hc ck cs RS
  go_wp2_with fail
  go_loopw [5, 7] (fun v i wr => ∃ j : Nat, j ≤ l.length ∧ i = .int .i64 j ∧ wr.ownsRow w1.heap.size 3 1 v ((l.take j).filter fun r => !kn r).length (toV ((l.take j).filter fun r => !kn r)) ∧ Below w1.heap.size w1 wr) (fun _ i _ => l.length - (intOf i).toNat)
  case atStart => exact ⟨0, Nat.zero_le _, rfl, World.ownsRow_nil _ _ _ _, Below.refl _ _⟩
  case round =>
    obtain ⟨j, hj, rfl, hA, hb⟩ := hrel
    have hbs := hb.size
    have hlj : ((l.take j).filter fun r => !kn r).length ≤ j := Nat.le_trans (List.length_filter_le _ _) (by rw [List.length_take]; omega)
    by_cases hlt : j < l.length
    · have hcj := cell_below hb (HC.out j hlt)
      have hlr : l.getD j 0 < k := HSL.out _ (by rw [show l.getD j 0 = l[j] by simp [List.getD, hlt]]; exact List.getElem_mem hlt)
      have hkn := cell_below hb (cell_below HB1.out (HP.out.known (l.getD j 0) (by omega)).1)
      have HF := hide (filt_snoc (p := fun r => !kn r) hlt)
      have HA := hide hA
      have HBw := hide hb
      have hlen : l.length ≤ 16 := by omega
      simp only [Nat.zero_add] at hcj
      clear hA hb
      generalize l.getD j 0 = x at *
      generalize ((l.take j).filter fun r => !kn r) = F at *
      cases hx : kn x with
      | true =>
        rw [hx] at hkn
        have HX := hide hx
        clear hx
        go_wp2_with fail
        go_quiet (fail)
        go_wp2_with fail
        go_roundw
        case rel =>
          refine ⟨j + 1, by omega, by go_num, ?_, below_drewN HBw.out _⟩
          rw [HF.out, HX.out]
          simp only [Bool.not_true, Bool.false_eq_true, if_false, List.append_nil]
          exact HA.out
        case measure => simp [intOf]; omega
      | false =>
        rw [hx] at hkn
        have HX := hide hx
        clear hx
        go_wp2_with fail
        go_quiet (fail)
        have hA2 : (wr.drewN nq).ownsRow w1.heap.size 3 1 u5 F.length (toV F) := HA.out
        have hb2 := below_drewN HBw.out nq
        have hcj2 : (wr.drewN nq).cell? ⟨g, j, none⟩ = some (.int .i64 (x : Nat)) := hcj
        have hbs2 := hb2.size
        clear hcj hkn hbs
        generalize wr.drewN nq = w2 at *
        go_wp2_with (first | (at_builtin; refine wpList_append_own _ rfl _ _ 23 rfl w1.heap.size 3 i0 (.int .i64 0) 1 8 Tryd.underlying23 Hi.out Hz0.out Hz1.out Hz2.out rfl (by decide) _ _ _ rfl (hA2.alloc _) ⟨w2.heap.size, 0, none⟩ 1 1 [.int .i64 (x : Nat)] rfl rfl (cell_one_new _ _ _) (fun x hx => by simp at hx; subst hx; rfl) (by unfold maxLen; omega) (by omega) (by simp; omega) ?_; intro v3 w3 hown3 hgrow3 hnil3) | go_in)
        go_roundw
        case rel =>
          have R : j + 1 ≤ l.length ∧ Value.int .i64 ((j : Int) + 1) = .int .i64 ((j + 1 : Nat) : Int) ∧ w3.ownsRow w1.heap.size 3 1 v3 ((l.take (j + 1)).filter fun r => !kn r).length (toV ((l.take (j + 1)).filter fun r => !kn r)) ∧ Below w1.heap.size w1 w3 := by
            refine ⟨by omega, by simp, ?_, (hb2.alloc hbs2 _).grown hgrow3 (by simp; omega) (fun q hq => (hA2.lt q hq).1)⟩
            rw [HF.out, HX.out]
            simp only [Bool.not_false, if_true, List.length_append, List.length_singleton]
            rw [show toV (F ++ [x]) = toV F ++ [.int .i64 (x : Nat)] by simp [toV]]
            exact hown3
          first
            | exact ⟨j + 1, R⟩
            | ((repeat apply Exists.intro); exact ⟨⟨j + 1, R⟩, rfl⟩)
        case measure => simp [intOf]; omega
    · obtain rfl : j = l.length := by omega
      rw [List.take_length] at hA
      have HLs := hide (own_lsh hA)
      have HFr : Hid (∀ i, u5.ownBlock = some i → w.heap.size ≤ i) := fun i hi => Nat.le_trans HB1.out.size (hA.lt i hi).1
      have HBw := hide (below_two HB1.out hb)
      clear hA hb
      go_wp2
      go_ret
      exact ⟨_, rfl, HLs.out, HBw.out, HFr.out⟩
end Go.Proofs.YtopibfbpecjgbaaDoor
