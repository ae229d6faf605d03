/-
  What both guard and the document say of anything. Lemmas for the laws above; no statement is proved here.
-/
import Derived.Test.YtmmlcomfkikomaaDoorRHeal
import Derived.Test.YtmmlcomfkikomaaDoorGdW
import Derived.Test.YtmmlcomfkikomaaDoorBools
import Derived.Test.YtmmlcomfkikomaaDoorErrIs
import Derived.Test.YtmmlcomfkikomaaDoorSStrs
namespace Go.Proofs.YtmmlcomfkikomaaDoor
open Go.RowKit
set_option linter.unusedVariables false
set_option maxRecDepth 100000

theorem strsIn_nil (w : World) (f : Nat → ByteArray) : StrsIn w (.slice none 0 0) 0 f := Or.inl ⟨rfl, none, 0, rfl⟩
theorem strsIn_own {w : World} {B n : Nat} {v : Value} {f : Nat → ByteArray} (h : w.ownsRow B 9 1 v n (strV f n)) (h0 : 0 < n) : StrsIn w v n f := by
  obtain ⟨gy, cy, rfl⟩ := ownsRow_pos h h0
  refine Or.inr ⟨h0, gy, 0, cy, rfl, fun i hi => ?_⟩
  have h9 := h.cellAt i (by omega)
  rw [strV_at _ _ _ hi] at h9
  rw [Nat.zero_add]; exact h9

/-- Two of the program's answers: a fault that is told, and what is there. -/
def Ans (e : Int) (n : Nat) (f : Nat → ByteArray) (w : World) (en : Ending) (w' : World) : Prop := ∃ x err, en = .returned (.tuple #[x, err]) ∧ ErrIs e err ∧ StrsIn w' x n f ∧ Below w.heap.size w w'
/-- The document's answer. -/
def AnsR (e : Int) (n : Nat) (f : Nat → ByteArray) (w : World) (en : Ending) (w' : World) : Prop := ∃ x, en = .returned (.tuple #[x, .int .i64 e]) ∧ StrsIn w' x n f ∧ Below w.heap.size w w'

theorem heal_both {w : World} {v u : Value} {len m : Nat} {g : Nat → ByteArray} {lk : Nat → Bool} (hv : StrsAt w v len g) (hu : BoolsAt w u m lk) (each : Int) :
    ∃ (e : Int) (n : Nat) (f : Nat → ByteArray), n ≤ 16 ∧ (∀ w1, Below w.heap.size w w1 → Calls Tryd.prog 12 #[v, u, .int .i64 each] w1 (Ans e n f w1)) ∧
      (∀ w1, Below w.heap.size w w1 → Calls Tryd.prog 11 #[v, u, .int .i64 each] w1 (AnsR e n f w1)) := by
  obtain ⟨au, cu, rfl⟩ : ∃ a c, u = .slice a m c := by
    rcases hu with ⟨rfl, a, cap, rfl⟩ | ⟨h0, b, o, cap, rfl, _⟩
    · exact ⟨_, _, rfl⟩
    · exact ⟨_, _, rfl⟩
  have hm9 : m ≤ maxLen := by
    rcases hu with ⟨rfl, _⟩ | ⟨h0, b, o, cap, _, h1, h2, _⟩
    · omega
    · omega
  have err : ∀ (x : Int), (∀ w1, Below w.heap.size w w1 → Calls Tryd.prog 22 #[v, .slice au m cu, .int .i64 each] w1 fun e w' => e = .returned (.tuple #[.int .i64 0, .iface 42 (.int .i64 x)]) ∧ Below w1.heap.size w1 w') →
      (∀ w1, Below w.heap.size w w1 → Calls Tryd.prog 11 #[v, .slice au m cu, .int .i64 each] w1 fun e w' => e = .returned (.tuple #[.slice none 0 0, .int .i64 x]) ∧ Below w1.heap.size w1 w') →
      ∃ (e : Int) (n : Nat) (f : Nat → ByteArray), n ≤ 16 ∧ (∀ w1, Below w.heap.size w w1 → Calls Tryd.prog 12 #[v, .slice au m cu, .int .i64 each] w1 (Ans e n f w1)) ∧
      (∀ w1, Below w.heap.size w w1 → Calls Tryd.prog 11 #[v, .slice au m cu, .int .i64 each] w1 (AnsR e n f w1)) := fun x h1 h2 => by
    obtain ⟨av, cv, hav⟩ : ∃ a c, v = .slice a len c := by
      rcases hv with ⟨rfl, a, cap, rfl⟩ | ⟨h0, b, o, cap, rfl, _⟩
      · exact ⟨_, _, rfl⟩
      · exact ⟨_, _, rfl⟩
    refine ⟨x, 0, g, by omega, fun w1 hb => (heal_err v av len cv m cu au each w1 x hav fun w2 hb2 => h1 w2 (below_two hb hb2)).mono ?_, fun w1 hb => (h2 w1 hb).mono ?_⟩
    · rintro e w' ⟨rfl, hb'⟩
      exact ⟨_, _, rfl, Or.inr rfl, strsIn_nil _ _, hb'⟩
    · rintro e w' ⟨rfl, hb'⟩
      exact ⟨_, rfl, strsIn_nil _ _, hb'⟩
  rcases blk_ways hv with ⟨x, hx1, hx, hr⟩ | ⟨b, o, cap, rfl, hc1, hc2, hB⟩
  · exact err x (fun w1 hb => counted_check v au m cu each w1 x (hx w1 hb)) (fun w1 hb => rheal_check v au m cu each w1 x hx1 (hr w1 hb))
  by_cases hm : m = len
  · subst hm
    by_cases he : each < 1 ∨ 16 < each
    · exact err 1 (fun w1 hb => counted_range b o m cap au cu each g w1 (hB.below hb) he) (fun w1 hb => rheal_range b o m cap au cu each g w1 (hB.below hb) he)
    · obtain ⟨d, rfl⟩ : ∃ d : Nat, each = (d : Nat) := ⟨each.toNat, by omega⟩
      have hd1 : 1 ≤ d := by omega
      have hd2 : d ≤ 16 := by omega
      obtain ⟨lb, lo, rfl, hcell⟩ : ∃ lb lo, au = some ⟨lb, lo, none⟩ ∧ ∀ i, i < m → w.cell? ⟨lb, lo + i, none⟩ = some (.bool (lk i)) := by
        rcases hu with ⟨h0, _⟩ | ⟨h0, lb, lo, c', hv', _, _, h3⟩
        · have := hB.pos; omega
        · cases hv'
          exact ⟨lb, lo, rfl, h3⟩
      by_cases hn : ∃ n, n < m ∧ n + gN n d = m
      · obtain ⟨n, hn1, hn2⟩ := hn
        have hn0 : 0 < n := by
          rcases Nat.eq_zero_or_pos n with e | e
          · have := gN_le n d hd1; omega
          · exact e
        have hm16 := hB.most
        have KH : ∀ w1, Below w.heap.size w w1 → Calls Tryd.prog 12 #[.slice (some ⟨b, o, none⟩) m cap, .slice (some ⟨lb, lo, none⟩) m cu, .int .i64 (d : Nat)] w1 (HealP g lk n d w1) :=
          fun w1 hb => heal_ok b o m cap lb lo cu n d g lk w1 (hB.below hb) hc1 hc2 (fun i hi => cell_below hb (hcell i hi)) hd1 hd2 hn1 hn2
        have KR : ∀ w1, Below w.heap.size w w1 → Calls Tryd.prog 11 #[.slice (some ⟨b, o, none⟩) m cap, .slice (some ⟨lb, lo, none⟩) m cu, .int .i64 (d : Nat)] w1 (HealR g lk n d w1) :=
          fun w1 hb => (rheal_any b o m cap lb lo cu d g lk w1 (hB.below hb) hc1 hc2 (fun i hi => cell_below hb (hcell i hi)) hd1 hd2).mono (by
            rintro e w' (⟨n', h1, h2, h3⟩ | ⟨hno, _⟩)
            · have : n' = n := guarded_inj (each := d) (by rw [h2, hn2])
              subst this
              exact h3
            · exact absurd hn2 (hno n hn1))
        by_cases hbad : ∃ q, q < gN n d ∧ hFlt g lk n d q ≠ 0
        · obtain ⟨q, hq, hq2, hq3⟩ : ∃ q, q < gN n d ∧ hFlt g lk n d q ≠ 0 ∧ ∀ p, p < q → hFlt g lk n d p = 0 := by
            obtain ⟨q, hq, hne⟩ := hbad
            induction q using Nat.strongRecOn with
            | _ q ih =>
              by_cases c : ∃ p, p < q ∧ hFlt g lk n d p ≠ 0
              · obtain ⟨p, hp, hp2⟩ := c
                exact ih p hp (by omega) hp2
              · exact ⟨q, hq, hne, fun p hp => Classical.byContradiction fun h => c ⟨p, hp, h⟩⟩
          have only : ∀ q', hFlt g lk n d q' ≠ 0 → (∀ p, p < q' → hFlt g lk n d p = 0) → q' = q := fun q' h1 h2 => by
            rcases Nat.lt_trichotomy q q' with h | h | h
            · exact absurd (h2 q h) hq2
            · exact h.symm
            · exact absurd (hq3 q' h) h1
          refine ⟨(hFlt g lk n d q : Nat), 0, g, by omega, fun w1 hb => (KH w1 hb).mono ?_, fun w1 hb => (KR w1 hb).mono ?_⟩
          · rintro e w' (⟨v', rfl, hall, _⟩ | ⟨q', hq', h1, h2, rfl, hb'⟩)
            · exact absurd (hall q hq) hq2
            · rw [only q' h1 h2]
              exact ⟨_, _, rfl, Or.inr rfl, strsIn_nil _ _, hb'⟩
          · rintro e w' (⟨v', rfl, hall, _⟩ | ⟨q', hq', h1, h2, rfl, hb'⟩)
            · exact absurd (hall q hq) hq2
            · rw [only q' h1 h2]
              exact ⟨_, rfl, strsIn_nil _ _, hb'⟩
        · refine ⟨0, n, healF g lk n d (gN n d), by omega, fun w1 hb => (KH w1 hb).mono ?_, fun w1 hb => (KR w1 hb).mono ?_⟩
          · rintro e w' (⟨v', rfl, hall, hrow, hb'⟩ | ⟨q', hq', h1, _⟩)
            · exact ⟨_, _, rfl, Or.inl ⟨rfl, rfl⟩, strsIn_own hrow hn0, hb'⟩
            · exact absurd ⟨q', hq', h1⟩ hbad
          · rintro e w' (⟨v', rfl, hall, hrow, hb'⟩ | ⟨q', hq', h1, _⟩)
            · exact ⟨_, rfl, strsIn_own hrow hn0, hb'⟩
            · exact absurd ⟨q', hq', h1⟩ hbad
      · have hno : ∀ n, n < m → n + gN n d ≠ m := fun n h1 h2 => hn ⟨n, h1, h2⟩
        refine err 3 (fun w1 hb => (counted_any b o m cap (some ⟨lb, lo, none⟩) cu d g w1 (hB.below hb) hd1 hd2).mono ?_) (fun w1 hb => (rheal_any b o m cap lb lo cu d g lk w1 (hB.below hb) hc1 hc2 (fun i hi => cell_below hb (hcell i hi)) hd1 hd2).mono ?_)
        · rintro e w' ⟨hb', ⟨n, h1, h2, _⟩ | ⟨_, rfl⟩⟩
          · exact absurd h2 (hno n h1)
          · exact ⟨rfl, hb'⟩
        · rintro e w' (⟨n, h1, h2, _⟩ | ⟨_, rfl, hb'⟩)
          · exact absurd h2 (hno n h1)
          · exact ⟨rfl, hb'⟩
  · exact err 3 (fun w1 hb => counted_shape b o len cap au m cu each g w1 (hB.below hb) hm hm9) (fun w1 hb => rheal_shape b o len cap au m cu each g w1 (hB.below hb) hm hm9)
end Go.Proofs.YtmmlcomfkikomaaDoor
