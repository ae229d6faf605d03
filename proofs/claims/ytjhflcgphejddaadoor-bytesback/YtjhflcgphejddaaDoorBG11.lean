/-
  Lemmas for the law above, joined into one text (BmP, IntsL, BmW). No statement is proved here.
-/
import Derived.Test.YtjhflcgphejddaaDoorBG10
import Derived.Test.YtjhflcgphejddaaDoorBG0
import Derived.Test.YtjhflcgphejddaaDoorBG8
import Derived.Test.YtjhflcgphejddaaDoorBG5
import Derived.Deep.OwnRows
namespace Go.Proofs.YtjhflcgphejddaaDoor
set_option linter.unusedVariables false
set_option maxRecDepth 100000

/-- Where some rests end, of M bits. -/
def endP (h : Nat → Int) (M : Nat) : Nat → Option Nat
  | 0 => some 0
  | i + 1 => (endP h M i).bind fun e => if e + ones h e (M - e) + 3 ≤ M then some (e + ones h e (M - e) + 3) else none
theorem endP_some {h : Nat → Int} {M i e : Nat} (h1 : endP h M i = some e) (h2 : e + ones h e (M - e) + 3 ≤ M) : endP h M (i + 1) = some (e + ones h e (M - e) + 3) := by
  show (endP h M i).bind _ = _
  rw [h1]
  show (if _ then _ else _) = _
  rw [if_pos h2]
theorem endP_none {h : Nat → Int} {M i e : Nat} (h1 : endP h M i = some e) (h2 : ¬ e + ones h e (M - e) + 3 ≤ M) : endP h M (i + 1) = none := by
  show (endP h M i).bind _ = _
  rw [h1]
  show (if _ then _ else _) = _
  rw [if_neg h2]
theorem endP_past {h : Nat → Int} {M i : Nat} (h1 : endP h M i = none) : ∀ {j}, i ≤ j → endP h M j = none := fun {j} hj => by
  induction j with
  | zero => have : i = 0 := by omega
            subst this; exact h1
  | succ j ih =>
    by_cases c : i = j + 1
    · subst c; exact h1
    · show (endP h M j).bind _ = none
      rw [ih (by omega)]; rfl
theorem endP_back {h : Nat → Int} {M i E : Nat} (h1 : endP h M (i + 1) = some E) : ∃ e, endP h M i = some e ∧ e + ones h e (M - e) + 3 ≤ M ∧ E = e + ones h e (M - e) + 3 := by
  cases h2 : endP h M i with
  | none => rw [endP_past h2 (by omega)] at h1; cases h1
  | some e =>
    refine ⟨e, rfl, ?_⟩
    by_cases c : e + ones h e (M - e) + 3 ≤ M
    · rw [endP_some h2 c] at h1
      exact ⟨c, (Option.some.inj h1).symm⟩
    · rw [endP_none h2 c] at h1; cases h1
theorem endP_le {h : Nat → Int} {M : Nat} : ∀ {i E : Nat}, endP h M i = some E → 3 * i ≤ E ∧ E ≤ M
  | 0, E, h1 => by cases h1; omega
  | i + 1, E, h1 => by
    obtain ⟨e, h2, h3, h4⟩ := endP_back h1
    have := endP_le h2
    omega
theorem fstN_less {g : Nat → Int} {m m' low a : Nat} (hm : m ≤ m') (h : a + ones g a (m' - a) + 1 + low ≤ m) : fstN g m low a = fstN g m' low a := by
  have hq : ones g a (m - a) = ones g a (m' - a) := ones_eq (fun j hj => ones_before hj) (fun _ => ones_at (by omega)) (by omega)
  unfold fstN
  rw [hq, if_pos h, if_pos (show a + ones g a (m' - a) + 1 + low ≤ m' by omega)]
theorem fstN_few {g : Nat → Int} {m low a : Nat} (h : ¬ a + ones g a (m - a) + 1 + low ≤ m) : fstN g m low a = none := by
  unfold fstN
  rw [if_neg h]
theorem fstN_to {g : Nat → Int} {m low a : Nat} {n : Int} {b : Nat} (h : fstN g m low a = some (n, b)) : b = a + ones g a (m - a) + 1 + low := by
  unfold fstN at h
  split at h
  · split at h
    · cases h; rfl
    · cases h
  · cases h
/-- A number of the bits behind a place, seen from there. -/
theorem fstN_from {g : Nat → Int} {m a e : Nat} (ha : a + e ≤ m) : fstN g m 2 (a + e) = (fstN (fun i => g (a + i)) (m - a) 2 e).map fun p => (p.1, a + p.2) := by
  rw [fstN_shift ha, fstN_shift (g := fun i => g (a + i)) (m := m - a) (a := e) (by omega)]
  rw [show m - (a + e) = m - a - e by omega, show (fun i => g (a + e + i)) = fun i => g (a + (e + i)) by funext i; rw [Nat.add_assoc]]
  cases fstN (fun i => g (a + (e + i))) (m - a - e) 2 0 with
  | none => rfl
  | some p => simp [Nat.add_assoc]
/-- So are some rests. -/
theorem rsP_from {g : Nat → Int} {m a : Nat} (ha : a ≤ m) : ∀ i, rsP g m a i = (stpN (fun i => g (a + i)) (m - a) 2 i).map fun p => (p.1, a + p.2)
  | 0 => rfl
  | i + 1 => by
    have ih := rsP_from (g := g) ha i
    show (rsP g m a i).bind _ = Option.map _ ((stpN _ _ 2 i).bind _)
    rw [ih]
    cases hs : stpN (fun i => g (a + i)) (m - a) 2 i with
    | none => rfl
    | some p =>
      have hp := (stpN_len (show _ = some (p.1, p.2) from hs)).2.1
      show Option.map _ (fstN g m 2 (a + p.2)) = Option.map _ (Option.map _ (fstN _ _ 2 p.2))
      rw [fstN_from (by omega)]
      cases fstN (fun i => g (a + i)) (m - a) 2 p.2 <;> rfl
/-- Where rests that were read end. -/
theorem stpN_end {h : Nat → Int} {M : Nat} : ∀ {i : Nat} {xs : List Int} {b : Nat}, stpN h M 2 i = some (xs, b) → endP h M i = some b
  | 0, xs, b, h1 => by cases h1; rfl
  | i + 1, xs, b, h1 => by
    have h2 : (stpN h M 2 i).bind (fun p => (fstN h M 2 p.2).map fun q => (p.1 ++ [q.1], q.2)) = some (xs, b) := h1
    obtain ⟨p, hp, h3⟩ := Option.bind_eq_some_iff.1 h2
    obtain ⟨q, hq, h4⟩ := Option.map_eq_some_iff.1 h3
    cases h4
    have ih := stpN_end (show stpN h M 2 i = some (p.1, p.2) from hp)
    have ht := fstN_to (show fstN h M 2 p.2 = some (q.1, q.2) from hq)
    have he := (fstN_end (show fstN h M 2 p.2 = some (q.1, q.2) from hq)).2.1
    rw [endP_some ih (by omega)]
    congr 1
    omega
/-- Of the bits up to there alone the same is read. -/
theorem stpN_cut {h : Nat → Int} {M E : Nat} (hE : E ≤ M) : ∀ {i e : Nat}, endP h M i = some e → e ≤ E → stpN h E 2 i = stpN h M 2 i
  | 0, _, _, _ => rfl
  | i + 1, e, h1, h2 => by
    obtain ⟨e0, h3, h4, h5⟩ := endP_back h1
    have ih := stpN_cut hE h3 (by omega)
    show (stpN h E 2 i).bind _ = (stpN h M 2 i).bind _
    rw [ih]
    cases hs : stpN h M 2 i with
    | none => rfl
    | some p =>
      have hp := stpN_end (show stpN h M 2 i = some (p.1, p.2) from hs)
      rw [h3] at hp
      have hp2 := Option.some.inj hp
      show Option.map _ (fstN h E 2 p.2) = Option.map _ (fstN h M 2 p.2)
      rw [← hp2, fstN_less hE (by omega)]
/-- No end: no rests. -/
theorem rsP_endless {g : Nat → Int} {m a k : Nat} (ha : a ≤ m) (h : endP (fun i => g (a + i)) (m - a) k = none) : rsP g m a k = none := by
  rw [rsP_from ha]
  cases hs : stpN (fun i => g (a + i)) (m - a) 2 k with
  | none => rfl
  | some p => rw [stpN_end (show _ = some (p.1, p.2) from hs)] at h; cases h
/-- What is told of the bits up to the end. -/
theorem rsP_get {g : Nat → Int} {m a k E : Nat} (ha : a ≤ m) (h : endP (fun i => g (a + i)) (m - a) k = some E) : rsP g m a k = (getN (fun i => g (a + i)) E 2 k).map fun xs => (xs, a + E) := by
  have hE := (endP_le h).2
  rw [rsP_from ha, ← stpN_cut hE h (Nat.le_refl _)]
  unfold getN
  cases hs : stpN (fun i => g (a + i)) E 2 k with
  | none => rfl
  | some p =>
    have hs' := hs
    rw [stpN_cut hE h (Nat.le_refl _)] at hs'
    have hp := stpN_end (show _ = some (p.1, p.2) from hs')
    rw [h] at hp
    have hp2 := Option.some.inj hp
    show some _ = Option.map _ (if p.2 = E then some p.1 else none)
    rw [if_pos hp2.symm, hp2]; rfl

/-! A row of bytes, as bits are put into it one by one. -/
theorem valN_zero {g : Nat → Int} {p v : Nat} : ∀ {k}, (∀ i, i < k → g (p + i) = 0) → valN g p v k = v * 2 ^ k
  | 0, _ => by simp [valN]
  | k + 1, h => by
    have e : v * (2 ^ k * 2) = 2 * (v * 2 ^ k) := by rw [← Nat.mul_assoc, Nat.mul_comm]
    rw [valN_succ, valN_zero (fun i hi => h i (by omega)), h k (by omega), Nat.pow_succ, e]
    rfl
theorem valN_add (g : Nat → Int) (p v k : Nat) : ∀ l, valN g p v (k + l) = valN g (p + k) (valN g p v k) l
  | 0 => rfl
  | l + 1 => by rw [← Nat.add_assoc, valN_succ, valN_succ, valN_add g p v k l, Nat.add_assoc]
theorem take_getD {L : List Int} {i j : Nat} : (L.take i).getD j 0 = if j < i then L.getD j 0 else 0 := by
  split
  · rename_i h; simp [List.getD, List.getElem?_take_of_lt h]
  · rename_i h; simp [List.getD, List.getElem?_take_eq_none (Nat.le_of_not_lt h)]
/-- The byte at a place when i bits were put. -/
def putB (L : List Int) (i k : Nat) : Nat := octN (L.take i) k
theorem putB_zero (L : List Int) (k : Nat) : putB L 0 k = 0 := by
  unfold putB octN
  rw [valN_zero (fun i _ => by rw [take_getD, if_neg (by omega)]), Nat.zero_mul]
theorem putB_all {L : List Int} (k : Nat) : putB L L.length k = octN L k := by unfold putB; rw [List.take_length]
theorem putB_other {L : List Int} {i k : Nat} (h : k ≠ i / 8) : putB L (i + 1) k = putB L i k := by
  unfold putB octN
  refine valN_congr fun j hj => ?_
  rw [take_getD, take_getD]
  by_cases c : 8 * k + j < i
  · rw [if_pos (by omega), if_pos c]
  · rw [if_neg (by omega), if_neg c]
theorem putB_form {L : List Int} (h : ∀ b ∈ L, b = 0 ∨ b = 1) (i : Nat) : putB L i (i / 8) = valN (fun j => L.getD j 0) (8 * (i / 8)) 0 (i % 8) * 2 ^ (8 - i % 8) := by
  unfold putB octN
  have e : (8 : Nat) = i % 8 + (8 - i % 8) := by omega
  conv => lhs; rw [show valN (fun j => (L.take i).getD j 0) (8 * (i / 8)) 0 8 = valN (fun j => (L.take i).getD j 0) (8 * (i / 8)) 0 (i % 8 + (8 - i % 8)) by rw [← e]]
  rw [valN_add, valN_zero (fun j hj => by rw [take_getD, if_neg (by omega)])]
  congr 1
  refine valN_congr fun j hj => ?_
  rw [take_getD, if_pos (by omega)]
theorem putB_next {L : List Int} (h : ∀ b ∈ L, b = 0 ∨ b = 1) {i z : Nat} (hz : L.getD i 0 = (z : Int)) (hz1 : z ≤ 1) : putB L (i + 1) (i / 8) = putB L i (i / 8) ||| z <<< (7 - i % 8) := by
  rw [putB_form h]
  have e2 : putB L (i + 1) (i / 8) = (2 * valN (fun j => L.getD j 0) (8 * (i / 8)) 0 (i % 8) + z) * 2 ^ (7 - i % 8) := by
    have h1 : putB L (i + 1) (i / 8) = valN (fun j => L.getD j 0) (8 * (i / 8)) 0 (i % 8 + 1) * 2 ^ (7 - i % 8) := by
      unfold putB octN
      have e : (8 : Nat) = (i % 8 + 1) + (7 - i % 8) := by omega
      conv => lhs; rw [show valN (fun j => (L.take (i + 1)).getD j 0) (8 * (i / 8)) 0 8 = valN (fun j => (L.take (i + 1)).getD j 0) (8 * (i / 8)) 0 ((i % 8 + 1) + (7 - i % 8)) by rw [← e]]
      rw [valN_add, valN_zero (fun j hj => by rw [take_getD, if_neg (by omega)])]
      congr 1
      refine valN_congr fun j hj => ?_
      rw [take_getD, if_pos (by omega)]
    rw [h1, valN_succ, Nat.div_add_mod, hz, Int.toNat_natCast]
  rw [e2]
  generalize valN _ _ _ _ = v
  have e3 : 8 - i % 8 = (7 - i % 8) + 1 := by omega
  rw [e3]
  generalize 7 - i % 8 = k
  have hlt : z <<< k < 2 ^ (k + 1) := by
    rw [Nat.shiftLeft_eq, Nat.pow_succ, Nat.mul_comm]
    have := Nat.mul_le_mul (Nat.le_refl (2 ^ k)) hz1
    have h2 : 0 < 2 ^ k := Nat.pow_pos (by omega)
    omega
  have h9 := Nat.shiftLeft_add_eq_or_of_lt hlt v
  rw [Nat.shiftLeft_eq v] at h9
  rw [← h9, Nat.shiftLeft_eq, Nat.pow_succ, Nat.add_mul]
  rw [Nat.mul_comm 2 v, Nat.mul_assoc, Nat.mul_comm 2]
theorem putB_lt {L : List Int} (h : ∀ b ∈ L, b = 0 ∨ b = 1) (i k : Nat) : putB L i k < 256 := octN_lt (fun b hb => h b (List.mem_of_mem_take hb)) k
end Go.Proofs.YtjhflcgphejddaaDoor

namespace Go.Proofs.YtjhflcgphejddaaDoor
open Go.RowKit
set_option linter.unusedVariables false
set_option maxRecDepth 100000

theorem ints_mono {w w' : World} {B : Nat} {v : Value} {n : Nat} {f : Nat → Int} (h : IntsIn w v n f) (hb : Below B w w') (hl : ∀ k, v.ownBlock = some k → k < B) : IntsIn w' v n f := by
  rcases h with h | ⟨h0, b, o, c, rfl, hc⟩
  · exact Or.inl h
  · exact Or.inr ⟨h0, b, o, c, rfl, fun i hi => (hb.cell (hl b rfl)).trans (hc i hi)⟩
theorem ints_lt {w : World} {v : Value} {n : Nat} {f : Nat → Int} (h : IntsIn w v n f) (h0 : 0 < n) : ∀ k, v.ownBlock = some k → k < w.heap.size := by
  rcases h with ⟨h, _⟩ | ⟨_, b, o, c, rfl, hc⟩
  · omega
  · intro k e
    have e' : b = k := by simpa [Value.ownBlock] using e
    subst e'
    exact cell_lt (hc 0 h0)
end Go.Proofs.YtjhflcgphejddaaDoor

namespace Go.Proofs.YtjhflcgphejddaaDoor
open Go.RowKit
set_option linter.unusedVariables false
set_option maxRecDepth 100000

theorem put_zero {w : World} {b n : Nat} {t : TypeId} {L : List Int} (h : w.rowIs b t n (fun _ => .int .u8 0)) : BRow w b n (fun k => UInt8.ofNat (putB L 0 k)) := fun i hi => ⟨by show _ = some (Value.int .u8 ((UInt8.ofNat (putB L 0 i)).toNat : Int)); rw [putB_zero]; exact h.cell hi, h.frozen i⟩

set_option maxHeartbeats 2000000 in
theorem whole_ok {w : World} {v : Value} {L : List Int} (h : IntsIn w v L.length (fun k => L.getD k 0)) (hL : ∀ b ∈ L, b = 0 ∨ b = 1) (hn : L.length ≤ 1000000) :
    Calls Tryd.prog 19 #[v] w fun e w' => ∃ g, e = .returned (.slice (some ⟨g, 0, none⟩) (octs L) (octs L)) ∧ w.heap.size ≤ g ∧ (g < w'.heap.size ∨ octs L = 0) ∧ BRow w' g (octs L) (fun k => UInt8.ofNat (octN L k)) ∧ Below w.heap.size w w' := by
  have HI := hide h
  have HL := hide hL
  obtain ⟨n, hnn⟩ : ∃ n, n = L.length := ⟨_, rfl⟩
  obtain ⟨ad, cap, rfl⟩ : ∃ ad cp, v = .slice ad n cp := by
    rcases h with ⟨e, a, cap, rfl⟩ | ⟨h0, b, o, cap, rfl, hc⟩
    · exact ⟨_, _, by rw [hnn, e]⟩
    · exact ⟨_, _, by rw [hnn]⟩
  rw [← hnn] at HI hn
  have HN := hide hnn
  obtain ⟨M, hM⟩ : ∃ M, M = octs L := ⟨_, rfl⟩
  have hM8 : M = (n + 7) / 8 := by rw [hM, hnn]; rfl
  have hMe : ((n : Int) + 7).tdiv 8 = (M : Int) := by rw [Int.tdiv_eq_ediv_of_nonneg (by omega), hM8]; omega
  have hMe2 : ((n : Int) + 7) / 8 = (M : Int) := by rw [hM8]; omega
  rw [← hM]
  have HM := hide hM
  have HM8 := hide hM8
  have hM2 : M ≤ 1000000 := by omega
  have hmk := run_make_row' (P := Tryd.prog) 55 5 (.int .u8 0) 1 Tryd.underlying55 Tryd.infoU8 rfl .i64 .i64 M (by omega) (by omega)
  clear h hL hnn hM hM8
  go_enter Tryd.func19, Tryd.ntmps19
  go_wp2
  go_loopw [12] (fun i wr => ∃ j : Nat, j ≤ n ∧ i = .int .i64 j ∧ Hid (BRow wr w.heap.size M (fun k => UInt8.ofNat (putB L j k))) ∧ Hid (Below w.heap.size w wr)) (fun i _ => n - (intOf i).toNat)
  case atStart => exact ⟨0, Nat.zero_le _, rfl, put_zero (World.rowIs_made _ _ _ _), (Below.refl _ _).alloc (Nat.le_refl _) _⟩
  case round =>
    obtain ⟨j, hj, rfl, HR, HB⟩ := hrel
    by_cases hlt : j < n
    · obtain ⟨p, r, hpr, hr8⟩ : ∃ p r, j = 8 * p + r ∧ r < 8 := ⟨j / 8, j % 8, by omega, by omega⟩
      have hpM : p < M := by have := HM8.out; omega
      obtain ⟨bb, oo, cpv, hv, hcj⟩ : ∃ bb oo cp, Value.slice ad n cap = .slice (some ⟨bb, oo, none⟩) n cp ∧ wr.cell? ⟨bb, oo + j, none⟩ = some (.int .i64 (L.getD j 0)) := by
        rcases HI.out.below HB.out with ⟨rfl, _⟩ | ⟨h0, b, o, cap, e, hc⟩
        · omega
        · exact ⟨b, o, cap, e, hc j hlt⟩
      obtain ⟨rfl, rfl⟩ : ad = some ⟨bb, oo, none⟩ ∧ cap = cpv := by cases hv; exact ⟨rfl, rfl⟩
      have hz := bits_getD HL.out j
      obtain ⟨z, hze, hz1⟩ : ∃ z : Nat, L.getD j 0 = (z : Int) ∧ z ≤ 1 := by
        rcases hz with h | h
        · exact ⟨0, by rw [h]; rfl, by omega⟩
        · exact ⟨1, by rw [h]; rfl, by omega⟩
      have hnx := putB_next HL.out hze hz1
      have hot := fun k => putB_other (L := L) (i := j) (k := k)
      rw [show j / 8 = p by omega] at hnx hot
      rw [show j % 8 = r by omega] at hnx
      have hlp := putB_lt HL.out j p
      have hlp2 := putB_lt HL.out (j + 1) p
      rw [hze] at hcj
      obtain ⟨hcell, hfr⟩ := HR.out p hpM
      rw [u8_of hlp] at hcell
      have d1 : ((j : Nat) : Int).tdiv 8 = (p : Int) := by rw [Int.tdiv_eq_ediv_of_nonneg (by omega)]; omega
      have d2 : ((j : Nat) : Int) / 8 = (p : Int) := by omega
      have d3 : ((j : Nat) : Int).tmod 8 = (r : Int) := by rw [Int.tmod_eq_emod_of_nonneg (by omega)]; omega
      have d4 : ((j : Nat) : Int) % 8 = (r : Int) := by omega
      obtain ⟨c, hc⟩ : ∃ c, c = 7 - r := ⟨_, rfl⟩
      have hc7 : c ≤ 7 := by omega
      have d5 : (7 : Int) - (r : Int) = (c : Int) := by omega
      rw [← hc] at hnx
      have hset := HR.out.set p (UInt8.ofNat (putB L (j + 1) p))
      rw [u8_of hlp2] at hset
      have HS : Hid (BRow (wr.setCell ⟨w.heap.size, p, none⟩ (.int .u8 ((putB L (j + 1) p : Nat) : Int))) w.heap.size M (fun k => UInt8.ofNat (putB L (j + 1) k))) := hset.congr (fun i _ => by
        by_cases e : i = p
        · rw [if_pos e, e]
        · rw [if_neg e, hot i e])
      obtain ⟨Z, hZ⟩ : ∃ Z, Z = z <<< c := ⟨_, rfl⟩
      rw [← hZ] at hnx
      have hsh : Z ≤ 128 := by
        rw [hZ, Nat.shiftLeft_eq]
        have h1 : 2 ^ c ≤ 2 ^ 7 := Nat.pow_le_pow_right (by omega) hc7
        exact Nat.le_trans (Nat.mul_le_mul hz1 h1) (by decide)
      have hq : ((z : Nat) : Int) * 2 ^ c % 256 = ((Z : Nat) : Int) := by
        have e : ((z : Nat) : Int) * 2 ^ c = ((Z : Nat) : Int) := by rw [hZ, Nat.shiftLeft_eq, Int.natCast_mul, Int.natCast_pow]; rfl
        rw [e]; omega
      have hor := u8_or_nat (putB L j p) Z hlp (by omega)
      rw [← hnx] at hor
      have hB9 : Hid (Below w.heap.size w (wr.setCell ⟨w.heap.size, p, none⟩ (.int .u8 ((putB L (j + 1) p : Nat) : Int)))) := HB.out.setCell (Nat.le_refl _) _
      generalize putB L j p = x at *
      generalize putB L (j + 1) p = y at *
      have u1 : IntKind.u8.wrap ((z : Nat) : Int) = ((z : Nat) : Int) := by rw [IntKind.wrap_u8]; omega
      clear hv hz hpr hc hset hot hnx hsh hZ
      go_wp2
      go_region
      all_goals go_wp2
      all_goals go_roundw
      case rel =>
        first
          | exact ⟨j + 1, by omega, by go_num, HS.out, hB9.out.drew⟩
          | (refine ⟨_, ⟨j + 1, by omega, by go_num, HS.out, hB9.out.drew⟩, rfl⟩)
      case measure => simp [intOf]; omega
    · obtain rfl : j = n := by omega
      have HE : Hid (BRow wr w.heap.size M (fun k => UInt8.ofNat (octN L k))) := HR.out.congr (fun i _ => by rw [HN.out, putB_all])
      have hs := HB.out.size
      have HZ : Hid (w.heap.size < wr.heap.size ∨ M = 0) := by
        by_cases c : M = 0
        · exact Or.inr c
        · exact Or.inl (cell_lt (HE.out 0 (by omega)).1)
      go_wp2
      go_ret
      exact ⟨w.heap.size, rfl, Nat.le_refl _, HZ.out, HE.out, HB.out⟩
end Go.Proofs.YtjhflcgphejddaaDoor
