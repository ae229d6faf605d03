/-
  Lemmas for the law above, joined into one text (ErrN, DropF, PIm0, PKit, Blk). No statement is proved here.
-/
import Derived.Test.YtjgifjkdgoijmaaGreatDoorYG0
import Derived.Test.YtjgifjkdgoijmaaGreatDoorYG4
import Derived.Test.YtjgifjkdgoijmaaGreatDoorYG2
import Derived.Test.YtjgifjkdgoijmaaGreatDoorYG3
import Derived.Lib.BufferWrite
import Derived.Lib.Strings
import Derived.Laws.MakeOwn
import Derived.Laws.IdiomStrings
namespace Go.Proofs.YtjgifjkdgoijmaaGreatDoor
open Go.RowKit
set_option linter.unusedVariables false
set_option maxRecDepth 100000

/-- The error that stands for the number x: none for 0. -/
def ErrIs (x : Int) (err : Value) : Prop := (x = 0 ∧ err = .nilIface) ∨ err = .iface 64 (.int .i64 x)
end Go.Proofs.YtjgifjkdgoijmaaGreatDoor

namespace Go.Proofs.YtjgifjkdgoijmaaGreatDoor
open Go.RowKit Go.Maps
set_option linter.unusedVariables false
set_option maxRecDepth 100000

/-- What is wrong with a Drop: its number. -/
def OkD (k size seed : Int) : Prop := (1 ≤ k ∧ k ≤ 16) ∧ (1 ≤ size ∧ size ≤ 8) ∧ 1 ≤ seed ∧ seed ≤ 10000
instance (k size seed : Int) : Decidable (OkD k size seed) := inferInstanceAs (Decidable (_ ∧ _))
def fD (k size seed : Int) (n : Nat) : Int := if OkD k size seed then (if (n : Int) = size then 0 else 3) else 1

theorem dcheck_any (k size seed : Int) (s : ByteArray) (w : World) :
    Calls Tryz.prog 24 #[.int .i64 k, .int .i64 size, dropV seed s] w fun e w' => ∃ err, e = .returned err ∧ ErrIs (fD k size seed s.size) err ∧ Below w.heap.size w w' := by
  unfold fD
  by_cases h : OkD k size seed
  · rw [if_pos h]
    by_cases c : (s.size : Int) = size
    · rw [if_pos c]; exact (dcheck_ok k size seed s w h.1 h.2.1 h.2.2 c).mono fun e w' ⟨he, hb⟩ => ⟨_, he, Or.inl ⟨rfl, rfl⟩, hb⟩
    · rw [if_neg c]; exact (dcheck_shape k size seed s w h.1 h.2.1 h.2.2 c).mono fun e w' ⟨he, hb⟩ => ⟨_, he, Or.inr rfl, hb⟩
  · rw [if_neg h]; exact (dcheck_range k size seed s w h).mono fun e w' ⟨he, hb⟩ => ⟨_, he, Or.inr rfl, hb⟩
/-- The error that tells the number x: none for 0. -/
def Tell (x : Int) : Value := if x = 0 then .nilIface else .iface 64 (.int .i64 x)
theorem tell_is (x : Int) : ErrIs x (Tell x) := by
  unfold Tell
  by_cases h : x = 0
  · rw [if_pos h]; exact Or.inl ⟨h, rfl⟩
  · rw [if_neg h]; exact Or.inr rfl
theorem dcheck_tell (k size seed : Int) (s : ByteArray) (w : World) :
    Calls Tryz.prog 24 #[.int .i64 k, .int .i64 size, .agg #[.int .i64 seed, .string s]] w fun e w' => e = .returned (Tell (fD k size seed s.size)) ∧ Below w.heap.size w w' := by
  unfold fD
  by_cases h : OkD k size seed
  · rw [if_pos h]
    by_cases c : (s.size : Int) = size
    · rw [if_pos c]; exact dcheck_ok k size seed s w h.1 h.2.1 h.2.2 c
    · rw [if_neg c]; exact dcheck_shape k size seed s w h.1 h.2.1 h.2.2 c
  · rw [if_neg h]; exact dcheck_range k size seed s w h
end Go.Proofs.YtjgifjkdgoijmaaGreatDoor

namespace Go.Proofs.YtjgifjkdgoijmaaGreatDoor
open Go.RowKit Go.Maps
set_option linter.unusedVariables false
set_option maxRecDepth 100000

/-- What Take finds: the fault's number. -/
def tF (k z : Nat) (T : List Nat) (seed : Int) (n : Nat) : Int := if fD k z seed n ≠ 0 then fD k z seed n else if seed.toNat ∈ T then 7 else if 60 ≤ T.length then 4 else 0
/-- One that knows nothing. -/
def p0 : PS := ⟨fun _ => false, fun _ => ⟨#[]⟩, []⟩

structure PIm0 where
  St : World → Value → Nat → Nat → PS → List Nat → Prop
  foot : World → Value → Nat → Prop
  foot_lt : ∀ {w : World} {v : Value} {k z : Nat} {p : PS} {T : List Nat}, St w v k z p T → ∀ i, foot w v i → i < w.heap.size
  keep : ∀ {w w' : World} {v : Value} {k z : Nat} {p : PS} {T : List Nat}, St w v k z p T → w.heap.size ≤ w'.heap.size → (∀ i, foot w v i → w'.heap[i]? = w.heap[i]?) → St w' v k z p T ∧ ∀ i, foot w' v i → foot w v i
  new_ok : ∀ (k z : Nat) (w : World), 1 ≤ k → k ≤ 16 → 1 ≤ z → z ≤ 8 → Calls Tryz.prog 22 #[.int .i64 k, .int .i64 z] w fun e w' => ∃ v, e = .returned (.tuple #[v, .nilIface]) ∧ St w' v k z p0 [] ∧ (∀ i, foot w' v i → w.heap.size ≤ i) ∧ Below w.heap.size w w'
  new_range : ∀ (k z : Int) (w : World), ¬ ((1 ≤ k ∧ k ≤ 16) ∧ 1 ≤ z ∧ z ≤ 8) → Calls Tryz.prog 22 #[.int .i64 k, .int .i64 z] w fun e w' => ∃ v, e = .returned (.tuple #[v, .iface 64 (.int .i64 1)]) ∧ Below w.heap.size w w'
  take_bad : ∀ {w : World} {v : Value} {k z : Nat} {p : PS} {T : List Nat}, St w v k z p T → ∀ (seed : Int) (data : ByteArray), data.size ≤ maxLen → tF k z T seed data.size ≠ 0 →
    Calls Tryz.prog 57 #[v, dropV seed data] w fun e w' => ∃ vs, e = .returned (.tuple #[vs, .iface 64 (.int .i64 (tF k z T seed data.size))]) ∧ Lsh w' vs [] ∧ St w' v k z p T ∧ Kept (foot w v) w w' ∧ ∀ i, foot w' v i → foot w v i ∨ w.heap.size ≤ i
  take_ok : ∀ {w : World} {v : Value} {k z : Nat} {p : PS} {T : List Nat}, St w v k z p T → ∀ (seed : Nat) (data : ByteArray), tF k z T seed data.size = 0 →
    Calls Tryz.prog 57 #[v, dropV seed data] w fun e w' => ∃ vs q, e = .returned (.tuple #[vs, .nilIface]) ∧ Peels (setL k) ⟨p.known, p.B, p.L ++ [(seed, data)]⟩ q ∧ Lsh w' vs (came k p.known q.known) ∧ St w' v k z q (T ++ [seed]) ∧ Kept (foot w v) w w' ∧ ∀ i, foot w' v i → foot w v i ∨ w.heap.size ≤ i
  knows_ok : ∀ {w : World} {v : Value} {k z : Nat} {p : PS} {T : List Nat}, St w v k z p T → Calls Tryz.prog 59 #[v] w fun e w' => ∃ vs, e = .returned vs ∧ Lsh w' vs (knows k p.known) ∧ Below w.heap.size w w'
theorem PIm0.below (I : PIm0) {w w' : World} {v : Value} {k z : Nat} {p : PS} {T : List Nat} (h : I.St w v k z p T) (hb : Below w.heap.size w w') : I.St w' v k z p T ∧ ∀ i, I.foot w' v i → I.foot w v i := I.keep h hb.size fun i hi => hb.block i (I.foot_lt h i hi)
theorem fD_ok {k z sj : Int} {n : Nat} (h : fD k z sj n = 0) : OkD k z sj ∧ (n : Int) = z := by
  unfold fD at h
  by_cases c : OkD k z sj
  · rw [if_pos c] at h
    by_cases c2 : (n : Int) = z
    · exact ⟨c, c2⟩
    · rw [if_neg c2] at h; cases h
  · rw [if_neg c] at h; cases h
end Go.Proofs.YtjgifjkdgoijmaaGreatDoor

namespace Go.Proofs.YtjgifjkdgoijmaaGreatDoor
open Go.RowKit Go.Maps
set_option linter.unusedVariables false
set_option maxRecDepth 100000

theorem came_self (k : Nat) (kn : Nat → Bool) : came k kn kn = [] := List.filter_eq_nil_iff.2 fun r _ => by cases kn r <;> simp
theorem Lsh.kept {M : Nat → Prop} {w w' : World} {v : Value} {l : List Nat} (h : Lsh w v l) (k : Kept M w w') (hm : ∀ i, v.ownBlock = some i → ¬ M i) : Lsh w' v l := by
  obtain ⟨a, cap, hv, h1, h2, h3⟩ := h
  refine ⟨a, cap, hv, h1, h2, fun h0 => ?_⟩
  obtain ⟨g, cap', hv', q1, q2, q3⟩ := h3 h0
  have hlt : g < w.heap.size := cell_lt (q3 0 h0)
  have hb : w'.heap[g]? = w.heap[g]? := k.block g hlt (hm g (by rw [hv']; rfl))
  exact ⟨g, cap', hv', q1, q2, fun i hi => (World.cell?_of_block (w := w) hb).trans (q3 i hi)⟩
theorem Peels.shrinks {S : Nat → List Nat} {p a : PS} (h : Peels S p a) : a.L.length ≤ p.L.length := by rw [h.waits]; exact sift_len _
theorem tF_ok {k z : Nat} {T : List Nat} {n d : Nat} (hf : fD k z (n : Int) d = 0) (hm : n ∉ T) (h : ¬ 60 ≤ T.length) : tF k z T (n : Int) d = 0 := by
  unfold tF
  rw [if_neg (by simp [hf]), if_neg (by simpa using hm), if_neg h]
end Go.Proofs.YtjgifjkdgoijmaaGreatDoor

namespace Go.Proofs.YtjgifjkdgoijmaaGreatDoor
open Go.RowKit
set_option linter.unusedVariables false
set_option maxRecDepth 100000

/-- The first n bytes, noughts behind. -/
def padL (l : List UInt8) (n : Nat) : List UInt8 := l.take n ++ List.replicate (n - l.length) 0
theorem padL_length (l : List UInt8) (n : Nat) : (padL l n).length = n := by
  simp [padL]; omega

theorem count_any (n z : Int) (w : World) (hn : 0 ≤ n) (hn2 : n ≤ 1000) (h1 : 1 ≤ z) (h8 : z ≤ 8) :
    Calls Tryz.prog 33 #[.int .i64 n, .int .i64 z] w fun e w' => e = .returned (.int .i64 (max 1 ((n + z - 1) / z))) ∧ w = w' := by
  go_enter Tryz.func33, Tryz.ntmps33
  go_wp2
  all_goals go_ret
  all_goals exact ⟨ret_int (by omega), rfl⟩

/-- 'copy(dst, s)', s a string of whatever length: as many bytes as both have. -/
theorem run_copy_row_string_min {P : Program} (w : World) (dT sT ty elem : TypeId) (g o dLen dCap : Nat) (s : ByteArray) (cur : Array Value) (t : TypeId)
    (hu : P.underlying dT = some (.slice elem)) (hs : (P.info? elem).map (·.size) = some 1) (hg : w.heap[g]? = some (.cells cur t (0, 0))) (hfit : o + Nat.min s.size dLen ≤ cur.size) :
    (Builtin.copy_ #[dT, sT] ty #[.slice (some ⟨g, o, none⟩) dLen dCap, .string s]).run P w =
      .ok (goInt (Nat.min s.size dLen)) (w.setRow g (cur.toList.take o ++ Lib.byteCells (s.data.toList.take (Nat.min s.size dLen)) ++ cur.toList.drop (o + Nat.min s.size dLen)).toArray) := by
  have hlen : (Lib.byteCells (s.data.toList.take (Nat.min s.size dLen))).length = Nat.min s.size dLen := by
    rw [Lib.byteCells_length, List.length_take, ← Lib.size_eq]
    exact Nat.min_eq_left (Nat.min_le_left _ _)
  have hst := run_storeCells_at P g o t (Lib.byteCells (s.data.toList.take (Nat.min s.size dLen))) 0 cur w hg (by rw [hlen]; simpa using hfit) (Lib.byteCells_one _)
  have htk : List.take (Nat.min s.size dLen) (List.map (fun b : UInt8 => Value.int IntKind.u8 (b.toNat : Int)) s.data.toList) = Lib.byteCells (s.data.toList.take (Nat.min s.size dLen)) := by
    rw [Lib.byteCells, List.map_take]
  rw [hlen] at hst
  simp only [Nat.add_zero] at hst
  cases hq : P.info? elem with
  | none => simp [hq] at hs
  | some i =>
    simp [Builtin.copy_, run_underlying hu, Builtin.lenOf, Builtin.firstCells, sizeOf, typeInfo, hq]
    rw [htk, hst]
    simp [Result.andThen]

set_option maxHeartbeats 1000000 in
theorem padded_any (s : ByteArray) (z : Int) (w : World) (h1 : 1 ≤ z) (h8 : z ≤ 8) :
    Calls Tryz.prog 34 #[.string s, .int .i64 z] w fun e w' => e = .returned (.string ⟨(padL s.data.toList z.toNat).toArray⟩) ∧ Below w.heap.size w w' := by
  obtain ⟨n, rfl⟩ := Int.eq_ofNat_of_zero_le (show 0 ≤ z by omega)
  rw [Int.toNat_natCast]
  obtain ⟨i0, hi, hz0, hz1, hz2⟩ := info_parts Tryz.infoU8
  have hinfo : (Tryz.prog.info? 5).map (·.size) = some 1 := by rw [hi]; simp [hz1]
  obtain ⟨M, hM⟩ : ∃ M, M = madeCells (Value.int .u8 0).cells (((n : Nat) : Int).toNat * i0.size) := ⟨_, rfl⟩
  have hMl : M.toList = List.replicate n (.int .u8 0) := by
    rw [hM, hz1, Int.toNat_natCast, Nat.mul_one]; exact toList_madeCells_one _ _
  have hMs : M.size = n := by rw [← Array.length_toList, hMl, List.length_replicate]
  have hmk : ∀ W : World, (Instr.makeSlice 124 (.int .i64 (n : Int)) (.int .i64 (n : Int))).run Tryz.prog W = .ok (.slice (some ⟨W.heap.size, 0, none⟩) n n) (W.alloc (.cells M 5)) := fun W => by
    have h := run_make (P := Tryz.prog) W 124 5 i0 (.int .u8 0) Tryz.underlying124 hi hz0 .i64 .i64 (n : Int) (n : Int) (by omega) (by omega) (by rw [hz2]; omega) (by omega)
    rw [← hM] at h
    simpa using h
  clear hM
  have hcp := run_copy_row_string_min (P := Tryz.prog) (w.alloc (.cells M 5)) 124 9 3 5 w.heap.size 0 n n s M 5 Tryz.underlying124 hinfo (heap_alloc_new w _) (by rw [hMs, Nat.zero_add]; exact Nat.min_le_right _ _)
  obtain ⟨Y, hY⟩ : ∃ Y, Y = (M.toList.take 0 ++ Lib.byteCells (s.data.toList.take (Nat.min s.size n)) ++ M.toList.drop (0 + Nat.min s.size n)).toArray := ⟨_, rfl⟩
  rw [← hY] at hcp
  have hYl : Y.toList = Lib.byteCells (padL s.data.toList n) := by
    rw [hY, List.toList_toArray, List.take_zero, List.nil_append, hMl, Nat.zero_add, List.drop_replicate, padL, Lib.byteCells, Lib.byteCells, List.map_append, List.map_replicate, Lib.size_eq]
    have e1 : List.take (Nat.min s.data.toList.length n) s.data.toList = List.take n s.data.toList := by
      rw [show Nat.min s.data.toList.length n = min n s.data.toList.length from Nat.min_comm _ _, ← List.take_take, List.take_length]
    have e2 : n - Nat.min s.data.toList.length n = n - s.data.toList.length := by
      rcases Nat.le_total s.data.toList.length n with h | h
      · rw [show Nat.min s.data.toList.length n = s.data.toList.length from Nat.min_eq_left h]
      · rw [show Nat.min s.data.toList.length n = n from Nat.min_eq_right h]; omega
    rw [e1, e2]; rfl
  clear hY
  have hgY : ((w.alloc (.cells M 5)).setRow w.heap.size Y).heap[w.heap.size]? = some (.cells Y 5 (0, 0)) := setRow_heap _ _ M _ 5 (0, 0) (heap_alloc_new w _)
  have hcv := run_convert_bytes_back (P := Tryz.prog) ((w.alloc (.cells M 5)).setRow w.heap.size Y) 124 9 5 ⟨w.heap.size, 0, none⟩ n (padL s.data.toList n) Tryz.underlying124 Tryz.underlying5 Tryz.underlying9
    (fun j hj => by
      have hx : Y.toList[j]? = some (.int .u8 ((padL s.data.toList n)[j].toNat : Int)) := by
        rw [hYl, Lib.byteCells, List.getElem?_map, List.getElem?_eq_getElem hj]; rfl
      have := Lib.cells_of_row hgY Y.size j _ (by rw [List.take_of_length_le (by rw [Array.length_toList]; exact Nat.le_refl _)]; exact hx)
      simpa [Addr.add] using this)
  rw [padL_length] at hcv
  have hb1 : Below w.heap.size w (w.alloc (.cells M 5)) := (Below.refl _ w).alloc (Nat.le_refl _) _
  have hb2 : Below w.heap.size (w.alloc (.cells M 5)) ((w.alloc (.cells M 5)).setRow w.heap.size Y) := ⟨rfl, rfl, rfl, by simp, fun k hk => setRow_other _ _ _ _ (by omega)⟩
  have hb := hb1.trans hb2
  clear hb1 hb2 hgY hYl hMl hMs
  go_enter Tryz.func34, Tryz.ntmps34
  go_wp2
  go_ret
  exact ⟨rfl, hb⟩
end Go.Proofs.YtjgifjkdgoijmaaGreatDoor
