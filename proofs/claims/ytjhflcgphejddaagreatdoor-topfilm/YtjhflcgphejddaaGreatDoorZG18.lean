/-
  Lemmas for the law above, joined into one text (PKit, Blk, Split, EarN, EarRep, PMap, OwnCut). No statement is proved here.
-/
import Derived.Test.YtjhflcgphejddaaGreatDoorZG17
import Derived.Test.YtjhflcgphejddaaGreatDoorZG16
import Derived.Test.YtjhflcgphejddaaGreatDoorZG3
import Derived.Lib.BufferWrite
import Derived.Lib.Strings
import Derived.Laws.MakeOwn
import Derived.Laws.IdiomStrings
import Derived.Deep.OwnRows
import Derived.Lib.IndexBytes
import Derived.Shelf.Strings.Repeat
import Derived.Shelf.Strings.BuilderX
import Derived.Test.YtjhflcgphejddaaGreatDoorZG0
import Derived.WalkKit
import Derived.Test.YtjhflcgphejddaaGreatDoorZG15
import Derived.Test.YtjhflcgphejddaaGreatDoorZG7
import Derived.Lib.SliceRun
namespace Go.Proofs.YtjhflcgphejddaaGreatDoor
open Go.RowKit Go.Maps
set_option linter.unusedVariables false
set_option maxRecDepth 100000

theorem came_self (k : Nat) (kn : Nat → Bool) : came k kn kn = [] := List.filter_eq_nil_iff.2 fun r _ => by cases kn r <;> simp
theorem Lsh.kept {M : Nat → Prop} {w w' : World} {v : Value} {l : List Nat} (h : Lsh w v l) (k : Kept M w w') (hm : ∀ i, v.ownBlock = some i → ¬ M i) : Lsh w' v l := by
  obtain ⟨a, cap, hv, h1, h2, h3⟩ := h
  refine ⟨a, cap, hv, h1, h2, fun h0 => ?_⟩
  obtain ⟨g, cap', hv', q1, q2, q3⟩ := h3 h0
  have hlt : g < w.heap.size := cell_lt (q3 0 h0)
  have hb : w'.heap[g]? = w.heap[g]? := k.block g hlt (hm g (by rw [hv']; rfl))
  exact ⟨g, cap', hv', q1, q2, fun i hi => (World.cell?_of_block (w := w) hb).trans (q3 i hi)⟩
theorem Peels.shrinks {S : Nat → List Nat} {p a : PS} (h : Peels S p a) : a.L.length ≤ p.L.length := by rw [h.waits]; exact sift_len _
theorem tF_ok {k z : Nat} {T : List Nat} {n d : Nat} (hf : fD k z (n : Int) d = 0) (hm : n ∉ T) (h : ¬ 60 ≤ T.length) : tF k z T (n : Int) d = 0 := by
  unfold tF
  rw [if_neg (by simp [hf]), if_neg (by simpa using hm), if_neg h]
end Go.Proofs.YtjhflcgphejddaaGreatDoor

namespace Go.Proofs.YtjhflcgphejddaaGreatDoor
open Go.RowKit
set_option linter.unusedVariables false
set_option maxRecDepth 100000

/-- The first n bytes, noughts behind. -/
def padL (l : List UInt8) (n : Nat) : List UInt8 := l.take n ++ List.replicate (n - l.length) 0
theorem padL_length (l : List UInt8) (n : Nat) : (padL l n).length = n := by
  simp [padL]; omega

theorem count_any (n z : Int) (w : World) (hn : 0 ≤ n) (hn2 : n ≤ 1000) (h1 : 1 ≤ z) (h8 : z ≤ 8) :
    Calls Tryz.prog 29 #[.int .i64 n, .int .i64 z] w fun e w' => e = .returned (.int .i64 (max 1 ((n + z - 1) / z))) ∧ w = w' := by
  go_enter Tryz.func29, Tryz.ntmps29
  go_wp2
  all_goals go_ret
  all_goals exact ⟨ret_int (by omega), rfl⟩

/-- 'copy(dst, s)', s a string of whatever length: as many bytes as both have. -/
theorem run_copy_row_string_min {P : Program} (w : World) (dT sT ty elem : TypeId) (g o dLen dCap : Nat) (s : ByteArray) (cur : Array Value) (t : TypeId)
    (hu : P.underlying dT = some (.slice elem)) (hs : (P.info? elem).map (·.size) = some 1) (hg : w.heap[g]? = some (.cells cur t (0, 0))) (hfit : o + Nat.min s.size dLen ≤ cur.size) :
    (Builtin.copy_ #[dT, sT] ty #[.slice (some ⟨g, o, none⟩) dLen dCap, .string s]).run P w =
      .ok (goInt (Nat.min s.size dLen)) (w.setRow g (cur.toList.take o ++ Lib.byteCells (s.data.toList.take (Nat.min s.size dLen)) ++ cur.toList.drop (o + Nat.min s.size dLen)).toArray) := by
  have hlen : (Lib.byteCells (s.data.toList.take (Nat.min s.size dLen))).length = Nat.min s.size dLen := by
    rw [Lib.byteCells_length, List.length_take, ← Lib.size_eq]
    exact Nat.min_eq_left (Nat.min_le_left _ _)
  have hst := run_storeCells_at P g o t (Lib.byteCells (s.data.toList.take (Nat.min s.size dLen))) 0 cur w hg (by rw [hlen]; simpa using hfit) (Lib.byteCells_one _)
  have htk : List.take (Nat.min s.size dLen) (List.map (fun b : UInt8 => Value.int IntKind.u8 (b.toNat : Int)) s.data.toList) = Lib.byteCells (s.data.toList.take (Nat.min s.size dLen)) := by
    rw [Lib.byteCells, List.map_take]
  rw [hlen] at hst
  simp only [Nat.add_zero] at hst
  cases hq : P.info? elem with
  | none => simp [hq] at hs
  | some i =>
    simp [Builtin.copy_, run_underlying hu, Builtin.lenOf, Builtin.firstCells, sizeOf, typeInfo, hq]
    rw [htk, hst]
    simp [Result.andThen]

set_option maxHeartbeats 1000000 in
theorem padded_any (s : ByteArray) (z : Int) (w : World) (h1 : 1 ≤ z) (h8 : z ≤ 8) :
    Calls Tryz.prog 30 #[.string s, .int .i64 z] w fun e w' => e = .returned (.string ⟨(padL s.data.toList z.toNat).toArray⟩) ∧ Below w.heap.size w w' := by
  obtain ⟨n, rfl⟩ := Int.eq_ofNat_of_zero_le (show 0 ≤ z by omega)
  rw [Int.toNat_natCast]
  obtain ⟨i0, hi, hz0, hz1, hz2⟩ := info_parts Tryz.infoU8
  have hinfo : (Tryz.prog.info? 5).map (·.size) = some 1 := by rw [hi]; simp [hz1]
  obtain ⟨M, hM⟩ : ∃ M, M = madeCells (Value.int .u8 0).cells (((n : Nat) : Int).toNat * i0.size) := ⟨_, rfl⟩
  have hMl : M.toList = List.replicate n (.int .u8 0) := by
    rw [hM, hz1, Int.toNat_natCast, Nat.mul_one]; exact toList_madeCells_one _ _
  have hMs : M.size = n := by rw [← Array.length_toList, hMl, List.length_replicate]
  have hmk : ∀ W : World, (Instr.makeSlice 74 (.int .i64 (n : Int)) (.int .i64 (n : Int))).run Tryz.prog W = .ok (.slice (some ⟨W.heap.size, 0, none⟩) n n) (W.alloc (.cells M 5)) := fun W => by
    have h := run_make (P := Tryz.prog) W 74 5 i0 (.int .u8 0) Tryz.underlying74 hi hz0 .i64 .i64 (n : Int) (n : Int) (by omega) (by omega) (by rw [hz2]; omega) (by omega)
    rw [← hM] at h
    simpa using h
  clear hM
  have hcp := run_copy_row_string_min (P := Tryz.prog) (w.alloc (.cells M 5)) 74 9 3 5 w.heap.size 0 n n s M 5 Tryz.underlying74 hinfo (heap_alloc_new w _) (by rw [hMs, Nat.zero_add]; exact Nat.min_le_right _ _)
  obtain ⟨Y, hY⟩ : ∃ Y, Y = (M.toList.take 0 ++ Lib.byteCells (s.data.toList.take (Nat.min s.size n)) ++ M.toList.drop (0 + Nat.min s.size n)).toArray := ⟨_, rfl⟩
  rw [← hY] at hcp
  have hYl : Y.toList = Lib.byteCells (padL s.data.toList n) := by
    rw [hY, List.toList_toArray, List.take_zero, List.nil_append, hMl, Nat.zero_add, List.drop_replicate, padL, Lib.byteCells, Lib.byteCells, List.map_append, List.map_replicate, Lib.size_eq]
    have e1 : List.take (Nat.min s.data.toList.length n) s.data.toList = List.take n s.data.toList := by
      rw [show Nat.min s.data.toList.length n = min n s.data.toList.length from Nat.min_comm _ _, ← List.take_take, List.take_length]
    have e2 : n - Nat.min s.data.toList.length n = n - s.data.toList.length := by
      rcases Nat.le_total s.data.toList.length n with h | h
      · rw [show Nat.min s.data.toList.length n = s.data.toList.length from Nat.min_eq_left h]
      · rw [show Nat.min s.data.toList.length n = n from Nat.min_eq_right h]; omega
    rw [e1, e2]; rfl
  clear hY
  have hgY : ((w.alloc (.cells M 5)).setRow w.heap.size Y).heap[w.heap.size]? = some (.cells Y 5 (0, 0)) := setRow_heap _ _ M _ 5 (0, 0) (heap_alloc_new w _)
  have hcv := run_convert_bytes_back (P := Tryz.prog) ((w.alloc (.cells M 5)).setRow w.heap.size Y) 74 9 5 ⟨w.heap.size, 0, none⟩ n (padL s.data.toList n) Tryz.underlying74 Tryz.underlying5 Tryz.underlying9
    (fun j hj => by
      have hx : Y.toList[j]? = some (.int .u8 ((padL s.data.toList n)[j].toNat : Int)) := by
        rw [hYl, Lib.byteCells, List.getElem?_map, List.getElem?_eq_getElem hj]; rfl
      have := Lib.cells_of_row hgY Y.size j _ (by rw [List.take_of_length_le (by rw [Array.length_toList]; exact Nat.le_refl _)]; exact hx)
      simpa [Addr.add] using this)
  rw [padL_length] at hcv
  have hb1 : Below w.heap.size w (w.alloc (.cells M 5)) := (Below.refl _ w).alloc (Nat.le_refl _) _
  have hb2 : Below w.heap.size (w.alloc (.cells M 5)) ((w.alloc (.cells M 5)).setRow w.heap.size Y) := ⟨rfl, rfl, rfl, by simp, fun k hk => setRow_other _ _ _ _ (by omega)⟩
  have hb := hb1.trans hb2
  clear hb1 hb2 hgY hYl hMl hMs
  go_enter Tryz.func30, Tryz.ntmps30
  go_wp2
  go_ret
  exact ⟨rfl, hb⟩
end Go.Proofs.YtjhflcgphejddaaGreatDoor

namespace Go.Proofs.YtjhflcgphejddaaGreatDoor
open Go.RowKit
set_option linter.unusedVariables false
set_option maxRecDepth 100000

/-- Block i of n bytes. -/
def blkL (l : List UInt8) (n i : Nat) : List UInt8 := padL (l.drop (i * n)) n
theorem blkL_length (l : List UInt8) (n i : Nat) : (blkL l n i).length = n := padL_length _ _
def cntN (m n : Nat) : Nat := max 1 ((m + n - 1) / n)
theorem cut_le (m n i : Nat) (h1 : 1 ≤ n) (hi : i < cntN m n) : i * n ≤ m := by
  unfold cntN at hi
  have h2 := Nat.div_mul_le_self (m + n - 1) n
  rcases Nat.eq_zero_or_pos i with h | h
  · subst h; omega
  · have h3 : i + 1 ≤ (m + n - 1) / n := by omega
    have h4 := Nat.mul_le_mul_right n h3
    rw [Nat.add_mul] at h4
    omega

theorem split_full (s : ByteArray) (z : Int) (w : World) (h : 120 < s.size) (hm : s.size ≤ maxLen) :
    Calls Tryz.prog 8 #[.string s, .int .i64 z] w fun e w' => e = .returned (.tuple #[.slice none 0 0, .iface 61 (.int .i64 4)]) ∧ w = w' := by
  unfold maxLen at hm
  go_enter Tryz.func8, Tryz.ntmps8
  go_wp2
  go_ret2
  exact ⟨rfl, rfl⟩

theorem split_range (s : ByteArray) (z : Int) (w : World) (h : s.size ≤ 120) (hz : z < 1 ∨ 8 < z) :
    Calls Tryz.prog 8 #[.string s, .int .i64 z] w fun e w' => e = .returned (.tuple #[.slice none 0 0, .iface 61 (.int .i64 1)]) ∧ w = w' := by
  go_enter Tryz.func8, Tryz.ntmps8
  go_wp2_with (go_at_call 28; refine (fits_no _ _ hz).mono ?_; rintro e w' ⟨rfl, rfl⟩)
  go_ret2
  exact ⟨rfl, rfl⟩

theorem cast_cnt (m n : Nat) (h1 : 1 ≤ n) : max 1 (((m : Int) + (n : Int) - 1) / (n : Int)) = ((cntN m n : Nat) : Int) := by
  unfold cntN
  have e : (((m + n - 1 : Nat)) : Int) = (m : Int) + (n : Int) - 1 := by omega
  rw [← e, ← Int.natCast_ediv]
  omega

theorem split_many (s : ByteArray) (n : Nat) (w : World) (h : s.size ≤ 120) (h1 : 1 ≤ n) (h8 : n ≤ 8) (hk : 16 < cntN s.size n) :
    Calls Tryz.prog 8 #[.string s, .int .i64 n] w fun e w' => e = .returned (.tuple #[.slice none 0 0, .iface 61 (.int .i64 4)]) ∧ w = w' := by
  have hc := cast_cnt s.size n h1
  have HC : Hid (max 1 (((s.size : Int) + (n : Int) - 1) / (n : Int)) = ((cntN s.size n : Nat) : Int)) := hc
  clear hc
  go_enter Tryz.func8, Tryz.ntmps8
  go_wp2_with (first | (go_at_call 28; refine (fits_yes _ _ (by omega) (by omega)).mono ?_; rintro e w' ⟨rfl, rfl⟩) | (go_at_call 29; refine (count_any _ _ _ (by omega) (by omega) (by omega) (by omega)).mono ?_; rw [HC.out]; rintro e w' ⟨rfl, rfl⟩))
  go_ret2
  exact ⟨rfl, rfl⟩


set_option maxHeartbeats 1000000 in
theorem split_ok (s : ByteArray) (n : Nat) (w : World) (h : s.size ≤ 120) (h1 : 1 ≤ n) (h8 : n ≤ 8) (hk : cntN s.size n ≤ 16) :
    Calls Tryz.prog 8 #[.string s, .int .i64 n] w fun e w' => e = .returned (.tuple #[.slice (some ⟨w.heap.size, 0, none⟩) (cntN s.size n) (cntN s.size n), .nilIface])
      ∧ w'.rowIs w.heap.size 9 (cntN s.size n) (fun i => .string ⟨(blkL s.data.toList n i).toArray⟩) ∧ Below w.heap.size w w' := by
  have hc := cast_cnt s.size n h1
  have HC : Hid (max 1 (((s.size : Int) + (n : Int) - 1) / (n : Int)) = ((cntN s.size n : Nat) : Int)) := hc
  clear hc
  have hle := cut_le s.size n
  have HL : Hid (∀ i, 1 ≤ n → i < cntN s.size n → i * n ≤ s.size) := hle
  clear hle
  generalize cntN s.size n = k at *
  have hmk := run_make_row' (P := Tryz.prog) 35 9 (.string ⟨#[]⟩) 16 Tryz.underlying35 Tryz.infoStr rfl .i64 .i64 k (by omega) (by omega)
  go_enter Tryz.func8, Tryz.ntmps8
  go_wp2_with (first | (go_at_call 28; refine (fits_yes _ _ (by omega) (by omega)).mono ?_; rintro e w' ⟨rfl, rfl⟩) | (go_at_call 29; refine (count_any _ _ _ (by omega) (by omega) (by omega) (by omega)).mono ?_; rw [HC.out]; rintro e w' ⟨rfl, rfl⟩))
  go_loopw [28] (fun i wr => ∃ j : Nat, j ≤ k ∧ i = .int .i64 j ∧ wr.rowIs w.heap.size 9 k (fun i => if i < j then .string ⟨(blkL s.data.toList n i).toArray⟩ else .string ⟨#[]⟩) ∧ Below w.heap.size w wr) (fun i _ => k - (intOf i).toNat)
  case atStart => exact ⟨0, Nat.zero_le _, rfl, (World.rowIs_made _ _ _ _).congr (fun i _ => by simp), (Below.refl _ _).alloc (Nat.le_refl _) _⟩
  case round =>
    obtain ⟨j, hj, rfl, hrow, hb⟩ := hrel
    by_cases hlt : j < k
    · have hjn := HL.out j h1 hlt
      have hjn2 : (j : Int) * (n : Int) ≤ (s.size : Int) := by rw [← Int.natCast_mul]; omega
      have hjn0 : 0 ≤ (j : Int) * (n : Int) := by rw [← Int.natCast_mul]; omega
      go_wp2_with fail
      refine (padded_any _ _ _ (by omega) (by omega)).mono ?_
      rintro e w1 ⟨rfl, hb1⟩
      rw [Int.toNat_natCast]
      have hrow1 := hrow.of_block (hb1.block _ hrow.lt)
      have hb2 : Below w.heap.size w w1 := hb.trans (hb1.mono hb.size)
      have hcell : w1.cell? ⟨w.heap.size, j, none⟩ = some (.string ⟨#[]⟩) := by rw [hrow1.cell hlt, if_neg (Nat.lt_irrefl _)]
      have hfr := hrow1.frozen j
      have hset := hrow1.set j (.string ⟨(blkL s.data.toList n j).toArray⟩)
      have hex : padL (s.extract (j * n) s.size).data.toList n = blkL s.data.toList n j := by
        rw [blkL, Lib.extract_to_end]
      rw [hex]
      clear hrow1 hrow hb hb1 hex
      go_wp2
      go_roundw
      case rel =>
        refine ⟨j + 1, by omega, by go_num, hset.congr (fun i hi => ?_), hb2.setCell (Nat.le_refl _) _⟩
        by_cases e1 : i = j
        · subst e1; simp
        · by_cases e2 : i < j
          · simp [e1, e2, show i < j + 1 by omega]
          · simp [e1, e2, show ¬ i < j + 1 by omega]
      case measure => simp [intOf]; omega
    · go_wp2
      go_ret2
      obtain rfl : j = k := by omega
      exact ⟨rfl, hrow.congr (fun i hi => by simp [hi]), hb⟩
end Go.Proofs.YtjhflcgphejddaaGreatDoor

namespace Go.Proofs.YtjhflcgphejddaaGreatDoor
open Go.RowKit Go.Maps
set_option linter.unusedVariables false
set_option maxRecDepth 100000

/-- The seeds of drops. -/
abbrev sds (F : List Drp) : List Nat := F.map Prod.fst
/-- What is so of the numbers of an Ear, and of the drops that were new. -/
structure FOk (k z n : Nat) (F : List Drp) : Prop where
  nk : 1 ≤ k ∧ k ≤ 16
  nz : 1 ≤ z ∧ z ≤ 8
  nn : n ≤ 120
  cnt : cntN n z = k
  few : F.length ≤ 60
  good : ∀ d ∈ F, 1 ≤ d.1 ∧ d.1 ≤ 10000 ∧ d.2.size = z
  nd : (sds F).Nodup
theorem FOk.add {k z n : Nat} {F : List Drp} {s : Nat} {d : ByteArray} (h : FOk k z n F) (hf : fD k z (s : Int) d.size = 0) (h60 : F.length < 60) (hm : s ∉ sds F) : FOk k z n (F ++ [(s, d)]) := by
  obtain ⟨⟨_, _, h1, h2⟩, h3⟩ := fD_ok hf
  refine ⟨h.nk, h.nz, h.nn, h.cnt, by simp; omega, fun x hx => ?_, ?_⟩
  · rcases List.mem_append.1 hx with hx | hx
    · exact h.good x hx
    · obtain rfl := List.mem_singleton.1 hx
      exact ⟨by omega, by omega, by show d.size = z; omega⟩
  · unfold sds
    rw [List.map_append, List.nodup_append]
    refine ⟨h.nd, by simp, fun a ha b hb => ?_⟩
    obtain rfl : b = s := by simpa using hb
    exact fun e => hm (e ▸ ha)
/-- What the Ear answers to a drop: the fault's number. -/
def eF (k z : Nat) (F : List Drp) (seed : Int) (n : Nat) : Int := if fD k z seed n ≠ 0 then fD k z seed n else if 60 ≤ F.length then 4 else 0
/-- The drops that were new, with one that is heard. -/
def eAdd (F : List Drp) (s : Nat) (d : ByteArray) : List Drp := if s ∈ sds F then F else F ++ [(s, d)]

/-- The Ear at block b, that began in w0 within the blocks M. -/
structure EK (I : PIm0) (M : Nat → Prop) (w0 w : World) (b : Nat) (vP vF : Value) (k z n : Nat) (dr : Int) (p : PS) (T : List Nat) (F : List Drp) : Prop where
  ci : w.cell? ⟨b, 0, none⟩ = some vP
  ck : w.cell? ⟨b, 1, none⟩ = some (.int .i64 k)
  cz : w.cell? ⟨b, 2, none⟩ = some (.int .i64 z)
  cn : w.cell? ⟨b, 3, none⟩ = some (.int .i64 n)
  cd : w.cell? ⟨b, 4, none⟩ = some (.int .i64 dr)
  cf : w.cell? ⟨b, 5, none⟩ = some vF
  fd : w.frozen? ⟨b, 4, none⟩ = false
  ff : w.frozen? ⟨b, 5, none⟩ = false
  st : I.St w vP k z p T
  row : w.ownsRow 0 43 2 vF F.length (dC F)
  inB : M b
  inP : ∀ i, I.foot w vP i → M i ∨ w0.heap.size ≤ i
  inF : ∀ i, vF.ownBlock = some i → M i ∨ w0.heap.size ≤ i
  lt : ∀ i, M i → i < w0.heap.size
  apP : ¬ I.foot w vP b
  apF : vF.ownBlock ≠ some b
  ap : ∀ i, vF.ownBlock = some i → ¬ I.foot w vP i
  kept : Kept M w0 w
variable {I : PIm0} {M : Nat → Prop} {w0 w w' : World} {b : Nat} {vP vF : Value} {k z n : Nat} {dr : Int} {p q : PS} {T T' : List Nat} {F F' : List Drp}
theorem EK.blt (h : EK I M w0 w b vP vF k z n dr p T F) : b < w.heap.size := cell_lt h.ci
/-- All of it as it was. -/
theorem EK.keep (h : EK I M w0 w b vP vF k z n dr p T F) (hk : Kept M w0 w') (hs : w.heap.size ≤ w'.heap.size) (hb : w'.heap[b]? = w.heap[b]?) (hP : ∀ i, I.foot w vP i → w'.heap[i]? = w.heap[i]?) (hF : ∀ i, vF.ownBlock = some i → w'.heap[i]? = w.heap[i]?) : EK I M w0 w' b vP vF k z n dr p T F := by
  have hc : ∀ i, w'.cell? ⟨b, i, none⟩ = w.cell? ⟨b, i, none⟩ := fun i => World.cell?_of_block (w := w) hb
  have hf : ∀ i, w'.frozen? ⟨b, i, none⟩ = w.frozen? ⟨b, i, none⟩ := fun i => World.frozen?_of_block (w := w) hb
  have h1 := I.keep h.st hs hP
  exact ⟨(hc 0).trans h.ci, (hc 1).trans h.ck, (hc 2).trans h.cz, (hc 3).trans h.cn, (hc 4).trans h.cd, (hc 5).trans h.cf, (hf 4).trans h.fd, (hf 5).trans h.ff, h1.1, own_blk h.row hF, h.inB, fun i hi => h.inP i (h1.2 i hi), h.inF, h.lt, fun hi => h.apP (h1.2 b hi), h.apF, fun i e hi => h.ap i e (h1.2 i hi), hk⟩
theorem EK.below (h : EK I M w0 w b vP vF k z n dr p T F) (hb : Below w.heap.size w w') : EK I M w0 w' b vP vF k z n dr p T F :=
  h.keep (h.kept.below hb) hb.size (hb.block b h.blt) (fun i hi => hb.block i (I.foot_lt h.st i hi)) fun i e => hb.block i (h.row.lt i e).2
/-- Nothing of M is turned. -/
theorem EK.far (h : EK I M w w b vP vF k z n dr p T F) (hs : w.heap.size ≤ w'.heap.size) (hM : ∀ i, M i → w'.heap[i]? = w.heap[i]?) : EK I (fun i => M i) w' w' b vP vF k z n dr p T F := by
  have hP : ∀ i, I.foot w vP i → M i := fun i hi => (h.inP i hi).resolve_right fun e => by have := I.foot_lt h.st i hi; omega
  have hF : ∀ i, vF.ownBlock = some i → M i := fun i hi => (h.inF i hi).resolve_right fun e => by have := (h.row.lt i hi).2; omega
  have hb := hM b h.inB
  have hc : ∀ i, w'.cell? ⟨b, i, none⟩ = w.cell? ⟨b, i, none⟩ := fun i => World.cell?_of_block (w := w) hb
  have hf : ∀ i, w'.frozen? ⟨b, i, none⟩ = w.frozen? ⟨b, i, none⟩ := fun i => World.frozen?_of_block (w := w) hb
  have h1 := I.keep h.st hs fun i hi => hM i (hP i hi)
  exact ⟨(hc 0).trans h.ci, (hc 1).trans h.ck, (hc 2).trans h.cz, (hc 3).trans h.cn, (hc 4).trans h.cd, (hc 5).trans h.cf, (hf 4).trans h.fd, (hf 5).trans h.ff, h1.1, own_blk h.row fun i e => hM i (hF i e), h.inB, fun i hi => Or.inl (hP i (h1.2 i hi)), fun i e => Or.inl (hF i e), fun i hi => Nat.lt_of_lt_of_le (h.lt i hi) hs, fun hi => h.apP (h1.2 b hi), h.apF, fun i e hi => h.ap i e (h1.2 i hi), Kept.refl _ _⟩
/-- The Peeler has turned. -/
theorem EK.take (h : EK I M w0 w b vP vF k z n dr p T F) (hs : I.St w' vP k z q T') (hk : Kept (I.foot w vP) w w') (hf : ∀ i, I.foot w' vP i → I.foot w vP i ∨ w.heap.size ≤ i) : EK I M w0 w' b vP vF k z n dr q T' F := by
  have hb : w'.heap[b]? = w.heap[b]? := hk.block b h.blt h.apP
  have hc : ∀ i, w'.cell? ⟨b, i, none⟩ = w.cell? ⟨b, i, none⟩ := fun i => World.cell?_of_block (w := w) hb
  have hz : ∀ i, w'.frozen? ⟨b, i, none⟩ = w.frozen? ⟨b, i, none⟩ := fun i => World.frozen?_of_block (w := w) hb
  refine ⟨(hc 0).trans h.ci, (hc 1).trans h.ck, (hc 2).trans h.cz, (hc 3).trans h.cn, (hc 4).trans h.cd, (hc 5).trans h.cf, (hz 4).trans h.fd, (hz 5).trans h.ff, hs, own_blk h.row fun i e => hk.block i (h.row.lt i e).2 (h.ap i e), h.inB, fun i hi => ?_, h.inF, h.lt, fun hi => ?_, h.apF, fun i e hi => ?_, h.kept.trans hk fun i hi hf => (h.inP i hf).resolve_right (by omega)⟩
  · rcases hf i hi with h9 | h9
    · exact h.inP i h9
    · exact Or.inr (Nat.le_trans h.kept.size h9)
  · rcases hf b hi with h9 | h9
    · exact h.apP h9
    · have := h.blt; omega
  · rcases hf i hi with h9 | h9
    · exact h.ap i e h9
    · have := (h.row.lt i e).2; omega
/-- One number is stored: how many were heard. -/
theorem EK.tick (h : EK I M w0 w b vP vF k z n dr p T F) (m : Int) : EK I M w0 (w.setCell ⟨b, 4, none⟩ (.int .i64 m)) b vP vF k z n m p T F := by
  have hh : ∀ i, i ≠ b → (w.setCell ⟨b, 4, none⟩ (.int .i64 m)).heap[i]? = w.heap[i]? := fun i hi => Below.heap_setCell w ⟨b, 4, none⟩ _ i hi
  have hsz : w.heap.size ≤ (w.setCell ⟨b, 4, none⟩ (.int .i64 m)).heap.size := (show Below 0 w (w.setCell ⟨b, 4, none⟩ (.int .i64 m)) from (Below.refl 0 w).setCell (Nat.zero_le _) _).size
  have h1 := I.keep h.st hsz fun i hi => hh i fun e => h.apP (e ▸ hi)
  refine ⟨?_, ?_, ?_, ?_, World.cell?_setCell_same _ _ _ h.cd, ?_, by rw [frozen_set]; exact h.fd, by rw [frozen_set]; exact h.ff, h1.1, own_set h.row h.apF, h.inB, fun i hi => h.inP i (h1.2 i hi), h.inF, h.lt, fun hi => h.apP (h1.2 b hi), h.apF, fun i e hi => h.ap i e (h1.2 i hi), h.kept.setCell _ _ (Or.inl h.inB)⟩
  · rw [cell_set_off (by decide)]; exact h.ci
  · rw [cell_set_off (by decide)]; exact h.ck
  · rw [cell_set_off (by decide)]; exact h.cz
  · rw [cell_set_off (by decide)]; exact h.cn
  · rw [cell_set_off (by decide)]; exact h.cf
/-- A drop is put behind those that were new. -/
theorem EK.push {w1 : World} {v1 : Value} (h : EK I M w0 w b vP vF k z n dr p T F) (hg : w.grownBy w1 vF.ownBlock) (ho : w1.ownsRow 0 43 2 v1 F'.length (dC F')) (hat : v1.ownBlock = vF.ownBlock ∨ ∃ i, v1.ownBlock = some i ∧ w.heap.size ≤ i) : EK I M w0 (w1.setCell ⟨b, 5, none⟩ v1) b vP v1 k z n dr p T F' := by
  have hb1 : w1.heap[b]? = w.heap[b]? := hg.block b h.blt fun e => h.apF e.symm
  have hc : ∀ i, w1.cell? ⟨b, i, none⟩ = w.cell? ⟨b, i, none⟩ := fun i => World.cell?_of_block (w := w) hb1
  have hz : ∀ i, w1.frozen? ⟨b, i, none⟩ = w.frozen? ⟨b, i, none⟩ := fun i => World.frozen?_of_block (w := w) hb1
  have hh : ∀ i, i ≠ b → (w1.setCell ⟨b, 5, none⟩ v1).heap[i]? = w1.heap[i]? := fun i hi => Below.heap_setCell w1 ⟨b, 5, none⟩ v1 i hi
  have hsz : w1.heap.size ≤ (w1.setCell ⟨b, 5, none⟩ v1).heap.size := (show Below 0 w1 (w1.setCell ⟨b, 5, none⟩ v1) from (Below.refl 0 w1).setCell (Nat.zero_le _) _).size
  have h1 := I.keep h.st (Nat.le_trans hg.size hsz) fun i hi => (hh i fun e => h.apP (e ▸ hi)).trans (hg.block i (I.foot_lt h.st i hi) fun e => h.ap i e.symm hi)
  have hn : v1.ownBlock ≠ some b := fun e => by
    rcases hat with h9 | ⟨i, h9, hi⟩
    · exact h.apF (h9 ▸ e)
    · rw [e] at h9; cases h9; have := h.blt; omega
  refine ⟨?_, ?_, ?_, ?_, ?_, World.cell?_setCell_same _ _ _ ((hc 5).trans h.cf), ?_, ?_, h1.1, own_set ho hn, h.inB, fun i hi => h.inP i (h1.2 i hi), fun i e => ?_, h.lt, fun hi => h.apP (h1.2 b hi), hn, fun i e hi => ?_, (h.kept.grown hg fun i e => h.inF i e).setCell _ _ (Or.inl h.inB)⟩
  · rw [cell_set_off (by decide), hc]; exact h.ci
  · rw [cell_set_off (by decide), hc]; exact h.ck
  · rw [cell_set_off (by decide), hc]; exact h.cz
  · rw [cell_set_off (by decide), hc]; exact h.cn
  · rw [cell_set_off (by decide), hc]; exact h.cd
  · rw [frozen_set, hz]; exact h.fd
  · rw [frozen_set, hz]; exact h.ff
  · rcases hat with h9 | ⟨j, h9, hj⟩
    · exact h.inF i (h9 ▸ e)
    · rw [e] at h9; cases h9; exact Or.inr (Nat.le_trans h.kept.size hj)
  · have hi' := h1.2 i hi
    rcases hat with h9 | ⟨j, h9, hj⟩
    · exact h.ap i (h9 ▸ e) hi'
    · rw [e] at h9; cases h9; have := I.foot_lt h.st i hi'; omega
/-- Blocks, and those that came since. -/
def plusM (M : Nat → Prop) (w0 w : World) (i : Nat) : Prop := M i ∨ (w0.heap.size ≤ i ∧ i < w.heap.size)
theorem EK.now (h : EK I M w0 w b vP vF k z n dr p T F) : EK I (plusM M w0 w) w w b vP vF k z n dr p T F :=
  ⟨h.ci, h.ck, h.cz, h.cn, h.cd, h.cf, h.fd, h.ff, h.st, h.row, Or.inl h.inB, fun i hi => Or.inl ((h.inP i hi).imp id fun e => ⟨e, I.foot_lt h.st i hi⟩), fun i hi => Or.inl ((h.inF i hi).imp id fun e => ⟨e, (h.row.lt i hi).2⟩), fun i hi => hi.elim (fun e => Nat.lt_of_lt_of_le (h.lt i e) h.kept.size) fun e => e.2, h.apP, h.apF, h.ap, Kept.refl _ _⟩
/-- An Ear that heard dr drops, of which F were new; it lies within M. -/
def ESt (I : PIm0) (w : World) (v : Value) (k z n : Nat) (dr : Int) (F : List Drp) (M : Nat → Prop) : Prop :=
  ∃ b vP vF p, v = .pointer (some ⟨b, 0, none⟩) ∧ EK I M w w b vP vF k z n dr p (sds F) F ∧ Took (setL k) p F ∧ FOk k z n F
theorem ESt.ok {v : Value} (h : ESt I w v k z n dr F M) : FOk k z n F := by
  obtain ⟨b, vP, vF, p, _, _, _, h4⟩ := h
  exact h4
theorem ESt.lt {v : Value} (h : ESt I w v k z n dr F M) : ∀ i, M i → i < w.heap.size := by
  obtain ⟨b, vP, vF, p, _, h2, _, _⟩ := h
  exact h2.lt
theorem ESt.far {v : Value} (h : ESt I w v k z n dr F M) (hs : w.heap.size ≤ w'.heap.size) (hM : ∀ i, M i → w'.heap[i]? = w.heap[i]?) : ESt I w' v k z n dr F M := by
  obtain ⟨b, vP, vF, p, h1, h2, h3, h4⟩ := h
  exact ⟨b, vP, vF, p, h1, h2.far hs hM, h3, h4⟩
theorem ESt.below {v : Value} (h : ESt I w v k z n dr F M) (hb : Below w.heap.size w w') : ESt I w' v k z n dr F M := h.far hb.size fun i hi => hb.block i (h.lt i hi)
theorem ESt.kept {v : Value} {M' : Nat → Prop} (h : ESt I w v k z n dr F M) (hk : Kept M' w w') (hd : ∀ i, M i → ¬ M' i) : ESt I w' v k z n dr F M := h.far hk.size fun i hi => hk.block i (h.lt i hi) (hd i hi)
end Go.Proofs.YtjhflcgphejddaaGreatDoor

namespace Go.Proofs.YtjhflcgphejddaaGreatDoor
open Go.Shelf Go.RowKit
set_option linter.unusedVariables false
set_option maxRecDepth 100000
def renRep : Go.Shelf.Ren := ⟨fun | 99 => 108 | 105 => 59 | 165 => 109 | 166 => 110 | 169 => 112 | 170 => 111 | 206 => 143 | 212 => 107 | 240 => 144 | 241 => 145 | 263 => 141 | 264 => 142 | 276 => 156 | 277 => 157 | n => n,
  fun | 9 => 9 | 3 => 3 | 4 => 4 | 0 => 0 | 20 => 20 | 46 => 111 | 51 => 216 | 53 => 219 | 72 => 174 | 76 => 56 | 70 => 172 | 37 => 74 | 75 => 27 | 109 => 169 | 127 => 185 | 146 => 217 | 148 => 220 | 164 => 157 | 5 => 5 | 80 => 177 | n => n, fun | n => n⟩
theorem laysRep : Go.Proofs.Lays.n105 Tryz.prog renRep := by constructor <;> (intros; kernel_rfl)
theorem extraRep0 : Builder.X72 Tryz.prog renRep := by constructor <;> (intros; kernel_rfl)
theorem extraRep : Builder.Extra Tryz.prog renRep :=
  Builder.Extra.mk extraRep0 (by kernel_rfl) (fun _ => by kernel_rfl) (fun _ => by kernel_rfl) (fun _ => by kernel_rfl) (by kernel_rfl) (by kernel_rfl) (by kernel_rfl) (by decide)
/-- One byte, n times: a string of n bytes. -/
theorem repeat_one (a : UInt8) (n : Nat) (w : World) (hn : n ≤ 1000) :
    Calls Tryz.prog 59 #[.string ⟨#[a]⟩, .int .i64 n] w fun e w' => ∃ s : ByteArray, e = .returned (.string s) ∧ s.size = n ∧ Below w.heap.size w w' := by
  have h1 : (ByteArray.mk #[a]).size = 1 := rfl
  refine (Any.strings_Repeat laysRep extraRep ⟨#[a]⟩ n w (by omega) (by rw [h1]; omega)).mono ?_
  rintro e w' ⟨rfl, hb⟩
  refine ⟨_, rfl, ?_, hb⟩
  rw [Lib.size_eq, List.toList_toArray, Lib.repeatL_length]
  show n * 1 = n
  omega
end Go.Proofs.YtjhflcgphejddaaGreatDoor

namespace Go.Proofs.YtjhflcgphejddaaGreatDoor
open Go.RowKit Go.Maps
set_option linter.unusedVariables false
set_option maxRecDepth 100000

/-- How a block that is known reads. -/
def blkElem (v : Value) : Option (DataW Unit × List MemPlace) :=
  match v with
  | .agg cs => match cs.toList with
    | [.string s] => some (.lit (.string s.data.toList), [])
    | _ => none
  | _ => none
theorem blkElem_mk (s : ByteArray) : blkElem (.agg #[.string s]) = some (.lit (.string s.data.toList), []) := rfl
theorem blkElem_inv {v : Value} {z : DataW Unit × List MemPlace} (h : blkElem v = some z) : ∃ s : ByteArray, v = .agg #[.string s] ∧ z = (.lit (.string s.data.toList), []) := by
  unfold blkElem at h
  split at h
  · rename_i cs
    split at h
    · rename_i s hs
      cases h
      refine ⟨s, ?_, rfl⟩
      rw [show cs = #[.string s] from Array.toList_inj.1 hs]
    · cases h
  · cases h
theorem bytes_of_list {a b : ByteArray} (h : a.data.toList = b.data.toList) : a = b := by
  cases a; cases b
  congr 1
  exact Array.toList_inj.1 h
theorem Tryz.zeroBlk (w : World) : (zeroValue 229).run Tryz.prog w = .ok (.agg #[.string ⟨#[]⟩]) w := by kernel_rfl
theorem tightR {R : Value → Option (DataW Unit × List MemPlace)} {P : Program} {t : TypeId} {w : World} {b n : Nat} {D : DataW Unit} (h : w.ownsMap P t R b n D) : w.ownsMap P t R b (Maps.size D) D := by
  obtain ⟨es, clock, hb, F, hs, rfl⟩ := h
  exact ⟨es, clock, hb, F, by simp [Maps.size, length_sorted], rfl⟩
theorem ownsMap_block {R : Value → Option (DataW Unit × List MemPlace)} {P : Program} {t : TypeId} {w w' : World} {b n : Nat} {D : DataW Unit} (h : w.ownsMap P t R b n D) (hb : w'.heap[b]? = w.heap[b]?) : w'.ownsMap P t R b n D := by
  obtain ⟨es, clock, h1, r⟩ := h
  exact ⟨es, clock, hb.trans h1, r⟩

/-- The map of block b holds the blocks that are known, of k. -/
structure MKn (w : World) (b k : Nat) (kn : Nat → Bool) (B : Nat → ByteArray) (D : DataW Unit) : Prop where
  own : w.ownsMap Tryz.prog 3 blkElem b (Maps.size D) D
  few : Maps.size D + unk k kn ≤ k
  has : ∀ r : Nat, Maps.has D (.int .i64 r) = kn r
  val : ∀ r : Nat, kn r = true → D.atKey (.int .i64 r) (.lit (.string [])) = .lit (.string (B r).data.toList)
theorem unk_none (k : Nat) : unk k (fun _ => false) = k := by
  have e : ((List.range k).filter fun r => !(fun _ => false) r) = List.range k := List.filter_eq_self.2 fun _ _ => rfl
  unfold unk; rw [e, List.length_range]
theorem mkn_made (w : World) (k : Nat) (B : Nat → ByteArray) : MKn (w.alloc (.map #[] 0)) w.heap.size k (fun _ => false) B (.map []) :=
  ⟨World.ownsMap_made _ _ _ _, by rw [unk_none]; simp [Maps.size], fun r => by simp [Maps.has], fun r h => by cases h⟩
theorem MKn.lt {w : World} {b k : Nat} {kn : Nat → Bool} {B : Nat → ByteArray} {D : DataW Unit} (h : MKn w b k kn B D) : b < w.heap.size := h.own.lt
theorem MKn.of_block {w w' : World} {b k : Nat} {kn : Nat → Bool} {B : Nat → ByteArray} {D : DataW Unit} (h : MKn w b k kn B D) (hb : w'.heap[b]? = w.heap[b]?) : MKn w' b k kn B D := ⟨ownsMap_block h.own hb, h.few, h.has, h.val⟩
theorem MKn.below {w w' : World} {b k : Nat} {kn : Nat → Bool} {B : Nat → ByteArray} {D : DataW Unit} (h : MKn w b k kn B D) (hb : Below w.heap.size w w') : MKn w' b k kn B D := h.of_block (hb.block b h.lt)
theorem MKn.put {w w' : World} {b k : Nat} {kn : Nat → Bool} {B : Nat → ByteArray} {D : DataW Unit} (h : MKn w b k kn B D) {x : Nat} {s : ByteArray} (hx : kn x = false) (hxk : x < k) {n : Nat}
    (h' : w'.ownsMap Tryz.prog 3 blkElem b n (D.put (.int .i64 x) (.lit (.string s.data.toList)))) : MKn w' b k (upd kn x true) (upd B x s) (D.put (.int .i64 x) (.lit (.string s.data.toList))) := by
  refine ⟨tightR h', ?_, fun r => ?_, fun r hr => ?_⟩
  · rw [Maps.size_put (h.own.tidy Tryz.lawInt), h.has x, hx]
    have := h.few
    have := unk_less hx hxk
    simp only [Bool.false_eq_true, if_false]
    omega
  · by_cases c : r = x
    · subst c
      rw [Maps.has_put_same (k := .int .i64 (r : Int)) h.own.isMap trivial]; simp [upd]
    · rw [Maps.has_put_other (fun e => c (by injection e with _ e; omega)), h.has r]; simp [upd, c]
  · by_cases c : r = x
    · subst c
      rw [Maps.atKey_put_same (k := .int .i64 (r : Int)) h.own.isMap trivial]; simp [upd]
    · rw [Maps.atKey_put_other (fun e => c (by injection e with _ e; omega))]
      have e : upd B x s r = B r := by simp [upd, c]
      rw [e]
      exact h.val r (by simpa [upd, c] using hr)
theorem key16 {r : Nat} (h : r ≤ 10000) : keyOf Tryz.prog 3 (.int .i64 (r : Nat)) = some (.int .i64 (r : Nat)) := keyOf_int_mk Tryz.underlying3 (WalkArith.wf_i64 (by omega))

/-- 'b, ok := known[r]'. -/
theorem wpList_lookup_blk {w : World} {ops : Array Oper} {rest : List Oper} {o : Oper} {a : Act} {Q : Exit → Act → World → Prop} (hg : o.guard = none) (m x : Operand) (hop : o.op = Op.lookup 115 m x true)
    (b k r : Nat) (kn : Nat → Bool) (B : Nat → ByteArray) (D : DataW Unit) (hm : a.eval m = .map (some b)) (hx : a.eval x = .int .i64 (r : Nat)) (hM : MKn w b k kn B D) (hr : r ≤ 10000)
    (hK : ∀ s : ByteArray, (kn r = true → s = B r) → wpList Tryz.prog ops Q rest (a.put o.dst (.tuple #[.agg #[.string s], .bool (kn r)])) w) :
    wpList Tryz.prog ops Q (o :: rest) a w := by
  refine wpList_lookup_own_ok w hg m x 115 hop 3 229 Tryz.lawInt Tryz.underlying115 blkElem (Tryz.zeroBlk w) (.lit (.string [])) [] (blkElem_mk ⟨#[]⟩) b _ D hm hM.own _ _ hx (key16 hr) (fun v ps hv => ?_)
  obtain ⟨s, rfl, hz⟩ := blkElem_inv hv
  rw [hM.has r]
  refine hK s fun h => ?_
  have h1 := congrArg Prod.fst hz
  rw [hM.val r h] at h1
  simp only at h1
  injection h1 with h1
  injection h1 with h1
  exact bytes_of_list h1.symm

set_option maxHeartbeats 1000000 in
theorem pknows_ok (b kb k r : Nat) (kn : Nat → Bool) (B : Nat → ByteArray) (D : DataW Unit) (w : World) (hc : w.cell? ⟨b, 3, none⟩ = some (.map (some kb))) (hM : MKn w kb k kn B D) (hr : r ≤ 10000) :
    Calls Tryz.prog 121 #[.pointer (some ⟨b, 0, none⟩), .int .i64 (r : Nat)] w fun e w' => e = .returned (.bool (kn r)) ∧ Below w.heap.size w w' := by
  have HM := hide hM
  clear hM
  go_enter Tryz.func121, Tryz.ntmps121
  go_wp2_with (first | (at_lookup; refine wpList_lookup_blk rfl _ _ rfl kb k r kn B D rfl rfl HM.out hr ?_; intro s hs) | go_in)
  go_ret
  exact ⟨rfl, (Below.refl _ _).alloc (Nat.le_refl _) _⟩
end Go.Proofs.YtjhflcgphejddaaGreatDoor

namespace Go.Proofs.YtjhflcgphejddaaGreatDoor
open Go.RowKit
set_option linter.unusedVariables false
set_option maxRecDepth 100000

theorem own_cut {w : World} {B e size g n cap : Nat} {xs : List Value} (h : w.ownsRow B e size (.slice (some ⟨g, 0, none⟩) n cap) n xs) {i : Nat} (hi : i ≤ n) : w.ownsRow B e size (.slice (some ⟨g, 0, none⟩) i cap) i (xs.take (i * size)) := by
  have hm : i * size ≤ n * size := Nat.mul_le_mul_right _ hi
  rcases h.2 with ⟨hv, _⟩ | ⟨g', cap', cur, hv, h1, h2, h3, h4, h5, h6⟩
  · cases hv
  · cases hv
    refine ⟨by rw [List.length_take, h.1]; omega, Or.inr ⟨g, cap, cur, rfl, h1, h2, by omega, h4, h5, ?_⟩⟩
    rw [← h6, List.take_take, Nat.min_eq_left hm]
theorem own_sets {B e size g n cap : Nat} : ∀ (vs : List Value) (o : Nat) (w : World) (xs : List Value), w.ownsRow B e size (.slice (some ⟨g, 0, none⟩) n cap) n xs → ∃ ys, (w.setCells g o vs).ownsRow B e size (.slice (some ⟨g, 0, none⟩) n cap) n ys ∧ ys.take o = xs.take o
  | [], o, w, xs, h => ⟨xs, h, rfl⟩
  | v :: r, o, w, xs, h => by
    obtain ⟨ys, h1, h2⟩ := own_sets r (o + 1) _ _ (h.stored o v).1
    refine ⟨ys, h1, ?_⟩
    have := congrArg (List.take o) h2
    rw [List.take_take, List.take_take, Nat.min_eq_left (Nat.le_succ o), List.take_set_of_le (Nat.le_refl _)] at this
    exact this
/-- 'clear(s)' of elements of two cells. -/
theorem run_clear_two {P : Program} (w : World) (t e ty : TypeId) (x y : Value) (ht : P.underlying t = some (.slice e)) (hv : ∀ w, (zeroValue e).run P w = .ok (.agg #[x, y]) w) (hz : (Value.agg #[x, y]).cells = #[x, y]) (h1 : x.oneCell' = true) (h2 : y.oneCell' = true) (b o n c : Nat) (hn : 0 < n)
    (hc : ∀ j, j < n * 2 → (w.cell? ⟨b, o + j, none⟩).isSome = true) (hf : ∀ j, j < n * 2 → w.frozen? ⟨b, o + j, none⟩ = false) :
    (Builtin.clear_ #[t] ty #[.slice (some ⟨b, o, none⟩) n c]).run P w = .ok (.tuple #[]) (w.setCells b o (Builtin.zeroCells #[x, y] n).toList) := by
  have hlen : (Builtin.zeroCells #[x, y] n).toList.length = n * 2 := by simp [Builtin.zeroCells]
  have hone : ∀ v ∈ (Builtin.zeroCells #[x, y] n).toList, v.oneCell' = true := fun v hv => by
    simp [Builtin.zeroCells] at hv
    obtain ⟨i, hi, rfl⟩ := hv
    rcases Nat.mod_two_eq_zero_or_one i with e | e <;> simp [e, h1, h2]
  have hst := run_storeCells_cells (P := P) b o (Builtin.zeroCells #[x, y] n).toList 0 w (by rw [hlen]; simpa using hc) (by rw [hlen]; simpa using hf) hone
  simp only [Nat.add_zero] at hst
  obtain ⟨m, rfl⟩ : ∃ m, n = m + 1 := ⟨n - 1, by omega⟩
  simp [Builtin.clear_, run_underlying ht, hv, hz, hst]
theorem kept_sets {M : Nat → Prop} {w0 : World} {g : Nat} : ∀ {w : World}, Kept M w0 w → ∀ (vs : List Value) (o : Nat), M g → Kept M w0 (w.setCells g o vs)
  | _, h, [], _, _ => h
  | _, h, v :: r, o, hm => kept_sets (h.setCell ⟨g, o, none⟩ v (Or.inl hm)) r (o + 1) hm
/-- A row with some cells written over from place o on. -/
def puts : List Value → Nat → List Value → List Value
  | xs, _, [] => xs
  | xs, o, v :: r => puts (xs.set o v) (o + 1) r
theorem own_puts {B e size g n cap : Nat} : ∀ (vs : List Value) (o : Nat) (w : World) (xs : List Value), w.ownsRow B e size (.slice (some ⟨g, 0, none⟩) n cap) n xs → (w.setCells g o vs).ownsRow B e size (.slice (some ⟨g, 0, none⟩) n cap) n (puts xs o vs)
  | [], o, w, xs, h => h
  | v :: r, o, w, xs, h => own_puts r (o + 1) _ _ (h.stored o v).1
theorem puts_eq : ∀ (vs : List Value) (o : Nat) (xs : List Value), o + vs.length ≤ xs.length → puts xs o vs = xs.take o ++ vs ++ xs.drop (o + vs.length)
  | [], o, xs, h => by simp [puts]
  | v :: r, o, xs, h => by
    have h' : o + (r.length + 1) ≤ xs.length := by simpa using h
    have ho : o < xs.length := by omega
    show puts (xs.set o v) (o + 1) r = _
    rw [puts_eq r (o + 1) (xs.set o v) (by rw [List.length_set]; omega)]
    have e1 : (xs.set o v).take (o + 1) = xs.take o ++ [v] := by
      rw [List.take_add_one, List.take_set_of_le (Nat.le_refl o)]
      simp [ho]
    have e2 : (xs.set o v).drop (o + 1 + r.length) = xs.drop (o + (v :: r).length) := by
      rw [List.drop_set_of_lt (by omega)]
      congr 1
      simp; omega
    rw [e1, e2, List.append_assoc, List.append_assoc, List.append_assoc]
    rfl
end Go.Proofs.YtjhflcgphejddaaGreatDoor
