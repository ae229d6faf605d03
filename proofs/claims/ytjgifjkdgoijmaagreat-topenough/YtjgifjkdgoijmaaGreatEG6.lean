/-
  Lemmas for the law above, joined into one text (XorN, Sum, DropM). No statement is proved here.
-/
import Derived.Test.YtjgifjkdgoijmaaGreatEG5
import Derived.Test.YtjgifjkdgoijmaaGreatEG4
import Derived.Deep.OwnRows
import Derived.Test.YtjgifjkdgoijmaaGreatEG3
namespace Go.Proofs.YtjgifjkdgoijmaaGreat
open Go.RowKit
set_option linter.unusedVariables false
set_option maxRecDepth 100000

/-- The bytes f 0, .., f (n-1) as a string. -/
def bytesB (n : Nat) (f : Nat → UInt8) : ByteArray := ⟨((List.range n).map f).toArray⟩
theorem bytesB_size (n : Nat) (f : Nat → UInt8) : (bytesB n f).size = n := by rw [Lib.size_eq, bytesB, List.toList_toArray]; simp
theorem bytesB_at (n : Nat) (f : Nat → UInt8) (i : Nat) (h : i < n) : atB (bytesB n f) i = f i := by simp [atB, bytesB, List.getD, h]
theorem bytes_ext {a b : ByteArray} (hs : a.size = b.size) (h : ∀ i, i < a.size → atB a i = atB b i) : a = b := by
  apply ByteArray.ext
  rw [← Array.toList_inj]
  rw [Lib.size_eq, Lib.size_eq] at hs
  apply List.ext_getElem hs
  intro i h1 h2
  have := h i (by rw [Lib.size_eq]; exact h1)
  simpa [atB, List.getD, List.getElem?_eq_getElem h1, List.getElem?_eq_getElem h2] using this
theorem bytesB_eq (a : ByteArray) (n : Nat) (f : Nat → UInt8) (hs : a.size = n) (h : ∀ i, i < n → f i = atB a i) : bytesB n f = a :=
  bytes_ext (by rw [bytesB_size, hs]) (fun i hi => by rw [bytesB_size] at hi; rw [bytesB_at _ _ _ hi, h i hi])
theorem bytesB_congr {n : Nat} {f g : Nat → UInt8} (h : ∀ i, i < n → f i = g i) : bytesB n f = bytesB n g :=
  bytes_ext (by rw [bytesB_size, bytesB_size]) (fun i hi => by rw [bytesB_size] at hi; rw [bytesB_at _ _ _ hi, bytesB_at _ _ _ hi, h i hi])
/-- One over the other. -/
def xorB (a b : ByteArray) : ByteArray := bytesB a.size (fun i => atB a i ^^^ atB b i)
theorem xorB_size (a b : ByteArray) : (xorB a b).size = a.size := bytesB_size _ _
theorem xorB_at (a b : ByteArray) (i : Nat) (h : i < a.size) : atB (xorB a b) i = atB a i ^^^ atB b i := bytesB_at _ _ _ h
/-- 'string(row)'. -/
theorem back_row {w : World} {b n cap : Nat} {f : Nat → UInt8} (h : BRow w b n f) :
    (convert 86 9 (.slice (some ⟨b, 0, none⟩) n cap)).run Tryz.prog w = .ok (.string (bytesB n f)) w := by
  have hl : ((List.range n).map f).length = n := by simp
  have h1 := run_convert_bytes_back (P := Tryz.prog) w 86 9 5 ⟨b, 0, none⟩ cap ((List.range n).map f) Tryz.underlying86 Tryz.underlying5 Tryz.underlying9
    (fun j hj => by
      rw [hl] at hj
      have := (h j hj).1
      have e : (Addr.mk b 0 none).add j = ⟨b, j, none⟩ := by simp [Addr.add]; intro h; rw [h]
      rw [e]; simpa using this)
  rw [hl] at h1
  exact h1
/-- '[]byte(s)' as a row. -/
theorem row_new (w : World) (s : ByteArray) (c t : Nat) : BRow (w.drew.alloc (.cells (bytesRow s c) t ((bytesRow s c).size, (bytesRow s c).size + 1))) w.heap.size s.size (atB s) := fun i hi => by
  have hi' : i < s.data.size := hi
  have e : w.heap.size = w.drew.heap.size := rfl
  rw [e, World.cell?_alloc_mark, World.frozen?_alloc_mark, bytesRow_at _ _ _ hi', atB_eq s i hi]
  refine ⟨rfl, ?_⟩
  have : i < (bytesRow s c).size := by simp [bytesRow]; omega
  simp [Nat.not_le.2 this]
end Go.Proofs.YtjgifjkdgoijmaaGreat

namespace Go.Proofs.YtjgifjkdgoijmaaGreat
open Go.RowKit
set_option linter.unusedVariables false
set_option maxRecDepth 100000

/-- Byte i of the first k named blocks over one another. -/
def xsum (g : Nat → ByteArray) (f : Nat → Int) : Nat → Nat → UInt8
  | 0, _ => 0
  | k + 1, i => xsum g f k i ^^^ atB (g (f k).toNat) i
/-- n named blocks over one another. -/
def sumB (g : Nat → ByteArray) (f : Nat → Int) (n : Nat) : ByteArray := bytesB (g 0).size (xsum g f n)
theorem sumB_size (g : Nat → ByteArray) (f : Nat → Int) (n : Nat) : (sumB g f n).size = (g 0).size := bytesB_size _ _
theorem sumB_at (g : Nat → ByteArray) (f : Nat → Int) (n i : Nat) (h : i < (g 0).size) : atB (sumB g f n) i = xsum g f n i := bytesB_at _ _ _ h

/-- Check finds a fault: it is told. -/
theorem sum_check (l of : Value) (w : World) (x : Int)
    (hC : Calls Tryz.prog 28 #[l] w fun e w' => e = .returned (.iface 54 (.int .i64 x)) ∧ Below w.heap.size w w') :
    Calls Tryz.prog 30 #[l, of] w fun e w' => e = .returned (.tuple #[.string ⟨#[]⟩, .iface 54 (.int .i64 x)]) ∧ Below w.heap.size w w' := by
  have K := hide hC
  clear hC
  go_enter Tryz.func30, Tryz.ntmps30
  go_wp2_with fail
  refine (K.out).mono ?_
  rintro e w1 ⟨rfl, hb⟩
  go_wp2
  go_ret2
  exact ⟨rfl, hb⟩
/-- Check finds none, and the places are wrong. -/
theorem sum_named (b o len cap : Nat) (of : Value) (w : World) (x : Int) (hlen : len ≤ 16)
    (hC : Calls Tryz.prog 28 #[.slice (some ⟨b, o, none⟩) len cap] w fun e w' => e = .returned .nilIface ∧ Below w.heap.size w w')
    (hN : ∀ w1, Below w.heap.size w w1 → Calls Tryz.prog 55 #[of, .int .i64 len] w1 fun e w' => e = .returned (.iface 54 (.int .i64 x)) ∧ w1 = w') :
    Calls Tryz.prog 30 #[.slice (some ⟨b, o, none⟩) len cap, of] w fun e w' => e = .returned (.tuple #[.string ⟨#[]⟩, .iface 54 (.int .i64 x)]) ∧ Below w.heap.size w w' := by
  have K := hide hC
  have KN := hide hN
  clear hC hN
  go_enter Tryz.func30, Tryz.ntmps30
  go_wp2_with fail
  refine (K.out).mono ?_
  rintro e w1 ⟨rfl, hb⟩
  go_wp2_with fail
  refine (KN.out _ hb).mono ?_
  rintro e w2 ⟨rfl, rfl⟩
  go_wp2
  go_ret2
  exact ⟨rfl, hb⟩

theorem row_zero {w : World} {b n : Nat} {t : TypeId} (h : w.rowIs b t n (fun _ => .int .u8 0)) : BRow w b n (fun _ => 0) := fun i hi => ⟨h.cell hi, h.frozen i⟩

set_option maxHeartbeats 2000000 in
theorem sum_ok (b o len cap b2 o2 n cap2 : Nat) (g : Nat → ByteArray) (f : Nat → Int) (w : World) (hl0 : 0 < len) (hlen : len ≤ 16)
    (hcell : ∀ i, i < len → w.cell? ⟨b, o + i, none⟩ = some (.string (g i))) (h1 : 1 ≤ (g 0).size) (h8 : (g 0).size ≤ 8) (hs : ∀ i, i < len → (g i).size = (g 0).size)
    (h0 : 0 < n) (hnc : n ≤ cap2) (hc : cap2 ≤ maxLen) (hcell2 : ∀ i, i < n → w.cell? ⟨b2, o2 + i, none⟩ = some (.int .i64 (f i))) (hg : ∀ i, i < n → goodAt f len i) :
    Calls Tryz.prog 30 #[.slice (some ⟨b, o, none⟩) len cap, .slice (some ⟨b2, o2, none⟩) n cap2] w fun e w' => e = .returned (.tuple #[.string (sumB g f n), .nilIface]) ∧ Below w.heap.size w w' := by
  have K := hide (check_ok b o len cap g w hl0 hlen hcell h1 h8 hs)
  have KN := hide (fun w1 (hb : Below w.heap.size w w1) => named_ok b2 o2 n cap2 len f w1 h0 hnc hc (fun i hi => cell_below hb (hcell2 i hi)) hg)
  have HC := hide hcell
  have HC2 := hide hcell2
  have HG := hide hg
  have HS := hide hs
  have hm : n ≤ 9223372036854775807 := by unfold maxLen at hc; omega
  unfold maxLen at hc
  clear hcell hcell2 hg hs
  obtain ⟨m, hm0⟩ : ∃ m, m = (g 0).size := ⟨_, rfl⟩
  have hmk := run_make_row' (P := Tryz.prog) 86 5 (.int .u8 0) 1 Tryz.underlying86 Tryz.infoU8 rfl .i64 .i64 (g 0).size (by omega) (by omega)
  go_enter Tryz.func30, Tryz.ntmps30
  go_wp2_with fail
  refine (K.out).mono ?_
  rintro e w1 ⟨rfl, hb⟩
  go_wp2_with fail
  refine (KN.out _ hb).mono ?_
  rintro e w2 ⟨rfl, rfl⟩
  have hc0 := cell_below hb (HC.out 0 hl0)
  rw [Nat.add_zero] at hc0
  go_wp2
  go_loopw [30] (fun i wr => ∃ j : Nat, j ≤ n ∧ i = .int .i64 j ∧ BRow wr w1.heap.size (g 0).size (xsum g f j) ∧ Below w1.heap.size w1 wr) (fun i _ => n - (intOf i).toNat)
  case atStart => exact ⟨0, Nat.zero_le _, rfl, row_zero (World.rowIs_made _ _ _ _), (Below.refl _ _).alloc (Nat.le_refl _) _⟩
  case round =>
    obtain ⟨j, hj, rfl, hrow, hb1⟩ := hrel
    by_cases hlt : j < n
    · have hb2 := below_two hb hb1
      have hcj := cell_below hb2 (HC2.out j hlt)
      obtain ⟨⟨hf0, hf1⟩, _⟩ := HG.out j hlt
      obtain ⟨p, hp⟩ := Int.eq_ofNat_of_zero_le hf0
      have hp' : (f j).toNat = p := by rw [hp]; rfl
      have hpl : p < len := by omega
      have hcp := cell_below hb2 (HC.out p hpl)
      have L := hide (lay_any w1.heap.size (g 0).size (g 0).size (g p) _ wr (by omega) (HS.out p hpl) hrow)
      rw [hp] at hcj
      clear hf0 hf1
      have HP := hide hp'
      clear hp hp'
      go_wp2_with fail
      refine (L.out).mono ?_
      rintro e w3 ⟨rfl, hr3, hb3⟩
      go_wp2
      go_roundw
      case rel => exact ⟨j + 1, by omega, by go_num, hr3.congr (fun i _ => by rw [xsum, HP.out]), hb1.trans hb3⟩
      case measure => simp [intOf]; omega
    · obtain rfl : j = n := by omega
      have hbk := back_row (cap := (g 0).size) hrow
      have hb2 := below_two hb hb1
      go_wp2
      go_ret2
      exact ⟨rfl, hb2⟩
end Go.Proofs.YtjgifjkdgoijmaaGreat

namespace Go.Proofs.YtjgifjkdgoijmaaGreat
open Go.RowKit Go.Maps
set_option linter.unusedVariables false
set_option maxRecDepth 100000

set_option maxHeartbeats 1000000 in
theorem make_check (l : Value) (seed : Int) (w : World) (x : Int)
    (hK : ∀ w1, Below w.heap.size w w1 → Calls Tryz.prog 28 #[l] w1 fun e w' => e = .returned (.iface 54 (.int .i64 x)) ∧ Below w1.heap.size w1 w') :
    Calls Tryz.prog 10 #[l, .int .i64 seed] w fun e w' => e = .returned (.tuple #[dropV 0 ⟨#[]⟩, .iface 54 (.int .i64 x)]) ∧ Below w.heap.size w w' := by
  have hb0 : Below w.heap.size w (w.alloc (.cells #[.int .i64 0, .string ⟨#[]⟩] 37)) := (Below.refl _ _).alloc (Nat.le_refl _) _
  have K := hide (hK _ hb0)
  have HB0 := hide hb0
  clear hK hb0
  go_enter Tryz.func10, Tryz.ntmps10
  go_wp2_with fail
  refine (K.out).mono ?_
  rintro e w1 ⟨rfl, hb⟩
  have HD := hide ((dropIn_new w 0 ⟨#[]⟩).below hb)
  obtain ⟨⟨c0, f0⟩, c1, f1⟩ := HD.out
  have HB := hide (below_two HB0.out hb)
  clear hb HB0
  go_wp2
  refine bodyPost_ret (v := .tuple #[dropV 0 ⟨#[]⟩, .iface 54 (.int .i64 x)]) (by simp only [Nat.zero_add] at c1; simp [results, Tryz.results10, go_sem, dropV, c0, c1]) rfl ⟨rfl, ?_⟩
  exact (HB.out.setCell (Nat.le_refl _) _).setCell (Nat.le_refl _) _

theorem setL_good {k seed : Nat} (hk : 1 ≤ k) (h1 : 1 ≤ seed) : ∀ i, i < (setL k seed).length → goodAt (fun i => (((setL k seed).getD i 0 : Nat) : Int)) k i := fun i hi => by
  have hm : ∀ j, (h : j < (setL k seed).length) → (setL k seed).getD j 0 = (setL k seed)[j] := fun j h => by simp [List.getD, h]
  refine ⟨⟨Int.natCast_nonneg _, ?_⟩, fun j hj => ?_⟩
  · show (((setL k seed).getD i 0 : Nat) : Int) < k
    rw [hm i hi]
    have := setL_lt hk h1 (List.getElem_mem hi)
    omega
  · show (((setL k seed).getD j 0 : Nat) : Int) ≠ (((setL k seed).getD i 0 : Nat) : Int)
    rw [hm i hi, hm j (by omega)]
    have := List.pairwise_iff_getElem.1 (setL_rise k seed) j i (by omega) hi hj
    omega

/-- What is in a drop of the blocks g. -/
noncomputable def dropB (g : Nat → ByteArray) (k seed : Nat) : ByteArray := sumB g (fun i => (((setL k seed).getD i 0 : Nat) : Int)) (setL k seed).length
theorem dropB_size (g : Nat → ByteArray) (k seed : Nat) : (dropB g k seed).size = (g 0).size := sumB_size _ _ _

set_option maxHeartbeats 1000000 in
theorem make_seed (b o len cap : Nat) (g : Nat → ByteArray) (seed : Int) (w : World) (hl0 : 0 < len) (hlen : len ≤ 16)
    (hcell : ∀ i, i < len → w.cell? ⟨b, o + i, none⟩ = some (.string (g i))) (h1 : 1 ≤ (g 0).size) (h8 : (g 0).size ≤ 8) (hs : ∀ i, i < len → (g i).size = (g 0).size) (hseed : seed < 1 ∨ 10000 < seed) :
    Calls Tryz.prog 10 #[.slice (some ⟨b, o, none⟩) len cap, .int .i64 seed] w fun e w' => e = .returned (.tuple #[dropV 0 ⟨#[]⟩, .iface 54 (.int .i64 1)]) ∧ Below w.heap.size w w' := by
  have hb0 : Below w.heap.size w (w.alloc (.cells #[.int .i64 0, .string ⟨#[]⟩] 37)) := (Below.refl _ _).alloc (Nat.le_refl _) _
  have K := hide (check_ok b o len cap g _ hl0 hlen (fun i hi => cell_below hb0 (hcell i hi)) h1 h8 hs)
  have S := hide (fun w1 => set_range len seed w1 (Or.inr hseed))
  have HB0 := hide hb0
  clear hcell hs hb0 hseed
  go_enter Tryz.func10, Tryz.ntmps10
  go_wp2_with fail
  refine (K.out).mono ?_
  rintro e w1 ⟨rfl, hb⟩
  obtain ⟨⟨c0, f0⟩, c1, f1⟩ := (dropIn_new w 0 ⟨#[]⟩).below hb
  have HB := hide (below_two HB0.out hb)
  clear hb HB0
  go_wp2_with fail
  refine (S.out w1).mono ?_
  rintro e w2 ⟨rfl, rfl⟩
  go_wp2
  refine bodyPost_ret (v := .tuple #[dropV 0 ⟨#[]⟩, .iface 54 (.int .i64 1)]) (by simp only [Nat.zero_add] at c1; simp [results, Tryz.results10, go_sem, dropV, c0, c1]) rfl ⟨rfl, ?_⟩
  exact (HB.out.setCell (Nat.le_refl _) _).setCell (Nat.le_refl _) _

set_option maxHeartbeats 1000000 in
theorem make_ok (b o len cap : Nat) (g : Nat → ByteArray) (seed : Nat) (w : World) (hl0 : 0 < len) (hlen : len ≤ 16)
    (hcell : ∀ i, i < len → w.cell? ⟨b, o + i, none⟩ = some (.string (g i))) (h1 : 1 ≤ (g 0).size) (h8 : (g 0).size ≤ 8) (hs : ∀ i, i < len → (g i).size = (g 0).size) (hs1 : 1 ≤ seed) (hs2 : seed ≤ 10000) :
    Calls Tryz.prog 10 #[.slice (some ⟨b, o, none⟩) len cap, .int .i64 seed] w fun e w' => e = .returned (.tuple #[dropV seed (dropB g len seed), .nilIface]) ∧ Below w.heap.size w w' := by
  have hb0 : Below w.heap.size w (w.alloc (.cells #[.int .i64 0, .string ⟨#[]⟩] 37)) := (Below.refl _ _).alloc (Nat.le_refl _) _
  have K := hide (check_ok b o len cap g _ hl0 hlen (fun i hi => cell_below hb0 (hcell i hi)) h1 h8 hs)
  have S := hide (fun w1 => set_ok len seed w1 hl0 hlen hs1 hs2)
  have U : Hid (∀ w1, Below w.heap.size w w1 → ∀ v, Lst w1 v (setL len seed) → Calls Tryz.prog 30 #[.slice (some ⟨b, o, none⟩) len cap, v] w1 fun e w' => e = .returned (.tuple #[.string (dropB g len seed), .nilIface]) ∧ Below w1.heap.size w1 w') := by
    rintro w1 hb v ⟨p, cap2, rfl, hc1, hc2, hc⟩
    exact sum_ok b o len cap p 0 _ cap2 g _ w1 hl0 hlen (fun i hi => cell_below hb (hcell i hi)) h1 h8 hs (setL_len hl0 hlen hs1 hs2).1 hc1 hc2 hc (setL_good hl0 hs1)
  have HB0 := hide hb0
  clear hcell hs hb0
  generalize dropB g len seed = z at *
  go_enter Tryz.func10, Tryz.ntmps10
  go_wp2_with fail
  refine (K.out).mono ?_
  rintro e w1 ⟨rfl, hb⟩
  have HD := hide ((dropIn_new w 0 ⟨#[]⟩).below hb)
  have HB := hide (below_two HB0.out hb)
  clear hb HB0
  go_wp2_with fail
  refine (S.out w1).mono ?_
  rintro e w2 ⟨v, rfl, hl, hb2⟩
  have U2 := hide (U.out w2 (below_two HB.out hb2) v hl)
  have HD2 := hide (HD.out.below hb2)
  have HB2 := hide (below_two HB.out hb2)
  clear hl hb2
  go_wp2_with fail
  refine (U2.out).mono ?_
  rintro e w3 ⟨rfl, hb3⟩
  obtain ⟨⟨c0, f0⟩, c1, f1⟩ := HD2.out.below hb3
  have HB3 := hide (below_two HB2.out hb3)
  clear hb3
  go_wp2
  refine bodyPost_ret (v := .tuple #[dropV seed z, .nilIface]) (by simp only [Nat.zero_add] at c1; simp [results, Tryz.results10, go_sem, dropV, c0, c1]) rfl ⟨rfl, ?_⟩
  exact (HB3.out.setCell (Nat.le_refl _) _).setCell (Nat.le_refl _) _

set_option maxHeartbeats 1000000 in
theorem dcheck_ok (k size seed : Int) (s : ByteArray) (w : World) (h1 : 1 ≤ k ∧ k ≤ 16) (h2 : 1 ≤ size ∧ size ≤ 8) (h3 : 1 ≤ seed ∧ seed ≤ 10000) (h4 : (s.size : Int) = size) :
    Calls Tryz.prog 34 #[.int .i64 k, .int .i64 size, dropV seed s] w fun e w' => e = .returned .nilIface ∧ Below w.heap.size w w' := by
  have W1 := hide (fun w => within_ok k 16 w h1.1 h1.2)
  have W2 := hide (fun w => within_ok size 8 w h2.1 h2.2)
  have W3 := hide (fun w => within_ok seed 10000 w h3.1 h3.2)
  unfold dropV
  have hne : ((s.size : Int) == size) = true := by simp [h4]
  go_enter Tryz.func34, Tryz.ntmps34
  go_wp2_with fail
  refine (W1.out _).mono ?_
  rintro e w1 ⟨rfl, rfl⟩
  go_wp2_with fail
  refine (W2.out _).mono ?_
  rintro e w1 ⟨rfl, rfl⟩
  go_wp2_with fail
  refine (W3.out _).mono ?_
  rintro e w1 ⟨rfl, rfl⟩
  go_wp2
  go_ret
  exact ⟨rfl, (Below.refl _ _).alloc (Nat.le_refl _) _⟩
set_option maxHeartbeats 1000000 in
theorem dcheck_shape (k size seed : Int) (s : ByteArray) (w : World) (h1 : 1 ≤ k ∧ k ≤ 16) (h2 : 1 ≤ size ∧ size ≤ 8) (h3 : 1 ≤ seed ∧ seed ≤ 10000) (h4 : (s.size : Int) ≠ size) :
    Calls Tryz.prog 34 #[.int .i64 k, .int .i64 size, dropV seed s] w fun e w' => e = .returned (.iface 54 (.int .i64 3)) ∧ Below w.heap.size w w' := by
  have W1 := hide (fun w => within_ok k 16 w h1.1 h1.2)
  have W2 := hide (fun w => within_ok size 8 w h2.1 h2.2)
  have W3 := hide (fun w => within_ok seed 10000 w h3.1 h3.2)
  have hne : ((s.size : Int) == size) = false := by simp [h4]
  unfold dropV
  go_enter Tryz.func34, Tryz.ntmps34
  go_wp2_with fail
  refine (W1.out _).mono ?_
  rintro e w1 ⟨rfl, rfl⟩
  go_wp2_with fail
  refine (W2.out _).mono ?_
  rintro e w1 ⟨rfl, rfl⟩
  go_wp2_with fail
  refine (W3.out _).mono ?_
  rintro e w1 ⟨rfl, rfl⟩
  go_wp2
  go_ret
  exact ⟨rfl, (Below.refl _ _).alloc (Nat.le_refl _) _⟩
set_option maxHeartbeats 1000000 in
theorem dcheck_range (k size seed : Int) (s : ByteArray) (w : World) (h : ¬ ((1 ≤ k ∧ k ≤ 16) ∧ (1 ≤ size ∧ size ≤ 8) ∧ 1 ≤ seed ∧ seed ≤ 10000)) :
    Calls Tryz.prog 34 #[.int .i64 k, .int .i64 size, dropV seed s] w fun e w' => e = .returned (.iface 54 (.int .i64 1)) ∧ Below w.heap.size w w' := by
  by_cases h1 : 1 ≤ k ∧ k ≤ 16
  · have W1 := hide (fun w => within_ok k 16 w h1.1 h1.2)
    by_cases h2 : 1 ≤ size ∧ size ≤ 8
    · have W2 := hide (fun w => within_ok size 8 w h2.1 h2.2)
      have W3 := hide (fun w => within_not seed 10000 w (by omega))
      clear h h1 h2
      unfold dropV
      go_enter Tryz.func34, Tryz.ntmps34
      go_wp2_with fail
      refine (W1.out _).mono ?_
      rintro e w1 ⟨rfl, rfl⟩
      go_wp2_with fail
      refine (W2.out _).mono ?_
      rintro e w1 ⟨rfl, rfl⟩
      go_wp2_with fail
      refine (W3.out _).mono ?_
      rintro e w1 ⟨rfl, rfl⟩
      go_wp2
      go_ret
      exact ⟨rfl, (Below.refl _ _).alloc (Nat.le_refl _) _⟩
    · have W2 := hide (fun w => within_not size 8 w (by omega))
      clear h h1 h2
      unfold dropV
      go_enter Tryz.func34, Tryz.ntmps34
      go_wp2_with fail
      refine (W1.out _).mono ?_
      rintro e w1 ⟨rfl, rfl⟩
      go_wp2_with fail
      refine (W2.out _).mono ?_
      rintro e w1 ⟨rfl, rfl⟩
      go_wp2
      go_ret
      exact ⟨rfl, (Below.refl _ _).alloc (Nat.le_refl _) _⟩
  · have W1 := hide (fun w => within_not k 16 w (by omega))
    clear h h1
    unfold dropV
    go_enter Tryz.func34, Tryz.ntmps34
    go_wp2_with fail
    refine (W1.out _).mono ?_
    rintro e w1 ⟨rfl, rfl⟩
    go_wp2
    go_ret
    exact ⟨rfl, (Below.refl _ _).alloc (Nat.le_refl _) _⟩
end Go.Proofs.YtjgifjkdgoijmaaGreat
