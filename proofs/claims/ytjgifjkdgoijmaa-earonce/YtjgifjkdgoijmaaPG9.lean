/-
  Lemmas for the law above, joined into one text (XorN, Sum). No statement is proved here.
-/
import Derived.Test.YtjgifjkdgoijmaaPG8
import Derived.Test.YtjgifjkdgoijmaaPG7
import Derived.Deep.OwnRows
namespace Go.Proofs.Ytjgifjkdgoijmaa
open Go.RowKit
set_option linter.unusedVariables false
set_option maxRecDepth 100000

/-- The bytes f 0, .., f (n-1) as a string. -/
def bytesB (n : Nat) (f : Nat → UInt8) : ByteArray := ⟨((List.range n).map f).toArray⟩
theorem bytesB_size (n : Nat) (f : Nat → UInt8) : (bytesB n f).size = n := by rw [Lib.size_eq, bytesB, List.toList_toArray]; simp
theorem bytesB_at (n : Nat) (f : Nat → UInt8) (i : Nat) (h : i < n) : atB (bytesB n f) i = f i := by simp [atB, bytesB, List.getD, h]
theorem bytes_ext {a b : ByteArray} (hs : a.size = b.size) (h : ∀ i, i < a.size → atB a i = atB b i) : a = b := by
  apply ByteArray.ext
  rw [← Array.toList_inj]
  rw [Lib.size_eq, Lib.size_eq] at hs
  apply List.ext_getElem hs
  intro i h1 h2
  have := h i (by rw [Lib.size_eq]; exact h1)
  simpa [atB, List.getD, List.getElem?_eq_getElem h1, List.getElem?_eq_getElem h2] using this
theorem bytesB_eq (a : ByteArray) (n : Nat) (f : Nat → UInt8) (hs : a.size = n) (h : ∀ i, i < n → f i = atB a i) : bytesB n f = a :=
  bytes_ext (by rw [bytesB_size, hs]) (fun i hi => by rw [bytesB_size] at hi; rw [bytesB_at _ _ _ hi, h i hi])
theorem bytesB_congr {n : Nat} {f g : Nat → UInt8} (h : ∀ i, i < n → f i = g i) : bytesB n f = bytesB n g :=
  bytes_ext (by rw [bytesB_size, bytesB_size]) (fun i hi => by rw [bytesB_size] at hi; rw [bytesB_at _ _ _ hi, bytesB_at _ _ _ hi, h i hi])
/-- One over the other. -/
def xorB (a b : ByteArray) : ByteArray := bytesB a.size (fun i => atB a i ^^^ atB b i)
theorem xorB_size (a b : ByteArray) : (xorB a b).size = a.size := bytesB_size _ _
theorem xorB_at (a b : ByteArray) (i : Nat) (h : i < a.size) : atB (xorB a b) i = atB a i ^^^ atB b i := bytesB_at _ _ _ h
/-- 'string(row)'. -/
theorem back_row {w : World} {b n cap : Nat} {f : Nat → UInt8} (h : BRow w b n f) :
    (convert 66 9 (.slice (some ⟨b, 0, none⟩) n cap)).run Try.prog w = .ok (.string (bytesB n f)) w := by
  have hl : ((List.range n).map f).length = n := by simp
  have h1 := run_convert_bytes_back (P := Try.prog) w 66 9 5 ⟨b, 0, none⟩ cap ((List.range n).map f) Try.underlying66 Try.underlying5 Try.underlying9
    (fun j hj => by
      rw [hl] at hj
      have := (h j hj).1
      have e : (Addr.mk b 0 none).add j = ⟨b, j, none⟩ := by simp [Addr.add]; intro h; rw [h]
      rw [e]; simpa using this)
  rw [hl] at h1
  exact h1
/-- '[]byte(s)' as a row. -/
theorem row_new (w : World) (s : ByteArray) (c t : Nat) : BRow (w.drew.alloc (.cells (bytesRow s c) t ((bytesRow s c).size, (bytesRow s c).size + 1))) w.heap.size s.size (atB s) := fun i hi => by
  have hi' : i < s.data.size := hi
  have e : w.heap.size = w.drew.heap.size := rfl
  rw [e, World.cell?_alloc_mark, World.frozen?_alloc_mark, bytesRow_at _ _ _ hi', atB_eq s i hi]
  refine ⟨rfl, ?_⟩
  have : i < (bytesRow s c).size := by simp [bytesRow]; omega
  simp [Nat.not_le.2 this]
end Go.Proofs.Ytjgifjkdgoijmaa

namespace Go.Proofs.Ytjgifjkdgoijmaa
open Go.RowKit
set_option linter.unusedVariables false
set_option maxRecDepth 100000

/-- Byte i of the first k named blocks over one another. -/
def xsum (g : Nat → ByteArray) (f : Nat → Int) : Nat → Nat → UInt8
  | 0, _ => 0
  | k + 1, i => xsum g f k i ^^^ atB (g (f k).toNat) i
/-- n named blocks over one another. -/
def sumB (g : Nat → ByteArray) (f : Nat → Int) (n : Nat) : ByteArray := bytesB (g 0).size (xsum g f n)
theorem sumB_size (g : Nat → ByteArray) (f : Nat → Int) (n : Nat) : (sumB g f n).size = (g 0).size := bytesB_size _ _
theorem sumB_at (g : Nat → ByteArray) (f : Nat → Int) (n i : Nat) (h : i < (g 0).size) : atB (sumB g f n) i = xsum g f n i := bytesB_at _ _ _ h

/-- Check finds a fault: it is told. -/
theorem sum_check (l of : Value) (w : World) (x : Int)
    (hC : Calls Try.prog 12 #[l] w fun e w' => e = .returned (.iface 40 (.int .i64 x)) ∧ Below w.heap.size w w') :
    Calls Try.prog 14 #[l, of] w fun e w' => e = .returned (.tuple #[.string ⟨#[]⟩, .iface 40 (.int .i64 x)]) ∧ Below w.heap.size w w' := by
  have K := hide hC
  clear hC
  go_enter Try.func14, Try.ntmps14
  go_wp2_with fail
  refine (K.out).mono ?_
  rintro e w1 ⟨rfl, hb⟩
  go_wp2
  go_ret2
  exact ⟨rfl, hb⟩
/-- Check finds none, and the places are wrong. -/
theorem sum_named (b o len cap : Nat) (of : Value) (w : World) (x : Int) (hlen : len ≤ 16)
    (hC : Calls Try.prog 12 #[.slice (some ⟨b, o, none⟩) len cap] w fun e w' => e = .returned .nilIface ∧ Below w.heap.size w w')
    (hN : ∀ w1, Below w.heap.size w w1 → Calls Try.prog 31 #[of, .int .i64 len] w1 fun e w' => e = .returned (.iface 40 (.int .i64 x)) ∧ w1 = w') :
    Calls Try.prog 14 #[.slice (some ⟨b, o, none⟩) len cap, of] w fun e w' => e = .returned (.tuple #[.string ⟨#[]⟩, .iface 40 (.int .i64 x)]) ∧ Below w.heap.size w w' := by
  have K := hide hC
  have KN := hide hN
  clear hC hN
  go_enter Try.func14, Try.ntmps14
  go_wp2_with fail
  refine (K.out).mono ?_
  rintro e w1 ⟨rfl, hb⟩
  go_wp2_with fail
  refine (KN.out _ hb).mono ?_
  rintro e w2 ⟨rfl, rfl⟩
  go_wp2
  go_ret2
  exact ⟨rfl, hb⟩

theorem row_zero {w : World} {b n : Nat} {t : TypeId} (h : w.rowIs b t n (fun _ => .int .u8 0)) : BRow w b n (fun _ => 0) := fun i hi => ⟨h.cell hi, h.frozen i⟩

set_option maxHeartbeats 2000000 in
theorem sum_ok (b o len cap b2 o2 n cap2 : Nat) (g : Nat → ByteArray) (f : Nat → Int) (w : World) (hl0 : 0 < len) (hlen : len ≤ 16)
    (hcell : ∀ i, i < len → w.cell? ⟨b, o + i, none⟩ = some (.string (g i))) (h1 : 1 ≤ (g 0).size) (h8 : (g 0).size ≤ 8) (hs : ∀ i, i < len → (g i).size = (g 0).size)
    (h0 : 0 < n) (hnc : n ≤ cap2) (hc : cap2 ≤ maxLen) (hcell2 : ∀ i, i < n → w.cell? ⟨b2, o2 + i, none⟩ = some (.int .i64 (f i))) (hg : ∀ i, i < n → goodAt f len i) :
    Calls Try.prog 14 #[.slice (some ⟨b, o, none⟩) len cap, .slice (some ⟨b2, o2, none⟩) n cap2] w fun e w' => e = .returned (.tuple #[.string (sumB g f n), .nilIface]) ∧ Below w.heap.size w w' := by
  have K := hide (check_ok b o len cap g w hl0 hlen hcell h1 h8 hs)
  have KN := hide (fun w1 (hb : Below w.heap.size w w1) => named_ok b2 o2 n cap2 len f w1 h0 hnc hc (fun i hi => cell_below hb (hcell2 i hi)) hg)
  have HC := hide hcell
  have HC2 := hide hcell2
  have HG := hide hg
  have HS := hide hs
  have hm : n ≤ 9223372036854775807 := by unfold maxLen at hc; omega
  unfold maxLen at hc
  clear hcell hcell2 hg hs
  obtain ⟨m, hm0⟩ : ∃ m, m = (g 0).size := ⟨_, rfl⟩
  have hmk := run_make_row' (P := Try.prog) 66 5 (.int .u8 0) 1 Try.underlying66 Try.infoU8 rfl .i64 .i64 (g 0).size (by omega) (by omega)
  go_enter Try.func14, Try.ntmps14
  go_wp2_with fail
  refine (K.out).mono ?_
  rintro e w1 ⟨rfl, hb⟩
  go_wp2_with fail
  refine (KN.out _ hb).mono ?_
  rintro e w2 ⟨rfl, rfl⟩
  have hc0 := cell_below hb (HC.out 0 hl0)
  rw [Nat.add_zero] at hc0
  go_wp2
  go_loopw [30] (fun i wr => ∃ j : Nat, j ≤ n ∧ i = .int .i64 j ∧ BRow wr w1.heap.size (g 0).size (xsum g f j) ∧ Below w1.heap.size w1 wr) (fun i _ => n - (intOf i).toNat)
  case atStart => exact ⟨0, Nat.zero_le _, rfl, row_zero (World.rowIs_made _ _ _ _), (Below.refl _ _).alloc (Nat.le_refl _) _⟩
  case round =>
    obtain ⟨j, hj, rfl, hrow, hb1⟩ := hrel
    by_cases hlt : j < n
    · have hb2 := below_two hb hb1
      have hcj := cell_below hb2 (HC2.out j hlt)
      obtain ⟨⟨hf0, hf1⟩, _⟩ := HG.out j hlt
      obtain ⟨p, hp⟩ := Int.eq_ofNat_of_zero_le hf0
      have hp' : (f j).toNat = p := by rw [hp]; rfl
      have hpl : p < len := by omega
      have hcp := cell_below hb2 (HC.out p hpl)
      have L := hide (lay_any w1.heap.size (g 0).size (g 0).size (g p) _ wr (by omega) (HS.out p hpl) hrow)
      rw [hp] at hcj
      clear hf0 hf1
      have HP := hide hp'
      clear hp hp'
      go_wp2_with fail
      refine (L.out).mono ?_
      rintro e w3 ⟨rfl, hr3, hb3⟩
      go_wp2
      go_roundw
      case rel => exact ⟨j + 1, by omega, by go_num, hr3.congr (fun i _ => by rw [xsum, HP.out]), hb1.trans hb3⟩
      case measure => simp [intOf]; omega
    · obtain rfl : j = n := by omega
      have hbk := back_row (cap := (g 0).size) hrow
      have hb2 := below_two hb hb1
      go_wp2
      go_ret2
      exact ⟨rfl, hb2⟩
end Go.Proofs.Ytjgifjkdgoijmaa
