/-
  Lemmas for the law above, joined into one text (DropI, Fits, Check, U8). No statement is proved here.
-/
import Derived.Test.YtjgifjkdgoijmaaGreatWG0
namespace Go.Proofs.YtjgifjkdgoijmaaGreat
open Go.RowKit
set_option linter.unusedVariables false
set_option maxRecDepth 100000

/-- A Drop. -/
def dropV (seed : Int) (s : ByteArray) : Value := .agg #[.int .i64 seed, .string s]

/-- A block that holds a Drop, none of it frozen. -/
def DropIn (w : World) (b : Nat) (seed : Int) (s : ByteArray) : Prop :=
  (w.cell? ⟨b, 0, none⟩ = some (.int .i64 seed) ∧ w.frozen? ⟨b, 0, none⟩ = false) ∧ w.cell? ⟨b, 0 + 1, none⟩ = some (.string s) ∧ w.frozen? ⟨b, 0 + 1, none⟩ = false
theorem dropIn_new (w : World) (seed : Int) (s : ByteArray) : DropIn (w.alloc (.cells #[.int .i64 seed, .string s] 37)) w.heap.size seed s :=
  ⟨⟨by simp, by simp only [World.frozen?, (MapKept.heap_alloc w _).1]; simp⟩, by simp, by simp only [World.frozen?, (MapKept.heap_alloc w _).1]; simp⟩
theorem DropIn.lt {w : World} {b : Nat} {seed : Int} {s : ByteArray} (h : DropIn w b seed s) : b < w.heap.size := cell_lt h.1.1
theorem DropIn.below {w w' : World} {b : Nat} {seed : Int} {s : ByteArray} (h : DropIn w b seed s) (hb : Below w.heap.size w w') : DropIn w' b seed s :=
  ⟨⟨(hb.cell h.lt).trans h.1.1, (hb.frozen h.lt).trans h.1.2⟩, (hb.cell h.lt).trans h.2.1, (hb.frozen h.lt).trans h.2.2⟩
end Go.Proofs.YtjgifjkdgoijmaaGreat

namespace Go.Proofs.YtjgifjkdgoijmaaGreat
open Go.RowKit
set_option linter.unusedVariables false
set_option maxRecDepth 100000

theorem fits_yes (z : Int) (w : World) (h1 : 1 ≤ z) (h8 : z ≤ 8) :
    Calls Tryz.prog 20 #[.int .i64 z] w fun e w' => e = .returned (.bool true) ∧ w = w' := by
  go_enter Tryz.func20, Tryz.ntmps20
  go_wp2
  go_ret
  exact ⟨rfl, rfl⟩
theorem fits_no (z : Int) (w : World) (h : z < 1 ∨ 8 < z) :
    Calls Tryz.prog 20 #[.int .i64 z] w fun e w' => e = .returned (.bool false) ∧ w = w' := by
  rcases h with h | h
  · have h' : ¬ 1 ≤ z := by omega
    go_enter Tryz.func20, Tryz.ntmps20
    go_wp2
    go_ret
    exact ⟨rfl, rfl⟩
  · have h' : ¬ z ≤ 8 := by omega
    have h1 : 1 ≤ z := by omega
    go_enter Tryz.func20, Tryz.ntmps20
    go_wp2
    go_ret
    exact ⟨rfl, rfl⟩
end Go.Proofs.YtjgifjkdgoijmaaGreat

namespace Go.Proofs.YtjgifjkdgoijmaaGreat
open Go.RowKit
set_option linter.unusedVariables false
set_option maxRecDepth 100000

/-- slices.IndexFunc at Check's closure (its captured size m lies in the cell c): -1 where all are as long, else a place. -/
theorem index_no (b o len cap : Nat) (c : Addr) (m : Nat) (f : Nat → ByteArray) (w : World) (h16 : len ≤ 16) (hm : w.cell? c = some (.int .i64 m))
    (hcell : ∀ i, i < len → w.cell? ⟨b, o + i, none⟩ = some (.string (f i))) (hs : ∀ i, i < len → (f i).size = m) (hm8 : m ≤ 8) :
    Calls Tryz.prog 80 #[.slice (some ⟨b, o, none⟩) len cap, .func (.func 49) #[] #[.pointer (some c)]] w fun e w' => e = .returned (.int .i64 (-1)) ∧ w = w' := by
  have HC := hide hcell
  have HS := hide hs
  clear hcell hs
  go_enter Tryz.func80, Tryz.ntmps80
  go_wp2
  go_loop [8] (fun i => ∃ j : Nat, j ≤ len ∧ i = .int .i64 j) (fun i => len - (intOf i).toNat)
  case atStart => exact ⟨0, Nat.zero_le _, rfl⟩
  case round =>
    obtain ⟨j, hj, rfl⟩ := hrel
    by_cases hlt : j < len
    · have hc := HC.out j hlt
      have hz := HS.out j hlt
      have hz' : (((f j).size : Int) != (m : Int)) = false := by rw [hz]; simp
      clear hz
      go_wp2
      go_round
      case rel => exact ⟨j + 1, by omega, by go_num⟩
      case measure => simp [intOf]; omega
    · go_wp2
      go_ret
      exact ⟨rfl, rfl⟩
theorem index_yes (b o len cap : Nat) (c : Addr) (m : Nat) (f : Nat → ByteArray) (w : World) (h16 : len ≤ 16) (hm : w.cell? c = some (.int .i64 m))
    (hcell : ∀ i, i < len → w.cell? ⟨b, o + i, none⟩ = some (.string (f i))) (q : Nat) (hq : q < len) (hs : (f q).size ≠ m) (hm8 : m ≤ 8) :
    Calls Tryz.prog 80 #[.slice (some ⟨b, o, none⟩) len cap, .func (.func 49) #[] #[.pointer (some c)]] w fun e w' => (∃ r : Nat, r ≤ 16 ∧ e = .returned (.int .i64 r)) ∧ w = w' := by
  have HC := hide hcell
  have HS := hide hs
  clear hcell hs
  go_enter Tryz.func80, Tryz.ntmps80
  go_wp2
  go_loop [8] (fun i => ∃ j : Nat, j ≤ q ∧ i = .int .i64 j) (fun i => len - (intOf i).toNat)
  case atStart => exact ⟨0, Nat.zero_le _, rfl⟩
  case round =>
    obtain ⟨j, hj, rfl⟩ := hrel
    have hlt : j < len := by omega
    have hc := HC.out j hlt
    by_cases hz : (f j).size = m
    · have hz' : (((f j).size : Int) != (m : Int)) = false := by rw [hz]; simp
      have hne : j ≠ q := fun e => HS.out (by rw [← e]; exact hz)
      have hlt2 : j < q := by omega
      clear hz hne
      go_wp2
      go_round
      case rel => exact ⟨j + 1, by omega, by go_num⟩
      case measure => simp [intOf]; omega
    · have hz' : (((f j).size : Int) != (m : Int)) = true := by rw [bne_iff_ne]; omega
      clear hz
      go_wp2
      go_ret
      exact ⟨⟨j, by omega, rfl⟩, rfl⟩

theorem contains_no (b o len cap : Nat) (c : Addr) (m : Nat) (f : Nat → ByteArray) (w : World) (h16 : len ≤ 16) (hm : w.cell? c = some (.int .i64 m))
    (hcell : ∀ i, i < len → w.cell? ⟨b, o + i, none⟩ = some (.string (f i))) (hs : ∀ i, i < len → (f i).size = m) (hm8 : m ≤ 8) :
    Calls Tryz.prog 48 #[.slice (some ⟨b, o, none⟩) len cap, .func (.func 49) #[] #[.pointer (some c)]] w fun e w' => e = .returned (.bool false) ∧ w = w' := by
  have K := hide (index_no b o len cap c m f w h16 hm hcell hs hm8)
  clear hcell hs
  go_enter Tryz.func48, Tryz.ntmps48
  go_wp2_with fail
  refine (K.out).mono ?_
  rintro e w1 ⟨rfl, rfl⟩
  go_wp2
  go_ret
  exact ⟨rfl, rfl⟩
theorem contains_yes (b o len cap : Nat) (c : Addr) (m : Nat) (f : Nat → ByteArray) (w : World) (h16 : len ≤ 16) (hm : w.cell? c = some (.int .i64 m))
    (hcell : ∀ i, i < len → w.cell? ⟨b, o + i, none⟩ = some (.string (f i))) (q : Nat) (hq : q < len) (hs : (f q).size ≠ m) (hm8 : m ≤ 8) :
    Calls Tryz.prog 48 #[.slice (some ⟨b, o, none⟩) len cap, .func (.func 49) #[] #[.pointer (some c)]] w fun e w' => e = .returned (.bool true) ∧ w = w' := by
  have K := hide (index_yes b o len cap c m f w h16 hm hcell q hq hs hm8)
  clear hcell hs
  go_enter Tryz.func48, Tryz.ntmps48
  go_wp2_with fail
  refine (K.out).mono ?_
  rintro e w1 ⟨⟨r, hr, rfl⟩, rfl⟩
  go_wp2
  go_ret
  exact ⟨rfl, rfl⟩

/-- What Check finds of strings f 0, f 1, .. (len of them): the fault's number, 0 for none. -/
theorem check_none (a : Option Addr) (cap : Nat) (w : World) :
    Calls Tryz.prog 28 #[.slice a 0 cap] w fun e w' => e = .returned (.iface 54 (.int .i64 5)) ∧ w = w' := by
  go_enter Tryz.func28, Tryz.ntmps28
  go_wp2
  go_ret
  exact ⟨rfl, rfl⟩
theorem check_full (a : Option Addr) (len cap : Nat) (w : World) (h : 16 < len) (hm : len ≤ maxLen) :
    Calls Tryz.prog 28 #[.slice a len cap] w fun e w' => e = .returned (.iface 54 (.int .i64 4)) ∧ w = w' := by
  unfold maxLen at hm
  have hl0 : ((len : Int) == 0) = false := by simp; omega
  go_enter Tryz.func28, Tryz.ntmps28
  go_wp2
  go_ret
  exact ⟨rfl, rfl⟩
theorem check_range (b o len cap : Nat) (s0 : ByteArray) (w : World) (h0 : 0 < len) (h16 : len ≤ 16)
    (hc0 : w.cell? ⟨b, o, none⟩ = some (.string s0)) (hm : s0.size ≤ maxLen) (h : s0.size < 1 ∨ 8 < s0.size) :
    Calls Tryz.prog 28 #[.slice (some ⟨b, o, none⟩) len cap] w fun e w' => e = .returned (.iface 54 (.int .i64 1)) ∧ Below w.heap.size w w' := by
  unfold maxLen at hm
  have hl0 : ((len : Int) == 0) = false := by simp; omega
  have H := hide h
  clear h
  go_enter Tryz.func28, Tryz.ntmps28
  go_wp2_with (go_at_call 20; refine (fits_no _ _ (by have := H.out; omega)).mono ?_; rintro e w' ⟨rfl, rfl⟩)
  go_ret
  exact ⟨rfl, (Below.refl _ _).alloc (Nat.le_refl _) _⟩
theorem cells_alloc {w : World} {b o len : Nat} {f : Nat → ByteArray} (hcell : ∀ i, i < len → w.cell? ⟨b, o + i, none⟩ = some (.string (f i))) (x : Obj) :
    ∀ i, i < len → (w.alloc x).cell? ⟨b, o + i, none⟩ = some (.string (f i)) := fun i hi => by
  have h := hcell i hi
  have hlt : b < w.heap.size := by
    rcases Nat.lt_or_ge b w.heap.size with h' | h'
    · exact h'
    · simp [World.cell?, Array.getElem?_eq_none h'] at h
  rw [World.cell?_alloc_lt _ _ ⟨b, o + i, none⟩ hlt]; exact h
theorem check_shape (b o len cap : Nat) (f : Nat → ByteArray) (w : World) (h0 : 0 < len) (h16 : len ≤ 16)
    (hcell : ∀ i, i < len → w.cell? ⟨b, o + i, none⟩ = some (.string (f i))) (h1 : 1 ≤ (f 0).size) (h8 : (f 0).size ≤ 8) (q : Nat) (hq : q < len) (hs : (f q).size ≠ (f 0).size) :
    Calls Tryz.prog 28 #[.slice (some ⟨b, o, none⟩) len cap] w fun e w' => e = .returned (.iface 54 (.int .i64 3)) ∧ Below w.heap.size w w' := by
  have hc0 := hcell 0 h0
  simp only [Nat.add_zero] at hc0
  have K := hide (contains_yes b o len cap ⟨w.heap.size, 0, none⟩ (f 0).size f (w.alloc (.cells #[.int .i64 (f 0).size] 3)) h16 (by simp) (cells_alloc hcell _) q hq hs h8)
  clear hcell hs
  have hl0 : ((len : Int) == 0) = false := by simp; omega
  go_enter Tryz.func28, Tryz.ntmps28
  go_wp2_with (go_at_call 20; refine (fits_yes _ _ (by omega) (by omega)).mono ?_; rintro e w' ⟨rfl, rfl⟩)
  refine (K.out).mono ?_
  rintro e w1 ⟨rfl, rfl⟩
  go_wp2
  go_ret
  exact ⟨rfl, (Below.refl _ _).alloc (Nat.le_refl _) _⟩
theorem check_ok (b o len cap : Nat) (f : Nat → ByteArray) (w : World) (h0 : 0 < len) (h16 : len ≤ 16)
    (hcell : ∀ i, i < len → w.cell? ⟨b, o + i, none⟩ = some (.string (f i))) (h1 : 1 ≤ (f 0).size) (h8 : (f 0).size ≤ 8) (hs : ∀ i, i < len → (f i).size = (f 0).size) :
    Calls Tryz.prog 28 #[.slice (some ⟨b, o, none⟩) len cap] w fun e w' => e = .returned .nilIface ∧ Below w.heap.size w w' := by
  have hc0 := hcell 0 h0
  simp only [Nat.add_zero] at hc0
  have K := hide (contains_no b o len cap ⟨w.heap.size, 0, none⟩ (f 0).size f (w.alloc (.cells #[.int .i64 (f 0).size] 3)) h16 (by simp) (cells_alloc hcell _) hs h8)
  clear hcell hs
  have hl0 : ((len : Int) == 0) = false := by simp; omega
  go_enter Tryz.func28, Tryz.ntmps28
  go_wp2_with (go_at_call 20; refine (fits_yes _ _ (by omega) (by omega)).mono ?_; rintro e w' ⟨rfl, rfl⟩)
  refine (K.out).mono ?_
  rintro e w1 ⟨rfl, rfl⟩
  go_wp2
  go_ret
  exact ⟨rfl, (Below.refl _ _).alloc (Nat.le_refl _) _⟩
end Go.Proofs.YtjgifjkdgoijmaaGreat

namespace Go.Proofs.YtjgifjkdgoijmaaGreat
open Go.RowKit
set_option linter.unusedVariables false
set_option maxRecDepth 100000

theorem Tryz.infoU8 : (Tryz.prog.info? 5).map (fun i => (i.zero, i.size, i.bytes)) = some (some (.int .u8 0), 1, 1) := by kernel_rfl
end Go.Proofs.YtjgifjkdgoijmaaGreat
