/-
  Lemmas for the law above, joined into one text (DropI, Fits, Check, Named, Lay, Sum, DropM). No statement is proved here.
-/
import Derived.Test.YtjhflcgphejddaaGreatDoorZG0
import Derived.Test.YtjhflcgphejddaaGreatDoorZG2
import Derived.Test.YtjhflcgphejddaaGreatDoorZG3
import Derived.Deep.OwnRows
import Derived.Test.YtjhflcgphejddaaGreatDoorZG15
namespace Go.Proofs.YtjhflcgphejddaaGreatDoor
open Go.RowKit
set_option linter.unusedVariables false
set_option maxRecDepth 100000

/-- A Drop. -/
def dropV (seed : Int) (s : ByteArray) : Value := .agg #[.int .i64 seed, .string s]

/-- A block that holds a Drop, none of it frozen. -/
def DropIn (w : World) (b : Nat) (seed : Int) (s : ByteArray) : Prop :=
  (w.cell? ⟨b, 0, none⟩ = some (.int .i64 seed) ∧ w.frozen? ⟨b, 0, none⟩ = false) ∧ w.cell? ⟨b, 0 + 1, none⟩ = some (.string s) ∧ w.frozen? ⟨b, 0 + 1, none⟩ = false
theorem dropIn_new (w : World) (seed : Int) (s : ByteArray) : DropIn (w.alloc (.cells #[.int .i64 seed, .string s] 43)) w.heap.size seed s :=
  ⟨⟨by simp, by simp only [World.frozen?, (MapKept.heap_alloc w _).1]; simp⟩, by simp, by simp only [World.frozen?, (MapKept.heap_alloc w _).1]; simp⟩
theorem DropIn.lt {w : World} {b : Nat} {seed : Int} {s : ByteArray} (h : DropIn w b seed s) : b < w.heap.size := cell_lt h.1.1
theorem DropIn.below {w w' : World} {b : Nat} {seed : Int} {s : ByteArray} (h : DropIn w b seed s) (hb : Below w.heap.size w w') : DropIn w' b seed s :=
  ⟨⟨(hb.cell h.lt).trans h.1.1, (hb.frozen h.lt).trans h.1.2⟩, (hb.cell h.lt).trans h.2.1, (hb.frozen h.lt).trans h.2.2⟩
end Go.Proofs.YtjhflcgphejddaaGreatDoor

namespace Go.Proofs.YtjhflcgphejddaaGreatDoor
open Go.RowKit
set_option linter.unusedVariables false
set_option maxRecDepth 100000

theorem fits_yes (z : Int) (w : World) (h1 : 1 ≤ z) (h8 : z ≤ 8) :
    Calls Tryz.prog 28 #[.int .i64 z] w fun e w' => e = .returned (.bool true) ∧ w = w' := by
  go_enter Tryz.func28, Tryz.ntmps28
  go_wp2
  go_ret
  exact ⟨rfl, rfl⟩
theorem fits_no (z : Int) (w : World) (h : z < 1 ∨ 8 < z) :
    Calls Tryz.prog 28 #[.int .i64 z] w fun e w' => e = .returned (.bool false) ∧ w = w' := by
  rcases h with h | h
  · have h' : ¬ 1 ≤ z := by omega
    go_enter Tryz.func28, Tryz.ntmps28
    go_wp2
    go_ret
    exact ⟨rfl, rfl⟩
  · have h' : ¬ z ≤ 8 := by omega
    have h1 : 1 ≤ z := by omega
    go_enter Tryz.func28, Tryz.ntmps28
    go_wp2
    go_ret
    exact ⟨rfl, rfl⟩
end Go.Proofs.YtjhflcgphejddaaGreatDoor

namespace Go.Proofs.YtjhflcgphejddaaGreatDoor
open Go.RowKit
set_option linter.unusedVariables false
set_option maxRecDepth 100000

/-- slices.IndexFunc at Check's closure (its captured size m lies in the cell c): -1 where all are as long, else a place. -/
theorem index_no (b o len cap : Nat) (c : Addr) (m : Nat) (f : Nat → ByteArray) (w : World) (h16 : len ≤ 16) (hm : w.cell? c = some (.int .i64 m))
    (hcell : ∀ i, i < len → w.cell? ⟨b, o + i, none⟩ = some (.string (f i))) (hs : ∀ i, i < len → (f i).size = m) (hm8 : m ≤ 8) :
    Calls Tryz.prog 113 #[.slice (some ⟨b, o, none⟩) len cap, .func (.func 61) #[] #[.pointer (some c)]] w fun e w' => e = .returned (.int .i64 (-1)) ∧ w = w' := by
  have HC := hide hcell
  have HS := hide hs
  clear hcell hs
  go_enter Tryz.func113, Tryz.ntmps113
  go_wp2
  go_loop [8] (fun i => ∃ j : Nat, j ≤ len ∧ i = .int .i64 j) (fun i => len - (intOf i).toNat)
  case atStart => exact ⟨0, Nat.zero_le _, rfl⟩
  case round =>
    obtain ⟨j, hj, rfl⟩ := hrel
    by_cases hlt : j < len
    · have hc := HC.out j hlt
      have hz := HS.out j hlt
      have hz' : (((f j).size : Int) != (m : Int)) = false := by rw [hz]; simp
      clear hz
      go_wp2
      go_round
      case rel => exact ⟨j + 1, by omega, by go_num⟩
      case measure => simp [intOf]; omega
    · go_wp2
      go_ret
      exact ⟨rfl, rfl⟩
theorem index_yes (b o len cap : Nat) (c : Addr) (m : Nat) (f : Nat → ByteArray) (w : World) (h16 : len ≤ 16) (hm : w.cell? c = some (.int .i64 m))
    (hcell : ∀ i, i < len → w.cell? ⟨b, o + i, none⟩ = some (.string (f i))) (q : Nat) (hq : q < len) (hs : (f q).size ≠ m) (hm8 : m ≤ 8) :
    Calls Tryz.prog 113 #[.slice (some ⟨b, o, none⟩) len cap, .func (.func 61) #[] #[.pointer (some c)]] w fun e w' => (∃ r : Nat, r ≤ 16 ∧ e = .returned (.int .i64 r)) ∧ w = w' := by
  have HC := hide hcell
  have HS := hide hs
  clear hcell hs
  go_enter Tryz.func113, Tryz.ntmps113
  go_wp2
  go_loop [8] (fun i => ∃ j : Nat, j ≤ q ∧ i = .int .i64 j) (fun i => len - (intOf i).toNat)
  case atStart => exact ⟨0, Nat.zero_le _, rfl⟩
  case round =>
    obtain ⟨j, hj, rfl⟩ := hrel
    have hlt : j < len := by omega
    have hc := HC.out j hlt
    by_cases hz : (f j).size = m
    · have hz' : (((f j).size : Int) != (m : Int)) = false := by rw [hz]; simp
      have hne : j ≠ q := fun e => HS.out (by rw [← e]; exact hz)
      have hlt2 : j < q := by omega
      clear hz hne
      go_wp2
      go_round
      case rel => exact ⟨j + 1, by omega, by go_num⟩
      case measure => simp [intOf]; omega
    · have hz' : (((f j).size : Int) != (m : Int)) = true := by rw [bne_iff_ne]; omega
      clear hz
      go_wp2
      go_ret
      exact ⟨⟨j, by omega, rfl⟩, rfl⟩

theorem contains_no (b o len cap : Nat) (c : Addr) (m : Nat) (f : Nat → ByteArray) (w : World) (h16 : len ≤ 16) (hm : w.cell? c = some (.int .i64 m))
    (hcell : ∀ i, i < len → w.cell? ⟨b, o + i, none⟩ = some (.string (f i))) (hs : ∀ i, i < len → (f i).size = m) (hm8 : m ≤ 8) :
    Calls Tryz.prog 60 #[.slice (some ⟨b, o, none⟩) len cap, .func (.func 61) #[] #[.pointer (some c)]] w fun e w' => e = .returned (.bool false) ∧ w = w' := by
  have K := hide (index_no b o len cap c m f w h16 hm hcell hs hm8)
  clear hcell hs
  go_enter Tryz.func60, Tryz.ntmps60
  go_wp2_with fail
  refine (K.out).mono ?_
  rintro e w1 ⟨rfl, rfl⟩
  go_wp2
  go_ret
  exact ⟨rfl, rfl⟩
theorem contains_yes (b o len cap : Nat) (c : Addr) (m : Nat) (f : Nat → ByteArray) (w : World) (h16 : len ≤ 16) (hm : w.cell? c = some (.int .i64 m))
    (hcell : ∀ i, i < len → w.cell? ⟨b, o + i, none⟩ = some (.string (f i))) (q : Nat) (hq : q < len) (hs : (f q).size ≠ m) (hm8 : m ≤ 8) :
    Calls Tryz.prog 60 #[.slice (some ⟨b, o, none⟩) len cap, .func (.func 61) #[] #[.pointer (some c)]] w fun e w' => e = .returned (.bool true) ∧ w = w' := by
  have K := hide (index_yes b o len cap c m f w h16 hm hcell q hq hs hm8)
  clear hcell hs
  go_enter Tryz.func60, Tryz.ntmps60
  go_wp2_with fail
  refine (K.out).mono ?_
  rintro e w1 ⟨⟨r, hr, rfl⟩, rfl⟩
  go_wp2
  go_ret
  exact ⟨rfl, rfl⟩

/-- What Check finds of strings f 0, f 1, .. (len of them): the fault's number, 0 for none. -/
theorem check_none (a : Option Addr) (cap : Nat) (w : World) :
    Calls Tryz.prog 33 #[.slice a 0 cap] w fun e w' => e = .returned (.iface 61 (.int .i64 5)) ∧ w = w' := by
  go_enter Tryz.func33, Tryz.ntmps33
  go_wp2
  go_ret
  exact ⟨rfl, rfl⟩
theorem check_full (a : Option Addr) (len cap : Nat) (w : World) (h : 16 < len) (hm : len ≤ maxLen) :
    Calls Tryz.prog 33 #[.slice a len cap] w fun e w' => e = .returned (.iface 61 (.int .i64 4)) ∧ w = w' := by
  unfold maxLen at hm
  have hl0 : ((len : Int) == 0) = false := by simp; omega
  go_enter Tryz.func33, Tryz.ntmps33
  go_wp2
  go_ret
  exact ⟨rfl, rfl⟩
theorem check_range (b o len cap : Nat) (s0 : ByteArray) (w : World) (h0 : 0 < len) (h16 : len ≤ 16)
    (hc0 : w.cell? ⟨b, o, none⟩ = some (.string s0)) (hm : s0.size ≤ maxLen) (h : s0.size < 1 ∨ 8 < s0.size) :
    Calls Tryz.prog 33 #[.slice (some ⟨b, o, none⟩) len cap] w fun e w' => e = .returned (.iface 61 (.int .i64 1)) ∧ Below w.heap.size w w' := by
  unfold maxLen at hm
  have hl0 : ((len : Int) == 0) = false := by simp; omega
  have H := hide h
  clear h
  go_enter Tryz.func33, Tryz.ntmps33
  go_wp2_with (go_at_call 28; refine (fits_no _ _ (by have := H.out; omega)).mono ?_; rintro e w' ⟨rfl, rfl⟩)
  go_ret
  exact ⟨rfl, (Below.refl _ _).alloc (Nat.le_refl _) _⟩
theorem cells_alloc {w : World} {b o len : Nat} {f : Nat → ByteArray} (hcell : ∀ i, i < len → w.cell? ⟨b, o + i, none⟩ = some (.string (f i))) (x : Obj) :
    ∀ i, i < len → (w.alloc x).cell? ⟨b, o + i, none⟩ = some (.string (f i)) := fun i hi => by
  have h := hcell i hi
  have hlt : b < w.heap.size := by
    rcases Nat.lt_or_ge b w.heap.size with h' | h'
    · exact h'
    · simp [World.cell?, Array.getElem?_eq_none h'] at h
  rw [World.cell?_alloc_lt _ _ ⟨b, o + i, none⟩ hlt]; exact h
theorem check_shape (b o len cap : Nat) (f : Nat → ByteArray) (w : World) (h0 : 0 < len) (h16 : len ≤ 16)
    (hcell : ∀ i, i < len → w.cell? ⟨b, o + i, none⟩ = some (.string (f i))) (h1 : 1 ≤ (f 0).size) (h8 : (f 0).size ≤ 8) (q : Nat) (hq : q < len) (hs : (f q).size ≠ (f 0).size) :
    Calls Tryz.prog 33 #[.slice (some ⟨b, o, none⟩) len cap] w fun e w' => e = .returned (.iface 61 (.int .i64 3)) ∧ Below w.heap.size w w' := by
  have hc0 := hcell 0 h0
  simp only [Nat.add_zero] at hc0
  have K := hide (contains_yes b o len cap ⟨w.heap.size, 0, none⟩ (f 0).size f (w.alloc (.cells #[.int .i64 (f 0).size] 3)) h16 (by simp) (cells_alloc hcell _) q hq hs h8)
  clear hcell hs
  have hl0 : ((len : Int) == 0) = false := by simp; omega
  go_enter Tryz.func33, Tryz.ntmps33
  go_wp2_with (go_at_call 28; refine (fits_yes _ _ (by omega) (by omega)).mono ?_; rintro e w' ⟨rfl, rfl⟩)
  refine (K.out).mono ?_
  rintro e w1 ⟨rfl, rfl⟩
  go_wp2
  go_ret
  exact ⟨rfl, (Below.refl _ _).alloc (Nat.le_refl _) _⟩
theorem check_ok (b o len cap : Nat) (f : Nat → ByteArray) (w : World) (h0 : 0 < len) (h16 : len ≤ 16)
    (hcell : ∀ i, i < len → w.cell? ⟨b, o + i, none⟩ = some (.string (f i))) (h1 : 1 ≤ (f 0).size) (h8 : (f 0).size ≤ 8) (hs : ∀ i, i < len → (f i).size = (f 0).size) :
    Calls Tryz.prog 33 #[.slice (some ⟨b, o, none⟩) len cap] w fun e w' => e = .returned .nilIface ∧ Below w.heap.size w w' := by
  have hc0 := hcell 0 h0
  simp only [Nat.add_zero] at hc0
  have K := hide (contains_no b o len cap ⟨w.heap.size, 0, none⟩ (f 0).size f (w.alloc (.cells #[.int .i64 (f 0).size] 3)) h16 (by simp) (cells_alloc hcell _) hs h8)
  clear hcell hs
  have hl0 : ((len : Int) == 0) = false := by simp; omega
  go_enter Tryz.func33, Tryz.ntmps33
  go_wp2_with (go_at_call 28; refine (fits_yes _ _ (by omega) (by omega)).mono ?_; rintro e w' ⟨rfl, rfl⟩)
  refine (K.out).mono ?_
  rintro e w1 ⟨rfl, rfl⟩
  go_wp2
  go_ret
  exact ⟨rfl, (Below.refl _ _).alloc (Nat.le_refl _) _⟩
end Go.Proofs.YtjhflcgphejddaaGreatDoor

namespace Go.Proofs.YtjhflcgphejddaaGreatDoor
open Go.RowKit
set_option linter.unusedVariables false
set_option maxRecDepth 100000

theorem iindex_no (b o n cap : Nat) (v : Int) (f : Nat → Int) (w : World) (hn : n ≤ maxLen)
    (hcell : ∀ i, i < n → w.cell? ⟨b, o + i, none⟩ = some (.int .i64 (f i))) (hs : ∀ i, i < n → f i ≠ v) :
    Calls Tryz.prog 146 #[.slice (some ⟨b, o, none⟩) n cap, .int .i64 v] w fun e w' => e = .returned (.int .i64 (-1)) ∧ w = w' := by
  unfold maxLen at hn
  have HC := hide hcell
  have HS := hide hs
  clear hcell hs
  go_enter Tryz.func146, Tryz.ntmps146
  go_wp2
  go_loop [8] (fun i => ∃ j : Nat, j ≤ n ∧ i = .int .i64 j) (fun i => n - (intOf i).toNat)
  case atStart => exact ⟨0, Nat.zero_le _, rfl⟩
  case round =>
    obtain ⟨j, hj, rfl⟩ := hrel
    by_cases hlt : j < n
    · have hc := HC.out j hlt
      have hz := HS.out j hlt
      have hz' : (v == f j) = false := by rw [beq_eq_false_iff_ne]; exact fun h => hz h.symm
      clear hz
      go_wp2
      go_round
      case rel => exact ⟨j + 1, by omega, by go_num⟩
      case measure => simp [intOf]; omega
    · go_wp2
      go_ret
      exact ⟨rfl, rfl⟩
theorem iindex_yes (b o n cap : Nat) (v : Int) (f : Nat → Int) (w : World) (hn : n ≤ maxLen)
    (hcell : ∀ i, i < n → w.cell? ⟨b, o + i, none⟩ = some (.int .i64 (f i))) (q : Nat) (hq : q < n) (hs : f q = v) :
    Calls Tryz.prog 146 #[.slice (some ⟨b, o, none⟩) n cap, .int .i64 v] w fun e w' => (∃ r : Nat, r < n ∧ e = .returned (.int .i64 r)) ∧ w = w' := by
  unfold maxLen at hn
  have HC := hide hcell
  have HS := hide hs
  clear hcell hs
  go_enter Tryz.func146, Tryz.ntmps146
  go_wp2
  go_loop [8] (fun i => ∃ j : Nat, j ≤ q ∧ i = .int .i64 j) (fun i => n - (intOf i).toNat)
  case atStart => exact ⟨0, Nat.zero_le _, rfl⟩
  case round =>
    obtain ⟨j, hj, rfl⟩ := hrel
    have hlt : j < n := by omega
    have hc := HC.out j hlt
    by_cases hz : f j = v
    · have hz' : (v == f j) = true := by rw [beq_iff_eq]; exact hz.symm
      clear hz
      go_wp2
      go_ret
      exact ⟨⟨j, by omega, rfl⟩, rfl⟩
    · have hz' : (v == f j) = false := by rw [beq_eq_false_iff_ne]; exact fun h => hz h.symm
      have hne : j ≠ q := fun e => hz (by rw [e]; exact HS.out)
      have hlt2 : j < q := by omega
      clear hz hne
      go_wp2
      go_round
      case rel => exact ⟨j + 1, by omega, by go_num⟩
      case measure => simp [intOf]; omega
theorem icontains_no (b o n cap : Nat) (v : Int) (f : Nat → Int) (w : World) (hn : n ≤ maxLen)
    (hcell : ∀ i, i < n → w.cell? ⟨b, o + i, none⟩ = some (.int .i64 (f i))) (hs : ∀ i, i < n → f i ≠ v) :
    Calls Tryz.prog 118 #[.slice (some ⟨b, o, none⟩) n cap, .int .i64 v] w fun e w' => e = .returned (.bool false) ∧ w = w' := by
  have K := hide (iindex_no b o n cap v f w hn hcell hs)
  clear hcell hs
  go_enter Tryz.func118, Tryz.ntmps118
  go_wp2_with fail
  refine (K.out).mono ?_
  rintro e w1 ⟨rfl, rfl⟩
  go_wp2
  go_ret
  exact ⟨rfl, rfl⟩
theorem icontains_yes (b o n cap : Nat) (v : Int) (f : Nat → Int) (w : World) (hn : n ≤ maxLen)
    (hcell : ∀ i, i < n → w.cell? ⟨b, o + i, none⟩ = some (.int .i64 (f i))) (q : Nat) (hq : q < n) (hs : f q = v) :
    Calls Tryz.prog 118 #[.slice (some ⟨b, o, none⟩) n cap, .int .i64 v] w fun e w' => e = .returned (.bool true) ∧ w = w' := by
  have K := hide (iindex_yes b o n cap v f w hn hcell q hq hs)
  clear hcell hs
  unfold maxLen at hn
  go_enter Tryz.func118, Tryz.ntmps118
  go_wp2_with fail
  refine (K.out).mono ?_
  rintro e w1 ⟨⟨r, hr, rfl⟩, rfl⟩
  go_wp2
  go_ret
  exact ⟨rfl, rfl⟩

/-- Place i is one of many, and was not named ahead. -/
def goodAt (f : Nat → Int) (many i : Nat) : Prop := (0 ≤ f i ∧ f i < (many : Int)) ∧ ∀ j, j < i → f j ≠ f i
/-- What is wrong with place i. -/
def faultAt (f : Nat → Int) (many i : Nat) : Int := if 0 ≤ f i ∧ f i < (many : Int) then 7 else 1

theorem named_none (a : Option Addr) (cap : Nat) (m : Int) (w : World) :
    Calls Tryz.prog 67 #[.slice a 0 cap, .int .i64 m] w fun e w' => e = .returned (.iface 61 (.int .i64 5)) ∧ w = w' := by
  go_enter Tryz.func67, Tryz.ntmps67
  go_wp2
  go_ret
  exact ⟨rfl, rfl⟩

set_option maxHeartbeats 1000000 in
theorem named_ok (b o n cap many : Nat) (f : Nat → Int) (w : World) (h0 : 0 < n) (hnc : n ≤ cap) (hc : cap ≤ maxLen)
    (hcell : ∀ i, i < n → w.cell? ⟨b, o + i, none⟩ = some (.int .i64 (f i))) (hg : ∀ i, i < n → goodAt f many i) :
    Calls Tryz.prog 67 #[.slice (some ⟨b, o, none⟩) n cap, .int .i64 many] w fun e w' => e = .returned .nilIface ∧ w = w' := by
  unfold maxLen at hc
  have HC := hide hcell
  have HG := hide hg
  clear hcell hg
  have hl0 : ((n : Int) == 0) = false := by simp; omega
  go_enter Tryz.func67, Tryz.ntmps67
  go_wp2
  go_loop [13] (fun i => ∃ j : Nat, j ≤ n ∧ i = .int .i64 j) (fun i => n - (intOf i).toNat)
  case atStart => exact ⟨0, Nat.zero_le _, rfl⟩
  case round =>
    obtain ⟨j, hj, rfl⟩ := hrel
    by_cases hlt : j < n
    · have hc := HC.out j hlt
      obtain ⟨⟨h1, h2⟩, h3⟩ := HG.out j hlt
      have K := hide (fun cap => icontains_no b o j cap (f j) f w (by unfold maxLen; omega) (fun i hi => HC.out i (by omega)) h3)
      have h1' : ¬ f j < 0 := by omega
      have h2' : ¬ (many : Int) ≤ f j := by omega
      clear h3
      go_wp2_with fail
      refine (K.out _).mono ?_
      rintro e w1 ⟨rfl, rfl⟩
      go_wp2
      go_round
      case rel => exact ⟨j + 1, by omega, by go_num⟩
      case measure => simp [intOf]; omega
    · go_wp2
      go_ret
      exact ⟨rfl, rfl⟩
set_option maxHeartbeats 1000000 in
theorem named_bad (b o n cap many : Nat) (f : Nat → Int) (w : World) (hnc : n ≤ cap) (hc : cap ≤ maxLen)
    (hcell : ∀ i, i < n → w.cell? ⟨b, o + i, none⟩ = some (.int .i64 (f i))) (q : Nat) (hq : q < n) (hg : ∀ i, i < q → goodAt f many i) (hb : ¬ goodAt f many q) :
    Calls Tryz.prog 67 #[.slice (some ⟨b, o, none⟩) n cap, .int .i64 many] w fun e w' => e = .returned (.iface 61 (.int .i64 (faultAt f many q))) ∧ w = w' := by
  unfold maxLen at hc
  have HC := hide hcell
  have HG := hide hg
  have HB := hide hb
  clear hcell hg hb
  have hl0 : ((n : Int) == 0) = false := by simp; omega
  go_enter Tryz.func67, Tryz.ntmps67
  go_wp2
  go_loop [13] (fun i => ∃ j : Nat, j ≤ q ∧ i = .int .i64 j) (fun i => n - (intOf i).toNat)
  case atStart => exact ⟨0, Nat.zero_le _, rfl⟩
  case round =>
    obtain ⟨j, hj, rfl⟩ := hrel
    have hlt : j < n := by omega
    have hc := HC.out j hlt
    by_cases hjq : j < q
    · obtain ⟨⟨h1, h2⟩, h3⟩ := HG.out j hjq
      have K := hide (fun cap => icontains_no b o j cap (f j) f w (by unfold maxLen; omega) (fun i hi => HC.out i (by omega)) h3)
      have h1' : ¬ f j < 0 := by omega
      have h2' : ¬ (many : Int) ≤ f j := by omega
      clear h3
      go_wp2_with fail
      refine (K.out _).mono ?_
      rintro e w1 ⟨rfl, rfl⟩
      go_wp2
      go_round
      case rel => exact ⟨j + 1, by omega, by go_num⟩
      case measure => simp [intOf]; omega
    · obtain rfl : j = q := by omega
      by_cases hin : 0 ≤ f j ∧ f j < (many : Int)
      · have hx : ∃ r, r < j ∧ f r = f j := Classical.byContradiction fun hn => HB.out ⟨hin, fun r hr e => hn ⟨r, hr, e⟩⟩
        obtain ⟨r, hr, hrr⟩ := hx
        have K := hide (fun cap => icontains_yes b o j cap (f j) f w (by unfold maxLen; omega) (fun i hi => HC.out i (by omega)) r hr hrr)
        have hF : Hid (faultAt f many j = 7) := by unfold Hid faultAt; rw [if_pos hin]
        obtain ⟨h1, h2⟩ := hin
        have h1' : ¬ f j < 0 := by omega
        have h2' : ¬ (many : Int) ≤ f j := by omega
        clear hr hrr
        go_wp2_with fail
        refine (K.out _).mono ?_
        rintro e w1 ⟨rfl, rfl⟩
        go_wp2
        go_ret
        rw [hF.out]
        exact ⟨rfl, rfl⟩
      · have hF : Hid (faultAt f many j = 1) := by unfold Hid faultAt; rw [if_neg hin]
        by_cases h1 : f j < 0
        · clear hin
          go_wp2
          go_ret
          rw [hF.out]
          exact ⟨rfl, rfl⟩
        · have h2 : (many : Int) ≤ f j := by omega
          clear hin
          go_wp2
          go_ret
          rw [hF.out]
          exact ⟨rfl, rfl⟩
/-- All places are right, or one is the first that is not. -/
theorem good_or (f : Nat → Int) (many : Nat) : ∀ n, (∀ i, i < n → goodAt f many i) ∨ ∃ q, q < n ∧ (∀ i, i < q → goodAt f many i) ∧ ¬ goodAt f many q
  | 0 => Or.inl (fun i hi => absurd hi (Nat.not_lt_zero _))
  | n + 1 => by
    rcases good_or f many n with h | ⟨q, hq, h1, h2⟩
    · by_cases hn : goodAt f many n
      · refine Or.inl (fun i hi => ?_)
        rcases Nat.lt_or_ge i n with h' | h'
        · exact h i h'
        · obtain rfl : i = n := by omega
          exact hn
      · exact Or.inr ⟨n, Nat.lt_succ_self _, h, hn⟩
    · exact Or.inr ⟨q, by omega, h1, h2⟩
end Go.Proofs.YtjhflcgphejddaaGreatDoor

namespace Go.Proofs.YtjhflcgphejddaaGreatDoor
open Go.RowKit
set_option linter.unusedVariables false
set_option maxRecDepth 100000

set_option maxHeartbeats 1000000 in
theorem lay_any (b n cap : Nat) (s : ByteArray) (f : Nat → UInt8) (w : World) (hn : n ≤ 1000) (hs : s.size = n) (hr : BRow w b n f) :
    Calls Tryz.prog 68 #[.slice (some ⟨b, 0, none⟩) n cap, .string s] w fun e w' => e = .returned (.tuple #[]) ∧ BRow w' b n (fun i => f i ^^^ atB s i) ∧ Below b w w' := by
  go_enter Tryz.func68, Tryz.ntmps68
  go_wp2
  go_loopw [7] (fun i wr => ∃ j : Nat, j ≤ n ∧ i = .int .i64 j ∧ BRow wr b n (fun i => if i < j then f i ^^^ atB s i else f i) ∧ Below b w wr) (fun i _ => n - (intOf i).toNat)
  case atStart => exact ⟨0, Nat.zero_le _, rfl, hr.congr (fun i _ => by simp), Below.refl _ _⟩
  case round =>
    obtain ⟨j, hj, rfl, hrow, hb⟩ := hrel
    by_cases hlt : j < n
    · obtain ⟨hcell, hfr⟩ := hrow j hlt
      simp only [Nat.lt_irrefl, if_false] at hcell
      have hset := hrow.set j (f j ^^^ atB s j)
      go_wp2
      go_region
      all_goals go_wp2
      all_goals go_roundw
      case rel =>
        rw [← atB_eq s j (by omega), xor_bits]
        refine ⟨j + 1, by omega, by go_num, hset.congr (fun i hi => ?_), (hb.setCell (Nat.le_refl _) _).drew⟩
        by_cases e1 : i = j
        · subst e1; simp
        · by_cases e2 : i < j
          · simp [e1, e2, show i < j + 1 by omega]
          · simp [e1, e2, show ¬ i < j + 1 by omega]
      case measure => simp [intOf]; omega
    · go_wp2
      go_end0
      obtain rfl : j = n := by omega
      exact ⟨rfl, hrow.congr (fun i hi => by simp [hi]), hb⟩
end Go.Proofs.YtjhflcgphejddaaGreatDoor

namespace Go.Proofs.YtjhflcgphejddaaGreatDoor
open Go.RowKit
set_option linter.unusedVariables false
set_option maxRecDepth 100000

/-- Byte i of the first k named blocks over one another. -/
def xsum (g : Nat → ByteArray) (f : Nat → Int) : Nat → Nat → UInt8
  | 0, _ => 0
  | k + 1, i => xsum g f k i ^^^ atB (g (f k).toNat) i
/-- n named blocks over one another. -/
def sumB (g : Nat → ByteArray) (f : Nat → Int) (n : Nat) : ByteArray := bytesB (g 0).size (xsum g f n)
theorem sumB_size (g : Nat → ByteArray) (f : Nat → Int) (n : Nat) : (sumB g f n).size = (g 0).size := bytesB_size _ _
theorem sumB_at (g : Nat → ByteArray) (f : Nat → Int) (n i : Nat) (h : i < (g 0).size) : atB (sumB g f n) i = xsum g f n i := bytesB_at _ _ _ h

/-- Check finds a fault: it is told. -/
theorem sum_check (l of : Value) (w : World) (x : Int)
    (hC : Calls Tryz.prog 33 #[l] w fun e w' => e = .returned (.iface 61 (.int .i64 x)) ∧ Below w.heap.size w w') :
    Calls Tryz.prog 35 #[l, of] w fun e w' => e = .returned (.tuple #[.string ⟨#[]⟩, .iface 61 (.int .i64 x)]) ∧ Below w.heap.size w w' := by
  have K := hide hC
  clear hC
  go_enter Tryz.func35, Tryz.ntmps35
  go_wp2_with fail
  refine (K.out).mono ?_
  rintro e w1 ⟨rfl, hb⟩
  go_wp2
  go_ret2
  exact ⟨rfl, hb⟩
/-- Check finds none, and the places are wrong. -/
theorem sum_named (b o len cap : Nat) (of : Value) (w : World) (x : Int) (hlen : len ≤ 16)
    (hC : Calls Tryz.prog 33 #[.slice (some ⟨b, o, none⟩) len cap] w fun e w' => e = .returned .nilIface ∧ Below w.heap.size w w')
    (hN : ∀ w1, Below w.heap.size w w1 → Calls Tryz.prog 67 #[of, .int .i64 len] w1 fun e w' => e = .returned (.iface 61 (.int .i64 x)) ∧ w1 = w') :
    Calls Tryz.prog 35 #[.slice (some ⟨b, o, none⟩) len cap, of] w fun e w' => e = .returned (.tuple #[.string ⟨#[]⟩, .iface 61 (.int .i64 x)]) ∧ Below w.heap.size w w' := by
  have K := hide hC
  have KN := hide hN
  clear hC hN
  go_enter Tryz.func35, Tryz.ntmps35
  go_wp2_with fail
  refine (K.out).mono ?_
  rintro e w1 ⟨rfl, hb⟩
  go_wp2_with fail
  refine (KN.out _ hb).mono ?_
  rintro e w2 ⟨rfl, rfl⟩
  go_wp2
  go_ret2
  exact ⟨rfl, hb⟩

theorem row_zero {w : World} {b n : Nat} {t : TypeId} (h : w.rowIs b t n (fun _ => .int .u8 0)) : BRow w b n (fun _ => 0) := fun i hi => ⟨h.cell hi, h.frozen i⟩

set_option maxHeartbeats 2000000 in
theorem sum_ok (b o len cap b2 o2 n cap2 : Nat) (g : Nat → ByteArray) (f : Nat → Int) (w : World) (hl0 : 0 < len) (hlen : len ≤ 16)
    (hcell : ∀ i, i < len → w.cell? ⟨b, o + i, none⟩ = some (.string (g i))) (h1 : 1 ≤ (g 0).size) (h8 : (g 0).size ≤ 8) (hs : ∀ i, i < len → (g i).size = (g 0).size)
    (h0 : 0 < n) (hnc : n ≤ cap2) (hc : cap2 ≤ maxLen) (hcell2 : ∀ i, i < n → w.cell? ⟨b2, o2 + i, none⟩ = some (.int .i64 (f i))) (hg : ∀ i, i < n → goodAt f len i) :
    Calls Tryz.prog 35 #[.slice (some ⟨b, o, none⟩) len cap, .slice (some ⟨b2, o2, none⟩) n cap2] w fun e w' => e = .returned (.tuple #[.string (sumB g f n), .nilIface]) ∧ Below w.heap.size w w' := by
  have K := hide (check_ok b o len cap g w hl0 hlen hcell h1 h8 hs)
  have KN := hide (fun w1 (hb : Below w.heap.size w w1) => named_ok b2 o2 n cap2 len f w1 h0 hnc hc (fun i hi => cell_below hb (hcell2 i hi)) hg)
  have HC := hide hcell
  have HC2 := hide hcell2
  have HG := hide hg
  have HS := hide hs
  have hm : n ≤ 9223372036854775807 := by unfold maxLen at hc; omega
  unfold maxLen at hc
  clear hcell hcell2 hg hs
  obtain ⟨m, hm0⟩ : ∃ m, m = (g 0).size := ⟨_, rfl⟩
  have hmk := run_make_row' (P := Tryz.prog) 74 5 (.int .u8 0) 1 Tryz.underlying74 Tryz.infoU8 rfl .i64 .i64 (g 0).size (by omega) (by omega)
  go_enter Tryz.func35, Tryz.ntmps35
  go_wp2_with fail
  refine (K.out).mono ?_
  rintro e w1 ⟨rfl, hb⟩
  go_wp2_with fail
  refine (KN.out _ hb).mono ?_
  rintro e w2 ⟨rfl, rfl⟩
  have hc0 := cell_below hb (HC.out 0 hl0)
  rw [Nat.add_zero] at hc0
  go_wp2
  go_loopw [30] (fun i wr => ∃ j : Nat, j ≤ n ∧ i = .int .i64 j ∧ BRow wr w1.heap.size (g 0).size (xsum g f j) ∧ Below w1.heap.size w1 wr) (fun i _ => n - (intOf i).toNat)
  case atStart => exact ⟨0, Nat.zero_le _, rfl, row_zero (World.rowIs_made _ _ _ _), (Below.refl _ _).alloc (Nat.le_refl _) _⟩
  case round =>
    obtain ⟨j, hj, rfl, hrow, hb1⟩ := hrel
    by_cases hlt : j < n
    · have hb2 := below_two hb hb1
      have hcj := cell_below hb2 (HC2.out j hlt)
      obtain ⟨⟨hf0, hf1⟩, _⟩ := HG.out j hlt
      obtain ⟨p, hp⟩ := Int.eq_ofNat_of_zero_le hf0
      have hp' : (f j).toNat = p := by rw [hp]; rfl
      have hpl : p < len := by omega
      have hcp := cell_below hb2 (HC.out p hpl)
      have L := hide (lay_any w1.heap.size (g 0).size (g 0).size (g p) _ wr (by omega) (HS.out p hpl) hrow)
      rw [hp] at hcj
      clear hf0 hf1
      have HP := hide hp'
      clear hp hp'
      go_wp2_with fail
      refine (L.out).mono ?_
      rintro e w3 ⟨rfl, hr3, hb3⟩
      go_wp2
      go_roundw
      case rel => exact ⟨j + 1, by omega, by go_num, hr3.congr (fun i _ => by rw [xsum, HP.out]), hb1.trans hb3⟩
      case measure => simp [intOf]; omega
    · obtain rfl : j = n := by omega
      have hbk := back_row (cap := (g 0).size) hrow
      have hb2 := below_two hb hb1
      go_wp2
      go_ret2
      exact ⟨rfl, hb2⟩
end Go.Proofs.YtjhflcgphejddaaGreatDoor

namespace Go.Proofs.YtjhflcgphejddaaGreatDoor
open Go.RowKit Go.Maps
set_option linter.unusedVariables false
set_option maxRecDepth 100000

set_option maxHeartbeats 1000000 in
theorem make_check (l : Value) (seed : Int) (w : World) (x : Int)
    (hK : ∀ w1, Below w.heap.size w w1 → Calls Tryz.prog 33 #[l] w1 fun e w' => e = .returned (.iface 61 (.int .i64 x)) ∧ Below w1.heap.size w1 w') :
    Calls Tryz.prog 11 #[l, .int .i64 seed] w fun e w' => e = .returned (.tuple #[dropV 0 ⟨#[]⟩, .iface 61 (.int .i64 x)]) ∧ Below w.heap.size w w' := by
  have hb0 : Below w.heap.size w (w.alloc (.cells #[.int .i64 0, .string ⟨#[]⟩] 43)) := (Below.refl _ _).alloc (Nat.le_refl _) _
  have K := hide (hK _ hb0)
  have HB0 := hide hb0
  clear hK hb0
  go_enter Tryz.func11, Tryz.ntmps11
  go_wp2_with fail
  refine (K.out).mono ?_
  rintro e w1 ⟨rfl, hb⟩
  have HD := hide ((dropIn_new w 0 ⟨#[]⟩).below hb)
  obtain ⟨⟨c0, f0⟩, c1, f1⟩ := HD.out
  have HB := hide (below_two HB0.out hb)
  clear hb HB0
  go_wp2
  refine bodyPost_ret (v := .tuple #[dropV 0 ⟨#[]⟩, .iface 61 (.int .i64 x)]) (by simp only [Nat.zero_add] at c1; simp [results, Tryz.results11, go_sem, dropV, c0, c1]) rfl ⟨rfl, ?_⟩
  exact (HB.out.setCell (Nat.le_refl _) _).setCell (Nat.le_refl _) _

theorem setL_good {k seed : Nat} (hk : 1 ≤ k) (h1 : 1 ≤ seed) : ∀ i, i < (setL k seed).length → goodAt (fun i => (((setL k seed).getD i 0 : Nat) : Int)) k i := fun i hi => by
  have hm : ∀ j, (h : j < (setL k seed).length) → (setL k seed).getD j 0 = (setL k seed)[j] := fun j h => by simp [List.getD, h]
  refine ⟨⟨Int.natCast_nonneg _, ?_⟩, fun j hj => ?_⟩
  · show (((setL k seed).getD i 0 : Nat) : Int) < k
    rw [hm i hi]
    have := setL_lt hk h1 (List.getElem_mem hi)
    omega
  · show (((setL k seed).getD j 0 : Nat) : Int) ≠ (((setL k seed).getD i 0 : Nat) : Int)
    rw [hm i hi, hm j (by omega)]
    have := List.pairwise_iff_getElem.1 (setL_rise k seed) j i (by omega) hi hj
    omega

/-- What is in a drop of the blocks g. -/
noncomputable def dropB (g : Nat → ByteArray) (k seed : Nat) : ByteArray := sumB g (fun i => (((setL k seed).getD i 0 : Nat) : Int)) (setL k seed).length
theorem dropB_size (g : Nat → ByteArray) (k seed : Nat) : (dropB g k seed).size = (g 0).size := sumB_size _ _ _

set_option maxHeartbeats 1000000 in
theorem make_seed (b o len cap : Nat) (g : Nat → ByteArray) (seed : Int) (w : World) (hl0 : 0 < len) (hlen : len ≤ 16)
    (hcell : ∀ i, i < len → w.cell? ⟨b, o + i, none⟩ = some (.string (g i))) (h1 : 1 ≤ (g 0).size) (h8 : (g 0).size ≤ 8) (hs : ∀ i, i < len → (g i).size = (g 0).size) (hseed : seed < 1 ∨ 10000 < seed) :
    Calls Tryz.prog 11 #[.slice (some ⟨b, o, none⟩) len cap, .int .i64 seed] w fun e w' => e = .returned (.tuple #[dropV 0 ⟨#[]⟩, .iface 61 (.int .i64 1)]) ∧ Below w.heap.size w w' := by
  have hb0 : Below w.heap.size w (w.alloc (.cells #[.int .i64 0, .string ⟨#[]⟩] 43)) := (Below.refl _ _).alloc (Nat.le_refl _) _
  have K := hide (check_ok b o len cap g _ hl0 hlen (fun i hi => cell_below hb0 (hcell i hi)) h1 h8 hs)
  have S := hide (fun w1 => set_range len seed w1 (Or.inr hseed))
  have HB0 := hide hb0
  clear hcell hs hb0 hseed
  go_enter Tryz.func11, Tryz.ntmps11
  go_wp2_with fail
  refine (K.out).mono ?_
  rintro e w1 ⟨rfl, hb⟩
  obtain ⟨⟨c0, f0⟩, c1, f1⟩ := (dropIn_new w 0 ⟨#[]⟩).below hb
  have HB := hide (below_two HB0.out hb)
  clear hb HB0
  go_wp2_with fail
  refine (S.out w1).mono ?_
  rintro e w2 ⟨rfl, rfl⟩
  go_wp2
  refine bodyPost_ret (v := .tuple #[dropV 0 ⟨#[]⟩, .iface 61 (.int .i64 1)]) (by simp only [Nat.zero_add] at c1; simp [results, Tryz.results11, go_sem, dropV, c0, c1]) rfl ⟨rfl, ?_⟩
  exact (HB.out.setCell (Nat.le_refl _) _).setCell (Nat.le_refl _) _

set_option maxHeartbeats 1000000 in
theorem make_ok (b o len cap : Nat) (g : Nat → ByteArray) (seed : Nat) (w : World) (hl0 : 0 < len) (hlen : len ≤ 16)
    (hcell : ∀ i, i < len → w.cell? ⟨b, o + i, none⟩ = some (.string (g i))) (h1 : 1 ≤ (g 0).size) (h8 : (g 0).size ≤ 8) (hs : ∀ i, i < len → (g i).size = (g 0).size) (hs1 : 1 ≤ seed) (hs2 : seed ≤ 10000) :
    Calls Tryz.prog 11 #[.slice (some ⟨b, o, none⟩) len cap, .int .i64 seed] w fun e w' => e = .returned (.tuple #[dropV seed (dropB g len seed), .nilIface]) ∧ Below w.heap.size w w' := by
  have hb0 : Below w.heap.size w (w.alloc (.cells #[.int .i64 0, .string ⟨#[]⟩] 43)) := (Below.refl _ _).alloc (Nat.le_refl _) _
  have K := hide (check_ok b o len cap g _ hl0 hlen (fun i hi => cell_below hb0 (hcell i hi)) h1 h8 hs)
  have S := hide (fun w1 => set_ok len seed w1 hl0 hlen hs1 hs2)
  have U : Hid (∀ w1, Below w.heap.size w w1 → ∀ v, Lst w1 v (setL len seed) → Calls Tryz.prog 35 #[.slice (some ⟨b, o, none⟩) len cap, v] w1 fun e w' => e = .returned (.tuple #[.string (dropB g len seed), .nilIface]) ∧ Below w1.heap.size w1 w') := by
    rintro w1 hb v ⟨p, cap2, rfl, hc1, hc2, hc⟩
    exact sum_ok b o len cap p 0 _ cap2 g _ w1 hl0 hlen (fun i hi => cell_below hb (hcell i hi)) h1 h8 hs (setL_len hl0 hlen hs1 hs2).1 hc1 hc2 hc (setL_good hl0 hs1)
  have HB0 := hide hb0
  clear hcell hs hb0
  generalize dropB g len seed = z at *
  go_enter Tryz.func11, Tryz.ntmps11
  go_wp2_with fail
  refine (K.out).mono ?_
  rintro e w1 ⟨rfl, hb⟩
  have HD := hide ((dropIn_new w 0 ⟨#[]⟩).below hb)
  have HB := hide (below_two HB0.out hb)
  clear hb HB0
  go_wp2_with fail
  refine (S.out w1).mono ?_
  rintro e w2 ⟨v, rfl, hl, hb2⟩
  have U2 := hide (U.out w2 (below_two HB.out hb2) v hl)
  have HD2 := hide (HD.out.below hb2)
  have HB2 := hide (below_two HB.out hb2)
  clear hl hb2
  go_wp2_with fail
  refine (U2.out).mono ?_
  rintro e w3 ⟨rfl, hb3⟩
  obtain ⟨⟨c0, f0⟩, c1, f1⟩ := HD2.out.below hb3
  have HB3 := hide (below_two HB2.out hb3)
  clear hb3
  go_wp2
  refine bodyPost_ret (v := .tuple #[dropV seed z, .nilIface]) (by simp only [Nat.zero_add] at c1; simp [results, Tryz.results11, go_sem, dropV, c0, c1]) rfl ⟨rfl, ?_⟩
  exact (HB3.out.setCell (Nat.le_refl _) _).setCell (Nat.le_refl _) _

set_option maxHeartbeats 1000000 in
theorem dcheck_ok (k size seed : Int) (s : ByteArray) (w : World) (h1 : 1 ≤ k ∧ k ≤ 16) (h2 : 1 ≤ size ∧ size ≤ 8) (h3 : 1 ≤ seed ∧ seed ≤ 10000) (h4 : (s.size : Int) = size) :
    Calls Tryz.prog 36 #[.int .i64 k, .int .i64 size, dropV seed s] w fun e w' => e = .returned .nilIface ∧ Below w.heap.size w w' := by
  have W1 := hide (fun w => within_ok k 16 w h1.1 h1.2)
  have W2 := hide (fun w => within_ok size 8 w h2.1 h2.2)
  have W3 := hide (fun w => within_ok seed 10000 w h3.1 h3.2)
  unfold dropV
  have hne : ((s.size : Int) == size) = true := by simp [h4]
  go_enter Tryz.func36, Tryz.ntmps36
  go_wp2_with fail
  refine (W1.out _).mono ?_
  rintro e w1 ⟨rfl, rfl⟩
  go_wp2_with fail
  refine (W2.out _).mono ?_
  rintro e w1 ⟨rfl, rfl⟩
  go_wp2_with fail
  refine (W3.out _).mono ?_
  rintro e w1 ⟨rfl, rfl⟩
  go_wp2
  go_ret
  exact ⟨rfl, (Below.refl _ _).alloc (Nat.le_refl _) _⟩
set_option maxHeartbeats 1000000 in
theorem dcheck_shape (k size seed : Int) (s : ByteArray) (w : World) (h1 : 1 ≤ k ∧ k ≤ 16) (h2 : 1 ≤ size ∧ size ≤ 8) (h3 : 1 ≤ seed ∧ seed ≤ 10000) (h4 : (s.size : Int) ≠ size) :
    Calls Tryz.prog 36 #[.int .i64 k, .int .i64 size, dropV seed s] w fun e w' => e = .returned (.iface 61 (.int .i64 3)) ∧ Below w.heap.size w w' := by
  have W1 := hide (fun w => within_ok k 16 w h1.1 h1.2)
  have W2 := hide (fun w => within_ok size 8 w h2.1 h2.2)
  have W3 := hide (fun w => within_ok seed 10000 w h3.1 h3.2)
  have hne : ((s.size : Int) == size) = false := by simp [h4]
  unfold dropV
  go_enter Tryz.func36, Tryz.ntmps36
  go_wp2_with fail
  refine (W1.out _).mono ?_
  rintro e w1 ⟨rfl, rfl⟩
  go_wp2_with fail
  refine (W2.out _).mono ?_
  rintro e w1 ⟨rfl, rfl⟩
  go_wp2_with fail
  refine (W3.out _).mono ?_
  rintro e w1 ⟨rfl, rfl⟩
  go_wp2
  go_ret
  exact ⟨rfl, (Below.refl _ _).alloc (Nat.le_refl _) _⟩
set_option maxHeartbeats 1000000 in
theorem dcheck_range (k size seed : Int) (s : ByteArray) (w : World) (h : ¬ ((1 ≤ k ∧ k ≤ 16) ∧ (1 ≤ size ∧ size ≤ 8) ∧ 1 ≤ seed ∧ seed ≤ 10000)) :
    Calls Tryz.prog 36 #[.int .i64 k, .int .i64 size, dropV seed s] w fun e w' => e = .returned (.iface 61 (.int .i64 1)) ∧ Below w.heap.size w w' := by
  by_cases h1 : 1 ≤ k ∧ k ≤ 16
  · have W1 := hide (fun w => within_ok k 16 w h1.1 h1.2)
    by_cases h2 : 1 ≤ size ∧ size ≤ 8
    · have W2 := hide (fun w => within_ok size 8 w h2.1 h2.2)
      have W3 := hide (fun w => within_not seed 10000 w (by omega))
      clear h h1 h2
      unfold dropV
      go_enter Tryz.func36, Tryz.ntmps36
      go_wp2_with fail
      refine (W1.out _).mono ?_
      rintro e w1 ⟨rfl, rfl⟩
      go_wp2_with fail
      refine (W2.out _).mono ?_
      rintro e w1 ⟨rfl, rfl⟩
      go_wp2_with fail
      refine (W3.out _).mono ?_
      rintro e w1 ⟨rfl, rfl⟩
      go_wp2
      go_ret
      exact ⟨rfl, (Below.refl _ _).alloc (Nat.le_refl _) _⟩
    · have W2 := hide (fun w => within_not size 8 w (by omega))
      clear h h1 h2
      unfold dropV
      go_enter Tryz.func36, Tryz.ntmps36
      go_wp2_with fail
      refine (W1.out _).mono ?_
      rintro e w1 ⟨rfl, rfl⟩
      go_wp2_with fail
      refine (W2.out _).mono ?_
      rintro e w1 ⟨rfl, rfl⟩
      go_wp2
      go_ret
      exact ⟨rfl, (Below.refl _ _).alloc (Nat.le_refl _) _⟩
  · have W1 := hide (fun w => within_not k 16 w (by omega))
    clear h h1
    unfold dropV
    go_enter Tryz.func36, Tryz.ntmps36
    go_wp2_with fail
    refine (W1.out _).mono ?_
    rintro e w1 ⟨rfl, rfl⟩
    go_wp2
    go_ret
    exact ⟨rfl, (Below.refl _ _).alloc (Nat.le_refl _) _⟩
end Go.Proofs.YtjhflcgphejddaaGreatDoor
