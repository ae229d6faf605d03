/-
  Lemmas for the law above, joined into one text (U8, Named, Lay, XorN, Sum). No statement is proved here.
-/
import Derived.Test.YtjgifjkdgoijmaaGreatDoorYG0
import Derived.Lib.Strings
import Derived.Laws.MakeOwn
import Derived.Laws.IdiomStrings
import Derived.Laws.BitsAll
import Derived.RegionTactic
import Derived.BigRegion
import Derived.Test.YtjgifjkdgoijmaaGreatDoorYG2
import Derived.Deep.OwnRows
namespace Go.Proofs.YtjgifjkdgoijmaaGreatDoor
open Go.RowKit
set_option linter.unusedVariables false
set_option maxRecDepth 100000

theorem Tryz.infoU8 : (Tryz.prog.info? 5).map (fun i => (i.zero, i.size, i.bytes)) = some (some (.int .u8 0), 1, 1) := by kernel_rfl
end Go.Proofs.YtjgifjkdgoijmaaGreatDoor

namespace Go.Proofs.YtjgifjkdgoijmaaGreatDoor
open Go.RowKit
set_option linter.unusedVariables false
set_option maxRecDepth 100000

theorem iindex_no (b o n cap : Nat) (v : Int) (f : Nat → Int) (w : World) (hn : n ≤ maxLen)
    (hcell : ∀ i, i < n → w.cell? ⟨b, o + i, none⟩ = some (.int .i64 (f i))) (hs : ∀ i, i < n → f i ≠ v) :
    Calls Tryz.prog 123 #[.slice (some ⟨b, o, none⟩) n cap, .int .i64 v] w fun e w' => e = .returned (.int .i64 (-1)) ∧ w = w' := by
  unfold maxLen at hn
  have HC := hide hcell
  have HS := hide hs
  clear hcell hs
  go_enter Tryz.func123, Tryz.ntmps123
  go_wp2
  go_loop [8] (fun i => ∃ j : Nat, j ≤ n ∧ i = .int .i64 j) (fun i => n - (intOf i).toNat)
  case atStart => exact ⟨0, Nat.zero_le _, rfl⟩
  case round =>
    obtain ⟨j, hj, rfl⟩ := hrel
    by_cases hlt : j < n
    · have hc := HC.out j hlt
      have hz := HS.out j hlt
      have hz' : (v == f j) = false := by rw [beq_eq_false_iff_ne]; exact fun h => hz h.symm
      clear hz
      go_wp2
      go_round
      case rel => exact ⟨j + 1, by omega, by go_num⟩
      case measure => simp [intOf]; omega
    · go_wp2
      go_ret
      exact ⟨rfl, rfl⟩
theorem iindex_yes (b o n cap : Nat) (v : Int) (f : Nat → Int) (w : World) (hn : n ≤ maxLen)
    (hcell : ∀ i, i < n → w.cell? ⟨b, o + i, none⟩ = some (.int .i64 (f i))) (q : Nat) (hq : q < n) (hs : f q = v) :
    Calls Tryz.prog 123 #[.slice (some ⟨b, o, none⟩) n cap, .int .i64 v] w fun e w' => (∃ r : Nat, r < n ∧ e = .returned (.int .i64 r)) ∧ w = w' := by
  unfold maxLen at hn
  have HC := hide hcell
  have HS := hide hs
  clear hcell hs
  go_enter Tryz.func123, Tryz.ntmps123
  go_wp2
  go_loop [8] (fun i => ∃ j : Nat, j ≤ q ∧ i = .int .i64 j) (fun i => n - (intOf i).toNat)
  case atStart => exact ⟨0, Nat.zero_le _, rfl⟩
  case round =>
    obtain ⟨j, hj, rfl⟩ := hrel
    have hlt : j < n := by omega
    have hc := HC.out j hlt
    by_cases hz : f j = v
    · have hz' : (v == f j) = true := by rw [beq_iff_eq]; exact hz.symm
      clear hz
      go_wp2
      go_ret
      exact ⟨⟨j, by omega, rfl⟩, rfl⟩
    · have hz' : (v == f j) = false := by rw [beq_eq_false_iff_ne]; exact fun h => hz h.symm
      have hne : j ≠ q := fun e => hz (by rw [e]; exact HS.out)
      have hlt2 : j < q := by omega
      clear hz hne
      go_wp2
      go_round
      case rel => exact ⟨j + 1, by omega, by go_num⟩
      case measure => simp [intOf]; omega
theorem icontains_no (b o n cap : Nat) (v : Int) (f : Nat → Int) (w : World) (hn : n ≤ maxLen)
    (hcell : ∀ i, i < n → w.cell? ⟨b, o + i, none⟩ = some (.int .i64 (f i))) (hs : ∀ i, i < n → f i ≠ v) :
    Calls Tryz.prog 102 #[.slice (some ⟨b, o, none⟩) n cap, .int .i64 v] w fun e w' => e = .returned (.bool false) ∧ w = w' := by
  have K := hide (iindex_no b o n cap v f w hn hcell hs)
  clear hcell hs
  go_enter Tryz.func102, Tryz.ntmps102
  go_wp2_with fail
  refine (K.out).mono ?_
  rintro e w1 ⟨rfl, rfl⟩
  go_wp2
  go_ret
  exact ⟨rfl, rfl⟩
theorem icontains_yes (b o n cap : Nat) (v : Int) (f : Nat → Int) (w : World) (hn : n ≤ maxLen)
    (hcell : ∀ i, i < n → w.cell? ⟨b, o + i, none⟩ = some (.int .i64 (f i))) (q : Nat) (hq : q < n) (hs : f q = v) :
    Calls Tryz.prog 102 #[.slice (some ⟨b, o, none⟩) n cap, .int .i64 v] w fun e w' => e = .returned (.bool true) ∧ w = w' := by
  have K := hide (iindex_yes b o n cap v f w hn hcell q hq hs)
  clear hcell hs
  unfold maxLen at hn
  go_enter Tryz.func102, Tryz.ntmps102
  go_wp2_with fail
  refine (K.out).mono ?_
  rintro e w1 ⟨⟨r, hr, rfl⟩, rfl⟩
  go_wp2
  go_ret
  exact ⟨rfl, rfl⟩

/-- Place i is one of many, and was not named ahead. -/
def goodAt (f : Nat → Int) (many i : Nat) : Prop := (0 ≤ f i ∧ f i < (many : Int)) ∧ ∀ j, j < i → f j ≠ f i
/-- What is wrong with place i. -/
def faultAt (f : Nat → Int) (many i : Nat) : Int := if 0 ≤ f i ∧ f i < (many : Int) then 7 else 1

theorem named_none (a : Option Addr) (cap : Nat) (m : Int) (w : World) :
    Calls Tryz.prog 71 #[.slice a 0 cap, .int .i64 m] w fun e w' => e = .returned (.iface 64 (.int .i64 5)) ∧ w = w' := by
  go_enter Tryz.func71, Tryz.ntmps71
  go_wp2
  go_ret
  exact ⟨rfl, rfl⟩

set_option maxHeartbeats 1000000 in
theorem named_ok (b o n cap many : Nat) (f : Nat → Int) (w : World) (h0 : 0 < n) (hnc : n ≤ cap) (hc : cap ≤ maxLen)
    (hcell : ∀ i, i < n → w.cell? ⟨b, o + i, none⟩ = some (.int .i64 (f i))) (hg : ∀ i, i < n → goodAt f many i) :
    Calls Tryz.prog 71 #[.slice (some ⟨b, o, none⟩) n cap, .int .i64 many] w fun e w' => e = .returned .nilIface ∧ w = w' := by
  unfold maxLen at hc
  have HC := hide hcell
  have HG := hide hg
  clear hcell hg
  have hl0 : ((n : Int) == 0) = false := by simp; omega
  go_enter Tryz.func71, Tryz.ntmps71
  go_wp2
  go_loop [13] (fun i => ∃ j : Nat, j ≤ n ∧ i = .int .i64 j) (fun i => n - (intOf i).toNat)
  case atStart => exact ⟨0, Nat.zero_le _, rfl⟩
  case round =>
    obtain ⟨j, hj, rfl⟩ := hrel
    by_cases hlt : j < n
    · have hc := HC.out j hlt
      obtain ⟨⟨h1, h2⟩, h3⟩ := HG.out j hlt
      have K := hide (fun cap => icontains_no b o j cap (f j) f w (by unfold maxLen; omega) (fun i hi => HC.out i (by omega)) h3)
      have h1' : ¬ f j < 0 := by omega
      have h2' : ¬ (many : Int) ≤ f j := by omega
      clear h3
      go_wp2_with fail
      refine (K.out _).mono ?_
      rintro e w1 ⟨rfl, rfl⟩
      go_wp2
      go_round
      case rel => exact ⟨j + 1, by omega, by go_num⟩
      case measure => simp [intOf]; omega
    · go_wp2
      go_ret
      exact ⟨rfl, rfl⟩
set_option maxHeartbeats 1000000 in
theorem named_bad (b o n cap many : Nat) (f : Nat → Int) (w : World) (hnc : n ≤ cap) (hc : cap ≤ maxLen)
    (hcell : ∀ i, i < n → w.cell? ⟨b, o + i, none⟩ = some (.int .i64 (f i))) (q : Nat) (hq : q < n) (hg : ∀ i, i < q → goodAt f many i) (hb : ¬ goodAt f many q) :
    Calls Tryz.prog 71 #[.slice (some ⟨b, o, none⟩) n cap, .int .i64 many] w fun e w' => e = .returned (.iface 64 (.int .i64 (faultAt f many q))) ∧ w = w' := by
  unfold maxLen at hc
  have HC := hide hcell
  have HG := hide hg
  have HB := hide hb
  clear hcell hg hb
  have hl0 : ((n : Int) == 0) = false := by simp; omega
  go_enter Tryz.func71, Tryz.ntmps71
  go_wp2
  go_loop [13] (fun i => ∃ j : Nat, j ≤ q ∧ i = .int .i64 j) (fun i => n - (intOf i).toNat)
  case atStart => exact ⟨0, Nat.zero_le _, rfl⟩
  case round =>
    obtain ⟨j, hj, rfl⟩ := hrel
    have hlt : j < n := by omega
    have hc := HC.out j hlt
    by_cases hjq : j < q
    · obtain ⟨⟨h1, h2⟩, h3⟩ := HG.out j hjq
      have K := hide (fun cap => icontains_no b o j cap (f j) f w (by unfold maxLen; omega) (fun i hi => HC.out i (by omega)) h3)
      have h1' : ¬ f j < 0 := by omega
      have h2' : ¬ (many : Int) ≤ f j := by omega
      clear h3
      go_wp2_with fail
      refine (K.out _).mono ?_
      rintro e w1 ⟨rfl, rfl⟩
      go_wp2
      go_round
      case rel => exact ⟨j + 1, by omega, by go_num⟩
      case measure => simp [intOf]; omega
    · obtain rfl : j = q := by omega
      by_cases hin : 0 ≤ f j ∧ f j < (many : Int)
      · have hx : ∃ r, r < j ∧ f r = f j := Classical.byContradiction fun hn => HB.out ⟨hin, fun r hr e => hn ⟨r, hr, e⟩⟩
        obtain ⟨r, hr, hrr⟩ := hx
        have K := hide (fun cap => icontains_yes b o j cap (f j) f w (by unfold maxLen; omega) (fun i hi => HC.out i (by omega)) r hr hrr)
        have hF : Hid (faultAt f many j = 7) := by unfold Hid faultAt; rw [if_pos hin]
        obtain ⟨h1, h2⟩ := hin
        have h1' : ¬ f j < 0 := by omega
        have h2' : ¬ (many : Int) ≤ f j := by omega
        clear hr hrr
        go_wp2_with fail
        refine (K.out _).mono ?_
        rintro e w1 ⟨rfl, rfl⟩
        go_wp2
        go_ret
        rw [hF.out]
        exact ⟨rfl, rfl⟩
      · have hF : Hid (faultAt f many j = 1) := by unfold Hid faultAt; rw [if_neg hin]
        by_cases h1 : f j < 0
        · clear hin
          go_wp2
          go_ret
          rw [hF.out]
          exact ⟨rfl, rfl⟩
        · have h2 : (many : Int) ≤ f j := by omega
          clear hin
          go_wp2
          go_ret
          rw [hF.out]
          exact ⟨rfl, rfl⟩
/-- All places are right, or one is the first that is not. -/
theorem good_or (f : Nat → Int) (many : Nat) : ∀ n, (∀ i, i < n → goodAt f many i) ∨ ∃ q, q < n ∧ (∀ i, i < q → goodAt f many i) ∧ ¬ goodAt f many q
  | 0 => Or.inl (fun i hi => absurd hi (Nat.not_lt_zero _))
  | n + 1 => by
    rcases good_or f many n with h | ⟨q, hq, h1, h2⟩
    · by_cases hn : goodAt f many n
      · refine Or.inl (fun i hi => ?_)
        rcases Nat.lt_or_ge i n with h' | h'
        · exact h i h'
        · obtain rfl : i = n := by omega
          exact hn
      · exact Or.inr ⟨n, Nat.lt_succ_self _, h, hn⟩
    · exact Or.inr ⟨q, by omega, h1, h2⟩
end Go.Proofs.YtjgifjkdgoijmaaGreatDoor

namespace Go.Proofs.YtjgifjkdgoijmaaGreatDoor
open Go.RowKit
set_option linter.unusedVariables false
set_option maxRecDepth 100000

/-- Byte i of a string. -/
def atB (s : ByteArray) (i : Nat) : UInt8 := s.data.toList.getD i 0
/-- A block whose first n cells are the bytes f 0, f 1, .., none of them frozen. -/
def BRow (w : World) (b n : Nat) (f : Nat → UInt8) : Prop :=
  ∀ i, i < n → w.cell? ⟨b, i, none⟩ = some (.int .u8 ((f i).toNat : Int)) ∧ w.frozen? ⟨b, i, none⟩ = false
theorem BRow.congr {w : World} {b n : Nat} {f g : Nat → UInt8} (h : BRow w b n f) (e : ∀ i, i < n → f i = g i) : BRow w b n g := fun i hi => by rw [← e i hi]; exact h i hi
theorem BRow.set {w : World} {b n : Nat} {f : Nat → UInt8} (h : BRow w b n f) (j : Nat) (v : UInt8) : BRow (w.setCell ⟨b, j, none⟩ (.int .u8 (v.toNat : Int))) b n (fun i => if i = j then v else f i) := fun i hi => by
  refine ⟨?_, by rw [World.frozen?_setCell]; exact (h i hi).2⟩
  have hc := (h i hi).1
  by_cases e : i = j
  · subst e
    rw [World.cell?_setCell_same _ _ _ hc]; simp
  · rw [World.cell?_setCell_other _ _ _ _ (fun h => e (by cases h; rfl))]; simp only [if_neg e]; exact hc
theorem atB_eq (s : ByteArray) (i : Nat) (h : i < s.size) : atB s i = s[i] := by
  have h' : i < s.data.size := h
  simp only [atB, List.getD, Array.getElem?_toList, Array.getElem?_eq_getElem h']
  rfl
theorem xor_bits (a b : UInt8) : bits .xor .u8 (a.toNat : Int) (b.toNat : Int) = ((a ^^^ b).toNat : Int) := by
  have ha := a.toNat_lt
  have hb := b.toNat_lt
  rw [u8_xor_nat _ _ (by omega) (by omega), UInt8.toNat_xor]

set_option maxHeartbeats 1000000 in
theorem lay_any (b n cap : Nat) (s : ByteArray) (f : Nat → UInt8) (w : World) (hn : n ≤ 1000) (hs : s.size = n) (hr : BRow w b n f) :
    Calls Tryz.prog 72 #[.slice (some ⟨b, 0, none⟩) n cap, .string s] w fun e w' => e = .returned (.tuple #[]) ∧ BRow w' b n (fun i => f i ^^^ atB s i) ∧ Below b w w' := by
  go_enter Tryz.func72, Tryz.ntmps72
  go_wp2
  go_loopw [7] (fun i wr => ∃ j : Nat, j ≤ n ∧ i = .int .i64 j ∧ BRow wr b n (fun i => if i < j then f i ^^^ atB s i else f i) ∧ Below b w wr) (fun i _ => n - (intOf i).toNat)
  case atStart => exact ⟨0, Nat.zero_le _, rfl, hr.congr (fun i _ => by simp), Below.refl _ _⟩
  case round =>
    obtain ⟨j, hj, rfl, hrow, hb⟩ := hrel
    by_cases hlt : j < n
    · obtain ⟨hcell, hfr⟩ := hrow j hlt
      simp only [Nat.lt_irrefl, if_false] at hcell
      have hset := hrow.set j (f j ^^^ atB s j)
      go_wp2
      go_region
      all_goals go_wp2
      all_goals go_roundw
      case rel =>
        rw [← atB_eq s j (by omega), xor_bits]
        refine ⟨j + 1, by omega, by go_num, hset.congr (fun i hi => ?_), (hb.setCell (Nat.le_refl _) _).drew⟩
        by_cases e1 : i = j
        · subst e1; simp
        · by_cases e2 : i < j
          · simp [e1, e2, show i < j + 1 by omega]
          · simp [e1, e2, show ¬ i < j + 1 by omega]
      case measure => simp [intOf]; omega
    · go_wp2
      go_end0
      obtain rfl : j = n := by omega
      exact ⟨rfl, hrow.congr (fun i hi => by simp [hi]), hb⟩
end Go.Proofs.YtjgifjkdgoijmaaGreatDoor

namespace Go.Proofs.YtjgifjkdgoijmaaGreatDoor
open Go.RowKit
set_option linter.unusedVariables false
set_option maxRecDepth 100000

/-- The bytes f 0, .., f (n-1) as a string. -/
def bytesB (n : Nat) (f : Nat → UInt8) : ByteArray := ⟨((List.range n).map f).toArray⟩
theorem bytesB_size (n : Nat) (f : Nat → UInt8) : (bytesB n f).size = n := by rw [Lib.size_eq, bytesB, List.toList_toArray]; simp
theorem bytesB_at (n : Nat) (f : Nat → UInt8) (i : Nat) (h : i < n) : atB (bytesB n f) i = f i := by simp [atB, bytesB, List.getD, h]
theorem bytes_ext {a b : ByteArray} (hs : a.size = b.size) (h : ∀ i, i < a.size → atB a i = atB b i) : a = b := by
  apply ByteArray.ext
  rw [← Array.toList_inj]
  rw [Lib.size_eq, Lib.size_eq] at hs
  apply List.ext_getElem hs
  intro i h1 h2
  have := h i (by rw [Lib.size_eq]; exact h1)
  simpa [atB, List.getD, List.getElem?_eq_getElem h1, List.getElem?_eq_getElem h2] using this
theorem bytesB_eq (a : ByteArray) (n : Nat) (f : Nat → UInt8) (hs : a.size = n) (h : ∀ i, i < n → f i = atB a i) : bytesB n f = a :=
  bytes_ext (by rw [bytesB_size, hs]) (fun i hi => by rw [bytesB_size] at hi; rw [bytesB_at _ _ _ hi, h i hi])
theorem bytesB_congr {n : Nat} {f g : Nat → UInt8} (h : ∀ i, i < n → f i = g i) : bytesB n f = bytesB n g :=
  bytes_ext (by rw [bytesB_size, bytesB_size]) (fun i hi => by rw [bytesB_size] at hi; rw [bytesB_at _ _ _ hi, bytesB_at _ _ _ hi, h i hi])
/-- One over the other. -/
def xorB (a b : ByteArray) : ByteArray := bytesB a.size (fun i => atB a i ^^^ atB b i)
theorem xorB_size (a b : ByteArray) : (xorB a b).size = a.size := bytesB_size _ _
theorem xorB_at (a b : ByteArray) (i : Nat) (h : i < a.size) : atB (xorB a b) i = atB a i ^^^ atB b i := bytesB_at _ _ _ h
/-- 'string(row)'. -/
theorem back_row {w : World} {b n cap : Nat} {f : Nat → UInt8} (h : BRow w b n f) :
    (convert 124 9 (.slice (some ⟨b, 0, none⟩) n cap)).run Tryz.prog w = .ok (.string (bytesB n f)) w := by
  have hl : ((List.range n).map f).length = n := by simp
  have h1 := run_convert_bytes_back (P := Tryz.prog) w 124 9 5 ⟨b, 0, none⟩ cap ((List.range n).map f) Tryz.underlying124 Tryz.underlying5 Tryz.underlying9
    (fun j hj => by
      rw [hl] at hj
      have := (h j hj).1
      have e : (Addr.mk b 0 none).add j = ⟨b, j, none⟩ := by simp [Addr.add]; intro h; rw [h]
      rw [e]; simpa using this)
  rw [hl] at h1
  exact h1
/-- '[]byte(s)' as a row. -/
theorem row_new (w : World) (s : ByteArray) (c t : Nat) : BRow (w.drew.alloc (.cells (bytesRow s c) t ((bytesRow s c).size, (bytesRow s c).size + 1))) w.heap.size s.size (atB s) := fun i hi => by
  have hi' : i < s.data.size := hi
  have e : w.heap.size = w.drew.heap.size := rfl
  rw [e, World.cell?_alloc_mark, World.frozen?_alloc_mark, bytesRow_at _ _ _ hi', atB_eq s i hi]
  refine ⟨rfl, ?_⟩
  have : i < (bytesRow s c).size := by simp [bytesRow]; omega
  simp [Nat.not_le.2 this]
end Go.Proofs.YtjgifjkdgoijmaaGreatDoor

namespace Go.Proofs.YtjgifjkdgoijmaaGreatDoor
open Go.RowKit
set_option linter.unusedVariables false
set_option maxRecDepth 100000

/-- Byte i of the first k named blocks over one another. -/
def xsum (g : Nat → ByteArray) (f : Nat → Int) : Nat → Nat → UInt8
  | 0, _ => 0
  | k + 1, i => xsum g f k i ^^^ atB (g (f k).toNat) i
/-- n named blocks over one another. -/
def sumB (g : Nat → ByteArray) (f : Nat → Int) (n : Nat) : ByteArray := bytesB (g 0).size (xsum g f n)
theorem sumB_size (g : Nat → ByteArray) (f : Nat → Int) (n : Nat) : (sumB g f n).size = (g 0).size := bytesB_size _ _
theorem sumB_at (g : Nat → ByteArray) (f : Nat → Int) (n i : Nat) (h : i < (g 0).size) : atB (sumB g f n) i = xsum g f n i := bytesB_at _ _ _ h

/-- Check finds a fault: it is told. -/
theorem sum_check (l of : Value) (w : World) (x : Int)
    (hC : Calls Tryz.prog 35 #[l] w fun e w' => e = .returned (.iface 64 (.int .i64 x)) ∧ Below w.heap.size w w') :
    Calls Tryz.prog 37 #[l, of] w fun e w' => e = .returned (.tuple #[.string ⟨#[]⟩, .iface 64 (.int .i64 x)]) ∧ Below w.heap.size w w' := by
  have K := hide hC
  clear hC
  go_enter Tryz.func37, Tryz.ntmps37
  go_wp2_with fail
  refine (K.out).mono ?_
  rintro e w1 ⟨rfl, hb⟩
  go_wp2
  go_ret2
  exact ⟨rfl, hb⟩
/-- Check finds none, and the places are wrong. -/
theorem sum_named (b o len cap : Nat) (of : Value) (w : World) (x : Int) (hlen : len ≤ 16)
    (hC : Calls Tryz.prog 35 #[.slice (some ⟨b, o, none⟩) len cap] w fun e w' => e = .returned .nilIface ∧ Below w.heap.size w w')
    (hN : ∀ w1, Below w.heap.size w w1 → Calls Tryz.prog 71 #[of, .int .i64 len] w1 fun e w' => e = .returned (.iface 64 (.int .i64 x)) ∧ w1 = w') :
    Calls Tryz.prog 37 #[.slice (some ⟨b, o, none⟩) len cap, of] w fun e w' => e = .returned (.tuple #[.string ⟨#[]⟩, .iface 64 (.int .i64 x)]) ∧ Below w.heap.size w w' := by
  have K := hide hC
  have KN := hide hN
  clear hC hN
  go_enter Tryz.func37, Tryz.ntmps37
  go_wp2_with fail
  refine (K.out).mono ?_
  rintro e w1 ⟨rfl, hb⟩
  go_wp2_with fail
  refine (KN.out _ hb).mono ?_
  rintro e w2 ⟨rfl, rfl⟩
  go_wp2
  go_ret2
  exact ⟨rfl, hb⟩

theorem row_zero {w : World} {b n : Nat} {t : TypeId} (h : w.rowIs b t n (fun _ => .int .u8 0)) : BRow w b n (fun _ => 0) := fun i hi => ⟨h.cell hi, h.frozen i⟩

set_option maxHeartbeats 2000000 in
theorem sum_ok (b o len cap b2 o2 n cap2 : Nat) (g : Nat → ByteArray) (f : Nat → Int) (w : World) (hl0 : 0 < len) (hlen : len ≤ 16)
    (hcell : ∀ i, i < len → w.cell? ⟨b, o + i, none⟩ = some (.string (g i))) (h1 : 1 ≤ (g 0).size) (h8 : (g 0).size ≤ 8) (hs : ∀ i, i < len → (g i).size = (g 0).size)
    (h0 : 0 < n) (hnc : n ≤ cap2) (hc : cap2 ≤ maxLen) (hcell2 : ∀ i, i < n → w.cell? ⟨b2, o2 + i, none⟩ = some (.int .i64 (f i))) (hg : ∀ i, i < n → goodAt f len i) :
    Calls Tryz.prog 37 #[.slice (some ⟨b, o, none⟩) len cap, .slice (some ⟨b2, o2, none⟩) n cap2] w fun e w' => e = .returned (.tuple #[.string (sumB g f n), .nilIface]) ∧ Below w.heap.size w w' := by
  have K := hide (check_ok b o len cap g w hl0 hlen hcell h1 h8 hs)
  have KN := hide (fun w1 (hb : Below w.heap.size w w1) => named_ok b2 o2 n cap2 len f w1 h0 hnc hc (fun i hi => cell_below hb (hcell2 i hi)) hg)
  have HC := hide hcell
  have HC2 := hide hcell2
  have HG := hide hg
  have HS := hide hs
  have hm : n ≤ 9223372036854775807 := by unfold maxLen at hc; omega
  unfold maxLen at hc
  clear hcell hcell2 hg hs
  obtain ⟨m, hm0⟩ : ∃ m, m = (g 0).size := ⟨_, rfl⟩
  have hmk := run_make_row' (P := Tryz.prog) 124 5 (.int .u8 0) 1 Tryz.underlying124 Tryz.infoU8 rfl .i64 .i64 (g 0).size (by omega) (by omega)
  go_enter Tryz.func37, Tryz.ntmps37
  go_wp2_with fail
  refine (K.out).mono ?_
  rintro e w1 ⟨rfl, hb⟩
  go_wp2_with fail
  refine (KN.out _ hb).mono ?_
  rintro e w2 ⟨rfl, rfl⟩
  have hc0 := cell_below hb (HC.out 0 hl0)
  rw [Nat.add_zero] at hc0
  go_wp2
  go_loopw [30] (fun i wr => ∃ j : Nat, j ≤ n ∧ i = .int .i64 j ∧ BRow wr w1.heap.size (g 0).size (xsum g f j) ∧ Below w1.heap.size w1 wr) (fun i _ => n - (intOf i).toNat)
  case atStart => exact ⟨0, Nat.zero_le _, rfl, row_zero (World.rowIs_made _ _ _ _), (Below.refl _ _).alloc (Nat.le_refl _) _⟩
  case round =>
    obtain ⟨j, hj, rfl, hrow, hb1⟩ := hrel
    by_cases hlt : j < n
    · have hb2 := below_two hb hb1
      have hcj := cell_below hb2 (HC2.out j hlt)
      obtain ⟨⟨hf0, hf1⟩, _⟩ := HG.out j hlt
      obtain ⟨p, hp⟩ := Int.eq_ofNat_of_zero_le hf0
      have hp' : (f j).toNat = p := by rw [hp]; rfl
      have hpl : p < len := by omega
      have hcp := cell_below hb2 (HC.out p hpl)
      have L := hide (lay_any w1.heap.size (g 0).size (g 0).size (g p) _ wr (by omega) (HS.out p hpl) hrow)
      rw [hp] at hcj
      clear hf0 hf1
      have HP := hide hp'
      clear hp hp'
      go_wp2_with fail
      refine (L.out).mono ?_
      rintro e w3 ⟨rfl, hr3, hb3⟩
      go_wp2
      go_roundw
      case rel => exact ⟨j + 1, by omega, by go_num, hr3.congr (fun i _ => by rw [xsum, HP.out]), hb1.trans hb3⟩
      case measure => simp [intOf]; omega
    · obtain rfl : j = n := by omega
      have hbk := back_row (cap := (g 0).size) hrow
      have hb2 := below_two hb hb1
      go_wp2
      go_ret2
      exact ⟨rfl, hb2⟩
end Go.Proofs.YtjgifjkdgoijmaaGreatDoor
