/-
  What one string over another is; rows of bytes and strings. Lemmas for the laws above; no statement is proved here.
-/
import Derived.Test.YtkbnoebhckngaaaDoorLay
namespace Go.Proofs.YtkbnoebhckngaaaDoor
open Go.RowKit
set_option linter.unusedVariables false
set_option maxRecDepth 100000

/-- The bytes f 0, .., f (n-1) as a string. -/
def bytesB (n : Nat) (f : Nat → UInt8) : ByteArray := ⟨((List.range n).map f).toArray⟩
theorem bytesB_size (n : Nat) (f : Nat → UInt8) : (bytesB n f).size = n := by rw [Lib.size_eq, bytesB, List.toList_toArray]; simp
theorem bytesB_at (n : Nat) (f : Nat → UInt8) (i : Nat) (h : i < n) : atB (bytesB n f) i = f i := by simp [atB, bytesB, List.getD, h]
theorem bytes_ext {a b : ByteArray} (hs : a.size = b.size) (h : ∀ i, i < a.size → atB a i = atB b i) : a = b := by
  apply ByteArray.ext
  rw [← Array.toList_inj]
  rw [Lib.size_eq, Lib.size_eq] at hs
  apply List.ext_getElem hs
  intro i h1 h2
  have := h i (by rw [Lib.size_eq]; exact h1)
  simpa [atB, List.getD, List.getElem?_eq_getElem h1, List.getElem?_eq_getElem h2] using this
theorem bytesB_eq (a : ByteArray) (n : Nat) (f : Nat → UInt8) (hs : a.size = n) (h : ∀ i, i < n → f i = atB a i) : bytesB n f = a :=
  bytes_ext (by rw [bytesB_size, hs]) (fun i hi => by rw [bytesB_size] at hi; rw [bytesB_at _ _ _ hi, h i hi])
theorem bytesB_congr {n : Nat} {f g : Nat → UInt8} (h : ∀ i, i < n → f i = g i) : bytesB n f = bytesB n g :=
  bytes_ext (by rw [bytesB_size, bytesB_size]) (fun i hi => by rw [bytesB_size] at hi; rw [bytesB_at _ _ _ hi, bytesB_at _ _ _ hi, h i hi])
/-- One over the other. -/
def xorB (a b : ByteArray) : ByteArray := bytesB a.size (fun i => atB a i ^^^ atB b i)
theorem xorB_size (a b : ByteArray) : (xorB a b).size = a.size := bytesB_size _ _
theorem xorB_at (a b : ByteArray) (i : Nat) (h : i < a.size) : atB (xorB a b) i = atB a i ^^^ atB b i := bytesB_at _ _ _ h
/-- 'string(row)'. -/
theorem back_row {w : World} {b n cap : Nat} {f : Nat → UInt8} (h : BRow w b n f) :
    (convert 102 9 (.slice (some ⟨b, 0, none⟩) n cap)).run Tryd.prog w = .ok (.string (bytesB n f)) w := by
  have hl : ((List.range n).map f).length = n := by simp
  have h1 := run_convert_bytes_back (P := Tryd.prog) w 102 9 5 ⟨b, 0, none⟩ cap ((List.range n).map f) Tryd.underlying102 Tryd.underlying5 Tryd.underlying9
    (fun j hj => by
      rw [hl] at hj
      have := (h j hj).1
      have e : (Addr.mk b 0 none).add j = ⟨b, j, none⟩ := by simp [Addr.add]; intro h; rw [h]
      rw [e]; simpa using this)
  rw [hl] at h1
  exact h1
/-- '[]byte(s)' as a row. -/
theorem row_new (w : World) (s : ByteArray) (c t : Nat) : BRow (w.drew.alloc (.cells (bytesRow s c) t ((bytesRow s c).size, (bytesRow s c).size + 1))) w.heap.size s.size (atB s) := fun i hi => by
  have hi' : i < s.data.size := hi
  have e : w.heap.size = w.drew.heap.size := rfl
  rw [e, World.cell?_alloc_mark, World.frozen?_alloc_mark, bytesRow_at _ _ _ hi', atB_eq s i hi]
  refine ⟨rfl, ?_⟩
  have : i < (bytesRow s c).size := by simp [bytesRow]; omega
  simp [Nat.not_le.2 this]
end Go.Proofs.YtkbnoebhckngaaaDoor
