/-
  The ways of guard.Add over any slice of strings; rows of bools; blocks in a row. Lemmas for the laws above; no statement is proved here.
-/
import Derived.Test.YtmmlcomfkikomaaDoorGdHeal
namespace Go.Proofs.YtmmlcomfkikomaaDoor
open Go.RowKit
set_option linter.unusedVariables false
set_option maxRecDepth 100000

theorem Tryd.infoBool : (Tryd.prog.info? 4).map (fun i => (i.zero, i.size, i.bytes)) = some (some (.bool false), 1, 1) := by kernel_rfl
/-- Bools as a slice holds them. -/
def boolV (f : Nat → Bool) (n : Nat) : List Value := (List.range n).map fun i => .bool (f i)
theorem boolV_at (f : Nat → Bool) (n i : Nat) (h : i < n) : (boolV f n)[i]? = some (.bool (f i)) := by simp [boolV, h]
theorem boolV_set (f : Nat → Bool) (n j : Nat) (s : Bool) (h : j < n) : (boolV f n).set j (.bool s) = boolV (fun i => if i = j then s else f i) n := by
  apply List.ext_getElem
  · simp [boolV]
  · intro i h1 h2
    rw [List.getElem_set]
    simp only [boolV, List.getElem_map, List.getElem_range]
    by_cases e : j = i
    · subst e; simp
    · rw [if_neg e, if_neg (fun h => e h.symm)]
/-- A row of bools that was made by make. -/
theorem own_bools_made (w : World) (n : Nat) (hn : n ≤ maxLen) : (w.alloc (.cells (madeCells #[.bool false] n) 4)).ownsRow w.heap.size 4 1 (.slice (some ⟨w.heap.size, 0, none⟩) n n) n (boolV (fun _ => false) n) := by
  refine ⟨by simp [boolV], Or.inr ⟨w.heap.size, n, _, rfl, Nat.le_refl _, World.alloc_heap_new w _, Nat.le_refl _, hn, by simp [madeCells], ?_⟩⟩
  apply List.ext_getElem
  · simp [boolV, madeCells]
  · intro i h1 h2
    simp [boolV, madeCells, Nat.mod_one]

/-- Add tells a fault, or all is right. -/
theorem add_ways {w : World} {v : Value} {len : Nat} {g : Nat → ByteArray} (hv : StrsAt w v len g) (each : Int) :
    (∃ x : Int, ∀ w1, Below w.heap.size w w1 → Calls Tryd.prog 8 #[v, .int .i64 each] w1 fun e w' => e = .returned (.tuple #[.slice none 0 0, .iface 42 (.int .i64 x)]) ∧ Below w1.heap.size w1 w') ∨
    ∃ (b o cap m : Nat), v = .slice (some ⟨b, o, none⟩) len cap ∧ len ≤ cap ∧ cap ≤ maxLen ∧ Blks w b o len g ∧ each = (m : Nat) ∧ 1 ≤ m ∧ m ≤ 16 ∧ len + gN len m ≤ 16 := by
  rcases check_ways hv with ⟨x, hx⟩ | ⟨b, o, cap, rfl, h1, h2, hB⟩
  · obtain ⟨a, c, rfl⟩ : ∃ a c, v = .slice a len c := by
      rcases hv with ⟨rfl, a, cap, rfl⟩ | ⟨h0, b, o, cap, rfl, _⟩
      · exact ⟨_, _, rfl⟩
      · exact ⟨_, _, rfl⟩
    exact Or.inl ⟨x, fun w1 hb => add_check a len c each w1 x fun w2 hb2 => hx w2 (hb.trans (hb2.mono hb.size))⟩
  · by_cases he : each < 1 ∨ 16 < each
    · exact Or.inl ⟨1, fun w1 hb => add_range b o len cap each g w1 (hB.below hb) he⟩
    · obtain ⟨m, rfl⟩ : ∃ m : Nat, each = (m : Nat) := ⟨each.toNat, by omega⟩
      by_cases hf : len + gN len m ≤ 16
      · exact Or.inr ⟨b, o, cap, m, rfl, h1, h2, hB, rfl, by omega, by omega, hf⟩
      · exact Or.inl ⟨4, fun w1 hb => add_full b o len cap m g w1 (hB.below hb) (by omega) (by omega) (by omega)⟩

theorem addG_size {g : Nat → ByteArray} {n each : Nat} (hs : ∀ i, i < n → (g i).size = (g 0).size) (i : Nat) : (addG g n each i).size = (g 0).size := by
  unfold addG
  by_cases e : i < n
  · rw [if_pos e]; exact hs i e
  · rw [if_neg e]; exact sumL_size _ _
theorem gN_pos {n each : Nat} (he : 1 ≤ each) (hn : 0 < n) : 0 < gN n each := (gN_lt he 0).2 (by omega)
/-- Blocks in a row of the call's own. -/
theorem blks_own {W : World} {B gx m cx : Nat} {f : Nat → ByteArray} (h : W.ownsRow B 9 1 (.slice (some ⟨gx, 0, none⟩) m cx) m (strV f m)) (h0 : 0 < m) (h16 : m ≤ 16) (h1 : 1 ≤ (f 0).size) (h8 : (f 0).size ≤ 8) (hs : ∀ i, i < m → (f i).size = (f 0).size) :
    Blks W gx 0 m f ∧ m ≤ cx ∧ cx ≤ maxLen := by
  refine ⟨⟨h0, h16, fun i hi => ?_, h1, h8, hs⟩, ?_⟩
  · have h9 := h.cellAt i (by omega)
    rw [strV_at _ _ _ hi] at h9
    rw [Nat.zero_add]; exact h9
  · rcases h.2 with ⟨hv, h9⟩ | ⟨g', cap', cur, hv, _, _, q1, q2, _⟩
    · omega
    · cases hv
      exact ⟨q1, q2⟩
/-- What Add made, as blocks. -/
theorem add_blks {w W : World} {b o n B gx cx each : Nat} {g : Nat → ByteArray} (hB : Blks w b o n g) (hf : n + gN n each ≤ 16) (h : W.ownsRow B 9 1 (.slice (some ⟨gx, 0, none⟩) (n + gN n each) cx) (n + gN n each) (strV (addG g n each) (n + gN n each))) :
    Blks W gx 0 (n + gN n each) (addG g n each) ∧ n + gN n each ≤ cx ∧ cx ≤ maxLen := by
  have h0 := hB.pos
  have e0 : (addG g n each 0).size = (g 0).size := addG_size hB.same 0
  exact blks_own h (by omega) hf (by rw [e0]; exact hB.one) (by rw [e0]; exact hB.eight) (fun i _ => by rw [addG_size hB.same i, e0])
end Go.Proofs.YtmmlcomfkikomaaDoor
