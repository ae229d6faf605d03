/-
  Drops of blocks that are one over the other; strings that a call owns. Lemmas for the laws above; no statement is proved here.
-/
import Derived.Test.YtijbljcpfjlllaaDropW
import Derived.Test.YtijbljcpfjlllaaOwn
namespace Go.Proofs.Ytijbljcpfjlllaa
open Go.RowKit Go.Maps
set_option linter.unusedVariables false
set_option maxRecDepth 100000

theorem xor_four (a b c d : UInt8) : (a ^^^ b) ^^^ (c ^^^ d) = (a ^^^ c) ^^^ (b ^^^ d) := by
  rw [UInt8.xor_assoc, ← UInt8.xor_assoc b c d, UInt8.xor_comm b c, UInt8.xor_assoc c b d, ← UInt8.xor_assoc a c]
theorem xsum_xor {g h : Nat → ByteArray} {f : Nat → Int} {len i : Nat} (hi : i < (g 0).size) (hs : ∀ i, i < len → (g i).size = (g 0).size) : ∀ m, (∀ j, j < m → (f j).toNat < len) →
    xsum (fun i => xorB (g i) (h i)) f m i = xsum g f m i ^^^ xsum h f m i
  | 0, _ => by simp [xsum]
  | m + 1, hf => by
    show xsum (fun i => xorB (g i) (h i)) f m i ^^^ atB (xorB (g (f m).toNat) (h (f m).toNat)) i = (xsum g f m i ^^^ atB (g (f m).toNat) i) ^^^ (xsum h f m i ^^^ atB (h (f m).toNat) i)
    rw [xsum_xor hi hs m (fun j hj => hf j (by omega)), xorB_at _ _ _ (by rw [hs _ (hf m (by omega))]; exact hi), xor_four]
theorem dropB_xor {g h : Nat → ByteArray} {len n : Nat} (hl : 1 ≤ len) (h1 : 1 ≤ n) (hs : ∀ i, i < len → (g i).size = (g 0).size) (hz : (h 0).size = (g 0).size) :
    dropB (fun i => xorB (g i) (h i)) len n = xorB (dropB g len n) (dropB h len n) := by
  have hg := setL_good (k := len) (seed := n) hl h1
  unfold dropB
  generalize setL len n = l at *
  show bytesB (xorB (g 0) (h 0)).size _ = bytesB (sumB g _ l.length).size _
  rw [xorB_size, sumB_size]
  refine bytesB_congr fun i hi => ?_
  rw [sumB_at g _ _ _ hi, sumB_at h _ _ _ (by omega)]
  exact xsum_xor hi hs _ fun j hj => by
    have h2 := (hg j hj).1.2
    have h3 := (hg j hj).1.1
    have h4 : (((l.getD j 0 : Nat) : Int)) < (len : Int) := h2
    omega

theorem Try.infoStrX : (Try.prog.info? 9).map (fun i => (i.zero, i.size, i.bytes)) = some (some (.string ⟨#[]⟩), 1, 16) := by kernel_rfl
/-- Strings that the call owns, opened. -/
theorem own_strs {w : World} {B : Nat} {v : Value} {n : Nat} {f : Nat → ByteArray} (h : w.ownsRow B 9 1 v n ((List.range n).map fun k : Nat => .string (f k))) (hn : 0 < n) :
    ∃ g cap, v = .slice (some ⟨g, 0, none⟩) n cap ∧ n ≤ cap ∧ cap ≤ maxLen ∧ ∀ k, k < n → w.cell? ⟨g, 0 + k, none⟩ = some (.string (f k)) := by
  have h' := h
  rcases h.2 with ⟨_, h0⟩ | ⟨g, cap, cur, hv, _, hg, h1, h2, hcs, hcur⟩
  · omega
  · refine ⟨g, cap, hv, h1, h2, fun k hk => ?_⟩
    rw [hv] at h'
    rw [Nat.zero_add, h'.cellAt k (by omega)]
    simp [hk]
theorem own_under {w w' : World} {B e size n : Nat} {v : Value} {xs : List Value} (h : w.ownsRow B e size v n xs) (hb : Below w.heap.size w w') : w'.ownsRow B e size v n xs := by
  refine ⟨h.1, ?_⟩
  rcases h.2 with hn | ⟨g, cap, cur, hv, h1, hgg, rest⟩
  · exact .inl hn
  · exact .inr ⟨g, cap, cur, hv, h1, (hb.block g (Array.getElem?_eq_some_iff.1 hgg).1).trans hgg, rest⟩
end Go.Proofs.Ytijbljcpfjlllaa
