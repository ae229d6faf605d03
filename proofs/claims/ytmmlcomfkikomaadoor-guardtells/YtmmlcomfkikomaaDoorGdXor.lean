/-
  Why Heal heals: blocks over one another, each group with its own behind. Lemmas for the laws above; no function is walked, and no statement is proved here.
-/
import Derived.Test.YtmmlcomfkikomaaDoorGdHealN
namespace Go.Proofs.YtmmlcomfkikomaaDoor
open Go.RowKit
set_option linter.unusedVariables false
set_option maxRecDepth 100000

/-- Of some places what stands there, over one another. -/
def xl (h : Nat → UInt8) : List Nat → UInt8
  | [] => 0
  | r :: l => h r ^^^ xl h l
theorem xl_append (h : Nat → UInt8) : ∀ a b : List Nat, xl h (a ++ b) = xl h a ^^^ xl h b
  | [], b => by simp [xl]
  | r :: a, b => by simp only [List.cons_append, xl, xl_append h a b, UInt8.xor_assoc]
theorem xl_congr {h k : Nat → UInt8} : ∀ {l : List Nat}, (∀ r ∈ l, h r = k r) → xl h l = xl k l
  | [], _ => rfl
  | r :: l, e => by
    simp only [xl]
    rw [e r (by simp), xl_congr (l := l) fun r hr => e r (by simp [hr])]
theorem xl_rest (h : Nat → UInt8) (p : Nat) : ∀ {l : List Nat}, l.Nodup → p ∈ l → xl h l = h p ^^^ xl h (l.filter fun r => !(r == p))
  | [], _, hp => by cases hp
  | r :: l, hn, hp => by
    rw [List.nodup_cons] at hn
    by_cases e : r = p
    · subst e
      have hl : (r :: l).filter (fun r' => !(r' == r)) = l := by
        rw [List.filter_cons]
        simp only [beq_self_eq_true, Bool.not_true, Bool.false_eq_true, if_false]
        refine List.filter_eq_self.2 fun a ha => ?_
        have : a ≠ r := fun e => hn.1 (e ▸ ha)
        simp [this]
      rw [hl]; rfl
    · have hp' : p ∈ l := by
        rcases List.mem_cons.1 hp with h1 | h1
        · exact absurd h1.symm e
        · exact h1
      have hl : (r :: l).filter (fun r' => !(r' == p)) = r :: l.filter fun r' => !(r' == p) := by
        rw [List.filter_cons]; simp [e]
      rw [hl]
      simp only [xl]
      rw [xl_rest h p hn.2 hp', ← UInt8.xor_assoc, ← UInt8.xor_assoc, UInt8.xor_comm (h r) (h p)]
theorem xsum_take (g : Nat → ByteArray) (l : List Nat) (i : Nat) : ∀ k, k ≤ l.length → xsum g (fun k => ((l.getD k 0 : Nat) : Int)) k i = xl (fun r => atB (g r) i) (l.take k)
  | 0, _ => by simp [xsum, xl]
  | k + 1, hk => by
    have e : l.take (k + 1) = l.take k ++ [l.getD k 0] := by
      rw [List.take_add_one]
      simp [List.getD, show k < l.length by omega]
    rw [e, xl_append, ← xsum_take g l i k (by omega)]
    simp only [xsum, xl, Int.toNat_natCast, UInt8.xor_zero]
theorem sumL_at (g : Nat → ByteArray) (l : List Nat) (i : Nat) (h : i < (g 0).size) : atB (sumL g l) i = xl (fun r => atB (g r) i) l := by
  unfold sumL
  rw [sumB_at _ _ _ _ h, xsum_take g l i l.length (Nat.le_refl _), List.take_length]

section heal
variable {g z : Nat → ByteArray} {lk : Nat → Bool} {n each : Nat}
theorem addG_sizeX (hs : ∀ i, i < n → (g i).size = (g 0).size) (i : Nat) : (addG g n each i).size = (g 0).size := by
  unfold addG
  by_cases e : i < n
  · rw [if_pos e]; exact hs i e
  · rw [if_neg e]; exact sumL_size _ _
theorem lone {of : List Nat} {bh r : Nat} (h1 : (mGone lk of bh).length ≤ 1) (hr : r ∈ of ++ [bh]) (hl : lk r = true) : mPl lk of bh = r := by
  have h9 : r ∈ mGone lk of bh := List.mem_filter.2 ⟨hr, hl⟩
  unfold mPl
  rcases e : mGone lk of bh with _ | ⟨x, _ | ⟨y, l⟩⟩
  · rw [e] at h9; cases h9
  · rw [e] at h9; simp at h9; simp [h9]
  · rw [e] at h1; simp at h1
theorem dat_right (hs : ∀ i, i < n → (g i).size = (g 0).size) (hzs : (z 0).size = (g 0).size) {q : Nat} (hnd : (gL n each q ++ [n + q]).Nodup)
    (hz : ∀ r ∈ gL n each q ++ [n + q], lk r = false → z r = addG g n each r) (h1 : (mGone lk (gL n each q) (n + q)).length ≤ 1) :
    mDat z lk (gL n each q) (n + q) = addG g n each (mPl lk (gL n each q) (n + q)) := by
  unfold mDat
  refine bytes_ext (by rw [sumL_size, hzs, addG_sizeX hs]) fun i hi => ?_
  rw [sumL_size] at hi
  rw [sumL_at _ _ _ hi]
  have e1 : xl (fun r => atB (z r) i) (mRest lk (gL n each q) (n + q)) = xl (fun r => atB (addG g n each r) i) (mRest lk (gL n each q) (n + q)) := xl_congr fun r hr => by
    obtain ⟨ha, hb⟩ := List.mem_filter.1 hr
    have hne : r ≠ mPl lk (gL n each q) (n + q) := by simpa using hb
    cases hl : lk r with
    | true => exact absurd (lone h1 ha hl).symm hne
    | false => rw [hz r ha hl]
  rw [e1]
  have e2 := xl_rest (fun r => atB (addG g n each r) i) (mPl lk (gL n each q) (n + q)) hnd (mPl_in lk _ _)
  have e3 : xl (fun r => atB (addG g n each r) i) (gL n each q ++ [n + q]) = 0 := by
    rw [xl_append]
    have e4 : xl (fun r => atB (addG g n each r) i) (gL n each q) = xl (fun r => atB (g r) i) (gL n each q) := xl_congr fun r hr => by rw [addG_fst (gL_lt hr)]
    have e5 : xl (fun r => atB (addG g n each r) i) [n + q] = xl (fun r => atB (g r) i) (gL n each q) := by
      simp only [xl, UInt8.xor_zero]
      rw [addG_snd, sumL_at _ _ _ (by rw [← hzs]; exact hi)]
    rw [e4, e5, UInt8.xor_self]
  rw [e3] at e2
  have e6 := congrArg (fun x => atB (addG g n each (mPl lk (gL n each q) (n + q))) i ^^^ x) e2
  simp only [UInt8.xor_zero, ← UInt8.xor_assoc, UInt8.xor_self, UInt8.zero_xor] at e6
  exact e6.symm
theorem heal_math (hs : ∀ i, i < n → (g i).size = (g 0).size) (hzs : (z 0).size = (g 0).size) (he : 1 ≤ each) (hn16 : n + gN n each ≤ 16)
    (hz : ∀ r, r < n + gN n each → lk r = false → z r = addG g n each r) (h1 : ∀ q, q < gN n each → (mGone lk (gL n each q) (n + q)).length ≤ 1) :
    (∀ q, q < gN n each → hFlt z lk n each q = 0) ∧ ∀ i, i < n → healF z lk n each (gN n each) i = g i := by
  have hok : ∀ q, q < gN n each → GrpOk (n + gN n each) (gL n each q) (n + q) := fun q hq => grpOk he (by omega) rfl hn16 hq
  have hd : ∀ q, q < gN n each → mDat z lk (gL n each q) (n + q) = addG g n each (mPl lk (gL n each q) (n + q)) := fun q hq => dat_right hs hzs (hok q hq).nodup (fun r hr hl => hz r ((hok q hq).lt r hr) hl) (h1 q hq)
  refine ⟨fun q hq => ?_, fun i hi => ?_⟩
  · unfold hFlt mFlt
    have := h1 q hq
    rw [if_neg (by omega), if_neg]
    rintro ⟨h0, hne⟩
    have hnil : mGone lk (gL n each q) (n + q) = [] := List.length_eq_zero_iff.1 h0
    have hp : mPl lk (gL n each q) (n + q) = n + q := by unfold mPl; rw [hnil]; rfl
    have hl : lk (n + q) = false := by
      cases hl : lk (n + q) with
      | false => rfl
      | true =>
        have h9 : n + q ∈ mGone lk (gL n each q) (n + q) := List.mem_filter.2 ⟨by simp, hl⟩
        rw [hnil] at h9; cases h9
    rw [hd q hq, hp, hz (n + q) (by omega) hl] at hne
    exact hne rfl
  · have hq : i / each < gN n each := (gN_lt he _).2 (by have := gL_in (mem_gL he hi); omega)
    unfold healF
    by_cases e : mPl lk (gL n each (i / each)) (n + i / each) = i
    · rw [if_pos ⟨hq, e⟩, hd _ hq, e, addG_fst hi]
    · rw [if_neg (fun h => e h.2)]
      have hl : lk i = false := by
        cases hl : lk i with
        | false => rfl
        | true => exact absurd (lone (h1 _ hq) (List.mem_append.2 (Or.inl (mem_gL he hi))) hl) e
      rw [hz i (by omega) hl, addG_fst hi]
end heal
end Go.Proofs.YtmmlcomfkikomaaDoor
