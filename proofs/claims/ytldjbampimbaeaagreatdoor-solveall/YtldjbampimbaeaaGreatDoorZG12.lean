/-
  Lemmas for the law above, joined into one text (SvFit, SvMade, PSpan, SvOne, SStrs). No statement is proved here.
-/
import Derived.Test.YtldjbampimbaeaaGreatDoorZG6
import Derived.Test.YtldjbampimbaeaaGreatDoorZG4
import Derived.Test.YtldjbampimbaeaaGreatDoorZG11
import Derived.Deep.RegionLaw
import Derived.Deep.DrawnRows
import Derived.Test.YtldjbampimbaeaaGreatDoorZG5
import Derived.Test.YtldjbampimbaeaaGreatDoorZG1
import Derived.Deep.QuietTactic
import Derived.BigQuiet
namespace Go.Proofs.YtldjbampimbaeaaGreatDoor
open Go.RowKit
set_option linter.unusedVariables false
set_option maxRecDepth 100000

/-- The bytes at i of the blocks of a set, one over the other. -/
def phi (g : Nat → ByteArray) (i : Nat) : Nat → Nat → UInt8
  | 0, _ => 0
  | k + 1, m => (if m.testBit k then atB (g k) i else 0) ^^^ phi g i k m
theorem phi_add (g : Nat → ByteArray) (i a b : Nat) : ∀ k, phi g i k (a ^^^ b) = phi g i k a ^^^ phi g i k b
  | 0 => by simp [phi]
  | k + 1 => by
    unfold phi
    rw [phi_add g i a b k, Nat.testBit_xor]
    have e : (if (a.testBit k ^^ b.testBit k) = true then atB (g k) i else 0) = (if a.testBit k then atB (g k) i else 0) ^^^ (if b.testBit k then atB (g k) i else 0) := by
      cases a.testBit k <;> cases b.testBit k <;> simp
    rw [e]
    simp only [UInt8.xor_assoc]
    rw [← UInt8.xor_assoc (if b.testBit k then atB (g k) i else 0), UInt8.xor_comm (if b.testBit k then atB (g k) i else 0), UInt8.xor_assoc]
theorem phi_zero (g : Nat → ByteArray) (i : Nat) : ∀ k, phi g i k 0 = 0
  | 0 => rfl
  | k + 1 => by unfold phi; rw [phi_zero g i k]; simp
theorem phi_unit (g : Nat → ByteArray) (i p : Nat) : ∀ k, phi g i k (2 ^ p) = if p < k then atB (g p) i else 0
  | 0 => by simp [phi]
  | k + 1 => by
    unfold phi
    rw [phi_unit g i p k, Nat.testBit_two_pow]
    by_cases e : p = k
    · subst e
      rw [if_pos (by simp), if_neg (Nat.lt_irrefl _), if_pos (by omega)]; simp
    · rw [decide_eq_false e]
      by_cases c : p < k
      · rw [if_pos c, if_pos (show p < k + 1 by omega)]; simp
      · rw [if_neg c, if_neg (show ¬ p < k + 1 by omega)]; simp
/-- A row that is of the blocks g. -/
def Fits (g : Nat → ByteArray) (k : Nat) (v : RV) : Prop := v.2 = fun i => phi g i k v.1
theorem Fits.sp {g : Nat → ByteArray} {k : Nat} {L : List RV} (h : ∀ v ∈ L, Fits g k v) {v : RV} (hv : Sp XV L v) : Fits g k v :=
  Sp.ind (G := XV) (C := Fits g k) (funext fun i => (phi_zero g i k).symm) (fun x y hx hy => by
    have hx : x.2 = _ := hx
    have hy : y.2 = _ := hy
    show (fun i => x.2 i ^^^ y.2 i) = fun i => phi g i k (x.1 ^^^ y.1)
    rw [hx, hy]
    exact funext fun i => (phi_add g i x.1 y.1 k).symm) h hv
theorem fits_clash {g : Nat → ByteArray} {k : Nat} {L : List RV} (h : ∀ v ∈ L, Fits g k v) : ¬ Clash L := fun ⟨x, hx, hne⟩ => hne (by
  have h9 : x = _ := Fits.sp h hx
  rw [h9]
  exact funext fun i => phi_zero g i k)
theorem fits_unit {g : Nat → ByteArray} {k p : Nat} {L : List RV} (h : ∀ v ∈ L, Fits g k v) (hp : p < k) {s : ByteArray} (hz : s.size = (g p).size) (hs : Sp XV L (rv (2 ^ p) s)) : s = g p := by
  have h9 : atB s = _ := Fits.sp h hs
  refine bytes_fun hz ?_
  rw [h9]
  exact funext fun i => by show phi g i k (2 ^ p) = _; rw [phi_unit, if_pos hp]
theorem maskL_cons {r : Nat} {s : List Nat} (h : r ∉ s) : maskL (r :: s) = 2 ^ r ^^^ maskL s := Nat.eq_of_testBit_eq fun j => by
  rw [maskL_bit, Nat.testBit_xor, Nat.testBit_two_pow, maskL_bit]
  by_cases e : j = r
  · subst e; simp [h]
  · have e' : ¬ r = j := fun h => e h.symm
    simp [e, e']
theorem phi_xl (g : Nat → ByteArray) (i k : Nat) : ∀ s : List Nat, s.Nodup → (∀ p ∈ s, p < k) → phi g i k (maskL s) = xl g i s
  | [], _, _ => phi_zero g i k
  | r :: s, hn, hk => by
    rw [maskL_cons (List.nodup_cons.1 hn).1, phi_add, phi_unit, if_pos (hk r (by simp)), phi_xl g i k s (List.nodup_cons.1 hn).2 (fun p hp => hk p (by simp [hp]))]
    rfl
/-- The row of a drop of the blocks g. -/
theorem drop_fits {g : Nat → ByteArray} {k seed : Nat} (hk : 1 ≤ k) (h1 : 1 ≤ seed) (hz : ∀ p, p < k → (g p).size = (g 0).size) : Fits g k (rv (maskL (setL k seed)) (dropB g k seed)) := by
  have hn : (setL k seed).Nodup := (setL_rise k seed).imp (fun h => by omega)
  have hl : ∀ p ∈ setL k seed, p < k := fun p hp => setL_lt hk h1 hp
  refine funext fun i => ?_
  show atB (dropB g k seed) i = phi g i k (maskL (setL k seed))
  rw [phi_xl g i k _ hn hl]
  have hd := dropB_size g k seed
  rcases Nat.lt_or_ge i (g 0).size with hi | hi
  · unfold dropB
    rw [sumB_at _ _ _ _ hi, xsum_xl g (setL k seed) i _ (Nat.le_refl _), List.take_length]
  · rw [atB_out _ _ (by rw [hd]; exact hi)]
    have h0 : ∀ s : List Nat, (∀ p ∈ s, p < k) → xl g i s = 0 := fun s => by
      induction s with
      | nil => intro _; rfl
      | cons r s ih =>
        intro hs
        show atB (g r) i ^^^ xl g i s = 0
        rw [ih (fun p hp => hs p (by simp [hp])), atB_out _ _ (by rw [hz r (hs r (by simp))]; exact hi)]; rfl
    exact (h0 _ hl).symm
theorem maskL_one (p : Nat) : maskL [p] = 2 ^ p := by rw [maskL_cons (by simp)]; simp [maskL]
theorem unit_fits {g : Nat → ByteArray} {k p : Nat} (hp : p < k) : Fits g k (rv (2 ^ p) (g p)) := funext fun i => by
  show atB (g p) i = phi g i k (2 ^ p)
  rw [phi_unit, if_pos hp]
/-- With all blocks alone all that is of them is made. -/
theorem units_make {g : Nat → ByteArray} {L : List RV} {m : Nat} : ∀ {k : Nat}, (∀ p, p < k → Sp XV L (rv (2 ^ p) (g p))) → Sp XV L (m % 2 ^ k, fun i => phi g i k m)
  | 0, _ => by
    rw [Nat.pow_zero, Nat.mod_one]
    exact Sp.zero XV L
  | k + 1, h => by
    have ih := units_make (m := m) (k := k) (fun p hp => h p (by omega))
    have e : m % 2 ^ (k + 1) = m % 2 ^ k ^^^ if m.testBit k then 2 ^ k else 0 := Nat.eq_of_testBit_eq fun j => by
      rw [Nat.testBit_mod_two_pow, Nat.testBit_xor, Nat.testBit_mod_two_pow]
      by_cases c : m.testBit k = true
      · rw [if_pos c, Nat.testBit_two_pow]
        by_cases e : k = j
        · subst e; simp [c]
        · rw [decide_eq_false e]
          have e2 : decide (j < k + 1) = decide (j < k) := decide_eq_decide.2 (by omega)
          rw [e2]; simp
      · rw [if_neg c, Nat.zero_testBit]
        by_cases e : j = k
        · subst e; simp [c]
        · have e2 : decide (j < k + 1) = decide (j < k) := decide_eq_decide.2 (by omega)
          rw [e2]; simp
    by_cases c : m.testBit k = true
    · have h9 := Sp.add ih (h k (by omega))
      rw [XV_add] at h9
      have e3 : ((m % 2 ^ (k + 1), fun i => phi g i (k + 1) m) : RV) = (m % 2 ^ k ^^^ 2 ^ k, fun i => phi g i k m ^^^ atB (g k) i) := by
        rw [e, if_pos c]
        refine Prod.ext rfl (funext fun i => ?_)
        show (if m.testBit k then atB (g k) i else 0) ^^^ phi g i k m = _
        rw [if_pos c, UInt8.xor_comm]
      rw [e3]; exact h9
    · have e3 : ((m % 2 ^ (k + 1), fun i => phi g i (k + 1) m) : RV) = (m % 2 ^ k, fun i => phi g i k m) := by
        rw [e, if_neg c, Nat.xor_zero]
        refine Prod.ext rfl (funext fun i => ?_)
        show (if m.testBit k then atB (g k) i else 0) ^^^ phi g i k m = _
        rw [if_neg c, UInt8.zero_xor]
      rw [e3]; exact ih
/-- One that is not of them clashes. -/
theorem bent_clash {g : Nat → ByteArray} {L : List RV} {m k : Nat} {s : ByteArray} (h : ∀ p, p < k → Sp XV L (rv (2 ^ p) (g p))) (hm : m < 2 ^ k) (hs : Sp XV L (rv m s)) (hne : ¬ Fits g k (rv m s)) : Clash L := by
  have h9 := Sp.add hs (units_make (m := m) h)
  rw [Nat.mod_eq_of_lt hm, XV_add] at h9
  have e : (rv m s).1 ^^^ m = 0 := Nat.xor_self m
  simp only [e] at h9
  refine ⟨_, h9, fun h0 => hne (funext fun i => ?_)⟩
  have h8 := congrFun h0 i
  have h7 : (rv m s).2 i = phi g i k m := by simpa using h8
  exact h7
theorem units_dim {L : List RV} {k r : Nat} {g : Nat → ByteArray} (h : ∀ p, p < k → Sp XV L (rv (2 ^ p) (g p))) (hd : Dim (Sp XN (L.map Prod.fst)) r) : k ≤ r := by
  have hled : Led (fun _ => true) (fun b => 2 ^ b) k := fun b _ _ => ⟨by rw [Nat.testBit_two_pow]; simp, fun c hc _ => by rw [Nat.testBit_two_pow]; exact decide_eq_false (by omega)⟩
  have h9 := hd.least (piv_indep hled) (fun v hv => by
    obtain ⟨b, hb, _, rfl⟩ := mem_piv.1 hv
    exact Sp.fst.2 ⟨_, h b hb⟩)
  rw [piv_len, cntB_all.2 (fun _ _ => rfl)] at h9
  exact h9
end Go.Proofs.YtldjbampimbaeaaGreatDoor

namespace Go.Proofs.YtldjbampimbaeaaGreatDoor
open Go.RowKit Go.Maps
set_option linter.unusedVariables false
set_option maxRecDepth 100000

/-- The cells of the first drops, j of them. -/
def dcells (s : Nat → Nat) (d : Nat → ByteArray) (j : Nat) : List Value := (List.range j).flatMap fun i => [.int .i64 (s i : Nat), .string (d i)]
theorem dcells_succ (s : Nat → Nat) (d : Nat → ByteArray) (j : Nat) : dcells s d (j + 1) = dcells s d j ++ [.int .i64 (s j : Nat), .string (d j)] := by unfold dcells; rw [List.range_succ, List.flatMap_append]; simp
theorem dcells_len (s : Nat → Nat) (d : Nat → ByteArray) : ∀ j, (dcells s d j).length = j * 2
  | 0 => rfl
  | j + 1 => by rw [dcells_succ, List.length_append, dcells_len s d j]; simp; omega
theorem dcells_at (s : Nat → Nat) (d : Nat → ByteArray) (i : Nat) : ∀ j, i < j → (dcells s d j)[i * 2]? = some (.int .i64 (s i : Nat)) ∧ (dcells s d j)[i * 2 + 1]? = some (.string (d i))
  | 0, h => absurd h (Nat.not_lt_zero _)
  | j + 1, h => by
    rw [dcells_succ]
    have hl := dcells_len s d j
    by_cases e : i = j
    · subst e
      rw [List.getElem?_append_right (by omega), List.getElem?_append_right (by omega), hl, Nat.sub_self, show i * 2 + 1 - i * 2 = 1 by omega]
      exact ⟨rfl, rfl⟩
    · rw [List.getElem?_append_left (by omega), List.getElem?_append_left (by omega)]
      exact dcells_at s d i j (by omega)
theorem own_dropsAt {w : World} {B : Nat} {v : Value} {n : Nat} {s : Nat → Nat} {d : Nat → ByteArray} (h : w.ownsRow B 29 2 v n (dcells s d n)) (hs : ∀ i, i < n → s i ≤ 10000) (hd : ∀ i, i < n → (d i).size ≤ maxLen) : DropsAt w v n (fun i => (s i : Int)) d := by
  have h' := h
  rcases h.2 with ⟨hv, h0⟩ | ⟨g, cap, cur, hv, _, hg, h1, h2, hcs, hcur⟩
  · exact Or.inl ⟨h0, _, _, hv⟩
  · rcases Nat.eq_zero_or_pos n with e | h0
    · exact Or.inl ⟨e, _, _, by rw [hv, e]⟩
    · refine Or.inr ⟨h0, g, 0, cap, hv, h1, h2, fun i hi => ?_⟩
      rw [hv] at h'
      rw [Nat.zero_add, h'.cellAt (i * 2) (by omega), h'.cellAt (i * 2 + 1) (by omega)]
      have := hs i hi
      have e : ((fun i => (s i : Int)) i) = (s i : Int) := rfl
      exact ⟨(dcells_at s d i n hi).1, (dcells_at s d i n hi).2, hd i hi, WalkArith.wf_i64 (by omega)⟩
theorem firstF_zero {g : Nat → Int} : ∀ {n : Nat}, (∀ i, i < n → g i = 0) → firstF g n = 0
  | 0, _ => rfl
  | n + 1, h => by
    unfold firstF
    rw [firstF_zero (n := n) (fun i hi => h i (by omega)), if_neg (by simp), h n (by omega)]
theorem fC_zero {k z len : Nat} {s : Nat → Nat} {d : Nat → ByteArray} (hl : len ≤ 60) (hk : 1 ≤ k ∧ k ≤ 16) (hz : 1 ≤ z ∧ z ≤ 8) (hs : ∀ i, i < len → 1 ≤ s i ∧ s i ≤ 10000 ∧ (d i).size = z) : fC k z len (fun i => (s i : Int)) d = 0 := by
  unfold fC
  rw [if_neg (by omega), if_pos (by omega)]
  refine firstF_zero fun i hi => ?_
  obtain ⟨h1, h2, h3⟩ := hs i hi
  show fD k z (s i : Int) (d i).size = 0
  unfold fD
  rw [if_pos (by unfold OkD; omega), if_pos (by omega)]
theorem DropIn.data {w : World} {b : Nat} {seed : Int} {s : ByteArray} (h : DropIn w b seed s) (t : ByteArray) : DropIn (w.setCell ⟨b, 0 + 1, none⟩ (.string t)) b seed t := by
  obtain ⟨⟨c0, f0⟩, c1, f1⟩ := h
  refine ⟨⟨?_, by rw [World.frozen?_setCell]; exact f0⟩, World.cell?_setCell_same _ _ _ c1, by rw [World.frozen?_setCell]; exact f1⟩
  rw [World.cell?_setCell_other _ _ _ _ (fun h => by cases h)]; exact c0
/-- Of drops of blocks, all of them alone among these, these come back. -/
theorem solved_right {L : List RV} {g : Nat → ByteArray} {k n : Nat} {e : Ending} {w' : World} (h : Solved L k n e w') (hf : ∀ v ∈ L, Fits g k v) (hu : ∀ p, p < k → Sp XV L (rv (2 ^ p) (g p))) (hz : ∀ p, p < k → (g p).size = n) :
    ∃ b : Nat, e = .returned (.tuple #[.slice (some ⟨b, 0, none⟩) k k, .nilIface]) ∧ ∀ p, p < k → w'.cell? ⟨b, p, none⟩ = some (.string (g p)) := by
  rcases h with ⟨hc, _⟩ | ⟨_, ⟨r, hr, hd⟩, _⟩ | ⟨_, _, b, G, he, hG⟩
  · exact absurd hc (fits_clash hf)
  · have := units_dim hu hd; omega
  · refine ⟨b, he, fun p hp => ?_⟩
    obtain ⟨h1, h2, h3⟩ := hG p hp
    rw [← fits_unit hf hp (by rw [h2, hz p hp]) h3]; exact h1
theorem solved_bent {L : List RV} {k n : Nat} {e : Ending} {w' : World} (h : Solved L k n e w') (hc : Clash L) : e = .returned (.tuple #[.slice none 0 0, .iface 54 (.int .i64 7)]) := by
  rcases h with ⟨_, he⟩ | ⟨hn, _⟩ | ⟨hn, _⟩
  · exact he
  · exact absurd hc hn
  · exact absurd hc hn
end Go.Proofs.YtldjbampimbaeaaGreatDoor

namespace Go.Proofs.YtldjbampimbaeaaGreatDoor
open Go.RowKit Go.Maps
set_option linter.unusedVariables false
set_option maxRecDepth 100000

theorem mask_in {L : List Nat} : ∀ {s : List Nat}, s.Nodup → (∀ r ∈ s, Sp XN L (2 ^ r)) → Sp XN L (maskL s)
  | [], _, _ => Sp.zero XN L
  | r :: s, hn, h => by
    rw [maskL_cons (List.nodup_cons.1 hn).1]
    exact Sp.add (G := XN) (h r (by simp)) (mask_in (List.nodup_cons.1 hn).2 fun q hq => h q (by simp [hq]))
theorem mask_split {s : List Nat} {x : Nat} (hx : x ∈ s) : maskL s ^^^ maskL (s.filter fun r => decide (r ≠ x)) = 2 ^ x := Nat.eq_of_testBit_eq fun j => by
  rw [Nat.testBit_xor, maskL_bit, maskL_bit, Nat.testBit_two_pow]
  by_cases c : j = x
  · subst c; simp [hx]
  · have : x ≠ j := fun e => c e.symm
    simp [c, this]
theorem mask_one {L s : List Nat} {x : Nat} (hn : s.Nodup) (hx : x ∈ s) (hm : Sp XN L (maskL s)) (h : ∀ r ∈ s, r ≠ x → Sp XN L (2 ^ r)) : Sp XN L (2 ^ x) := by
  rw [← mask_split hx]
  exact Sp.add (G := XN) hm (mask_in (hn.filter _) fun r hr => by
    have h2 := List.mem_filter.1 hr
    exact h r h2.1 (of_decide_eq_true h2.2))
open Classical in
theorem Took.span {k : Nat} {p : PS} {T : List Drp} (h : Took (setL k) p T) (hn : ∀ s, (setL k s).Nodup) : ∀ r, p.known r = true → Sp XN (T.map fun d => maskL (setL k d.1)) (2 ^ r) := fun r hr => by
  have := h.least (fun r => decide (Sp XN (T.map fun d => maskL (setL k d.1)) (2 ^ r))) (fun d hd h1 => by
    obtain ⟨x, hx⟩ := List.length_eq_one_iff.1 h1
    have hm := mem_lft.1 (show x ∈ lft (setL k) _ d by rw [hx]; simp)
    exact (of_decide_eq_false hm.2) (mask_one (hn _) hm.1 (Sp.mem (List.mem_map.2 ⟨d, hd, rfl⟩)) fun q hq hne => Classical.byContradiction fun hno => by
      have hl : q ∈ lft (setL k) (fun r => decide (Sp XN (T.map fun d => maskL (setL k d.1)) (2 ^ r))) d := mem_lft.2 ⟨hq, decide_eq_false hno⟩
      rw [hx] at hl
      exact hne (by simpa using hl))) r hr
  exact of_decide_eq_true this
theorem knows_rank {L : List Nat} {k r : Nat} {kn : Nat → Bool} (hd : Dim (Sp XN L) r) (h : ∀ b, kn b = true → Sp XN L (2 ^ b)) : (knows k kn).length ≤ r := by
  have hi : Indep (piv kn (fun b => 2 ^ b) k) := piv_indep fun b _ _ => ⟨by simp, fun c hc _ => by rw [Nat.testBit_two_pow]; exact decide_eq_false (by omega)⟩
  have := hd.least hi fun v hv => by
    obtain ⟨b, _, hb, rfl⟩ := mem_piv.1 hv
    exact h b hb
  rw [piv_len] at this
  exact this
end Go.Proofs.YtldjbampimbaeaaGreatDoor

namespace Go.Proofs.YtldjbampimbaeaaGreatDoor
open Go.RowKit Go.Maps
set_option linter.unusedVariables false
set_option maxRecDepth 100000

theorem own_blk3 {w w' : World} {B e size n : Nat} {v : Value} {xs : List Value} (h : w.ownsRow B e size v n xs) (hb : ∀ i, v.ownBlock = some i → w'.heap[i]? = w.heap[i]?) : w'.ownsRow B e size v n xs := by
  refine ⟨h.1, ?_⟩
  rcases h.2 with hn | ⟨g, cap, cur, hv, h1, hgg, rest⟩
  · exact .inl hn
  · exact .inr ⟨g, cap, cur, hv, h1, (hb g (by rw [hv]; rfl)).trans hgg, rest⟩

structure OneP (I : PIm0) (w0 w : World) (vP vm : Value) (k z : Nat) (p : PS) (T : List Nat) (n : Nat) (s : Nat → Nat) (d : Nat → ByteArray) : Prop where
  st : I.St w vP k z p T
  row : w.ownsRow w0.heap.size 29 2 vm n (dcells s d n)
  apart : ∀ i, vm.ownBlock = some i → ¬ I.foot w vP i
  fresh : ∀ i, I.foot w vP i → w0.heap.size ≤ i
  below : Below w0.heap.size w0 w
theorem OneP.grow {I : PIm0} {w0 w w' : World} {vP vm : Value} {k z : Nat} {p : PS} {T : List Nat} {n : Nat} {s : Nat → Nat} {d : Nat → ByteArray} (h : OneP I w0 w vP vm k z p T n s d) (hb : Below w.heap.size w w') : OneP I w0 w' vP vm k z p T n s d := by
  have h1 := I.below h.st hb
  exact ⟨h1.1, own_under' h.row hb, fun i e hj => h.apart i e (h1.2 i hj), fun i hi => h.fresh i (h1.2 i hi), below_two h.below hb⟩
theorem OneP.take {I : PIm0} {w0 w w' : World} {vP vm : Value} {k z : Nat} {p p' : PS} {T T' : List Nat} {n : Nat} {s : Nat → Nat} {d : Nat → ByteArray} (h : OneP I w0 w vP vm k z p T n s d) (hs : I.St w' vP k z p' T') (hk : Kept (I.foot w vP) w w') (hf : ∀ i, I.foot w' vP i → I.foot w vP i ∨ w.heap.size ≤ i) : OneP I w0 w' vP vm k z p' T' n s d := by
  refine ⟨hs, own_blk3 h.row fun i e => hk.block i (h.row.lt i e).2 (h.apart i e), fun i e hj => ?_, fun i hi => ?_, kept_below h.below hk h.fresh⟩
  · rcases hf i hj with h9 | h9
    · exact h.apart i e h9
    · have := (h.row.lt i e).2; omega
  · rcases hf i hi with h9 | h9
    · exact h.fresh i h9
    · exact Nat.le_trans h.below.size h9
theorem OneP.push {I : PIm0} {w0 w w' : World} {vP vm v : Value} {k z : Nat} {p : PS} {T : List Nat} {n : Nat} {s : Nat → Nat} {d : Nat → ByteArray} (h : OneP I w0 w vP vm k z p T n s d) (hg : w.grownBy w' vm.ownBlock) (hv : w'.ownsRow w0.heap.size 29 2 v (n + 1) (dcells s d (n + 1))) (hat : v.ownBlock = vm.ownBlock ∨ ∃ i, v.ownBlock = some i ∧ w.heap.size ≤ i) : OneP I w0 w' vP v k z p T (n + 1) s d := by
  have h1 := I.keep h.st hg.size fun i hi => hg.block i (I.foot_lt h.st i hi) fun e => h.apart i e.symm hi
  refine ⟨h1.1, hv, fun i e hj => ?_, fun i hi => h.fresh i (h1.2 i hi), h.below.grown hg h.below.size fun i e => (h.row.lt i e).1⟩
  have hj' := h1.2 i hj
  rcases hat with e2 | ⟨m, e2, hm⟩
  · exact h.apart i (e2 ▸ e) hj'
  · rw [e] at e2; cases e2
    have := I.foot_lt h.st i hj'; omega

theorem setL_nodup' (k s : Nat) : (setL k s).Nodup := (setL_rise k s).imp (fun h => by omega)
/-- What the Peeler has taken are of these seeds. -/
def Seen (k n : Nat) (s : Nat → Nat) (p : PS) (T : List Nat) : Prop := T.length ≤ n ∧ ∃ Ms : List Drp, Took (setL k) p Ms ∧ ∀ d ∈ Ms, ∃ j, j < n ∧ d.1 = s j
theorem seen_none (k : Nat) (s : Nat → Nat) : Seen k 0 s p0 [] := ⟨Nat.le_refl _, [], took_none _ _, fun d hd => absurd hd (by simp)⟩
theorem Seen.more {k n : Nat} {s : Nat → Nat} {p : PS} {T : List Nat} (h : Seen k n s p T) : Seen k (n + 1) s p T := by
  obtain ⟨h1, Ms, h2, h3⟩ := h
  exact ⟨by omega, Ms, h2, fun d hd => by obtain ⟨j, hj, e⟩ := h3 d hd; exact ⟨j, by omega, e⟩⟩
theorem Seen.take {k n : Nat} {s : Nat → Nat} {p a : PS} {T : List Nat} {b : ByteArray} (h : Seen k n s p T) (hp : Peels (setL k) ⟨p.known, p.B, p.L ++ [(s n, b)]⟩ a) : Seen k (n + 1) s a (T ++ [s n]) := by
  obtain ⟨h1, Ms, h2, h3⟩ := h
  refine ⟨by simp; omega, Ms ++ [(s n, b)], h2.take (setL_nodup' k) _ hp, fun d hd => ?_⟩
  rcases List.mem_append.1 hd with hd | hd
  · obtain ⟨j, hj, e⟩ := h3 d hd; exact ⟨j, by omega, e⟩
  · rw [List.mem_singleton.1 hd]; exact ⟨n, by omega, rfl⟩
theorem Seen.rank {k n r : Nat} {s : Nat → Nat} {p : PS} {T : List Nat} (h : Seen k n s p T) (hd : Dim (Sp XN (masksD k s n)) r) : (knows k p.known).length ≤ r := by
  obtain ⟨_, Ms, h2, h3⟩ := h
  refine knows_rank hd fun b hb => Sp.mono (fun v hv => ?_) (h2.span (setL_nodup' k) b hb)
  obtain ⟨d, hd, rfl⟩ := List.mem_map.1 hv
  obtain ⟨j, hj, e⟩ := h3 d hd
  exact List.mem_map.2 ⟨j, List.mem_range.2 hj, by rw [e]⟩
/-- Drops of blocks: solved just if the rank is full. -/
theorem solved_all {k n r len : Nat} {g : Nat → ByteArray} {s : Nat → Nat} {e : Ending} {w' : World} (hk : 1 ≤ k) (h : Solved (rowsD k s (fun i => dropB g k (s i)) len) k n e w') (hs : ∀ i, i < len → 1 ≤ s i) (hg : ∀ p, p < k → (g p).size = (g 0).size) (hn : (g 0).size = n) (hd : Dim (Sp XN (masksD k s len)) r) :
    (r = k ∧ ∃ b : Nat, e = .returned (.tuple #[.slice (some ⟨b, 0, none⟩) k k, .nilIface]) ∧ ∀ p, p < k → w'.cell? ⟨b, p, none⟩ = some (.string (g p))) ∨
    (r ≠ k ∧ e = .returned (.tuple #[.slice none 0 0, .iface 54 (.int .i64 8)])) := by
  have hf : ∀ v ∈ rowsD k s (fun i => dropB g k (s i)) len, Fits g k v := fun v hv => by
    obtain ⟨i, hi, rfl⟩ := List.mem_map.1 hv
    exact drop_fits hk (hs i (List.mem_range.1 hi)) hg
  rcases h with ⟨hc, _⟩ | ⟨_, ⟨q, hq, hd2⟩, he⟩ | ⟨_, hd2, b, G, he, hG⟩
  · exact absurd hc (fits_clash hf)
  · rw [masksD_rows] at hd2
    have := hd.det hd2
    exact Or.inr ⟨by omega, he⟩
  · rw [masksD_rows] at hd2
    refine Or.inl ⟨hd.det hd2, b, he, fun p hp => ?_⟩
    obtain ⟨h1, h2, h3⟩ := hG p hp
    rw [← fits_unit hf hp (by rw [h2, hg p hp, hn]) h3]; exact h1
/-- One seed more. -/
theorem rank_more {k n r q : Nat} {s : Nat → Nat} (hd : Dim (Sp XN (masksD k s n)) r) (hq : Dim (Sp XN (masksD k s (n + 1))) q) : q = r ∨ q = r + 1 := by
  have e : masksD k s (n + 1) = masksD k s n ++ [maskL (setL k (s n))] := by unfold masksD; rw [List.range_succ, List.map_append]; rfl
  rw [e] at hq
  rcases hd.more (maskL (setL k (s n))) with ⟨h, _⟩ | ⟨h, _⟩
  · exact Or.inl (hq.det h)
  · exact Or.inr (hq.det h)
end Go.Proofs.YtldjbampimbaeaaGreatDoor

namespace Go.Proofs.YtldjbampimbaeaaGreatDoor
open Go.RowKit
set_option linter.unusedVariables false
set_option maxRecDepth 100000

/-- A slice of strings as it lies. -/
def StrsIn (w : World) (v : Value) (len : Nat) (f : Nat → ByteArray) : Prop :=
  (len = 0 ∧ ∃ a cap, v = .slice a 0 cap) ∨ (0 < len ∧ ∃ b o cap, v = .slice (some ⟨b, o, none⟩) len cap ∧ ∀ i, i < len → w.cell? ⟨b, o + i, none⟩ = some (.string (f i)))
theorem StrsIn.below {w w' : World} {v : Value} {len : Nat} {f : Nat → ByteArray} (h : StrsIn w v len f) (hb : Below w.heap.size w w') : StrsIn w' v len f := by
  rcases h with h | ⟨h0, b, o, cap, hv, hc⟩
  · exact Or.inl h
  · exact Or.inr ⟨h0, b, o, cap, hv, fun i hi => cell_below hb (hc i hi)⟩
set_option maxHeartbeats 1000000 in
theorem sstrs_same (v v' : Value) (len : Nat) (f : Nat → ByteArray) (w : World) (hlen : len ≤ 1000) (h : StrsIn w v len f) (h' : StrsIn w v' len f) :
    Calls Tryz.prog 10 #[v, v'] w fun e w' => e = .returned (.bool true) ∧ Below w.heap.size w w' := by
  rcases h with ⟨rfl, a, cap, rfl⟩ | ⟨h0, b, o, cap, rfl, hcell⟩
  · rcases h' with ⟨_, a', cap', rfl⟩ | ⟨h0, _⟩
    · go_enter Tryz.func10, Tryz.ntmps10
      go_wp2
      refine wp_loop_rounds 1 ?_
      rw [rounds_succ]
      go_wp2
      go_ret
      exact ⟨rfl, Below.refl _ _⟩
    · omega
  · rcases h' with ⟨h0', _⟩ | ⟨_, b', o', cap', rfl, hcell'⟩
    · omega
    have HC := hide hcell
    have HC' := hide hcell'
    clear hcell hcell'
    have hne : ((len : Int) != (len : Int)) = false := by simp
    go_enter Tryz.func10, Tryz.ntmps10
    go_wp2
    go_loopw [5] (fun i wr => ∃ j : Nat, j ≤ len ∧ i = .int .i64 j ∧ Below w.heap.size w wr) (fun i _ => len - (intOf i).toNat)
    case atStart => exact ⟨0, Nat.zero_le _, rfl, Below.refl _ _⟩
    case round =>
      obtain ⟨j, hj, rfl, hb⟩ := hrel
      by_cases hlt : j < len
      · have hltI : (j : Int) < (len : Int) := by omega
        have hcj := cell_below hb (HC.out j hlt)
        have hcj' := cell_below hb (HC'.out j hlt)
        go_wp2_with fail
        go_quiet (fail)
        go_wp2
        go_roundw
        case rel => exact ⟨j + 1, by omega, by go_num, below_drewN hb _⟩
        case measure => simp [intOf]; omega
      · go_wp2
        go_ret
        exact ⟨rfl, hb⟩
end Go.Proofs.YtldjbampimbaeaaGreatDoor
