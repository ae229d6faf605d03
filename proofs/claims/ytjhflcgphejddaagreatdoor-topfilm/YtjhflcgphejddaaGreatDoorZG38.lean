/-
  Lemmas for the law above, joined into one text (SvFit, SvMade, NdMap, NdRed, FS, NdTab). No statement is proved here.
-/
import Derived.Test.YtjhflcgphejddaaGreatDoorZG28
import Derived.Test.YtjhflcgphejddaaGreatDoorZG17
import Derived.Test.YtjhflcgphejddaaGreatDoorZSvSolve
import Derived.Deep.RegionLaw
import Derived.Deep.DrawnRows
import Derived.Test.YtjhflcgphejddaaGreatDoorZG29
import Derived.Test.YtjhflcgphejddaaGreatDoorZG33
import Derived.Deep.LoopGhost
import Derived.Test.YtjhflcgphejddaaGreatDoorZG31
namespace Go.Proofs.YtjhflcgphejddaaGreatDoor
open Go.RowKit
set_option linter.unusedVariables false
set_option maxRecDepth 100000

/-- The bytes at i of the blocks of a set, one over the other. -/
def phi (g : Nat → ByteArray) (i : Nat) : Nat → Nat → UInt8
  | 0, _ => 0
  | k + 1, m => (if m.testBit k then atB (g k) i else 0) ^^^ phi g i k m
theorem phi_add (g : Nat → ByteArray) (i a b : Nat) : ∀ k, phi g i k (a ^^^ b) = phi g i k a ^^^ phi g i k b
  | 0 => by simp [phi]
  | k + 1 => by
    unfold phi
    rw [phi_add g i a b k, Nat.testBit_xor]
    have e : (if (a.testBit k ^^ b.testBit k) = true then atB (g k) i else 0) = (if a.testBit k then atB (g k) i else 0) ^^^ (if b.testBit k then atB (g k) i else 0) := by
      cases a.testBit k <;> cases b.testBit k <;> simp
    rw [e]
    simp only [UInt8.xor_assoc]
    rw [← UInt8.xor_assoc (if b.testBit k then atB (g k) i else 0), UInt8.xor_comm (if b.testBit k then atB (g k) i else 0), UInt8.xor_assoc]
theorem phi_zero (g : Nat → ByteArray) (i : Nat) : ∀ k, phi g i k 0 = 0
  | 0 => rfl
  | k + 1 => by unfold phi; rw [phi_zero g i k]; simp
theorem phi_unit (g : Nat → ByteArray) (i p : Nat) : ∀ k, phi g i k (2 ^ p) = if p < k then atB (g p) i else 0
  | 0 => by simp [phi]
  | k + 1 => by
    unfold phi
    rw [phi_unit g i p k, Nat.testBit_two_pow]
    by_cases e : p = k
    · subst e
      rw [if_pos (by simp), if_neg (Nat.lt_irrefl _), if_pos (by omega)]; simp
    · rw [decide_eq_false e]
      by_cases c : p < k
      · rw [if_pos c, if_pos (show p < k + 1 by omega)]; simp
      · rw [if_neg c, if_neg (show ¬ p < k + 1 by omega)]; simp
/-- A row that is of the blocks g. -/
def Fits (g : Nat → ByteArray) (k : Nat) (v : RV) : Prop := v.2 = fun i => phi g i k v.1
theorem Fits.sp {g : Nat → ByteArray} {k : Nat} {L : List RV} (h : ∀ v ∈ L, Fits g k v) {v : RV} (hv : Sp XV L v) : Fits g k v :=
  Sp.ind (G := XV) (C := Fits g k) (funext fun i => (phi_zero g i k).symm) (fun x y hx hy => by
    have hx : x.2 = _ := hx
    have hy : y.2 = _ := hy
    show (fun i => x.2 i ^^^ y.2 i) = fun i => phi g i k (x.1 ^^^ y.1)
    rw [hx, hy]
    exact funext fun i => (phi_add g i x.1 y.1 k).symm) h hv
theorem fits_clash {g : Nat → ByteArray} {k : Nat} {L : List RV} (h : ∀ v ∈ L, Fits g k v) : ¬ Clash L := fun ⟨x, hx, hne⟩ => hne (by
  have h9 : x = _ := Fits.sp h hx
  rw [h9]
  exact funext fun i => phi_zero g i k)
theorem fits_unit {g : Nat → ByteArray} {k p : Nat} {L : List RV} (h : ∀ v ∈ L, Fits g k v) (hp : p < k) {s : ByteArray} (hz : s.size = (g p).size) (hs : Sp XV L (rv (2 ^ p) s)) : s = g p := by
  have h9 : atB s = _ := Fits.sp h hs
  refine bytes_fun hz ?_
  rw [h9]
  exact funext fun i => by show phi g i k (2 ^ p) = _; rw [phi_unit, if_pos hp]
theorem maskL_cons {r : Nat} {s : List Nat} (h : r ∉ s) : maskL (r :: s) = 2 ^ r ^^^ maskL s := Nat.eq_of_testBit_eq fun j => by
  rw [maskL_bit, Nat.testBit_xor, Nat.testBit_two_pow, maskL_bit]
  by_cases e : j = r
  · subst e; simp [h]
  · have e' : ¬ r = j := fun h => e h.symm
    simp [e, e']
theorem phi_xl (g : Nat → ByteArray) (i k : Nat) : ∀ s : List Nat, s.Nodup → (∀ p ∈ s, p < k) → phi g i k (maskL s) = xl g i s
  | [], _, _ => phi_zero g i k
  | r :: s, hn, hk => by
    rw [maskL_cons (List.nodup_cons.1 hn).1, phi_add, phi_unit, if_pos (hk r (by simp)), phi_xl g i k s (List.nodup_cons.1 hn).2 (fun p hp => hk p (by simp [hp]))]
    rfl
/-- The row of a drop of the blocks g. -/
theorem drop_fits {g : Nat → ByteArray} {k seed : Nat} (hk : 1 ≤ k) (h1 : 1 ≤ seed) (hz : ∀ p, p < k → (g p).size = (g 0).size) : Fits g k (rv (maskL (setL k seed)) (dropB g k seed)) := by
  have hn : (setL k seed).Nodup := (setL_rise k seed).imp (fun h => by omega)
  have hl : ∀ p ∈ setL k seed, p < k := fun p hp => setL_lt hk h1 hp
  refine funext fun i => ?_
  show atB (dropB g k seed) i = phi g i k (maskL (setL k seed))
  rw [phi_xl g i k _ hn hl]
  have hd := dropB_size g k seed
  rcases Nat.lt_or_ge i (g 0).size with hi | hi
  · unfold dropB
    rw [sumB_at _ _ _ _ hi, xsum_xl g (setL k seed) i _ (Nat.le_refl _), List.take_length]
  · rw [atB_out _ _ (by rw [hd]; exact hi)]
    have h0 : ∀ s : List Nat, (∀ p ∈ s, p < k) → xl g i s = 0 := fun s => by
      induction s with
      | nil => intro _; rfl
      | cons r s ih =>
        intro hs
        show atB (g r) i ^^^ xl g i s = 0
        rw [ih (fun p hp => hs p (by simp [hp])), atB_out _ _ (by rw [hz r (hs r (by simp))]; exact hi)]; rfl
    exact (h0 _ hl).symm
theorem maskL_one (p : Nat) : maskL [p] = 2 ^ p := by rw [maskL_cons (by simp)]; simp [maskL]
theorem unit_fits {g : Nat → ByteArray} {k p : Nat} (hp : p < k) : Fits g k (rv (2 ^ p) (g p)) := funext fun i => by
  show atB (g p) i = phi g i k (2 ^ p)
  rw [phi_unit, if_pos hp]
/-- With all blocks alone all that is of them is made. -/
theorem units_make {g : Nat → ByteArray} {L : List RV} {m : Nat} : ∀ {k : Nat}, (∀ p, p < k → Sp XV L (rv (2 ^ p) (g p))) → Sp XV L (m % 2 ^ k, fun i => phi g i k m)
  | 0, _ => by
    rw [Nat.pow_zero, Nat.mod_one]
    exact Sp.zero XV L
  | k + 1, h => by
    have ih := units_make (m := m) (k := k) (fun p hp => h p (by omega))
    have e : m % 2 ^ (k + 1) = m % 2 ^ k ^^^ if m.testBit k then 2 ^ k else 0 := Nat.eq_of_testBit_eq fun j => by
      rw [Nat.testBit_mod_two_pow, Nat.testBit_xor, Nat.testBit_mod_two_pow]
      by_cases c : m.testBit k = true
      · rw [if_pos c, Nat.testBit_two_pow]
        by_cases e : k = j
        · subst e; simp [c]
        · rw [decide_eq_false e]
          have e2 : decide (j < k + 1) = decide (j < k) := decide_eq_decide.2 (by omega)
          rw [e2]; simp
      · rw [if_neg c, Nat.zero_testBit]
        by_cases e : j = k
        · subst e; simp [c]
        · have e2 : decide (j < k + 1) = decide (j < k) := decide_eq_decide.2 (by omega)
          rw [e2]; simp
    by_cases c : m.testBit k = true
    · have h9 := Sp.add ih (h k (by omega))
      rw [XV_add] at h9
      have e3 : ((m % 2 ^ (k + 1), fun i => phi g i (k + 1) m) : RV) = (m % 2 ^ k ^^^ 2 ^ k, fun i => phi g i k m ^^^ atB (g k) i) := by
        rw [e, if_pos c]
        refine Prod.ext rfl (funext fun i => ?_)
        show (if m.testBit k then atB (g k) i else 0) ^^^ phi g i k m = _
        rw [if_pos c, UInt8.xor_comm]
      rw [e3]; exact h9
    · have e3 : ((m % 2 ^ (k + 1), fun i => phi g i (k + 1) m) : RV) = (m % 2 ^ k, fun i => phi g i k m) := by
        rw [e, if_neg c, Nat.xor_zero]
        refine Prod.ext rfl (funext fun i => ?_)
        show (if m.testBit k then atB (g k) i else 0) ^^^ phi g i k m = _
        rw [if_neg c, UInt8.zero_xor]
      rw [e3]; exact ih
/-- One that is not of them clashes. -/
theorem bent_clash {g : Nat → ByteArray} {L : List RV} {m k : Nat} {s : ByteArray} (h : ∀ p, p < k → Sp XV L (rv (2 ^ p) (g p))) (hm : m < 2 ^ k) (hs : Sp XV L (rv m s)) (hne : ¬ Fits g k (rv m s)) : Clash L := by
  have h9 := Sp.add hs (units_make (m := m) h)
  rw [Nat.mod_eq_of_lt hm, XV_add] at h9
  have e : (rv m s).1 ^^^ m = 0 := Nat.xor_self m
  simp only [e] at h9
  refine ⟨_, h9, fun h0 => hne (funext fun i => ?_)⟩
  have h8 := congrFun h0 i
  have h7 : (rv m s).2 i = phi g i k m := by simpa using h8
  exact h7
theorem units_dim {L : List RV} {k r : Nat} {g : Nat → ByteArray} (h : ∀ p, p < k → Sp XV L (rv (2 ^ p) (g p))) (hd : Dim (Sp XN (L.map Prod.fst)) r) : k ≤ r := by
  have hled : Led (fun _ => true) (fun b => 2 ^ b) k := fun b _ _ => ⟨by rw [Nat.testBit_two_pow]; simp, fun c hc _ => by rw [Nat.testBit_two_pow]; exact decide_eq_false (by omega)⟩
  have h9 := hd.least (piv_indep hled) (fun v hv => by
    obtain ⟨b, hb, _, rfl⟩ := mem_piv.1 hv
    exact Sp.fst.2 ⟨_, h b hb⟩)
  rw [piv_len, cntB_all.2 (fun _ _ => rfl)] at h9
  exact h9
end Go.Proofs.YtjhflcgphejddaaGreatDoor

namespace Go.Proofs.YtjhflcgphejddaaGreatDoor
open Go.RowKit Go.Maps
set_option linter.unusedVariables false
set_option maxRecDepth 100000

/-- The cells of the first drops, j of them. -/
def dcells (s : Nat → Nat) (d : Nat → ByteArray) (j : Nat) : List Value := (List.range j).flatMap fun i => [.int .i64 (s i : Nat), .string (d i)]
theorem dcells_succ (s : Nat → Nat) (d : Nat → ByteArray) (j : Nat) : dcells s d (j + 1) = dcells s d j ++ [.int .i64 (s j : Nat), .string (d j)] := by unfold dcells; rw [List.range_succ, List.flatMap_append]; simp
theorem dcells_len (s : Nat → Nat) (d : Nat → ByteArray) : ∀ j, (dcells s d j).length = j * 2
  | 0 => rfl
  | j + 1 => by rw [dcells_succ, List.length_append, dcells_len s d j]; simp; omega
theorem dcells_at (s : Nat → Nat) (d : Nat → ByteArray) (i : Nat) : ∀ j, i < j → (dcells s d j)[i * 2]? = some (.int .i64 (s i : Nat)) ∧ (dcells s d j)[i * 2 + 1]? = some (.string (d i))
  | 0, h => absurd h (Nat.not_lt_zero _)
  | j + 1, h => by
    rw [dcells_succ]
    have hl := dcells_len s d j
    by_cases e : i = j
    · subst e
      rw [List.getElem?_append_right (by omega), List.getElem?_append_right (by omega), hl, Nat.sub_self, show i * 2 + 1 - i * 2 = 1 by omega]
      exact ⟨rfl, rfl⟩
    · rw [List.getElem?_append_left (by omega), List.getElem?_append_left (by omega)]
      exact dcells_at s d i j (by omega)
theorem own_dropsAt {w : World} {B : Nat} {v : Value} {n : Nat} {s : Nat → Nat} {d : Nat → ByteArray} (h : w.ownsRow B 43 2 v n (dcells s d n)) (hs : ∀ i, i < n → s i ≤ 10000) (hd : ∀ i, i < n → (d i).size ≤ maxLen) : DropsAt w v n (fun i => (s i : Int)) d := by
  have h' := h
  rcases h.2 with ⟨hv, h0⟩ | ⟨g, cap, cur, hv, _, hg, h1, h2, hcs, hcur⟩
  · exact Or.inl ⟨h0, _, _, hv⟩
  · rcases Nat.eq_zero_or_pos n with e | h0
    · exact Or.inl ⟨e, _, _, by rw [hv, e]⟩
    · refine Or.inr ⟨h0, g, 0, cap, hv, h1, h2, fun i hi => ?_⟩
      rw [hv] at h'
      rw [Nat.zero_add, h'.cellAt (i * 2) (by omega), h'.cellAt (i * 2 + 1) (by omega)]
      have := hs i hi
      have e : ((fun i => (s i : Int)) i) = (s i : Int) := rfl
      exact ⟨(dcells_at s d i n hi).1, (dcells_at s d i n hi).2, hd i hi, WalkArith.wf_i64 (by omega)⟩
theorem firstF_zero {g : Nat → Int} : ∀ {n : Nat}, (∀ i, i < n → g i = 0) → firstF g n = 0
  | 0, _ => rfl
  | n + 1, h => by
    unfold firstF
    rw [firstF_zero (n := n) (fun i hi => h i (by omega)), if_neg (by simp), h n (by omega)]
theorem fC_zero {k z len : Nat} {s : Nat → Nat} {d : Nat → ByteArray} (hl : len ≤ 60) (hk : 1 ≤ k ∧ k ≤ 16) (hz : 1 ≤ z ∧ z ≤ 8) (hs : ∀ i, i < len → 1 ≤ s i ∧ s i ≤ 10000 ∧ (d i).size = z) : fC k z len (fun i => (s i : Int)) d = 0 := by
  unfold fC
  rw [if_neg (by omega), if_pos (by omega)]
  refine firstF_zero fun i hi => ?_
  obtain ⟨h1, h2, h3⟩ := hs i hi
  show fD k z (s i : Int) (d i).size = 0
  unfold fD
  rw [if_pos (by unfold OkD; omega), if_pos (by omega)]
theorem DropIn.data {w : World} {b : Nat} {seed : Int} {s : ByteArray} (h : DropIn w b seed s) (t : ByteArray) : DropIn (w.setCell ⟨b, 0 + 1, none⟩ (.string t)) b seed t := by
  obtain ⟨⟨c0, f0⟩, c1, f1⟩ := h
  refine ⟨⟨?_, by rw [World.frozen?_setCell]; exact f0⟩, World.cell?_setCell_same _ _ _ c1, by rw [World.frozen?_setCell]; exact f1⟩
  rw [World.cell?_setCell_other _ _ _ _ (fun h => by cases h)]; exact c0
/-- Of drops of blocks, all of them alone among these, these come back. -/
theorem solved_right {L : List RV} {g : Nat → ByteArray} {k n : Nat} {e : Ending} {w' : World} (h : Solved L k n e w') (hf : ∀ v ∈ L, Fits g k v) (hu : ∀ p, p < k → Sp XV L (rv (2 ^ p) (g p))) (hz : ∀ p, p < k → (g p).size = n) :
    ∃ b : Nat, e = .returned (.tuple #[.slice (some ⟨b, 0, none⟩) k k, .nilIface]) ∧ ∀ p, p < k → w'.cell? ⟨b, p, none⟩ = some (.string (g p)) := by
  rcases h with ⟨hc, _⟩ | ⟨_, ⟨r, hr, hd⟩, _⟩ | ⟨_, _, b, G, he, hG⟩
  · exact absurd hc (fits_clash hf)
  · have := units_dim hu hd; omega
  · refine ⟨b, he, fun p hp => ?_⟩
    obtain ⟨h1, h2, h3⟩ := hG p hp
    rw [← fits_unit hf hp (by rw [h2, hz p hp]) h3]; exact h1
theorem solved_bent {L : List RV} {k n : Nat} {e : Ending} {w' : World} (h : Solved L k n e w') (hc : Clash L) : e = .returned (.tuple #[.slice none 0 0, .iface 61 (.int .i64 7)]) := by
  rcases h with ⟨_, he⟩ | ⟨hn, _⟩ | ⟨hn, _⟩
  · exact he
  · exact absurd hc hn
  · exact absurd hc hn
end Go.Proofs.YtjhflcgphejddaaGreatDoor

namespace Go.Proofs.YtjhflcgphejddaaGreatDoor
open Go.RowKit Go.Maps
set_option linter.unusedVariables false
set_option maxRecDepth 100000

/-- How a number of the map reads. -/
def uElem (v : Value) : Option (DataW Unit × List MemPlace) :=
  match v with
  | .int .u64 m => some (.lit (.int .u64 m), [])
  | _ => none
theorem uElem_mk (m : Int) : uElem (.int .u64 m) = some (.lit (.int .u64 m), []) := rfl
theorem uElem_inv {v : Value} {z : DataW Unit × List MemPlace} (h : uElem v = some z) : ∃ m : Int, v = .int .u64 m ∧ z = (.lit (.int .u64 m), []) := by
  unfold uElem at h
  split at h
  · rename_i m
    cases h
    exact ⟨m, rfl, rfl⟩
  · cases h
theorem Tryz.zeroU (w : World) : (zeroValue 111).run Tryz.prog w = .ok (.int .u64 0) w := by kernel_rfl
/-- The map of block b holds sets by their last places, of k places. -/
structure UMap (w : World) (b k : Nat) (has : Nat → Bool) (ofs : Nat → Nat) (D : DataW Unit) : Prop where
  own : w.ownsMap Tryz.prog 3 uElem b (Maps.size D) D
  size : Maps.size D = cntB has k
  neg : Maps.has D (.int .i64 (-1)) = false
  holds : ∀ r : Nat, Maps.has D (.int .i64 r) = has r
  val : ∀ r : Nat, has r = true → D.atKey (.int .i64 r) (.lit (.int .u64 0)) = .lit (.int .u64 (ofs r : Nat))
theorem umap_made (w : World) (k : Nat) (ofs : Nat → Nat) : UMap (w.alloc (.map #[] 0)) w.heap.size k (fun _ => false) ofs (.map []) :=
  ⟨World.ownsMap_made _ _ _ _, by rw [cntB_none]; rfl, by simp [Maps.has], fun r => by simp [Maps.has], (fun r h => by cases h)⟩
theorem UMap.lt {w : World} {b k : Nat} {has : Nat → Bool} {ofs : Nat → Nat} {D : DataW Unit} (h : UMap w b k has ofs D) : b < w.heap.size := h.own.lt
theorem UMap.of_block {w w' : World} {b k : Nat} {has : Nat → Bool} {ofs : Nat → Nat} {D : DataW Unit} (h : UMap w b k has ofs D) (hb : w'.heap[b]? = w.heap[b]?) : UMap w' b k has ofs D := ⟨ownsMap_blockS h.own hb, h.size, h.neg, h.holds, h.val⟩
theorem UMap.below {w w' : World} {b k : Nat} {has : Nat → Bool} {ofs : Nat → Nat} {D : DataW Unit} (h : UMap w b k has ofs D) (hb : Below w.heap.size w w') : UMap w' b k has ofs D := h.of_block (hb.block b h.lt)
theorem UMap.put {w w' : World} {b k : Nat} {has : Nat → Bool} {ofs : Nat → Nat} {D : DataW Unit} (h : UMap w b k has ofs D) {x m : Nat} (hx : has x = false) (hxk : x < k) {n : Nat}
    (h' : w'.ownsMap Tryz.prog 3 uElem b n (D.put (.int .i64 x) (.lit (.int .u64 (m : Nat))))) : UMap w' b k (updT has x true) (updT ofs x m) (D.put (.int .i64 x) (.lit (.int .u64 (m : Nat)))) := by
  refine ⟨tightS h', ?_, ?_, fun r => ?_, fun r hr => ?_⟩
  · rw [Maps.size_put (h.own.tidy Tryz.lawInt), h.holds x, hx, cntB_upd hx, if_pos hxk, ← h.size]; simp
  · rw [Maps.has_put_other (fun e => by injection e with _ e; omega), h.neg]
  · by_cases c : r = x
    · subst c
      rw [Maps.has_put_same (k := .int .i64 (r : Int)) h.own.isMap trivial]; simp [updT]
    · rw [Maps.has_put_other (fun e => c (by injection e with _ e; omega)), h.holds r]; simp [updT, c]
  · by_cases c : r = x
    · subst c
      rw [Maps.atKey_put_same (k := .int .i64 (r : Int)) h.own.isMap trivial]; simp [updT]
    · rw [Maps.atKey_put_other (fun e => c (by injection e with _ e; omega))]
      have e2 : updT ofs x m r = ofs r := by simp [updT, c]
      rw [e2]
      exact h.val r (by simpa [updT, c] using hr)

/-- 'by, ok := t[r]' where there is one. -/
theorem wpList_lookup_u {w : World} {ops : Array Oper} {rest : List Oper} {o : Oper} {a : Act} {Q : Exit → Act → World → Prop} (hg : o.guard = none) (m x : Operand) (hop : o.op = Op.lookup 133 m x true)
    (b k r : Nat) (has : Nat → Bool) (ofs : Nat → Nat) (D : DataW Unit) (hm : a.eval m = .map (some b)) (hx : a.eval x = .int .i64 (r : Nat)) (hM : UMap w b k has ofs D) (hr : r ≤ 10000) (hh : has r = true)
    (hK : wpList Tryz.prog ops Q rest (a.put o.dst (.tuple #[.int .u64 (ofs r : Nat), .bool true])) w) :
    wpList Tryz.prog ops Q (o :: rest) a w := by
  refine wpList_lookup_own_ok w hg m x 133 hop 3 111 Tryz.lawInt Tryz.underlying133 uElem (Tryz.zeroU w) (.lit (.int .u64 0)) [] (uElem_mk 0) b _ D hm hM.own _ _ hx (keyS (by omega) (by omega)) (fun v ps hv => ?_)
  obtain ⟨z, rfl, hz⟩ := uElem_inv hv
  rw [hM.holds r, hh]
  have h1 := congrArg Prod.fst hz
  rw [hM.val r hh] at h1
  simp only at h1
  injection h1 with h1
  injection h1 with _ h2
  rw [← h2]
  exact hK
/-- .. where there is none. -/
theorem wpList_lookup_nou {w : World} {ops : Array Oper} {rest : List Oper} {o : Oper} {a : Act} {Q : Exit → Act → World → Prop} (hg : o.guard = none) (m x : Operand) (hop : o.op = Op.lookup 133 m x true)
    (b k : Nat) (r : Int) (has : Nat → Bool) (ofs : Nat → Nat) (D : DataW Unit) (hm : a.eval m = .map (some b)) (hx : a.eval x = .int .i64 r) (hM : UMap w b k has ofs D) (hr0 : -1 ≤ r) (hr : r ≤ 10000) (hh : Maps.has D (.int .i64 r) = false)
    (hK : ∀ z : Int, wpList Tryz.prog ops Q rest (a.put o.dst (.tuple #[.int .u64 z, .bool false])) w) :
    wpList Tryz.prog ops Q (o :: rest) a w := by
  refine wpList_lookup_own_ok w hg m x 133 hop 3 111 Tryz.lawInt Tryz.underlying133 uElem (Tryz.zeroU w) (.lit (.int .u64 0)) [] (uElem_mk 0) b _ D hm hM.own _ _ hx (keyS hr0 hr) (fun v ps hv => ?_)
  obtain ⟨z, rfl, hz⟩ := uElem_inv hv
  rw [hh]
  exact hK z

/-! What it stands for. -/
/-- Sets by their last places, that make what a list makes. -/
structure NTab (L : List Nat) (k : Nat) (has : Nat → Bool) (ofs : Nat → Nat) : Prop where
  lt : ∀ p, has p = true → p < k
  top : ∀ p, has p = true → (ofs p).testBit p = true ∧ ofs p < 2 ^ (p + 1)
  span : ∀ x, Sp XN (piv has ofs k) x ↔ Sp XN L x
theorem ntab_none (k : Nat) (ofs : Nat → Nat) : NTab [] k (fun _ => false) ofs := by
  have e : ∀ k, piv (fun _ => false) ofs k = [] := fun k => List.eq_nil_iff_forall_not_mem.2 fun v hv => by
    obtain ⟨b, _, h, _⟩ := mem_piv.1 hv
    cases h
  exact ⟨fun p h => by simp at h, fun p h => by simp at h, fun x => by rw [e]⟩
theorem NTab.led {L : List Nat} {k : Nat} {has : Nat → Bool} {ofs : Nat → Nat} (h : NTab L k has ofs) : Led has ofs k := fun b hb h1 => ⟨(h.top b h1).1, fun c hc h2 => bit_big (h.top c h2).2 (by omega)⟩
theorem NTab.dim {L : List Nat} {k : Nat} {has : Nat → Bool} {ofs : Nat → Nat} (h : NTab L k has ofs) : Dim (Sp XN L) (cntB has k) := ⟨piv has ofs k, piv_len _ _ _, piv_indep h.led, h.span⟩
theorem NTab.skip {L : List Nat} {k : Nat} {has : Nat → Bool} {ofs : Nat → Nat} (h : NTab L k has ofs) {r : Nat} (hr : Sp XN (piv has ofs k) r) : NTab (L ++ [r]) k has ofs ∧ Sp XN L r := by
  have hr' := (h.span r).1 hr
  refine ⟨⟨h.lt, h.top, fun x => (h.span x).trans (Sp.same (fun u hu => Sp.mem (List.mem_append_left _ hu)) (fun u hu => ?_) x)⟩, hr'⟩
  rcases List.mem_append.1 hu with hu | hu
  · exact Sp.mem hu
  · rw [List.mem_singleton.1 hu]; exact hr'
theorem xor_back (a b : Nat) : a ^^^ (a ^^^ b) = b := XN.twice a b
theorem NTab.put {L : List Nat} {k : Nat} {has : Nat → Bool} {ofs : Nat → Nat} (h : NTab L k has ofs) {r m p : Nat} (hr : Sp XN (piv has ofs k) (r ^^^ m)) (hp : has p = false) (hpk : p < k) (ht : m.testBit p = true ∧ m < 2 ^ (p + 1)) :
    NTab (L ++ [r]) k (updT has p true) (updT ofs p m) ∧ ¬ Sp XN L r := by
  have hold : ∀ v ∈ piv has ofs k, v ∈ piv (updT has p true) (updT ofs p m) k := fun v hv => by
    obtain ⟨b, h1, h2, h3⟩ := mem_piv.1 hv
    have hbp : b ≠ p := fun e => by rw [e, hp] at h2; cases h2
    exact mem_piv.2 ⟨b, h1, by unfold updT; rw [if_neg hbp]; exact h2, by unfold updT; rw [if_neg hbp]; exact h3⟩
  have hnew : m ∈ piv (updT has p true) (updT ofs p m) k := mem_piv.2 ⟨p, hpk, by unfold updT; rw [if_pos rfl], by unfold updT; rw [if_pos rfl]⟩
  have hT : NTab (L ++ [r]) k (updT has p true) (updT ofs p m) := by
    refine ⟨fun q hq => ?_, fun q hq => ?_, fun x => Sp.same (fun v hv => ?_) (fun v hv => ?_) x⟩
    · unfold updT at hq
      by_cases c : q = p
      · omega
      · rw [if_neg c] at hq; exact h.lt q hq
    · unfold updT at hq ⊢
      by_cases c : q = p
      · rw [if_pos c, c]; exact ht
      · rw [if_neg c] at hq ⊢; exact h.top q hq
    · obtain ⟨b, h1, h2, h3⟩ := mem_piv.1 hv
      unfold updT at h2 h3
      by_cases c : b = p
      · rw [if_pos c] at h3
        subst h3
        have h1 : Sp XN (L ++ [r]) (r ^^^ m) := Sp.mono (fun _ h => List.mem_append_left _ h) ((h.span _).1 hr)
        have h2 := Sp.add (Sp.mem (G := XN) (L := L ++ [r]) (v := r) (by simp)) h1
        rwa [show XN.add r (r ^^^ m) = m from XN.twice r m] at h2
      · rw [if_neg c] at h2 h3
        exact Sp.mono (fun _ h => List.mem_append_left _ h) ((h.span v).1 (Sp.mem (mem_piv.2 ⟨b, h1, h2, h3⟩)))
    · rcases List.mem_append.1 hv with hv | hv
      · exact Sp.mono hold ((h.span v).2 (Sp.mem hv))
      · obtain rfl : v = r := by simpa using hv
        have h1 : Sp XN (piv (updT has p true) (updT ofs p m) k) (v ^^^ m) := Sp.mono hold hr
        have h2 := Sp.add h1 (Sp.mem hnew)
        rwa [show XN.add (v ^^^ m) m = v from by show v ^^^ m ^^^ m = v; rw [Nat.xor_assoc, Nat.xor_self, Nat.xor_zero]] at h2
  refine ⟨hT, fun hin => ?_⟩
  rcases h.dim.more r with ⟨h1, _⟩ | ⟨_, h2⟩
  · have h9 := h1.det hT.dim
    rw [cntB_upd hp, if_pos hpk] at h9
    omega
  · exact h2 hin
end Go.Proofs.YtjhflcgphejddaaGreatDoor

namespace Go.Proofs.YtjhflcgphejddaaGreatDoor
open Go.Shelf Go.RowKit Go.Maps
set_option linter.unusedVariables false
set_option maxRecDepth 100000

theorem nlast_none (w : World) :
    Calls Tryz.prog 124 #[.int .u64 0] w fun e w' => e = .returned (.int .i64 (-1)) ∧ w = w' := by
  have L := hide (len_ok 0 w (by omega))
  rw [show Lib.bitLen 0 = 0 from by decide +kernel] at L
  go_enter Tryz.func124, Tryz.ntmps124
  go_wp2_with fail
  refine (L.out).mono ?_
  rintro e w1 ⟨rfl, rfl⟩
  go_wp2
  go_ret
  exact ⟨rfl, rfl⟩
theorem nlast_ok (m p : Nat) (w : World) (h : m < 65536) (hp : Lib.bitLen m = p + 1) (h2 : p < 64) :
    Calls Tryz.prog 124 #[.int .u64 (m : Nat)] w fun e w' => e = .returned (.int .i64 (p : Nat)) ∧ w = w' := by
  have L := hide (len_ok m w h)
  rw [hp] at L
  clear hp
  go_enter Tryz.func124, Tryz.ntmps124
  go_wp2_with fail
  refine (L.out).mono ?_
  rintro e w1 ⟨rfl, rfl⟩
  go_wp2
  go_ret
  exact ⟨ret_int (by omega), rfl⟩

set_option maxHeartbeats 1000000 in
theorem nmarks_ok (l : List Nat) (k : Nat) (v : Value) (w : World) (hv : Lst w v l) (hk : k ≤ 16) (hl : ∀ p ∈ l, p < k) (hn : l.length ≤ 16) :
    Calls Tryz.prog 123 #[v] w fun e w' => e = .returned (.int .u64 (maskL l : Nat)) ∧ w = w' := by
  obtain ⟨g, cap, rfl, hc1, hc2, hc⟩ := hv
  have HC := hide hc
  have HL := hide hl
  unfold maxLen at hc2
  clear hc hl
  go_enter Tryz.func123, Tryz.ntmps123
  go_wp2
  go_loop [3, 5, 8] (fun m _ i => ∃ j : Nat, j ≤ l.length ∧ i = .int .i64 j ∧ m = .int .u64 (maskL (l.take j) : Nat)) (fun _ _ i => l.length - (intOf i).toNat)
  case atStart => exact ⟨0, Nat.zero_le _, rfl, rfl⟩
  case round =>
    obtain ⟨j, hj, rfl, rfl⟩ := hrel
    have hm := mask16 hk HL.out j
    by_cases hlt : j < l.length
    · have hcj := HC.out j hlt
      rw [Nat.zero_add] at hcj
      have HS : Hid (maskL (l.take (j + 1)) = maskL (l.take j) ||| 2 ^ l.getD j 0) := by rw [Hid, take_snoc hlt, maskL_snoc]
      have hp : l.getD j 0 < 16 := by
        have h9 : l.getD j 0 ∈ l := by simp [List.getD, hlt]
        have := HL.out _ h9; omega
      generalize l.getD j 0 = p at *
      generalize maskL (l.take j) = m at *
      have hpow : 2 ^ p ≤ 32768 := Nat.pow_le_pow_right (n := 2) (by decide) (show p ≤ 15 by omega)
      obtain ⟨q, hq⟩ : ∃ q : Nat, q = 2 ^ p := ⟨_, rfl⟩
      have hsh : IntKind.u64.wrap (2 ^ p) = (q : Int) := by
        rw [IntKind.wrap_u64, hq, Int.natCast_pow]
        have h9 : ((2 : Int) ^ p) ≤ 32768 := by exact_mod_cast hpow
        have h8 : (0 : Int) ≤ 2 ^ p := by exact_mod_cast Nat.zero_le (2 ^ p)
        exact Int.emod_eq_of_lt h8 (by omega)
      have hor : bits .or .u64 (m : Int) (q : Int) = ((m ||| q : Nat) : Int) := u64_or_nat _ _ (by omega) (by omega)
      rw [← hq] at HS
      have HQ := hide hq
      clear hq hpow
      go_wp2
      go_round
      case rel =>
        refine ⟨j + 1, by omega, by go_num, ?_⟩
        rw [HS.out]
      case measure => simp [intOf]; omega
    · obtain rfl : j = l.length := by omega
      rw [List.take_length] at *
      go_wp2
      go_ret
      exact ⟨rfl, rfl⟩

set_option maxHeartbeats 2000000 in
theorem nreduce_ok (k b m0 : Nat) (has : Nat → Bool) (ofs : Nat → Nat) (D : DataW Unit) (w : World) (hk : k ≤ 16) (hM : UMap w b k has ofs D)
    (hp : ∀ p, has p = true → p < k ∧ (ofs p).testBit p = true ∧ ofs p < 2 ^ (p + 1)) (hm : m0 < 2 ^ k) :
    Calls Tryz.prog 122 #[.map (some b), .int .u64 (m0 : Nat)] w fun e w' => ∃ m : Nat, e = .returned (.int .u64 (m : Nat)) ∧ Sp XN (piv has ofs k) (m0 ^^^ m) ∧ (m = 0 ∨ ∃ p, Lib.bitLen m = p + 1 ∧ has p = false ∧ p < k ∧ m.testBit p = true ∧ m < 2 ^ (p + 1)) ∧ m < 2 ^ k ∧ w = w' := by
  have HM := hide hM
  have HP := hide hp
  have h16 : (2 : Nat) ^ k ≤ 65536 := Nat.pow_le_pow_right (n := 2) (by decide) hk
  obtain ⟨K, hK⟩ : ∃ K : Nat, K = 2 ^ k := ⟨_, rfl⟩
  have HK := hide hK
  have HMl := hide hm
  rw [← hK] at h16
  clear hM hp hm hK
  go_enter Tryz.func122, Tryz.ntmps122
  go_wp2_with fail
  go_loopg [1, 5, 6] (K + 1) (fun gk t1 _ _ wr => ∃ m : Nat, m + 1 ≤ gk ∧ t1 = .int .u64 (m : Nat) ∧ Sp XN (piv has ofs k) (m0 ^^^ m) ∧ m < 2 ^ k ∧ w = wr)
  case atStart => exact ⟨m0, by have := HMl.out; rw [HK.out]; omega, rfl, by rw [Nat.xor_self]; exact Sp.zero XN _, HMl.out, rfl⟩
  case round =>
    obtain ⟨m, hmg, rfl, hsp, hml0, hw⟩ := hrel
    subst hw
    have HSP := hide hsp
    have HML := hide hml0
    have hml : m < 65536 := by have := hml0; rw [← HK.out] at this; omega
    clear hsp hml0 HMl
    by_cases hz : m = 0
    · subst hz
      have L := hide (nlast_none w)
      have HG : Hid (Maps.has D (.int .i64 (-1)) = false) := HM.out.neg
      go_wp2_with fail
      refine (L.out).mono ?_
      rintro e w1 ⟨rfl, rfl⟩
      go_wp2_with (first | (at_lookup; refine wpList_lookup_nou rfl _ _ rfl b k (-1) has ofs D rfl rfl HM.out (by omega) (by omega) HG.out ?_; intro z) | fail)
      go_ret
      exact ⟨0, rfl, HSP.out, Or.inl rfl, HML.out, rfl⟩
    · obtain ⟨p, hp1, hp2, hp3⟩ := top_of hz (by omega)
      have hpk := top_lt HML.out hp2
      have L := hide (nlast_ok m p w hml hp1 (by omega))
      cases hh : has p with
      | false =>
        have HG : Hid (Maps.has D (.int .i64 (p : Nat)) = false) := by rw [Hid, HM.out.holds p]; exact hh
        have HH := hide hh
        have HP1 := hide hp1
        have HP2 := hide hp2
        have HP3 := hide hp3
        clear hh hp1 hp2 hp3 hz
        go_wp2_with fail
        refine (L.out).mono ?_
        rintro e w1 ⟨rfl, rfl⟩
        go_wp2_with (first | (at_lookup; refine wpList_lookup_nou rfl _ _ rfl b k (p : Nat) has ofs D rfl rfl HM.out (by omega) (by omega) HG.out ?_; intro z) | fail)
        go_ret
        exact ⟨m, rfl, HSP.out, Or.inr ⟨p, HP1.out, HH.out, hpk, HP2.out, HP3.out⟩, HML.out, rfl⟩
      | true =>
        obtain ⟨_, hq1, hq2⟩ := HP.out p hh
        have hless := xor_less hp2 hp3 hq1 hq2
        have hsp : Hid (Sp XN (piv has ofs k) (m0 ^^^ (m ^^^ ofs p))) := by
          unfold Hid
          rw [← Nat.xor_assoc]
          exact Sp.add HSP.out (Sp.mem (mem_piv.2 ⟨p, hpk, hh, rfl⟩))
        have hol : ofs p < 65536 := Nat.lt_of_lt_of_le hq2 (Nat.pow_le_pow_right (n := 2) (i := p + 1) (j := 16) (by decide) (by omega))
        have hxr : bits .xor .u64 (m : Int) (ofs p : Int) = ((m ^^^ ofs p : Nat) : Int) := u64_xor_nat _ _ (by omega) (by omega)
        have HH := hide hh
        clear hh hp1 hp2 hp3 hz hq1 hq2
        generalize hy : m ^^^ ofs p = y at *
        generalize hoa : ofs p = oa at *
        have HL : Hid (has p = true ∧ ofs p = oa) := ⟨HH.out, hoa⟩
        clear hy hoa
        go_wp2_with fail
        refine (L.out).mono ?_
        rintro e w1 ⟨rfl, rfl⟩
        go_wp2_with (first | (at_lookup; refine wpList_lookup_u rfl _ _ rfl b k p has ofs D rfl rfl HM.out (by omega) HL.out.1 ?_; rw [HL.out.2]) | fail)
        go_roundg (gk - 1)
        case measure => omega
        case rel => exact ⟨y, by omega, rfl, hsp.out, Nat.lt_trans hless HML.out, rfl⟩

/-- What raise leaves. -/
def Raised (w : World) (L : List Nat) (k b m : Nat) (r : Bool) (w' : World) : Prop :=
  ∃ has ofs D, UMap w' b k has ofs D ∧ NTab (L ++ [m]) k has ofs ∧ (r = true ↔ ¬ Sp XN L m) ∧ w.grownBy w' (some b)
set_option maxHeartbeats 2000000 in
theorem raise_ok (L l : List Nat) (k b : Nat) (v : Value) (has : Nat → Bool) (ofs : Nat → Nat) (D : DataW Unit) (w : World) (hk : k ≤ 16) (hM : UMap w b k has ofs D) (hT : NTab L k has ofs) (hv : Lst w v l) (hl : ∀ p ∈ l, p < k) (hn : l.length ≤ 16) :
    Calls Tryz.prog 75 #[.map (some b), v] w fun e w' => ∃ r : Bool, e = .returned (.bool r) ∧ Raised w L k b (maskL l) r w' := by
  have MK := hide (nmarks_ok l k v w hv hk hl hn)
  have RD := hide (nreduce_ok k b (maskL l) has ofs D w hk hM (fun p hp => ⟨hT.lt p hp, hT.top p hp⟩) (maskL_lt hl))
  have HM := hide hM
  have HT := hide hT
  clear hM hT hv hl
  generalize maskL l = mk at *
  go_enter Tryz.func75, Tryz.ntmps75
  go_wp2_with fail
  refine (MK.out).mono ?_
  rintro e w1 ⟨rfl, rfl⟩
  go_wp2_with fail
  refine (RD.out).mono ?_
  rintro e w1 ⟨m, rfl, hsp, hor, hm, rfl⟩
  have HSP := hide hsp
  have h16 : m < 65536 := Nat.lt_of_lt_of_le hm (Nat.pow_le_pow_right (n := 2) (i := k) (j := 16) (by decide) hk)
  clear hsp hm MK RD
  rcases hor with rfl | ⟨p, hp1, hp2, hp3, hp4, hp5⟩
  · have HS : Hid (NTab (L ++ [mk]) k has ofs ∧ Sp XN L mk) := HT.out.skip (by have h9 := HSP.out; rw [Nat.xor_zero] at h9; exact h9)
    go_wp2
    go_ret
    exact ⟨false, rfl, has, ofs, D, HM.out, HS.out.1, ⟨(fun h => by cases h), fun h => absurd HS.out.2 h⟩, World.grownBy.refl _ _⟩
  · have hne : ((m : Int) == 0) = false := by
      rw [beq_eq_false_iff_ne]
      intro e
      have e2 : m = 0 := by omega
      rw [e2, Nat.zero_testBit] at hp4; cases hp4
    have hfew : Maps.size D ≤ k := by rw [HM.out.size]; exact cntB_le _ _
    have LS := hide (nlast_ok m p w h16 hp1 (by omega))
    have HPut := hide (HT.out.put HSP.out hp2 hp3 ⟨hp4, hp5⟩)
    have HP2 := hide hp2
    clear hp1 hp2 hp4 hp5
    go_wp2_with fail
    refine (LS.out).mono ?_
    rintro e w1 ⟨rfl, rfl⟩
    go_wp2_with (first | (at_mapUpdate; refine wpList_mapUpdate_own _ rfl _ _ _ 133 rfl 3 111 Tryz.lawInt Tryz.underlying133 uElem b (Maps.size D) D rfl HM.out.own (by unfold maxLen; omega) _ _ _ rfl rfl (keyS (r := (p : Nat)) (by omega) (by omega)) _ [] (uElem_mk (m : Nat)) ?_; intro w2 hown2 hgrow2) | fail)
    go_ret
    exact ⟨true, rfl, _, _, _, HM.out.put HP2.out hp3 hown2, HPut.out.1, ⟨fun _ => HPut.out.2, fun _ => rfl⟩, hgrow2⟩
end Go.Proofs.YtjhflcgphejddaaGreatDoor

namespace Go.Proofs.YtjhflcgphejddaaGreatDoor
open Go.RowKit
set_option linter.unusedVariables false
set_option maxRecDepth 100000

/-- What is wrong with seeds: its number. -/
noncomputable def fS (k : Int) (len : Nat) (f : Nat → Int) : Int := @ite Int (60 < len) (Nat.decLt _ _) 4 (@ite Int (1 ≤ k ∧ k ≤ 16) inferInstance (@ite Int (∃ j, j < len ∧ badS (f j) = true) (Classical.propDecidable _) 1 0) 1)
theorem IntsAt.below {w w' : World} {v : Value} {len : Nat} {f : Nat → Int} (h : IntsAt w v len f) (hb : Below w.heap.size w w') : IntsAt w' v len f := by
  rcases h with h | ⟨h0, b, o, cap, hv, h1, h2, h3, h4⟩
  · exact Or.inl h
  · exact Or.inr ⟨h0, b, o, cap, hv, h1, h2, fun i hi => cell_below hb (h3 i hi), h4⟩
theorem IntsAt.congr {w : World} {v : Value} {len : Nat} {f g : Nat → Int} (h : IntsAt w v len f) (e : ∀ i, i < len → f i = g i) : IntsAt w v len g := by
  rcases h with h | ⟨h0, b, o, cap, hv, h1, h2, h3, h4⟩
  · exact Or.inl h
  · exact Or.inr ⟨h0, b, o, cap, hv, h1, h2, fun i hi => by rw [← e i hi]; exact h3 i hi, fun i hi => by rw [← e i hi]; exact h4 i hi⟩
theorem fS_ok {k : Int} {len : Nat} {f : Nat → Int} (h : fS k len f = 0) : len ≤ 60 ∧ (1 ≤ k ∧ k ≤ 16) ∧ ∀ j, j < len → 1 ≤ f j ∧ f j ≤ 10000 := by
  unfold fS at h
  by_cases hl : 60 < len
  · rw [if_pos hl] at h; cases h
  rw [if_neg hl] at h
  by_cases hk : 1 ≤ k ∧ k ≤ 16
  · rw [if_pos hk] at h
    refine ⟨by omega, hk, fun j hj => ?_⟩
    refine Classical.byContradiction fun hc => ?_
    rw [if_pos ⟨j, hj, by unfold badS; simp; omega⟩] at h
    cases h
  · rw [if_neg hk] at h; cases h
theorem rank_bad {k : Int} {v : Value} {len : Nat} {f : Nat → Int} {w : World} (hv : IntsAt w v len f) (h : fS k len f ≠ 0) :
    Calls Tryz.prog 48 #[.int .i64 k, v] w fun e w' => e = .returned (.tuple #[.int .i64 0, .iface 61 (.int .i64 (fS k len f))]) ∧ w = w' := by
  obtain ⟨a, cap, rfl, _⟩ := hv.open
  by_cases hl : 60 < len
  · have e4 : fS k len f = 4 := by unfold fS; exact if_pos hl
    rw [e4]; exact rank_full k a len cap w hl
  by_cases hk : 1 ≤ k ∧ k ≤ 16
  · by_cases hb : ∃ j, j < len ∧ badS (f j) = true
    · have e1 : fS k len f = 1 := by unfold fS; rw [if_neg hl, if_pos hk, if_pos hb]
      rw [e1]; exact rank_s k _ len f w hv (by omega) hk hb
    · exact absurd (by unfold fS; rw [if_neg hl, if_pos hk, if_neg hb]) h
  · have e1 : fS k len f = 1 := by unfold fS; rw [if_neg hl, if_neg hk]
    rw [e1]; exact rank_k k a len cap w (by omega) (by omega)
end Go.Proofs.YtjhflcgphejddaaGreatDoor

namespace Go.Proofs.YtjhflcgphejddaaGreatDoor
open Go.RowKit Go.Maps
set_option linter.unusedVariables false
set_option maxRecDepth 100000

/-- The sets of seeds, as numbers. -/
noncomputable def mD (k : Nat) (s : Nat → Nat) : Nat → Nat := fun i => maskL (setL k (s i))
theorem mD_masks (k : Nat) (s : Nat → Nat) (i : Nat) : masksD k s i = preL (mD k s) i := rfl
theorem mD_lt {k : Nat} {s : Nat → Nat} {n : Nat} (hk : 1 ≤ k) (hs : ∀ j, j < n → 1 ≤ s j ∧ s j ≤ 10000) : ∀ v ∈ preL (mD k s) n, v < 2 ^ k := fun v hv => by
  obtain ⟨j, hj, rfl⟩ := mem_preL.1 hv
  exact setL_mask hk (hs j hj).1
/-- Numbers as values. -/
def iV (l : List Nat) : List Value := l.map fun r : Nat => .int .i64 (r : Nat)
theorem iV_snoc (l : List Nat) (n : Nat) : iV (l ++ [n]) = iV l ++ [.int .i64 (n : Nat)] := by unfold iV; rw [List.map_append]; rfl
theorem own_base {w : World} {B B' e size n : Nat} {v : Value} {xs : List Value} (h : w.ownsRow B e size v n xs) (hB : B' ≤ B) : w.ownsRow B' e size v n xs := by
  refine ⟨h.1, ?_⟩
  rcases h.2 with hn | ⟨g, cap, cur, hv, h1, r⟩
  · exact Or.inl hn
  · exact Or.inr ⟨g, cap, cur, hv, Nat.le_trans hB h1, r⟩
theorem own_slice {w : World} {B e size n : Nat} {v : Value} {xs : List Value} (h : w.ownsRow B e size v n xs) : ∃ a cap, v = .slice a n cap := by
  rcases h.2 with ⟨hv, hn⟩ | ⟨g, cap, cur, hv, _⟩
  · exact ⟨none, 0, by rw [hn]; exact hv⟩
  · exact ⟨_, cap, hv⟩
/-- What tabled has come to, behind the first seeds. -/
def NdInv (w : World) (k : Nat) (M : Nat → Nat) (b j : Nat) (vo : Value) (wr : World) : Prop :=
  ∃ has ofs D, UMap wr b k has ofs D ∧ NTab (preL M j) k has ofs ∧ wr.ownsRow (b + 1) 3 1 vo (upL [] M j).length (iV (upL [] M j)) ∧ w.heap.size ≤ b ∧ Below w.heap.size w wr
theorem ntab_bad {k : Int} {v : Value} {len : Nat} {f : Nat → Int} {w : World} (hv : IntsAt w v len f) (h : fS k len f ≠ 0) :
    Calls Tryz.prog 74 #[.int .i64 k, v] w fun e w' => e = .returned (.tuple #[.map none, .slice none 0 0, .iface 61 (.int .i64 (fS k len f))]) ∧ w = w' := by
  have R := hide (rank_bad hv h)
  obtain ⟨a, cap, rfl, _⟩ := hv.open
  clear hv
  generalize fS k len f = x at *
  go_enter Tryz.func74, Tryz.ntmps74
  go_wp2_with fail
  refine (R.out).mono ?_
  rintro e w1 ⟨rfl, rfl⟩
  go_wp2
  go_ret3
  exact ⟨rfl, rfl⟩
set_option maxHeartbeats 4000000 in
theorem ntab_ok (k : Nat) (v : Value) (len : Nat) (s : Nat → Nat) (w : World) (hv : IntsAt w v len (fun i => (s i : Int))) (h : len ≤ 60) (hk : 1 ≤ k) (hk2 : k ≤ 16) (hs : ∀ j, j < len → 1 ≤ s j ∧ s j ≤ 10000) :
    Calls Tryz.prog 74 #[.int .i64 k, v] w fun e w' => ∃ b vo, e = .returned (.tuple #[.map (some b), vo, .nilIface]) ∧ NdInv w k (mD k s) b len vo w' := by
  have hmm := fun w => run_makeMap (P := Tryz.prog) 133 w
  have R := hide (rank_ok k v len s w hv h hk hk2 hs)
  obtain ⟨a, cap, rfl, h0⟩ := hv.open
  have H0 := hide h0
  have HS := hide hs
  obtain ⟨i0, hi0, hz0, hz1, hz2⟩ := info_parts Tryz.infoInt
  have Hi := hide hi0
  have Hz0 := hide hz0
  have Hz1 := hide hz1
  have Hz2 := hide hz2
  clear hs hv h0 hi0 hz0 hz1 hz2
  go_enter Tryz.func74, Tryz.ntmps74
  go_wp2_with fail
  refine (R.out).mono ?_
  rintro e w1 ⟨r, rfl, _, _, hb1⟩
  have HI : Hid (NdInv w k (mD k s) w1.heap.size 0 (.slice none 0 0) (w1.alloc (.map #[] 0))) := ⟨_, fun _ => 0, _, umap_made w1 k _, ntab_none k _, World.ownsRow_nil _ _ _ _, hb1.size, hb1.alloc hb1.size _⟩
  have HB1 := hide hb1
  clear hb1 R
  go_wp2_with fail
  go_loopw [10, 27] (fun vo i wr => ∃ j : Nat, j ≤ len ∧ i = .int .i64 j ∧ NdInv w k (mD k s) w1.heap.size j vo wr) (fun _ i _ => len - (intOf i).toNat)
  case atStart => exact ⟨0, Nat.zero_le _, rfl, HI.out⟩
  case round =>
    obtain ⟨j, hj, rfl, hI⟩ := hrel
    have HJ := hide hI
    clear hI HI
    by_cases hlt : j < len
    · obtain ⟨bb, o, ha, hc1, hc2, hc⟩ := H0.out (by omega)
      subst ha
      obtain ⟨has, ofs, D, hM, hT, hO, hwb, hb⟩ := HJ.out
      have hcj : wr.cell? ⟨bb, o + j, none⟩ = some (.int .i64 (s j : Nat)) := cell_below hb (hc j hlt)
      have hsj := HS.out j hlt
      have HM := hide hM
      have HT := hide hT
      have HO := hide hO
      have HB := hide hb
      have S := hide (set_new k (s j) wr hk hk2 hsj.1 hsj.2)
      have RS : Hid (∀ W v, Below wr.heap.size wr W → Lst W v (setL k (s j)) → Calls Tryz.prog 75 #[.map (some w1.heap.size), v] W fun e w' => ∃ r : Bool, e = .returned (.bool r) ∧ Raised W (preL (mD k s) j) k w1.heap.size (mD k s j) r w') := fun W v hW hl => raise_ok (preL (mD k s) j) (setL k (s j)) k w1.heap.size v has ofs D W hk2 (HM.out.below hW) HT.out hl (fun p hp => setL_lt hk hsj.1 hp) (setL_few hk hk2 hsj.1 hsj.2)
      have HUl := hide (upL_le [] (mD k s) j)
      unfold maxLen at hc2
      clear hc hM hT hO hb hmm
      generalize hx : s j = x at *
      clear hx
      go_wp2_with fail
      refine (S.out).mono ?_
      rintro e w2 ⟨vs, rfl, hl2, hb2, _⟩
      have RS2 := hide (RS.out w2 vs hb2 hl2)
      have HO2 := hide (ownU HO.out hb2)
      have HB2 := hide (below_two HB.out hb2)
      clear hb2 hl2 S RS hcj
      go_wp2_with fail
      refine (RS2.out).mono ?_
      rintro e w3 ⟨r, rfl, has3, ofs3, D3, hM3, hT3, hr3, hg3⟩
      have HM3 := hide hM3
      have HT3 : Hid (NTab (preL (mD k s) (j + 1)) k has3 ofs3) := by rw [Hid, preL_succ]; exact hT3
      have HB3 : Hid (Below w.heap.size w w3) := HB2.out.grown hg3 HB2.out.size (fun q hq => by cases hq; exact hwb)
      have HO3 : Hid (w3.ownsRow (w1.heap.size + 1) 3 1 u10 (upL [] (mD k s) j).length (iV (upL [] (mD k s) j))) := HO2.out.kept hg3 (by
          cases e : u10.ownBlock with
          | none => exact Or.inl rfl
          | some q => exact Or.inr (fun e2 => by cases e2; have := (HO2.out.lt _ e).1; omega))
      have hw3 := Nat.lt_of_lt_of_le HM3.out.lt (Nat.le_refl _)
      have hul := HUl.out
      clear hM3 hT3 hg3 RS2
      cases r with
      | false =>
        have hin : Sp XN (preL (mD k s) j) (mD k s j) := Classical.byContradiction fun hc => by have := hr3.2 hc; cases this
        have HUp : Hid (upL [] (mD k s) (j + 1) = upL [] (mD k s) j) := upL_in hin
        clear hr3 hin
        go_wp2
        go_roundw
        case rel => exact ⟨j + 1, by omega, by go_num, has3, ofs3, D3, HM3.out, HT3.out, by rw [HUp.out]; exact HO3.out, hwb, HB3.out⟩
        case measure => simp [intOf]; omega
      | true =>
        have HUp : Hid (upL [] (mD k s) (j + 1) = upL [] (mD k s) j ++ [j]) := upL_out (hr3.1 rfl)
        clear hr3
        go_wp2_with (at_builtin; refine wpList_append_own _ rfl _ _ 23 rfl (w1.heap.size + 1) 3 i0 (.int .i64 0) 1 8 Tryz.underlying23 Hi.out Hz0.out Hz1.out Hz2.out rfl (by decide) _ _ _ rfl (HO3.out.alloc _) ⟨w3.heap.size, 0, none⟩ 1 1 [.int .i64 (j : Nat)] rfl rfl (cell_one_new _ _ _) (fun x hx => by simp at hx; subst hx; rfl) (by unfold maxLen; omega) (by omega) (by simp; omega) ?_; intro v5 w5 hown5 hgrow5 hnil5)
        go_roundw
        case rel =>
          have hb5 : Below w3.heap.size w3 (w3.alloc (.cells #[.int .i64 (j : Nat)] 3)) := (Below.refl _ _).alloc (Nat.le_refl _) _
          refine ⟨j + 1, by omega, by go_num, has3, ofs3, D3, (HM3.out.below hb5).of_block (hgrow5.block _ (by simp; omega) fun e => ?_), HT3.out, ?_, hwb, (below_two HB3.out hb5).grown hgrow5 (by have := HB3.out.size; simp; omega) (fun q hq => by have := (HO3.out.lt q hq).1; omega)⟩
          · have := (HO3.out.lt _ e.symm).1; omega
          · rw [HUp.out, List.length_append, iV_snoc]; exact hown5
        case measure => simp [intOf]; omega
    · obtain rfl : j = len := by omega
      go_wp2
      go_ret3
      exact ⟨_, _, rfl, HJ.out⟩
end Go.Proofs.YtjhflcgphejddaaGreatDoor
