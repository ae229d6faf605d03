/-
  The rows of package need, a map of sets by their last places: as it lies, stored into, asked; what it stands for. Lemmas for the laws above; no statement is proved here.
-/
import Derived.Test.YtakaeikobahaoaaSvMap
import Derived.Test.YtakaeikobahaoaaNdN
namespace Go.Proofs.Ytakaeikobahaoaa
open Go.RowKit Go.Maps
set_option linter.unusedVariables false
set_option maxRecDepth 100000

/-- How a number of the map reads. -/
def uElem (v : Value) : Option (DataW Unit × List MemPlace) :=
  match v with
  | .int .u64 m => some (.lit (.int .u64 m), [])
  | _ => none
theorem uElem_mk (m : Int) : uElem (.int .u64 m) = some (.lit (.int .u64 m), []) := rfl
theorem uElem_inv {v : Value} {z : DataW Unit × List MemPlace} (h : uElem v = some z) : ∃ m : Int, v = .int .u64 m ∧ z = (.lit (.int .u64 m), []) := by
  unfold uElem at h
  split at h
  · rename_i m
    cases h
    exact ⟨m, rfl, rfl⟩
  · cases h
theorem Try.zeroU (w : World) : (zeroValue 48).run Try.prog w = .ok (.int .u64 0) w := by kernel_rfl
/-- The map of block b holds sets by their last places, of k places. -/
structure UMap (w : World) (b k : Nat) (has : Nat → Bool) (ofs : Nat → Nat) (D : DataW Unit) : Prop where
  own : w.ownsMap Try.prog 3 uElem b (Maps.size D) D
  size : Maps.size D = cntB has k
  neg : Maps.has D (.int .i64 (-1)) = false
  holds : ∀ r : Nat, Maps.has D (.int .i64 r) = has r
  val : ∀ r : Nat, has r = true → D.atKey (.int .i64 r) (.lit (.int .u64 0)) = .lit (.int .u64 (ofs r : Nat))
theorem umap_made (w : World) (k : Nat) (ofs : Nat → Nat) : UMap (w.alloc (.map #[] 0)) w.heap.size k (fun _ => false) ofs (.map []) :=
  ⟨World.ownsMap_made _ _ _ _, by rw [cntB_none]; rfl, by simp [Maps.has], fun r => by simp [Maps.has], (fun r h => by cases h)⟩
theorem UMap.lt {w : World} {b k : Nat} {has : Nat → Bool} {ofs : Nat → Nat} {D : DataW Unit} (h : UMap w b k has ofs D) : b < w.heap.size := h.own.lt
theorem UMap.of_block {w w' : World} {b k : Nat} {has : Nat → Bool} {ofs : Nat → Nat} {D : DataW Unit} (h : UMap w b k has ofs D) (hb : w'.heap[b]? = w.heap[b]?) : UMap w' b k has ofs D := ⟨ownsMap_blockS h.own hb, h.size, h.neg, h.holds, h.val⟩
theorem UMap.below {w w' : World} {b k : Nat} {has : Nat → Bool} {ofs : Nat → Nat} {D : DataW Unit} (h : UMap w b k has ofs D) (hb : Below w.heap.size w w') : UMap w' b k has ofs D := h.of_block (hb.block b h.lt)
theorem UMap.put {w w' : World} {b k : Nat} {has : Nat → Bool} {ofs : Nat → Nat} {D : DataW Unit} (h : UMap w b k has ofs D) {x m : Nat} (hx : has x = false) (hxk : x < k) {n : Nat}
    (h' : w'.ownsMap Try.prog 3 uElem b n (D.put (.int .i64 x) (.lit (.int .u64 (m : Nat))))) : UMap w' b k (updT has x true) (updT ofs x m) (D.put (.int .i64 x) (.lit (.int .u64 (m : Nat)))) := by
  refine ⟨tightS h', ?_, ?_, fun r => ?_, fun r hr => ?_⟩
  · rw [Maps.size_put (h.own.tidy Try.lawInt), h.holds x, hx, cntB_upd hx, if_pos hxk, ← h.size]; simp
  · rw [Maps.has_put_other (fun e => by injection e with _ e; omega), h.neg]
  · by_cases c : r = x
    · subst c
      rw [Maps.has_put_same (k := .int .i64 (r : Int)) h.own.isMap trivial]; simp [updT]
    · rw [Maps.has_put_other (fun e => c (by injection e with _ e; omega)), h.holds r]; simp [updT, c]
  · by_cases c : r = x
    · subst c
      rw [Maps.atKey_put_same (k := .int .i64 (r : Int)) h.own.isMap trivial]; simp [updT]
    · rw [Maps.atKey_put_other (fun e => c (by injection e with _ e; omega))]
      have e2 : updT ofs x m r = ofs r := by simp [updT, c]
      rw [e2]
      exact h.val r (by simpa [updT, c] using hr)

/-- 'by, ok := t[r]' where there is one. -/
theorem wpList_lookup_u {w : World} {ops : Array Oper} {rest : List Oper} {o : Oper} {a : Act} {Q : Exit → Act → World → Prop} (hg : o.guard = none) (m x : Operand) (hop : o.op = Op.lookup 31 m x true)
    (b k r : Nat) (has : Nat → Bool) (ofs : Nat → Nat) (D : DataW Unit) (hm : a.eval m = .map (some b)) (hx : a.eval x = .int .i64 (r : Nat)) (hM : UMap w b k has ofs D) (hr : r ≤ 10000) (hh : has r = true)
    (hK : wpList Try.prog ops Q rest (a.put o.dst (.tuple #[.int .u64 (ofs r : Nat), .bool true])) w) :
    wpList Try.prog ops Q (o :: rest) a w := by
  refine wpList_lookup_own_ok w hg m x 31 hop 3 48 Try.lawInt Try.underlying31 uElem (Try.zeroU w) (.lit (.int .u64 0)) [] (uElem_mk 0) b _ D hm hM.own _ _ hx (keyS (by omega) (by omega)) (fun v ps hv => ?_)
  obtain ⟨z, rfl, hz⟩ := uElem_inv hv
  rw [hM.holds r, hh]
  have h1 := congrArg Prod.fst hz
  rw [hM.val r hh] at h1
  simp only at h1
  injection h1 with h1
  injection h1 with _ h2
  rw [← h2]
  exact hK
/-- .. where there is none. -/
theorem wpList_lookup_nou {w : World} {ops : Array Oper} {rest : List Oper} {o : Oper} {a : Act} {Q : Exit → Act → World → Prop} (hg : o.guard = none) (m x : Operand) (hop : o.op = Op.lookup 31 m x true)
    (b k : Nat) (r : Int) (has : Nat → Bool) (ofs : Nat → Nat) (D : DataW Unit) (hm : a.eval m = .map (some b)) (hx : a.eval x = .int .i64 r) (hM : UMap w b k has ofs D) (hr0 : -1 ≤ r) (hr : r ≤ 10000) (hh : Maps.has D (.int .i64 r) = false)
    (hK : ∀ z : Int, wpList Try.prog ops Q rest (a.put o.dst (.tuple #[.int .u64 z, .bool false])) w) :
    wpList Try.prog ops Q (o :: rest) a w := by
  refine wpList_lookup_own_ok w hg m x 31 hop 3 48 Try.lawInt Try.underlying31 uElem (Try.zeroU w) (.lit (.int .u64 0)) [] (uElem_mk 0) b _ D hm hM.own _ _ hx (keyS hr0 hr) (fun v ps hv => ?_)
  obtain ⟨z, rfl, hz⟩ := uElem_inv hv
  rw [hh]
  exact hK z

/-! What it stands for. -/
/-- Sets by their last places, that make what a list makes. -/
structure NTab (L : List Nat) (k : Nat) (has : Nat → Bool) (ofs : Nat → Nat) : Prop where
  lt : ∀ p, has p = true → p < k
  top : ∀ p, has p = true → (ofs p).testBit p = true ∧ ofs p < 2 ^ (p + 1)
  span : ∀ x, Sp XN (piv has ofs k) x ↔ Sp XN L x
theorem ntab_none (k : Nat) (ofs : Nat → Nat) : NTab [] k (fun _ => false) ofs := by
  have e : ∀ k, piv (fun _ => false) ofs k = [] := fun k => List.eq_nil_iff_forall_not_mem.2 fun v hv => by
    obtain ⟨b, _, h, _⟩ := mem_piv.1 hv
    cases h
  exact ⟨fun p h => by simp at h, fun p h => by simp at h, fun x => by rw [e]⟩
theorem NTab.led {L : List Nat} {k : Nat} {has : Nat → Bool} {ofs : Nat → Nat} (h : NTab L k has ofs) : Led has ofs k := fun b hb h1 => ⟨(h.top b h1).1, fun c hc h2 => bit_big (h.top c h2).2 (by omega)⟩
theorem NTab.dim {L : List Nat} {k : Nat} {has : Nat → Bool} {ofs : Nat → Nat} (h : NTab L k has ofs) : Dim (Sp XN L) (cntB has k) := ⟨piv has ofs k, piv_len _ _ _, piv_indep h.led, h.span⟩
theorem NTab.skip {L : List Nat} {k : Nat} {has : Nat → Bool} {ofs : Nat → Nat} (h : NTab L k has ofs) {r : Nat} (hr : Sp XN (piv has ofs k) r) : NTab (L ++ [r]) k has ofs ∧ Sp XN L r := by
  have hr' := (h.span r).1 hr
  refine ⟨⟨h.lt, h.top, fun x => (h.span x).trans (Sp.same (fun u hu => Sp.mem (List.mem_append_left _ hu)) (fun u hu => ?_) x)⟩, hr'⟩
  rcases List.mem_append.1 hu with hu | hu
  · exact Sp.mem hu
  · rw [List.mem_singleton.1 hu]; exact hr'
theorem xor_back (a b : Nat) : a ^^^ (a ^^^ b) = b := XN.twice a b
theorem NTab.put {L : List Nat} {k : Nat} {has : Nat → Bool} {ofs : Nat → Nat} (h : NTab L k has ofs) {r m p : Nat} (hr : Sp XN (piv has ofs k) (r ^^^ m)) (hp : has p = false) (hpk : p < k) (ht : m.testBit p = true ∧ m < 2 ^ (p + 1)) :
    NTab (L ++ [r]) k (updT has p true) (updT ofs p m) ∧ ¬ Sp XN L r := by
  have hold : ∀ v ∈ piv has ofs k, v ∈ piv (updT has p true) (updT ofs p m) k := fun v hv => by
    obtain ⟨b, h1, h2, h3⟩ := mem_piv.1 hv
    have hbp : b ≠ p := fun e => by rw [e, hp] at h2; cases h2
    exact mem_piv.2 ⟨b, h1, by unfold updT; rw [if_neg hbp]; exact h2, by unfold updT; rw [if_neg hbp]; exact h3⟩
  have hnew : m ∈ piv (updT has p true) (updT ofs p m) k := mem_piv.2 ⟨p, hpk, by unfold updT; rw [if_pos rfl], by unfold updT; rw [if_pos rfl]⟩
  have hT : NTab (L ++ [r]) k (updT has p true) (updT ofs p m) := by
    refine ⟨fun q hq => ?_, fun q hq => ?_, fun x => Sp.same (fun v hv => ?_) (fun v hv => ?_) x⟩
    · unfold updT at hq
      by_cases c : q = p
      · omega
      · rw [if_neg c] at hq; exact h.lt q hq
    · unfold updT at hq ⊢
      by_cases c : q = p
      · rw [if_pos c, c]; exact ht
      · rw [if_neg c] at hq ⊢; exact h.top q hq
    · obtain ⟨b, h1, h2, h3⟩ := mem_piv.1 hv
      unfold updT at h2 h3
      by_cases c : b = p
      · rw [if_pos c] at h3
        subst h3
        have h1 : Sp XN (L ++ [r]) (r ^^^ m) := Sp.mono (fun _ h => List.mem_append_left _ h) ((h.span _).1 hr)
        have h2 := Sp.add (Sp.mem (G := XN) (L := L ++ [r]) (v := r) (by simp)) h1
        rwa [show XN.add r (r ^^^ m) = m from XN.twice r m] at h2
      · rw [if_neg c] at h2 h3
        exact Sp.mono (fun _ h => List.mem_append_left _ h) ((h.span v).1 (Sp.mem (mem_piv.2 ⟨b, h1, h2, h3⟩)))
    · rcases List.mem_append.1 hv with hv | hv
      · exact Sp.mono hold ((h.span v).2 (Sp.mem hv))
      · obtain rfl : v = r := by simpa using hv
        have h1 : Sp XN (piv (updT has p true) (updT ofs p m) k) (v ^^^ m) := Sp.mono hold hr
        have h2 := Sp.add h1 (Sp.mem hnew)
        rwa [show XN.add (v ^^^ m) m = v from by show v ^^^ m ^^^ m = v; rw [Nat.xor_assoc, Nat.xor_self, Nat.xor_zero]] at h2
  refine ⟨hT, fun hin => ?_⟩
  rcases h.dim.more r with ⟨h1, _⟩ | ⟨_, h2⟩
  · have h9 := h1.det hT.dim
    rw [cntB_upd hp, if_pos hpk] at h9
    omega
  · exact h2 hin
end Go.Proofs.Ytakaeikobahaoaa
