/-
  Lemmas for the law above, joined into one text (AppN, NdFillN, EarD, EarM, EarPt, LisN, RIn). No statement is proved here.
-/
import Derived.Test.YtjhflcgphejddaaGreatDoorZG3
import Derived.Test.YtjhflcgphejddaaGreatDoorZG2
import Derived.Test.YtjhflcgphejddaaGreatDoorZNdLacks
import Derived.Test.YtjhflcgphejddaaGreatDoorZG33
import Derived.Test.YtjhflcgphejddaaGreatDoorZG34
import Derived.Test.YtjhflcgphejddaaGreatDoorZG38
import Derived.Test.YtjhflcgphejddaaGreatDoorZG0
namespace Go.Proofs.YtjhflcgphejddaaGreatDoor
open Go.RowKit
set_option linter.unusedVariables false
set_option maxRecDepth 100000

theorem wpList_append_nil_empty {P : Program} {w : World} {ops : Array Oper} {rest : List Oper} {o : Oper} {a : Act} {Q : Exit → Act → World → Prop} (hgd : o.guard = none) (s x : Operand) (t : TypeId)
    (ho : o.op = .call { callee := .builtin .append, args := #[s, x], argTypes := #[t, t] })
    (e : TypeId) (i : TypeInfo) (ht : P.underlying t = some (.slice e)) (hi : P.info? e = some i) (ad : Option Addr) (c : Nat)
    (hs : a.eval s = .slice none 0 0) (hx : a.eval x = .slice ad 0 c)
    (h : wpList P ops Q rest (a.put o.dst (.slice none 0 0)) w) : wpList P ops Q (o :: rest) a w := by
  refine wpList_plain hgd fun K hK => ?_
  have hrun : (Builtin.append_ #[t, t] o.type #[.slice none 0 0, .slice ad 0 c]).run P w = .ok (.slice none 0 0) w := by
    cases ad <;> simp [Builtin.append_, run_underlying ht, sizeOf, typeInfo, hi, Builtin.lenOf, Builtin.firstCells, loadCells, loadCellsFrom]
  unfold Oper.wp
  simp [execOp, ho, resolve, invoke, builtin, hs, hx, hrun, Result.andThen]
  exact hK _ _ h

/-- 'append(nil, x...)', whatever slice of numbers x is. -/
theorem wpList_append_ints {w : World} {ops : Array Oper} {rest : List Oper} {o : Oper} {a : Act} {Q : Exit → Act → World → Prop} (hgd : o.guard = none) (s x : Operand)
    (ho : o.op = .call { callee := .builtin .append, args := #[s, x], argTypes := #[23, 23] }) (base : Nat) (hbase : base ≤ w.heap.size)
    (v : Value) (len : Nat) (f : Nat → Int) (hv : IntsAt w v len f) (hlen : len ≤ 1000000) (hs : a.eval s = .slice none 0 0) (hx : a.eval x = v)
    (h : ∀ v' w', w'.ownsRow base 3 1 v' len ((List.range len).map fun k : Nat => .int .i64 (f k)) → w.grownBy w' none → (∀ g, v'.ownBlock = some g → g = w.heap.size) → wpList Tryz.prog ops Q rest (a.put o.dst v') w') : wpList Tryz.prog ops Q (o :: rest) a w := by
  obtain ⟨i0, hi0, hz0, hz1, hz2⟩ := info_parts Tryz.infoInt
  rcases hv with ⟨rfl, ad, cap, rfl⟩ | ⟨h0, b, off, cap, rfl, h1, h2, h3, _⟩
  · exact wpList_append_nil_empty hgd s x 23 ho 3 i0 Tryz.underlying23 hi0 ad cap hs hx (h _ _ (World.ownsRow_nil _ _ _ _) (World.grownBy.refl _ _) (fun g hg => by cases hg))
  · refine wpList_append_lies _ hgd s x 23 ho base 3 i0 (.int .i64 0) 1 8 Tryz.underlying23 hi0 hz0 hz1 hz2 rfl (by decide) _ 0 [] hs (World.ownsRow_nil _ _ _ _) ⟨b, off, none⟩ len cap ((List.range len).map fun k : Nat => .int .i64 (f k)) hx (by simp) (fun q u hu => ?_) (fun u hu => by obtain ⟨_, _, rfl⟩ := List.mem_map.1 hu; rfl) h0 (by unfold maxLen; omega) (by omega) hbase _ rfl ?_
    · have hq : q < len := by
        rcases Nat.lt_or_ge q len with h | h
        · exact h
        · rw [List.getElem?_eq_none (by simpa using h)] at hu; cases hu
      have e : u = .int .i64 (f q) := by simpa [hq] using hu.symm
      rw [e, ← h3 q hq]
      by_cases c : q = 0
      · subst c; simp [Addr.add]
      · simp [Addr.add, c]
    · intro g cap' w' hown hgrow hat hlt
      simp only [Nat.zero_add, List.nil_append] at hown ⊢
      refine h _ w' hown hgrow (fun g' hg' => ?_)
      cases hg'
      rcases hat with hat | hat
      · cases hat
      · exact hat
end Go.Proofs.YtjhflcgphejddaaGreatDoor

namespace Go.Proofs.YtjhflcgphejddaaGreatDoor
open Go.RowKit Go.Maps
set_option linter.unusedVariables false
set_option maxRecDepth 100000

/-- The sets of a list of seeds. -/
noncomputable def mL (k : Nat) (A : List Nat) : List Nat := A.map fun x => maskL (setL k x)
theorem mL_pre (k : Nat) (s : Nat → Nat) (n : Nat) : mL k (preL s n) = preL (mD k s) n := by unfold mL preL mD; rw [List.map_map]; rfl
theorem mL_app (k : Nat) (A B : List Nat) : mL k (A ++ B) = mL k A ++ mL k B := List.map_append
theorem pre_getD (A : List Nat) : preL (fun i => A.getD i 0) A.length = A := by
  apply List.ext_getElem
  · simp [preL]
  · intro i h1 h2
    simp [preL, h2]
theorem mL_getD (k : Nat) (A : List Nat) : preL (mD k (fun i => A.getD i 0)) A.length = mL k A := by rw [← mL_pre, pre_getD]
theorem mL_unit {k : Nat} {U : List Nat} (hU : ∀ u ∈ U, u < k) : mL k (U.map (· + 1)) = U.map unit := by
  unfold mL
  rw [List.map_map]
  refine List.map_congr_left fun u hu => ?_
  show maskL (setL k (u + 1)) = unit u
  rw [setL_one (by have := hU u hu; omega), Nat.add_sub_cancel, maskL_unit]
/-- All of the first j of a list, each and one more, but one. -/
def fewL (wo : Int) (U : List Nat) : Nat → List Nat
  | 0 => []
  | j + 1 => if (j : Int) = wo then fewL wo U j else fewL wo U j ++ [U.getD j 0 + 1]
theorem fewL_len (wo : Int) (U : List Nat) : ∀ j : Nat, (fewL wo U j).length + (if 0 ≤ wo ∧ wo < (j : Int) then 1 else 0) = j
  | 0 => by rw [if_neg (by omega)]; rfl
  | j + 1 => by
    have ih := fewL_len wo U j
    unfold fewL
    by_cases c : (j : Int) = wo
    · rw [if_pos c, if_pos (by omega)]
      rw [if_neg (by omega)] at ih
      omega
    · rw [if_neg c, List.length_append]
      by_cases d : 0 ≤ wo ∧ wo < (j : Int)
      · rw [if_pos d] at ih
        rw [if_pos (by omega)]
        simp; omega
      · rw [if_neg d] at ih
        rw [if_neg (by omega)]
        simp; omega
theorem fewL_mem {wo : Int} {U : List Nat} {x : Nat} : ∀ {j : Nat}, j ≤ U.length → x ∈ fewL wo U j → ∃ u ∈ U, x = u + 1
  | 0, _, h => by cases h
  | j + 1, hj, h => by
    unfold fewL at h
    by_cases c : (j : Int) = wo
    · rw [if_pos c] at h; exact fewL_mem (by omega) h
    · rw [if_neg c] at h
      rcases List.mem_append.1 h with h | h
      · exact fewL_mem (by omega) h
      · exact ⟨U.getD j 0, by simp [List.getD, show j < U.length by omega], List.mem_singleton.1 h⟩
/-- With all that lack it is enough, and with one fewer it is not. -/
theorem all_rank {k len : Nat} {s : Nat → Nat} (hk : 1 ≤ k) (hs : ∀ j, j < len → 1 ≤ s j ∧ s j ≤ 10000) : rkL (mL k (preL s len ++ (upL (preL (mD k s) len) unit k).map (· + 1))) = k := by
  rw [mL_app, mL_pre, mL_unit (fun u hu => upL_lt hu), lack_fills (mD_lt hk hs)]
theorem few_rank {k len : Nat} {s : Nat → Nat} (hk : 1 ≤ k) (hs : ∀ j, j < len → 1 ≤ s j ∧ s j ≤ 10000) {wo : Int} (h0 : 0 ≤ wo) (h1 : wo < ((upL (preL (mD k s) len) unit k).length : Int)) :
    rkL (mL k (preL s len ++ fewL wo (upL (preL (mD k s) len) unit k) (upL (preL (mD k s) len) unit k).length)) < k := by
  have h2 := lack_len (L := preL (mD k s) len) (mD_lt hk hs)
  have h3 := fewL_len wo (upL (preL (mD k s) len) unit k) (upL (preL (mD k s) len) unit k).length
  rw [if_pos ⟨h0, h1⟩] at h3
  rw [mL_app, mL_pre]
  have h4 := (rkL_app (preL (mD k s) len) (mL k (fewL wo (upL (preL (mD k s) len) unit k) (upL (preL (mD k s) len) unit k).length))).2
  have h5 : (mL k (fewL wo (upL (preL (mD k s) len) unit k) (upL (preL (mD k s) len) unit k).length)).length = (fewL wo (upL (preL (mD k s) len) unit k) (upL (preL (mD k s) len) unit k).length).length := List.length_map _
  omega
theorem pre_good {s : Nat → Nat} {len : Nat} (hs : ∀ j, j < len → 1 ≤ s j ∧ s j ≤ 10000) : ∀ x ∈ preL s len, 1 ≤ x ∧ x ≤ 10000 := fun x hx => by
  obtain ⟨j, hj, rfl⟩ := mem_preL.1 hx
  exact hs j hj
theorem iV_pre (s : Nat → Nat) (n : Nat) : iV (preL s n) = (List.range n).map fun k : Nat => .int .i64 ((s k : Nat) : Int) := by unfold iV preL; rw [List.map_map]; rfl
theorem intsAt_list {w : World} {B : Nat} {v : Value} {A : List Nat} (h : w.ownsRow B 3 1 v A.length (iV A)) (hA : ∀ x ∈ A, 1 ≤ x ∧ x ≤ 10000) : IntsAt w v A.length (fun i => ((A.getD i 0 : Nat) : Int)) := by
  rcases Nat.eq_zero_or_pos A.length with e | h0
  · obtain ⟨a, cap, hv⟩ := own_slice h
    exact Or.inl ⟨e, a, cap, by rw [← e]; exact hv⟩
  · obtain ⟨g, cap, hv, h1, h2, h3⟩ := own_lst h h0
    refine Or.inr ⟨h0, g, 0, cap, hv, h1, h2, h3, fun i hi => WalkArith.wf_i64 ?_⟩
    have hm : A.getD i 0 ∈ A := by simp [List.getD, hi]
    have := hA _ hm
    show -9223372036854775808 ≤ ((A.getD i 0 : Nat) : Int) ∧ ((A.getD i 0 : Nat) : Int) ≤ 9223372036854775807
    omega
theorem rank_list {W : World} {B k n : Nat} {v : Value} {A : List Nat} (hk : 1 ≤ k) (hk2 : k ≤ 16) (hn : n ≤ 60) (hAn : A.length = n) (h : W.ownsRow B 3 1 v n (iV A)) (hA : ∀ x ∈ A, 1 ≤ x ∧ x ≤ 10000) :
    Calls Tryz.prog 48 #[.int .i64 k, v] W fun e w' => e = .returned (.tuple #[.int .i64 (rkL (mL k A) : Nat), .nilIface]) ∧ Below W.heap.size W w' := by
  subst hAn
  refine (rank_ok k v A.length (fun i => A.getD i 0) W (intsAt_list h hA) hn hk hk2 (fun j hj => hA _ (by simp [List.getD, hj]))).mono fun e w' ⟨r, he, hd, _, hb⟩ => ⟨?_, hb⟩
  have e9 := rkL_eq hd
  rw [mD_masks, mL_getD] at e9
  rw [he, e9]
theorem IntsAt.first {w : World} {a : Option Addr} {len cap : Nat} {f : Nat → Int} (h : IntsAt w (.slice a len cap) len f) {m : Nat} (hm : m ≤ len) : IntsAt w (.slice a m cap) m f := by
  rcases Nat.eq_zero_or_pos m with e | h0
  · exact Or.inl ⟨e, a, cap, by rw [e]⟩
  · rcases h with ⟨e, _⟩ | ⟨_, b, o, c, hv, h1, h2, h3, h4⟩
    · omega
    · injection hv with ha _ hc
      subst ha hc
      exact Or.inr ⟨h0, b, o, _, rfl, by omega, h2, fun i hi => h3 i (by omega), fun i hi => h4 i (by omega)⟩
/-- Of three blocks, with the second one there. -/
theorem fact_lacks : upL (preL (mD 3 (fun _ => 2)) 1) unit 3 = [0, 2] := by
  have e : preL (mD 3 (fun _ => 2)) 1 = [2] := by
    show [maskL (setL 3 2)] = [2]
    rw [setL_one (by omega)]; decide
  rw [e]
  have h0 : upL [2] unit 1 = [0] := by
    rw [upL_out (by simp [preL, Sp, XN, unit]), upL_zero]; rfl
  have h1 : upL [2] unit 2 = [0] := by
    rw [upL_in (by simp [preL, Sp, XN, unit, List.range_succ]), h0]
  rw [upL_out (by simp [preL, Sp, XN, unit, List.range_succ]), h1]; rfl
end Go.Proofs.YtjhflcgphejddaaGreatDoor

namespace Go.Proofs.YtjhflcgphejddaaGreatDoor
open Go.RowKit Go.Maps
set_option linter.unusedVariables false
set_option maxRecDepth 100000

/-- The drops that were new, as Solve sees them. -/
noncomputable def fL (k : Nat) (F : List Drp) : List RV := rowsD k (fun i => (sds F).getD i 0) (fun i => (dAt F i).2) F.length
theorem fL_sets (k : Nat) (F : List Drp) : (fL k F).map Prod.fst = mS k (sds F) := by
  unfold fL
  rw [masksD_rows]
  have h9 := masks_getD k (sds F)
  rw [sds_len] at h9
  exact h9
/-- What Data tells. -/
def DataOf (k z n : Nat) (F : List Drp) (x : Int) (s : ByteArray) : Prop :=
  (Clash (fL k F) ∧ x = 7 ∧ s = ⟨#[]⟩) ∨ (¬ Clash (fL k F) ∧ (∃ r, r < k ∧ Dim (Sp XN ((fL k F).map Prod.fst)) r) ∧ x = 8 ∧ s = ⟨#[]⟩) ∨
  (¬ Clash (fL k F) ∧ Dim (Sp XN ((fL k F).map Prod.fst)) k ∧ x = 0 ∧ ∃ G : Nat → ByteArray, (∀ p, p < k → (G p).size = z ∧ Sp XV (fL k F) (rv (2 ^ p) (G p))) ∧ s = ⟨((allL G k).take n).toArray⟩)
theorem own_dropsAt2 {w : World} {B : Nat} {v : Value} {F : List Drp} (h : w.ownsRow B 43 2 v F.length (dC F)) (hg : ∀ d ∈ F, 1 ≤ d.1 ∧ d.1 ≤ 10000 ∧ d.2.size ≤ 8) : DropsAt w v F.length (fun i => (((sds F).getD i 0 : Nat) : Int)) (fun i => (dAt F i).2) := by
  obtain ⟨a, cap, rfl, h1, h2, h3, h4⟩ := own_drops h
  rcases Nat.eq_zero_or_pos F.length with e | h0
  · exact Or.inl ⟨e, a, cap, congrArg (fun x => Value.slice a x cap) e⟩
  · obtain ⟨g, rfl⟩ := h3 h0
    refine Or.inr ⟨h0, g, 0, cap, rfl, h1, h2, fun i hi => ?_⟩
    have hc := h4 g rfl i hi
    have hd := hg _ (dAt_mem hi)
    have e : ((fun i => (((sds F).getD i 0 : Nat) : Int)) i) = ((dAt F i).1 : Int) := by show (((sds F).getD i 0 : Nat) : Int) = _; rw [sds_getD]
    rw [Nat.zero_add, e]
    exact ⟨hc.1, hc.2, by show (dAt F i).2.size ≤ maxLen; unfold maxLen; omega, WalkArith.wf_i64 (by omega)⟩
theorem FOk.solves {k z n : Nat} {F : List Drp} (h : FOk k z n F) : fC k z F.length (fun i => (((sds F).getD i 0 : Nat) : Int)) (fun i => (dAt F i).2) = 0 :=
  fC_zero h.few h.nk h.nz fun i hi => by
    have hd := h.good _ (dAt_mem hi)
    show 1 ≤ (sds F).getD i 0 ∧ (sds F).getD i 0 ≤ 10000 ∧ (dAt F i).2.size = z
    rw [sds_getD]; exact hd
/-- What Solve has answered: a slice, a fault's number. -/
def SolvedV (L : List RV) (k z : Nat) (w' : World) (a : Option Addr) (m c : Nat) (x : Int) : Prop :=
  (Clash L ∧ x = 7) ∨ (¬ Clash L ∧ (∃ r, r < k ∧ Dim (Sp XN (L.map Prod.fst)) r) ∧ x = 8) ∨
  (¬ Clash L ∧ Dim (Sp XN (L.map Prod.fst)) k ∧ x = 0 ∧ m = k ∧ c = k ∧ ∃ (b : Nat) (G : Nat → ByteArray), a = some ⟨b, 0, none⟩ ∧ ∀ p, p < k → w'.cell? ⟨b, p, none⟩ = some (.string (G p)) ∧ (G p).size = z ∧ Sp XV L (rv (2 ^ p) (G p)))
theorem solved_v {L : List RV} {k z : Nat} {e : Ending} {w' : World} (h : Solved L k z e w') : ∃ a m c x, e = .returned (.tuple #[.slice a m c, Tell x]) ∧ SolvedV L k z w' a m c x := by
  rcases h with ⟨h1, h2⟩ | ⟨h1, h2, h3⟩ | ⟨h1, h2, b, G, h3, h4⟩
  · exact ⟨none, 0, 0, 7, h2, Or.inl ⟨h1, rfl⟩⟩
  · exact ⟨none, 0, 0, 8, h3, Or.inr (Or.inl ⟨h1, h2, rfl⟩)⟩
  · exact ⟨_, _, _, 0, h3, Or.inr (Or.inr ⟨h1, h2, rfl, rfl, rfl, b, G, rfl, h4⟩)⟩
set_option maxHeartbeats 2000000 in
theorem data_ok {I : PIm0} {w : World} {v : Value} {k z n : Nat} {dr : Int} {F : List Drp} {M : Nat → Prop} (h : ESt I w v k z n dr F M) :
    Calls Tryz.prog 14 #[v] w fun e w' => ∃ x s, e = .returned (.tuple #[.string s, Tell x]) ∧ DataOf k z n F x s ∧ Below w.heap.size w w' := by
  obtain ⟨b, vP, vF, p, rfl, hE, hT, hO⟩ := h
  have SO := hide (fun W (hb : Below w.heap.size w W) => solve_ok k z vF F.length (fun i => (sds F).getD i 0) (fun i => (dAt F i).2) W (own_dropsAt2 (hE.below hb).row (fun d hd => by have := hO.good d hd; have := hO.nz; omega)) hO.solves)
  have hck := hE.ck
  have hcz := hE.cz
  have hcn := hE.cn
  have hcf := hE.cf
  have hbl := hE.blt
  have HO := hide hO
  obtain ⟨aF, cF, rfl, hF1, hF2, _⟩ := own_drops hE.row
  have h120 := hO.nn
  have hk16 := hO.nk
  clear hE hT hO
  go_enter Tryz.func14, Tryz.ntmps14
  go_wp2_with fail
  go_region_held3 (fun w' => w'.cell? ⟨b, 1, none⟩ = some (.int .i64 k) ∧ w'.cell? ⟨b, 2, none⟩ = some (.int .i64 z) ∧ w'.cell? ⟨b, 5, none⟩ = some (.slice aF F.length cF)) (first | go_keep | exact ⟨cell_below HB1.out hck, cell_below HB1.out hcz, cell_below HB1.out hcf⟩)
    (first | (go_at_call 43; refine (SO.out w.drew ⟨rfl, rfl, rfl, Nat.le_refl _, fun _ _ => rfl⟩).mono ?_; rintro e w1 ⟨hs, hb1⟩; obtain ⟨ao, mo, co, x, rfl, hs2⟩ := solved_v hs; have HB1 : Hid (Below w.heap.size w w1) := ⟨hb1.os, hb1.tape, hb1.output, hb1.size, hb1.block⟩; have HS := hide hs2; clear hs hs2))
  clear hb1 SO
  rcases HS.out with ⟨h1, rfl⟩ | ⟨h1, h2, rfl⟩ | ⟨h1, h2, rfl, rfl, rfl, bo, G, rfl, h4⟩
  · have ht : Tell 7 = .iface 61 (.int .i64 7) := rfl
    rw [ht]
    have H1 := hide h1
    clear h1
    go_wp2
    go_ret2
    exact ⟨7, _, rfl, Or.inl ⟨H1.out, rfl, rfl⟩, HB1.out⟩
  · have ht : Tell 8 = .iface 61 (.int .i64 8) := rfl
    rw [ht]
    have H1 := hide h1
    have H2 := hide h2
    clear h1 h2
    go_wp2
    go_ret2
    exact ⟨8, _, rfl, Or.inr (Or.inl ⟨H1.out, H2.out, rfl, rfl⟩), HB1.out⟩
  · have ht : Tell 0 = .nilIface := rfl
    rw [ht]
    have H1 := hide h1
    have H2 := hide h2
    have H4 := hide h4
    have hge := cnt_ge n z HO.out.nz.1
    rw [HO.out.cnt] at hge
    have hpos := hk16.1
    have e0 : (G 0).size = z := (h4 0 (by omega)).2.1
    have JN := hide (join_ok bo 0 co co G n w1 (by omega) hk16.2 (Nat.le_refl _) (fun i hi => by rw [Nat.zero_add]; exact (H4.out i hi).1) (by rw [e0]; exact HO.out.nz.1) (by rw [e0]; exact HO.out.nz.2) (fun i hi => by rw [e0]; exact (H4.out i hi).2.1) (by rw [e0]; exact hge) (by rw [e0]; exact HO.out.cnt))
    have hcn1 := cell_below HB1.out hcn
    clear h1 h2 h4 hge e0
    go_wp2_with fail
    refine (JN.out).mono ?_
    rintro e w2 ⟨rfl, hb2⟩
    have HB2 := hide (below_two HB1.out hb2)
    clear hb2
    go_wp2
    go_ret2
    exact ⟨0, _, rfl, Or.inr (Or.inr ⟨H1.out, H2.out, rfl, G, fun p hp => (H4.out p hp).2, rfl⟩), HB2.out⟩
theorem dataOf_made {k z n : Nat} {F : List Drp} {g : Nat → ByteArray} {x : Int} {s : ByteArray} (hO : FOk k z n F) (hF : ∀ d ∈ F, d.2 = dropB g k d.1) (hg : ∀ p, (g p).size = z) (h : DataOf k z n F x s) :
    (rkL (mS k (sds F)) = k ∧ x = 0 ∧ s = ⟨((allL g k).take n).toArray⟩) ∨ (rkL (mS k (sds F)) < k ∧ x = 8 ∧ s = ⟨#[]⟩) := by
  have hf : ∀ v ∈ fL k F, Fits g k v := fun v hv => by
    obtain ⟨i, hi, rfl⟩ := List.mem_map.1 hv
    have hi := List.mem_range.1 hi
    have hd := hO.good _ (dAt_mem hi)
    show Fits g k (rv (maskL (setL k ((sds F).getD i 0))) (dAt F i).2)
    rw [sds_getD, hF _ (dAt_mem hi)]
    exact drop_fits hO.nk.1 hd.1 fun p _ => by rw [hg, hg]
  rcases h with ⟨hc, _⟩ | ⟨_, ⟨r, hr, hd⟩, hx, hs⟩ | ⟨_, hd, hx, G, hG, hs⟩
  · exact absurd hc (fits_clash hf)
  · rw [fL_sets] at hd
    exact Or.inr ⟨by rw [rkL_eq hd]; exact hr, hx, hs⟩
  · rw [fL_sets] at hd
    refine Or.inl ⟨rkL_eq hd, hx, ?_⟩
    have e : allL G k = allL g k := by
      unfold allL
      congr 1
      refine List.map_congr_left fun p hp => ?_
      have hp := List.mem_range.1 hp
      rw [fits_unit hf hp (by rw [(hG p hp).1, hg]) (hG p hp).2]
    rw [hs, e]
set_option maxHeartbeats 2000000 in
theorem elacks_ok {I : PIm0} {w : World} {v : Value} {k z n : Nat} {dr : Int} {F : List Drp} {M : Nat → Prop} (h : ESt I w v k z n dr F M) :
    Calls Tryz.prog 13 #[v] w fun e w' => ∃ vo, e = .returned vo ∧ w'.ownsRow w.heap.size 3 1 vo (upL (mS k (sds F)) unit k).length (iV (upL (mS k (sds F)) unit k)) ∧ Below w.heap.size w w' := by
  obtain ⟨b, vP, vF, p, rfl, hE, hT, hO⟩ := h
  have SD := hide (fun W (hb : Below w.heap.size w W) => seeds_ok (hE.below hb) hO)
  have LK := hide (fun v1 W (hv : IntsAt W v1 F.length (fun i => (((sds F).getD i 0 : Nat) : Int))) => lacks_ok k v1 F.length (fun i => (sds F).getD i 0) W hv hO.few hO.nk.1 hO.nk.2 (fun j hj => hO.seeds _ (getD_mem (by rw [sds_len]; exact hj))))
  have e9 : preL (mD k (fun i => (sds F).getD i 0)) F.length = mS k (sds F) := by
    have h9 := mL_getD k (sds F)
    rw [sds_len] at h9
    exact h9
  rw [e9] at LK
  have hck := hE.ck
  have hbl := hE.blt
  clear hE hT hO e9
  generalize upL (mS k (sds F)) unit k = U at *
  go_enter Tryz.func13, Tryz.ntmps13
  go_wp2_with fail
  go_region_held3 (fun w' => w'.cell? ⟨b, 1, none⟩ = some (.int .i64 k)) (first | go_keep | exact hck1 | exact hck2)
    (first | (go_at_call 42; refine (SD.out w.drew ⟨rfl, rfl, rfl, Nat.le_refl _, fun _ _ => rfl⟩).mono ?_; rintro e w1 ⟨v1, rfl, hv1, hb1⟩; have HB1 : Hid (Below w.heap.size w w1) := ⟨hb1.os, hb1.tape, hb1.output, hb1.size, hb1.block⟩; have hck1 := cell_below HB1.out hck) | (go_at_call 41; refine (LK.out _ _ hv1).mono ?_; rintro e w2 ⟨vo, rfl, ho, hb2⟩; have HB2 := hide (below_two HB1.out hb2); have hck2 := cell_below hb2 hck1))
  have HOw := hide (own_base ho HB1.out.size)
  obtain ⟨a, c, rfl⟩ := own_slice ho
  clear ho hb2 hck1 hck2
  go_wp2
  go_ret
  exact ⟨_, rfl, HOw.out, HB2.out⟩
end Go.Proofs.YtjhflcgphejddaaGreatDoor

namespace Go.Proofs.YtjhflcgphejddaaGreatDoor
open Go.RowKit Go.Maps
set_option linter.unusedVariables false
set_option maxRecDepth 100000

theorem rkL_sub {A B : List Nat} (h : ∀ v ∈ A, v ∈ B) : rkL A ≤ rkL B := by
  obtain ⟨C, h1, h2, h3⟩ := rkL_dim A
  have h9 := (rkL_dim B).least h2 fun v hv => Sp.mono h ((h3 v).1 (Sp.mem hv))
  omega
theorem know_one {k s p : Nat} {d : ByteArray} {q : PS} {F : List Drp} (h : Took (setL k) q F) (hm : (s, d) ∈ F) (hs : setL k s = [p]) : q.known p = true := by
  have h9 := h.shut _ hm
  cases e : q.known p with
  | true => rfl
  | false =>
    refine absurd ?_ h9
    show ((setL k s).filter fun r => !q.known r).length = 1
    rw [hs]; simp [e]
theorem knows_one {q : PS} {d : ByteArray} (h : Took (setL 1) q [(1, d)]) : (knows 1 q.known).length = 1 := by
  have h9 := know_one (p := 0) (s := 1) (d := d) h (by simp) (by rw [setL_one (by omega)])
  simp [knows, List.range_succ, h9]
/-- Drops of the blocks g. -/
def Made (g : Nat → ByteArray) (k : Nat) (F : List Drp) : Prop := ∀ d ∈ F, d.2 = dropB g k d.1
theorem made_none (g : Nat → ByteArray) (k : Nat) : Made g k [] := fun d hd => by cases hd
theorem Made.add {g : Nat → ByteArray} {k s : Nat} {F : List Drp} (h : Made g k F) : Made g k (eAdd F s (dropB g k s)) := by
  unfold eAdd
  split
  · exact h
  · intro d hd
    rcases List.mem_append.1 hd with hd | hd
    · exact h d hd
    · rw [List.mem_singleton.1 hd]
theorem eAdd_sds {F : List Drp} {s : Nat} {d : ByteArray} {x : Nat} : x ∈ sds (eAdd F s d) ↔ x ∈ sds F ∨ x = s := by
  unfold eAdd
  split
  · rename_i h
    exact ⟨Or.inl, fun h9 => h9.elim id fun e => e ▸ h⟩
  · rw [sds_add]; simp
theorem eAdd_len {F : List Drp} {s : Nat} {d : ByteArray} : (eAdd F s d).length ≤ F.length + 1 := by
  unfold eAdd
  split <;> simp
/-- What Data tells of drops of a text. -/
def TextOf (k : Nat) (F : List Drp) (t : ByteArray) (x : Int) (s : ByteArray) : Prop := (rkL (mS k (sds F)) = k ∧ x = 0 ∧ s = t) ∨ (rkL (mS k (sds F)) < k ∧ x = 8 ∧ s = ⟨#[]⟩)
theorem data_text {I : PIm0} {w : World} {v : Value} {k z : Nat} {dr : Int} {F : List Drp} {M : Nat → Prop} {t : ByteArray} (h : ESt I w v k z t.size dr F M) (hF : Made (blkB t.data.toList z) k F) :
    Calls Tryz.prog 14 #[v] w fun e w' => ∃ x s, e = .returned (.tuple #[.string s, Tell x]) ∧ TextOf k F t x s ∧ Below w.heap.size w w' :=
  (data_ok h).mono fun e w' ⟨x, s, he, hd, hb⟩ => ⟨x, s, he, (dataOf_made h.ok hF (fun p => blkB_size _ _ _) hd).imp (fun ⟨h1, h2, h3⟩ => ⟨h1, h2, by
    have h9 := back_bytes t z h.ok.nz.1
    rw [h.ok.cnt] at h9
    rw [h3, h9]⟩) id, hb⟩
theorem full_rank {k z n : Nat} {F : List Drp} (h : FOk k z n F) : rkL (mS k (sds F)) ≤ k := rk_le (mS_lt h.nk.1 fun x hx => (h.seeds x hx).1)
/-- A text of one block is there when that was heard. -/
theorem one_fact {z n : Nat} {x : Int} {s d t : ByteArray} (hO : FOk 1 z n [(1, d)]) (ht : ((d.data.toList).take n) = t.data.toList) (h : DataOf 1 z n [(1, d)] x s) : x = 0 ∧ s = t := by
  have hz : d.size = z := (hO.good (1, d) (by simp)).2.2
  have hr : rkL (mS 1 (sds [(1, d)])) = 1 := rk_one (mask_some ⟨by omega, by omega⟩ ⟨by omega, by omega⟩)
  rcases dataOf_made (g := fun _ => d) hO (fun e he => by
    rw [List.mem_singleton.1 he]
    exact (dropB_one (g := fun _ => d) (len := 1) (seed := 1) (by omega) (by omega) rfl).symm) (fun _ => hz) h with ⟨_, h1, h2⟩ | ⟨h1, _⟩
  · refine ⟨h1, ?_⟩
    rw [h2]
    have e : allL (fun _ => d) 1 = d.data.toList := by rw [allL_succ]; simp [allL]
    rw [e, ht]
  · rw [hr] at h1; omega
end Go.Proofs.YtjhflcgphejddaaGreatDoor

namespace Go.Proofs.YtjhflcgphejddaaGreatDoor
open Go.RowKit Go.Maps
set_option linter.unusedVariables false
set_option maxRecDepth 100000

/-- The Ear is told by a pointer. -/
theorem ESt.ptr {I : PIm0} {w : World} {v : Value} {k z n : Nat} {dr : Int} {F : List Drp} {M : Nat → Prop} (h : ESt I w v k z n dr F M) : ∃ a, v = .pointer a := by
  obtain ⟨b, _, _, _, rfl, _⟩ := h
  exact ⟨_, rfl⟩
theorem wrap_rng (x : Int) : -9223372036854775808 ≤ wrap64 x ∧ wrap64 x ≤ 9223372036854775807 := by unfold wrap64; omega
end Go.Proofs.YtjhflcgphejddaaGreatDoor

namespace Go.Proofs.YtjhflcgphejddaaGreatDoor
open Go.RowKit Go.Maps
set_option linter.unusedVariables false
set_option maxRecDepth 100000

/-- An Ear, a list of the seeds that were new, and blocks. -/
structure Lis (w wr : World) (a : Option Addr) (k z n : Nat) (dr : Int) (F : List Drp) (M : Nat → Prop) (A : List Nat) (vn : Value) (bk : Nat) (g : Nat → ByteArray) : Prop where
  ear : ESt peelI0 wr (.pointer a) k z n dr F M
  made : Made g k F
  rng : -9223372036854775808 ≤ dr ∧ dr ≤ 9223372036854775807
  inM : ∀ i, M i → w.heap.size ≤ i
  ap : ∀ i, vn.ownBlock = some i → ¬ M i
  row : wr.ownsRow w.heap.size 3 1 vn A.length (toV A)
  blk : Blks wr bk 0 k g
  blkM : ¬ M bk
  apB : vn.ownBlock ≠ some bk
  below : Below w.heap.size w wr
theorem Blks.lt {w : World} {b o len : Nat} {g : Nat → ByteArray} (h : Blks w b o len g) : b < w.heap.size := cell_lt (h.cells 0 h.pos)
theorem Blks.of_block {w w' : World} {b o len : Nat} {g : Nat → ByteArray} (h : Blks w b o len g) (hb : w'.heap[b]? = w.heap[b]?) : Blks w' b o len g :=
  ⟨h.pos, h.most, fun i hi => (World.cell?_of_block (w := w) hb).trans (h.cells i hi), h.one, h.eight, h.same⟩
theorem Lis.grow {w wr w' : World} {a : Option Addr} {k z n : Nat} {dr : Int} {F : List Drp} {M : Nat → Prop} {A : List Nat} {vn : Value} {bk : Nat} {g : Nat → ByteArray} (h : Lis w wr a k z n dr F M A vn bk g) (hb : Below wr.heap.size wr w') : Lis w w' a k z n dr F M A vn bk g :=
  ⟨h.ear.below hb, h.made, h.rng, h.inM, h.ap, own_under' h.row hb, h.blk.below hb, h.blkM, h.apB, below_two h.below hb⟩
/-- A drop of the blocks is heard. -/
theorem Lis.hear {w wr : World} {a : Option Addr} {k z n : Nat} {dr : Int} {F : List Drp} {M : Nat → Prop} {A : List Nat} {vn : Value} {bk : Nat} {g : Nat → ByteArray} (h : Lis w wr a k z n dr F M A vn bk g) (hz : (g 0).size = z) (hl : F.length < 60) (s : Nat) (hs : 1 ≤ s ∧ s ≤ 10000) :
    Calls Tryz.prog 12 #[.pointer a, .agg #[.int .i64 s, .string (dropB g k s)]] wr fun e w' => ∃ (kn : Nat) (dr' : Int) (M' : Nat → Prop), e = .returned (.tuple #[.agg #[.int .i64 dr', .int .i64 (eAdd F s (dropB g k s)).length, .int .i64 kn], .nilIface]) ∧ kn ≤ k ∧ Lis w w' a k z n dr' (eAdd F s (dropB g k s)) M' A vn bk g :=
  (hear_from peel_ptr h.ear h.below h.inM s (dropB g k s) (eF_made h.ear.ok hs (by rw [dropB_size, hz]) hl) h.rng).mono fun e w' ⟨q, M', hT, he, hE, hM', hb', hk, hf⟩ =>
    ⟨_, _, M', he, knows_len k q.known, hE, h.made.add, wrap_rng _, hM', fun i e hi => (hf i hi).elim (h.ap i e) fun e2 => by have := (h.row.lt i e).2; omega,
      own_blk h.row fun i e => hk.block i (h.row.lt i e).2 (h.ap i e), h.blk.of_block (hk.block _ h.blk.lt h.blkM), fun hi => (hf _ hi).elim h.blkM fun e2 => by have := h.blk.lt; omega, h.apB, hb'⟩
end Go.Proofs.YtjhflcgphejddaaGreatDoor

namespace Go.Proofs.YtjhflcgphejddaaGreatDoor
open Go.RowKit
set_option linter.unusedVariables false
set_option maxRecDepth 100000

set_option maxHeartbeats 1000000 in
theorem rin_no (b o n cap : Nat) (v : Int) (f : Nat → Int) (w : World) (hn : n ≤ maxLen)
    (hcell : ∀ i, i < n → w.cell? ⟨b, o + i, none⟩ = some (.int .i64 (f i))) (hs : ∀ i, i < n → f i ≠ v) :
    Calls Tryz.prog 10 #[.slice (some ⟨b, o, none⟩) n cap, .int .i64 v] w fun e w' => e = .returned (.bool false) ∧ w = w' := by
  unfold maxLen at hn
  have HC := hide hcell
  have HS := hide hs
  clear hcell hs
  go_enter Tryz.func10, Tryz.ntmps10
  go_wp2
  go_loop [5] (fun i => ∃ j : Nat, j ≤ n ∧ i = .int .i64 j) (fun i => n - (intOf i).toNat)
  case atStart => exact ⟨0, Nat.zero_le _, rfl⟩
  case round =>
    obtain ⟨j, hj, rfl⟩ := hrel
    by_cases hlt : j < n
    · have hc := HC.out j hlt
      have hz := HS.out j hlt
      have hz' : (f j == v) = false := by rw [beq_eq_false_iff_ne]; exact hz
      clear hz
      go_wp2
      go_round
      case rel => exact ⟨j + 1, by omega, by go_num⟩
      case measure => simp [intOf]; omega
    · go_wp2
      go_ret
      exact ⟨rfl, rfl⟩
set_option maxHeartbeats 1000000 in
theorem rin_yes (b o n cap : Nat) (v : Int) (f : Nat → Int) (w : World) (hn : n ≤ maxLen)
    (hcell : ∀ i, i < n → w.cell? ⟨b, o + i, none⟩ = some (.int .i64 (f i))) (q : Nat) (hq : q < n) (hs : f q = v) :
    Calls Tryz.prog 10 #[.slice (some ⟨b, o, none⟩) n cap, .int .i64 v] w fun e w' => e = .returned (.bool true) ∧ w = w' := by
  unfold maxLen at hn
  have HC := hide hcell
  have HS := hide hs
  clear hcell hs
  go_enter Tryz.func10, Tryz.ntmps10
  go_wp2
  go_loop [5] (fun i => ∃ j : Nat, j ≤ q ∧ i = .int .i64 j) (fun i => n - (intOf i).toNat)
  case atStart => exact ⟨0, Nat.zero_le _, rfl⟩
  case round =>
    obtain ⟨j, hj, rfl⟩ := hrel
    have hlt : j < n := by omega
    have hc := HC.out j hlt
    by_cases hz : f j = v
    · have hz' : (f j == v) = true := by rw [beq_iff_eq]; exact hz
      clear hz
      go_wp2
      go_ret
      exact ⟨rfl, rfl⟩
    · have hz' : (f j == v) = false := by rw [beq_eq_false_iff_ne]; exact hz
      have hne : j ≠ q := fun e => hz (by rw [e]; exact HS.out)
      have hlt2 : j < q := by omega
      clear hz hne
      go_wp2
      go_round
      case rel => exact ⟨j + 1, by omega, by go_num⟩
      case measure => simp [intOf]; omega
/-- 'in' as the list says it, whichever. -/
theorem rin_any (b o n cap : Nat) (v : Int) (f : Nat → Int) (w : World) (hn : n ≤ maxLen)
    (hcell : ∀ i, i < n → w.cell? ⟨b, o + i, none⟩ = some (.int .i64 (f i))) :
    ∃ r : Bool, (r = true ↔ ∃ q, q < n ∧ f q = v) ∧ Calls Tryz.prog 10 #[.slice (some ⟨b, o, none⟩) n cap, .int .i64 v] w fun e w' => e = .returned (.bool r) ∧ w = w' := by
  by_cases h : ∃ q, q < n ∧ f q = v
  · obtain ⟨q, hq, he⟩ := h
    exact ⟨true, by simp; exact ⟨q, hq, he⟩, rin_yes b o n cap v f w hn hcell q hq he⟩
  · exact ⟨false, by simp; exact fun q hq he => h ⟨q, hq, he⟩, rin_no b o n cap v f w hn hcell (fun i hi he => h ⟨i, hi, he⟩)⟩
end Go.Proofs.YtjhflcgphejddaaGreatDoor
