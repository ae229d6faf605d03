/-
  Lemmas for the law above, joined into one text (AppN, NdFillN, EarD, StrN, RLine). No statement is proved here.
-/
import Derived.Test.YtjgifjkdgoijmaaGreatDoorYG0
import Derived.Test.YtjgifjkdgoijmaaGreatDoorYG12
import Derived.Test.YtjgifjkdgoijmaaGreatDoorYNdLacks
import Derived.Test.YtjgifjkdgoijmaaGreatDoorYG25
import Derived.Test.YtjgifjkdgoijmaaGreatDoorYG27
import Derived.Test.YtjgifjkdgoijmaaGreatDoorYG31
import Derived.Test.YtjgifjkdgoijmaaGreatDoorYG9
import Derived.Test.YtjgifjkdgoijmaaGreatDoorYG6
import Derived.Deep.MidRow
import Derived.Laws.ResultCell
import Derived.Deep.DeepCutAuto
import Derived.Deep.CutRange
namespace Go.Proofs.YtjgifjkdgoijmaaGreatDoor
open Go.RowKit
set_option linter.unusedVariables false
set_option maxRecDepth 100000

theorem wpList_append_nil_empty {P : Program} {w : World} {ops : Array Oper} {rest : List Oper} {o : Oper} {a : Act} {Q : Exit → Act → World → Prop} (hgd : o.guard = none) (s x : Operand) (t : TypeId)
    (ho : o.op = .call { callee := .builtin .append, args := #[s, x], argTypes := #[t, t] })
    (e : TypeId) (i : TypeInfo) (ht : P.underlying t = some (.slice e)) (hi : P.info? e = some i) (ad : Option Addr) (c : Nat)
    (hs : a.eval s = .slice none 0 0) (hx : a.eval x = .slice ad 0 c)
    (h : wpList P ops Q rest (a.put o.dst (.slice none 0 0)) w) : wpList P ops Q (o :: rest) a w := by
  refine wpList_plain hgd fun K hK => ?_
  have hrun : (Builtin.append_ #[t, t] o.type #[.slice none 0 0, .slice ad 0 c]).run P w = .ok (.slice none 0 0) w := by
    cases ad <;> simp [Builtin.append_, run_underlying ht, sizeOf, typeInfo, hi, Builtin.lenOf, Builtin.firstCells, loadCells, loadCellsFrom]
  unfold Oper.wp
  simp [execOp, ho, resolve, invoke, builtin, hs, hx, hrun, Result.andThen]
  exact hK _ _ h

/-- 'append(nil, x...)', whatever slice of numbers x is. -/
theorem wpList_append_ints {w : World} {ops : Array Oper} {rest : List Oper} {o : Oper} {a : Act} {Q : Exit → Act → World → Prop} (hgd : o.guard = none) (s x : Operand)
    (ho : o.op = .call { callee := .builtin .append, args := #[s, x], argTypes := #[22, 22] }) (base : Nat) (hbase : base ≤ w.heap.size)
    (v : Value) (len : Nat) (f : Nat → Int) (hv : IntsAt w v len f) (hlen : len ≤ 1000000) (hs : a.eval s = .slice none 0 0) (hx : a.eval x = v)
    (h : ∀ v' w', w'.ownsRow base 3 1 v' len ((List.range len).map fun k : Nat => .int .i64 (f k)) → w.grownBy w' none → (∀ g, v'.ownBlock = some g → g = w.heap.size) → wpList Tryz.prog ops Q rest (a.put o.dst v') w') : wpList Tryz.prog ops Q (o :: rest) a w := by
  obtain ⟨i0, hi0, hz0, hz1, hz2⟩ := info_parts Tryz.infoInt
  rcases hv with ⟨rfl, ad, cap, rfl⟩ | ⟨h0, b, off, cap, rfl, h1, h2, h3, _⟩
  · exact wpList_append_nil_empty hgd s x 22 ho 3 i0 Tryz.underlying22 hi0 ad cap hs hx (h _ _ (World.ownsRow_nil _ _ _ _) (World.grownBy.refl _ _) (fun g hg => by cases hg))
  · refine wpList_append_lies _ hgd s x 22 ho base 3 i0 (.int .i64 0) 1 8 Tryz.underlying22 hi0 hz0 hz1 hz2 rfl (by decide) _ 0 [] hs (World.ownsRow_nil _ _ _ _) ⟨b, off, none⟩ len cap ((List.range len).map fun k : Nat => .int .i64 (f k)) hx (by simp) (fun q u hu => ?_) (fun u hu => by obtain ⟨_, _, rfl⟩ := List.mem_map.1 hu; rfl) h0 (by unfold maxLen; omega) (by omega) hbase _ rfl ?_
    · have hq : q < len := by
        rcases Nat.lt_or_ge q len with h | h
        · exact h
        · rw [List.getElem?_eq_none (by simpa using h)] at hu; cases hu
      have e : u = .int .i64 (f q) := by simpa [hq] using hu.symm
      rw [e, ← h3 q hq]
      by_cases c : q = 0
      · subst c; simp [Addr.add]
      · simp [Addr.add, c]
    · intro g cap' w' hown hgrow hat hlt
      simp only [Nat.zero_add, List.nil_append] at hown ⊢
      refine h _ w' hown hgrow (fun g' hg' => ?_)
      cases hg'
      rcases hat with hat | hat
      · cases hat
      · exact hat
end Go.Proofs.YtjgifjkdgoijmaaGreatDoor

namespace Go.Proofs.YtjgifjkdgoijmaaGreatDoor
open Go.RowKit Go.Maps
set_option linter.unusedVariables false
set_option maxRecDepth 100000

/-- The sets of a list of seeds. -/
noncomputable def mL (k : Nat) (A : List Nat) : List Nat := A.map fun x => maskL (setL k x)
theorem mL_pre (k : Nat) (s : Nat → Nat) (n : Nat) : mL k (preL s n) = preL (mD k s) n := by unfold mL preL mD; rw [List.map_map]; rfl
theorem mL_app (k : Nat) (A B : List Nat) : mL k (A ++ B) = mL k A ++ mL k B := List.map_append
theorem pre_getD (A : List Nat) : preL (fun i => A.getD i 0) A.length = A := by
  apply List.ext_getElem
  · simp [preL]
  · intro i h1 h2
    simp [preL, h2]
theorem mL_getD (k : Nat) (A : List Nat) : preL (mD k (fun i => A.getD i 0)) A.length = mL k A := by rw [← mL_pre, pre_getD]
theorem mL_unit {k : Nat} {U : List Nat} (hU : ∀ u ∈ U, u < k) : mL k (U.map (· + 1)) = U.map unit := by
  unfold mL
  rw [List.map_map]
  refine List.map_congr_left fun u hu => ?_
  show maskL (setL k (u + 1)) = unit u
  rw [setL_one (by have := hU u hu; omega), Nat.add_sub_cancel, maskL_unit]
/-- All of the first j of a list, each and one more, but one. -/
def fewL (wo : Int) (U : List Nat) : Nat → List Nat
  | 0 => []
  | j + 1 => if (j : Int) = wo then fewL wo U j else fewL wo U j ++ [U.getD j 0 + 1]
theorem fewL_len (wo : Int) (U : List Nat) : ∀ j : Nat, (fewL wo U j).length + (if 0 ≤ wo ∧ wo < (j : Int) then 1 else 0) = j
  | 0 => by rw [if_neg (by omega)]; rfl
  | j + 1 => by
    have ih := fewL_len wo U j
    unfold fewL
    by_cases c : (j : Int) = wo
    · rw [if_pos c, if_pos (by omega)]
      rw [if_neg (by omega)] at ih
      omega
    · rw [if_neg c, List.length_append]
      by_cases d : 0 ≤ wo ∧ wo < (j : Int)
      · rw [if_pos d] at ih
        rw [if_pos (by omega)]
        simp; omega
      · rw [if_neg d] at ih
        rw [if_neg (by omega)]
        simp; omega
theorem fewL_mem {wo : Int} {U : List Nat} {x : Nat} : ∀ {j : Nat}, j ≤ U.length → x ∈ fewL wo U j → ∃ u ∈ U, x = u + 1
  | 0, _, h => by cases h
  | j + 1, hj, h => by
    unfold fewL at h
    by_cases c : (j : Int) = wo
    · rw [if_pos c] at h; exact fewL_mem (by omega) h
    · rw [if_neg c] at h
      rcases List.mem_append.1 h with h | h
      · exact fewL_mem (by omega) h
      · exact ⟨U.getD j 0, by simp [List.getD, show j < U.length by omega], List.mem_singleton.1 h⟩
/-- With all that lack it is enough, and with one fewer it is not. -/
theorem all_rank {k len : Nat} {s : Nat → Nat} (hk : 1 ≤ k) (hs : ∀ j, j < len → 1 ≤ s j ∧ s j ≤ 10000) : rkL (mL k (preL s len ++ (upL (preL (mD k s) len) unit k).map (· + 1))) = k := by
  rw [mL_app, mL_pre, mL_unit (fun u hu => upL_lt hu), lack_fills (mD_lt hk hs)]
theorem few_rank {k len : Nat} {s : Nat → Nat} (hk : 1 ≤ k) (hs : ∀ j, j < len → 1 ≤ s j ∧ s j ≤ 10000) {wo : Int} (h0 : 0 ≤ wo) (h1 : wo < ((upL (preL (mD k s) len) unit k).length : Int)) :
    rkL (mL k (preL s len ++ fewL wo (upL (preL (mD k s) len) unit k) (upL (preL (mD k s) len) unit k).length)) < k := by
  have h2 := lack_len (L := preL (mD k s) len) (mD_lt hk hs)
  have h3 := fewL_len wo (upL (preL (mD k s) len) unit k) (upL (preL (mD k s) len) unit k).length
  rw [if_pos ⟨h0, h1⟩] at h3
  rw [mL_app, mL_pre]
  have h4 := (rkL_app (preL (mD k s) len) (mL k (fewL wo (upL (preL (mD k s) len) unit k) (upL (preL (mD k s) len) unit k).length))).2
  have h5 : (mL k (fewL wo (upL (preL (mD k s) len) unit k) (upL (preL (mD k s) len) unit k).length)).length = (fewL wo (upL (preL (mD k s) len) unit k) (upL (preL (mD k s) len) unit k).length).length := List.length_map _
  omega
theorem pre_good {s : Nat → Nat} {len : Nat} (hs : ∀ j, j < len → 1 ≤ s j ∧ s j ≤ 10000) : ∀ x ∈ preL s len, 1 ≤ x ∧ x ≤ 10000 := fun x hx => by
  obtain ⟨j, hj, rfl⟩ := mem_preL.1 hx
  exact hs j hj
theorem iV_pre (s : Nat → Nat) (n : Nat) : iV (preL s n) = (List.range n).map fun k : Nat => .int .i64 ((s k : Nat) : Int) := by unfold iV preL; rw [List.map_map]; rfl
theorem intsAt_list {w : World} {B : Nat} {v : Value} {A : List Nat} (h : w.ownsRow B 3 1 v A.length (iV A)) (hA : ∀ x ∈ A, 1 ≤ x ∧ x ≤ 10000) : IntsAt w v A.length (fun i => ((A.getD i 0 : Nat) : Int)) := by
  rcases Nat.eq_zero_or_pos A.length with e | h0
  · obtain ⟨a, cap, hv⟩ := own_slice h
    exact Or.inl ⟨e, a, cap, by rw [← e]; exact hv⟩
  · obtain ⟨g, cap, hv, h1, h2, h3⟩ := own_lst h h0
    refine Or.inr ⟨h0, g, 0, cap, hv, h1, h2, h3, fun i hi => WalkArith.wf_i64 ?_⟩
    have hm : A.getD i 0 ∈ A := by simp [List.getD, hi]
    have := hA _ hm
    show -9223372036854775808 ≤ ((A.getD i 0 : Nat) : Int) ∧ ((A.getD i 0 : Nat) : Int) ≤ 9223372036854775807
    omega
theorem rank_list {W : World} {B k n : Nat} {v : Value} {A : List Nat} (hk : 1 ≤ k) (hk2 : k ≤ 16) (hn : n ≤ 60) (hAn : A.length = n) (h : W.ownsRow B 3 1 v n (iV A)) (hA : ∀ x ∈ A, 1 ≤ x ∧ x ≤ 10000) :
    Calls Tryz.prog 14 #[.int .i64 k, v] W fun e w' => e = .returned (.tuple #[.int .i64 (rkL (mL k A) : Nat), .nilIface]) ∧ Below W.heap.size W w' := by
  subst hAn
  refine (rank_ok k v A.length (fun i => A.getD i 0) W (intsAt_list h hA) hn hk hk2 (fun j hj => hA _ (by simp [List.getD, hj]))).mono fun e w' ⟨r, he, hd, _, hb⟩ => ⟨?_, hb⟩
  have e9 := rkL_eq hd
  rw [mD_masks, mL_getD] at e9
  rw [he, e9]
theorem IntsAt.first {w : World} {a : Option Addr} {len cap : Nat} {f : Nat → Int} (h : IntsAt w (.slice a len cap) len f) {m : Nat} (hm : m ≤ len) : IntsAt w (.slice a m cap) m f := by
  rcases Nat.eq_zero_or_pos m with e | h0
  · exact Or.inl ⟨e, a, cap, by rw [e]⟩
  · rcases h with ⟨e, _⟩ | ⟨_, b, o, c, hv, h1, h2, h3, h4⟩
    · omega
    · injection hv with ha _ hc
      subst ha hc
      exact Or.inr ⟨h0, b, o, _, rfl, by omega, h2, fun i hi => h3 i (by omega), fun i hi => h4 i (by omega)⟩
/-- Of three blocks, with the second one there. -/
theorem fact_lacks : upL (preL (mD 3 (fun _ => 2)) 1) unit 3 = [0, 2] := by
  have e : preL (mD 3 (fun _ => 2)) 1 = [2] := by
    show [maskL (setL 3 2)] = [2]
    rw [setL_one (by omega)]; decide
  rw [e]
  have h0 : upL [2] unit 1 = [0] := by
    rw [upL_out (by simp [preL, Sp, XN, unit]), upL_zero]; rfl
  have h1 : upL [2] unit 2 = [0] := by
    rw [upL_in (by simp [preL, Sp, XN, unit, List.range_succ]), h0]
  rw [upL_out (by simp [preL, Sp, XN, unit, List.range_succ]), h1]; rfl
end Go.Proofs.YtjgifjkdgoijmaaGreatDoor

namespace Go.Proofs.YtjgifjkdgoijmaaGreatDoor
open Go.RowKit Go.Maps
set_option linter.unusedVariables false
set_option maxRecDepth 100000

/-- The drops that were new, as Solve sees them. -/
noncomputable def fL (k : Nat) (F : List Drp) : List RV := rowsD k (fun i => (sds F).getD i 0) (fun i => (dAt F i).2) F.length
theorem fL_sets (k : Nat) (F : List Drp) : (fL k F).map Prod.fst = mS k (sds F) := by
  unfold fL
  rw [masksD_rows]
  have h9 := masks_getD k (sds F)
  rw [sds_len] at h9
  exact h9
/-- What Data tells. -/
def DataOf (k z n : Nat) (F : List Drp) (x : Int) (s : ByteArray) : Prop :=
  (Clash (fL k F) ∧ x = 7 ∧ s = ⟨#[]⟩) ∨ (¬ Clash (fL k F) ∧ (∃ r, r < k ∧ Dim (Sp XN ((fL k F).map Prod.fst)) r) ∧ x = 8 ∧ s = ⟨#[]⟩) ∨
  (¬ Clash (fL k F) ∧ Dim (Sp XN ((fL k F).map Prod.fst)) k ∧ x = 0 ∧ ∃ G : Nat → ByteArray, (∀ p, p < k → (G p).size = z ∧ Sp XV (fL k F) (rv (2 ^ p) (G p))) ∧ s = ⟨((allL G k).take n).toArray⟩)
theorem own_dropsAt2 {w : World} {B : Nat} {v : Value} {F : List Drp} (h : w.ownsRow B 33 2 v F.length (dC F)) (hg : ∀ d ∈ F, 1 ≤ d.1 ∧ d.1 ≤ 10000 ∧ d.2.size ≤ 8) : DropsAt w v F.length (fun i => (((sds F).getD i 0 : Nat) : Int)) (fun i => (dAt F i).2) := by
  obtain ⟨a, cap, rfl, h1, h2, h3, h4⟩ := own_drops h
  rcases Nat.eq_zero_or_pos F.length with e | h0
  · exact Or.inl ⟨e, a, cap, congrArg (fun x => Value.slice a x cap) e⟩
  · obtain ⟨g, rfl⟩ := h3 h0
    refine Or.inr ⟨h0, g, 0, cap, rfl, h1, h2, fun i hi => ?_⟩
    have hc := h4 g rfl i hi
    have hd := hg _ (dAt_mem hi)
    have e : ((fun i => (((sds F).getD i 0 : Nat) : Int)) i) = ((dAt F i).1 : Int) := by show (((sds F).getD i 0 : Nat) : Int) = _; rw [sds_getD]
    rw [Nat.zero_add, e]
    exact ⟨hc.1, hc.2, by show (dAt F i).2.size ≤ maxLen; unfold maxLen; omega, WalkArith.wf_i64 (by omega)⟩
theorem FOk.solves {k z n : Nat} {F : List Drp} (h : FOk k z n F) : fC k z F.length (fun i => (((sds F).getD i 0 : Nat) : Int)) (fun i => (dAt F i).2) = 0 :=
  fC_zero h.few h.nk h.nz fun i hi => by
    have hd := h.good _ (dAt_mem hi)
    show 1 ≤ (sds F).getD i 0 ∧ (sds F).getD i 0 ≤ 10000 ∧ (dAt F i).2.size = z
    rw [sds_getD]; exact hd
/-- What Solve has answered: a slice, a fault's number. -/
def SolvedV (L : List RV) (k z : Nat) (w' : World) (a : Option Addr) (m c : Nat) (x : Int) : Prop :=
  (Clash L ∧ x = 7) ∨ (¬ Clash L ∧ (∃ r, r < k ∧ Dim (Sp XN (L.map Prod.fst)) r) ∧ x = 8) ∨
  (¬ Clash L ∧ Dim (Sp XN (L.map Prod.fst)) k ∧ x = 0 ∧ m = k ∧ c = k ∧ ∃ (b : Nat) (G : Nat → ByteArray), a = some ⟨b, 0, none⟩ ∧ ∀ p, p < k → w'.cell? ⟨b, p, none⟩ = some (.string (G p)) ∧ (G p).size = z ∧ Sp XV L (rv (2 ^ p) (G p)))
theorem solved_v {L : List RV} {k z : Nat} {e : Ending} {w' : World} (h : Solved L k z e w') : ∃ a m c x, e = .returned (.tuple #[.slice a m c, Tell x]) ∧ SolvedV L k z w' a m c x := by
  rcases h with ⟨h1, h2⟩ | ⟨h1, h2, h3⟩ | ⟨h1, h2, b, G, h3, h4⟩
  · exact ⟨none, 0, 0, 7, h2, Or.inl ⟨h1, rfl⟩⟩
  · exact ⟨none, 0, 0, 8, h3, Or.inr (Or.inl ⟨h1, h2, rfl⟩)⟩
  · exact ⟨_, _, _, 0, h3, Or.inr (Or.inr ⟨h1, h2, rfl, rfl, rfl, b, G, rfl, h4⟩)⟩
set_option maxHeartbeats 2000000 in
theorem data_ok {I : PIm0} {w : World} {v : Value} {k z n : Nat} {dr : Int} {F : List Drp} {M : Nat → Prop} (h : ESt I w v k z n dr F M) :
    Calls Tryz.prog 7 #[v] w fun e w' => ∃ x s, e = .returned (.tuple #[.string s, Tell x]) ∧ DataOf k z n F x s ∧ Below w.heap.size w w' := by
  obtain ⟨b, vP, vF, p, rfl, hE, hT, hO⟩ := h
  have SO := hide (fun W (hb : Below w.heap.size w W) => solve_ok k z vF F.length (fun i => (sds F).getD i 0) (fun i => (dAt F i).2) W (own_dropsAt2 (hE.below hb).row (fun d hd => by have := hO.good d hd; have := hO.nz; omega)) hO.solves)
  have hck := hE.ck
  have hcz := hE.cz
  have hcn := hE.cn
  have hcf := hE.cf
  have hbl := hE.blt
  have HO := hide hO
  obtain ⟨aF, cF, rfl, hF1, hF2, _⟩ := own_drops hE.row
  have h120 := hO.nn
  have hk16 := hO.nk
  clear hE hT hO
  go_enter Tryz.func7, Tryz.ntmps7
  go_wp2_with fail
  go_region_held3 (fun w' => w'.cell? ⟨b, 1, none⟩ = some (.int .i64 k) ∧ w'.cell? ⟨b, 2, none⟩ = some (.int .i64 z) ∧ w'.cell? ⟨b, 5, none⟩ = some (.slice aF F.length cF)) (first | go_keep | exact ⟨cell_below HB1.out hck, cell_below HB1.out hcz, cell_below HB1.out hcf⟩)
    (first | (go_at_call 29; refine (SO.out w.drew ⟨rfl, rfl, rfl, Nat.le_refl _, fun _ _ => rfl⟩).mono ?_; rintro e w1 ⟨hs, hb1⟩; obtain ⟨ao, mo, co, x, rfl, hs2⟩ := solved_v hs; have HB1 : Hid (Below w.heap.size w w1) := ⟨hb1.os, hb1.tape, hb1.output, hb1.size, hb1.block⟩; have HS := hide hs2; clear hs hs2))
  clear hb1 SO
  rcases HS.out with ⟨h1, rfl⟩ | ⟨h1, h2, rfl⟩ | ⟨h1, h2, rfl, rfl, rfl, bo, G, rfl, h4⟩
  · have ht : Tell 7 = .iface 64 (.int .i64 7) := rfl
    rw [ht]
    have H1 := hide h1
    clear h1
    go_wp2
    go_ret2
    exact ⟨7, _, rfl, Or.inl ⟨H1.out, rfl, rfl⟩, HB1.out⟩
  · have ht : Tell 8 = .iface 64 (.int .i64 8) := rfl
    rw [ht]
    have H1 := hide h1
    have H2 := hide h2
    clear h1 h2
    go_wp2
    go_ret2
    exact ⟨8, _, rfl, Or.inr (Or.inl ⟨H1.out, H2.out, rfl, rfl⟩), HB1.out⟩
  · have ht : Tell 0 = .nilIface := rfl
    rw [ht]
    have H1 := hide h1
    have H2 := hide h2
    have H4 := hide h4
    have hge := cnt_ge n z HO.out.nz.1
    rw [HO.out.cnt] at hge
    have hpos := hk16.1
    have e0 : (G 0).size = z := (h4 0 (by omega)).2.1
    have JN := hide (join_ok bo 0 co co G n w1 (by omega) hk16.2 (Nat.le_refl _) (fun i hi => by rw [Nat.zero_add]; exact (H4.out i hi).1) (by rw [e0]; exact HO.out.nz.1) (by rw [e0]; exact HO.out.nz.2) (fun i hi => by rw [e0]; exact (H4.out i hi).2.1) (by rw [e0]; exact hge) (by rw [e0]; exact HO.out.cnt))
    have hcn1 := cell_below HB1.out hcn
    clear h1 h2 h4 hge e0
    go_wp2_with fail
    refine (JN.out).mono ?_
    rintro e w2 ⟨rfl, hb2⟩
    have HB2 := hide (below_two HB1.out hb2)
    clear hb2
    go_wp2
    go_ret2
    exact ⟨0, _, rfl, Or.inr (Or.inr ⟨H1.out, H2.out, rfl, G, fun p hp => (H4.out p hp).2, rfl⟩), HB2.out⟩
theorem dataOf_made {k z n : Nat} {F : List Drp} {g : Nat → ByteArray} {x : Int} {s : ByteArray} (hO : FOk k z n F) (hF : ∀ d ∈ F, d.2 = dropB g k d.1) (hg : ∀ p, (g p).size = z) (h : DataOf k z n F x s) :
    (rkL (mS k (sds F)) = k ∧ x = 0 ∧ s = ⟨((allL g k).take n).toArray⟩) ∨ (rkL (mS k (sds F)) < k ∧ x = 8 ∧ s = ⟨#[]⟩) := by
  have hf : ∀ v ∈ fL k F, Fits g k v := fun v hv => by
    obtain ⟨i, hi, rfl⟩ := List.mem_map.1 hv
    have hi := List.mem_range.1 hi
    have hd := hO.good _ (dAt_mem hi)
    show Fits g k (rv (maskL (setL k ((sds F).getD i 0))) (dAt F i).2)
    rw [sds_getD, hF _ (dAt_mem hi)]
    exact drop_fits hO.nk.1 hd.1 fun p _ => by rw [hg, hg]
  rcases h with ⟨hc, _⟩ | ⟨_, ⟨r, hr, hd⟩, hx, hs⟩ | ⟨_, hd, hx, G, hG, hs⟩
  · exact absurd hc (fits_clash hf)
  · rw [fL_sets] at hd
    exact Or.inr ⟨by rw [rkL_eq hd]; exact hr, hx, hs⟩
  · rw [fL_sets] at hd
    refine Or.inl ⟨rkL_eq hd, hx, ?_⟩
    have e : allL G k = allL g k := by
      unfold allL
      congr 1
      refine List.map_congr_left fun p hp => ?_
      have hp := List.mem_range.1 hp
      rw [fits_unit hf hp (by rw [(hG p hp).1, hg]) (hG p hp).2]
    rw [hs, e]
set_option maxHeartbeats 2000000 in
theorem elacks_ok {I : PIm0} {w : World} {v : Value} {k z n : Nat} {dr : Int} {F : List Drp} {M : Nat → Prop} (h : ESt I w v k z n dr F M) :
    Calls Tryz.prog 13 #[v] w fun e w' => ∃ vo, e = .returned vo ∧ w'.ownsRow w.heap.size 3 1 vo (upL (mS k (sds F)) unit k).length (iV (upL (mS k (sds F)) unit k)) ∧ Below w.heap.size w w' := by
  obtain ⟨b, vP, vF, p, rfl, hE, hT, hO⟩ := h
  have SD := hide (fun W (hb : Below w.heap.size w W) => seeds_ok (hE.below hb) hO)
  have LK := hide (fun v1 W (hv : IntsAt W v1 F.length (fun i => (((sds F).getD i 0 : Nat) : Int))) => lacks_ok k v1 F.length (fun i => (sds F).getD i 0) W hv hO.few hO.nk.1 hO.nk.2 (fun j hj => hO.seeds _ (getD_mem (by rw [sds_len]; exact hj))))
  have e9 : preL (mD k (fun i => (sds F).getD i 0)) F.length = mS k (sds F) := by
    have h9 := mL_getD k (sds F)
    rw [sds_len] at h9
    exact h9
  rw [e9] at LK
  have hck := hE.ck
  have hbl := hE.blt
  clear hE hT hO e9
  generalize upL (mS k (sds F)) unit k = U at *
  go_enter Tryz.func13, Tryz.ntmps13
  go_wp2_with fail
  go_region_held3 (fun w' => w'.cell? ⟨b, 1, none⟩ = some (.int .i64 k)) (first | go_keep | exact hck1 | exact hck2)
    (first | (go_at_call 31; refine (SD.out w.drew ⟨rfl, rfl, rfl, Nat.le_refl _, fun _ _ => rfl⟩).mono ?_; rintro e w1 ⟨v1, rfl, hv1, hb1⟩; have HB1 : Hid (Below w.heap.size w w1) := ⟨hb1.os, hb1.tape, hb1.output, hb1.size, hb1.block⟩; have hck1 := cell_below HB1.out hck) | (go_at_call 39; refine (LK.out _ _ hv1).mono ?_; rintro e w2 ⟨vo, rfl, ho, hb2⟩; have HB2 := hide (below_two HB1.out hb2); have hck2 := cell_below hb2 hck1))
  have HOw := hide (own_base ho HB1.out.size)
  obtain ⟨a, c, rfl⟩ := own_slice ho
  clear ho hb2 hck1 hck2
  go_wp2
  go_ret
  exact ⟨_, rfl, HOw.out, HB2.out⟩
end Go.Proofs.YtjgifjkdgoijmaaGreatDoor

namespace Go.Proofs.YtjgifjkdgoijmaaGreatDoor
open Go.RowKit
set_option linter.unusedVariables false
set_option maxRecDepth 100000

/-- A slice of strings as it lies. -/
def StrsIn (w : World) (v : Value) (len : Nat) (f : Nat → ByteArray) : Prop :=
  (len = 0 ∧ ∃ a cap, v = .slice a 0 cap) ∨ (0 < len ∧ ∃ b o cap, v = .slice (some ⟨b, o, none⟩) len cap ∧ ∀ i, i < len → w.cell? ⟨b, o + i, none⟩ = some (.string (f i)))
theorem StrsIn.below {w w' : World} {v : Value} {len : Nat} {f : Nat → ByteArray} (h : StrsIn w v len f) (hb : Below w.heap.size w w') : StrsIn w' v len f := by
  rcases h with h | ⟨h0, b, o, cap, hv, hc⟩
  · exact Or.inl h
  · exact Or.inr ⟨h0, b, o, cap, hv, fun i hi => cell_below hb (hc i hi)⟩
end Go.Proofs.YtjgifjkdgoijmaaGreatDoor

namespace Go.Proofs.YtjgifjkdgoijmaaGreatDoor
open Go.RowKit
set_option linter.unusedVariables false
set_option maxRecDepth 100000

/-- A Line's cells: which places it has, and its bytes. -/
def linC (f : Nat → Bool) (d : ByteArray) : Array Value := #[.bool (f 0), .bool (f 1), .bool (f 2), .bool (f 3), .bool (f 4), .bool (f 5), .bool (f 6), .bool (f 7), .bool (f 8), .bool (f 9), .bool (f 10), .bool (f 11), .bool (f 12), .bool (f 13), .bool (f 14), .bool (f 15), .string d]
theorem linC_size (f : Nat → Bool) (d : ByteArray) : (linC f d).size = 17 := rfl
theorem linC_bit (f : Nat → Bool) (d : ByteArray) : ∀ {j : Nat}, j < 16 → (linC f d)[j]? = some (.bool (f j))
  | 0, _ => rfl
  | 1, _ => rfl
  | 2, _ => rfl
  | 3, _ => rfl
  | 4, _ => rfl
  | 5, _ => rfl
  | 6, _ => rfl
  | 7, _ => rfl
  | 8, _ => rfl
  | 9, _ => rfl
  | 10, _ => rfl
  | 11, _ => rfl
  | 12, _ => rfl
  | 13, _ => rfl
  | 14, _ => rfl
  | 15, _ => rfl
  | j + 16, h => absurd h (by omega)
theorem linC_data (f : Nat → Bool) (d : ByteArray) : (linC f d)[16]? = some (.string d) := rfl
/-- A Line as it lies, none of it frozen. -/
def LinF (w : World) (b o : Nat) (f : Nat → Bool) (d : ByteArray) : Prop :=
  (∀ j, j < 16 → w.cell? ⟨b, o + j, none⟩ = some (.bool (f j)) ∧ w.frozen? ⟨b, o + j, none⟩ = false) ∧ w.cell? ⟨b, o + 16, none⟩ = some (.string d) ∧ w.frozen? ⟨b, o + 16, none⟩ = false
theorem LinF.lt {w : World} {b o : Nat} {f : Nat → Bool} {d : ByteArray} (h : LinF w b o f d) : b < w.heap.size := cell_lt h.2.1
theorem LinF.of_block {w w' : World} {b o : Nat} {f : Nat → Bool} {d : ByteArray} (h : LinF w b o f d) (hb : w'.heap[b]? = w.heap[b]?) : LinF w' b o f d := by
  have hc : ∀ i, w'.cell? ⟨b, i, none⟩ = w.cell? ⟨b, i, none⟩ := fun i => World.cell?_of_block (w := w) hb
  have hf : ∀ i, w'.frozen? ⟨b, i, none⟩ = w.frozen? ⟨b, i, none⟩ := fun i => World.frozen?_of_block (w := w) hb
  refine ⟨fun j hj => ?_, ?_⟩
  · rw [hc, hf]; exact h.1 j hj
  · rw [hc, hf]; exact h.2
theorem LinF.below {w w' : World} {b o : Nat} {f : Nat → Bool} {d : ByteArray} (h : LinF w b o f d) (hb : Below w.heap.size w w') : LinF w' b o f d := h.of_block (hb.block b h.lt)
theorem LinF.congr {w : World} {b o : Nat} {f g : Nat → Bool} {d : ByteArray} (h : LinF w b o f d) (e : ∀ j, j < 16 → f j = g j) : LinF w b o g d := ⟨fun j hj => by rw [← e j hj]; exact h.1 j hj, h.2⟩
theorem LinF.set {w : World} {b o : Nat} {f : Nat → Bool} {d : ByteArray} (h : LinF w b o f d) {j : Nat} (hj : j < 16) (x : Bool) : LinF (w.setCell ⟨b, o + j, none⟩ (.bool x)) b o (fun i => if i = j then x else f i) d := by
  refine ⟨fun i hi => ⟨?_, by rw [World.frozen?_setCell]; exact (h.1 i hi).2⟩, ?_, by rw [World.frozen?_setCell]; exact h.2.2⟩
  · by_cases e : i = j
    · subst e
      rw [World.cell?_setCell_same _ _ _ (h.1 i hi).1]; simp
    · rw [World.cell?_setCell_other _ _ _ _ (fun h => e (by injection h with _ h; omega))]; simp only [if_neg e]; exact (h.1 i hi).1
  · rw [World.cell?_setCell_other _ _ _ _ (fun h => by injection h with _ h; omega)]; exact h.2.1
theorem LinF.data {w : World} {b o : Nat} {f : Nat → Bool} {d : ByteArray} (h : LinF w b o f d) (x : ByteArray) : LinF (w.setCell ⟨b, o + 16, none⟩ (.string x)) b o f x := by
  refine ⟨fun i hi => ⟨?_, by rw [World.frozen?_setCell]; exact (h.1 i hi).2⟩, World.cell?_setCell_same _ _ _ h.2.1, by rw [World.frozen?_setCell]; exact h.2.2⟩
  rw [World.cell?_setCell_other _ _ _ _ (fun h => by injection h with _ h; omega)]; exact (h.1 i hi).1
theorem LinF.other {w : World} {b o : Nat} {f : Nat → Bool} {d : ByteArray} (h : LinF w b o f d) {a : Addr} {v : Value} (hne : a.block ≠ b) : LinF (w.setCell a v) b o f d := h.of_block (Below.heap_setCell w a v b (fun e => hne e.symm))
theorem linF_new (w : World) (f : Nat → Bool) (d : ByteArray) (t : TypeId) : LinF (w.alloc (.cells (linC f d) t)) w.heap.size 0 f d := by
  have hh := (MapKept.heap_alloc w (.cells (linC f d) t)).1
  have hcell : ∀ i, (w.alloc (.cells (linC f d) t)).cell? ⟨w.heap.size, i, none⟩ = (linC f d)[i]? := fun i => cell_of_row _ _ i _ t (0, 0) hh
  have hf : ∀ i, (w.alloc (.cells (linC f d) t)).frozen? ⟨w.heap.size, i, none⟩ = false := fun i => by simp only [World.frozen?, hh]; simp
  refine ⟨fun j hj => ⟨?_, hf _⟩, ?_, hf _⟩
  · rw [Nat.zero_add, hcell, linC_bit f d hj]
  · rw [hcell]; rfl

theorem linC_one (f : Nat → Bool) (d : ByteArray) : (linC f d).all (·.oneCell') = true := by simp [linC, Value.oneCell']
theorem LinF.range {w : World} {b o : Nat} {f : Nat → Bool} {d : ByteArray} (h : LinF w b o f d) : w.rangeAt b o (linC f d).toList := fun j v hv => by
  have hj : j < 17 := by
    have h9 := (List.getElem?_eq_some_iff.1 hv).1
    exact h9
  rw [Array.getElem?_toList] at hv
  by_cases e : j = 16
  · subst e
    rw [linC_data] at hv
    rw [← hv]; exact h.2.1
  · rw [linC_bit f d (by omega)] at hv
    rw [← hv]; exact (h.1 j (by omega)).1
theorem LinF.there {w : World} {b o : Nat} {f : Nat → Bool} {d : ByteArray} (h : LinF w b o f d) : w.there b o 17 := fun j hj => by
  by_cases e : j = 16
  · subst e
    exact ⟨by rw [h.2.1]; rfl, h.2.2⟩
  · exact ⟨by rw [(h.1 j (by omega)).1]; rfl, (h.1 j (by omega)).2⟩
theorem linF_of {w : World} {b o : Nat} {f : Nat → Bool} {d : ByteArray} (hr : w.rangeAt b o (linC f d).toList) (hf : ∀ j, j < 17 → w.frozen? ⟨b, o + j, none⟩ = false) : LinF w b o f d :=
  ⟨fun j hj => ⟨hr j _ (by rw [Array.getElem?_toList]; exact linC_bit f d hj), hf j (by omega)⟩, hr 16 _ (by rw [Array.getElem?_toList]; rfl), hf 16 (by omega)⟩
theorem linC_len (f : Nat → Bool) (d : ByteArray) : (linC f d).toList.length = 17 := rfl
theorem LinF.put {w : World} {b o : Nat} {f : Nat → Bool} {d : ByteArray} (h : LinF w b o f d) (f' : Nat → Bool) (d' : ByteArray) : LinF (w.setCells b o (linC f' d').toList) b o f' d' :=
  linF_of (World.rangeAt_setCells_same w b o _ (by rw [linC_len]; exact h.there)) (fun j hj => by rw [World.frozen?_setCells]; exact (h.there j hj).2)
theorem LinF.apart {w : World} {b o : Nat} {f : Nat → Bool} {d : ByteArray} (h : LinF w b o f d) (b' o' : Nat) (f' : Nat → Bool) (d' : ByteArray) (hap : b ≠ b' ∨ o + 17 ≤ o' ∨ o' + 17 ≤ o) : LinF (w.setCells b' o' (linC f' d').toList) b o f d :=
  linF_of (World.rangeAt_setCells_apart h.range b' o' _ (by rw [linC_len, linC_len]; exact hap)) (fun j hj => by rw [World.frozen?_setCells]; exact (h.there j hj).2)
theorem sets_below {B g : Nat} {a : World} (hb : B ≤ g) : ∀ (vs : List Value) (o : Nat) (w : World), Below B a w → Below B a (w.setCells g o vs)
  | [], _, _, h => h
  | v :: vs, o, w, h => sets_below hb vs (o + 1) _ (h.setCell hb _)
theorem Tryz.sizeLine : (Tryz.prog.info? 101).map (·.size) = some 17 := by kernel_rfl

theorem results_cell1 {fn : Func} {p : Tmp} {ty : TypeId} (h : fn.results = #[.cell p ty]) (tmps : Array Value) (P : Program) (w : World) :
    (results fn tmps).run P w = ((asAddr (tmps.getD p undef)).run P w).andThen fun a w₁ => (loadVar ty a).run P w₁ := by
  simp only [results, h]
  simp [Sem.run_bind, Result.andThen]
/-- What over has come to. -/
structure OvSt (w : World) (f g : Nat → Bool) (a b : ByteArray) (j : Nat) (wr : World) : Prop where
  one : LinF wr w.heap.size 0 (fun i => if i < j then (f i != g i) else f i) a
  two : LinF wr (w.heap.size + 1) 0 g b
  res : LinF wr (w.heap.size + 1 + 1) 0 (fun _ => false) ⟨#[]⟩
  below : Below w.heap.size w wr

set_option maxHeartbeats 4000000 in
theorem over_ok (f g : Nat → Bool) (a b : ByteArray) (w : World) (ha : a.size ≤ 120) (hb : b.size = a.size) :
    Calls Tryz.prog 85 #[.agg (linC f a), .agg (linC g b)] w fun e w' => e = .returned (.agg (linC (fun j => f j != g j) (xorB a b))) ∧ Below w.heap.size w w' := by
  have X := hide (fun w => rxor_ok a b w ha hb)
  have H0 : Hid (OvSt w f g a b 0 (((w.alloc (.cells (linC f a) 101)).alloc (.cells (linC g b) 101)).alloc (.cells (linC (fun _ => false) ⟨#[]⟩) 101))) := by
    have h1 := linF_new w f a 101
    have h2 := linF_new (w.alloc (.cells (linC f a) 101)) g b 101
    have h3 := linF_new ((w.alloc (.cells (linC f a) 101)).alloc (.cells (linC g b) 101)) (fun _ => false) ⟨#[]⟩ 101
    have e1 : (w.alloc (.cells (linC f a) 101)).heap.size = w.heap.size + 1 := by simp
    have e2 : ((w.alloc (.cells (linC f a) 101)).alloc (.cells (linC g b) 101)).heap.size = w.heap.size + 1 + 1 := by simp
    rw [e1] at h2
    rw [e2] at h3
    refine ⟨((h1.below ((Below.refl _ _).alloc (Nat.le_refl _) _)).below ((Below.refl _ _).alloc (Nat.le_refl _) _)).congr (fun j _ => by simp), h2.below ((Below.refl _ _).alloc (Nat.le_refl _) _), h3, (((Below.refl _ w).alloc (Nat.le_refl _) _).alloc (by simp) _).alloc (by simp; omega) _⟩
  clear hb
  go_enter Tryz.func85, Tryz.ntmps85
  go_wp2_with fail
  go_loopw [5] (fun i wr => ∃ j : Nat, j ≤ 16 ∧ i = .int .i64 j ∧ OvSt w f g a b j wr) (fun i _ => 16 - (intOf i).toNat)
  case atStart => exact ⟨0, by decide, rfl, H0.out⟩
  case round =>
    obtain ⟨j, hj, rfl, hS⟩ := hrel
    have HS := hide hS
    clear hS H0
    by_cases hlt : j < 16
    · have c1 := (HS.out.one.1 j hlt).1
      have f1 := (HS.out.one.1 j hlt).2
      have c2 := (HS.out.two.1 j hlt).1
      simp only [Nat.zero_add, Nat.lt_irrefl, if_false] at c1 f1 c2
      have HN := hide (HS.out.one.set hlt (f j != g j))
      have hb1 := HS.out.two.other (v := .bool (f j != g j)) (a := ⟨w.heap.size, 0 + j, none⟩) (by simp)
      have hb2 := HS.out.res.other (v := .bool (f j != g j)) (a := ⟨w.heap.size, 0 + j, none⟩) (by show w.heap.size ≠ w.heap.size + 1 + 1; omega)
      have HB1 := hide hb1
      have HB2 := hide hb2
      clear hb1 hb2
      go_wp2_with fail
      go_region
      all_goals go_wp2
      all_goals go_roundw
      case rel =>
        have hst := HN.out.congr (g := fun i => if i < j + 1 then (f i != g i) else f i) (fun i hi => by
          by_cases e1 : i = j
          · subst e1; simp
          · by_cases e2 : i < j
            · simp [e1, e2, show i < j + 1 by omega]
            · simp [e1, e2, show ¬ i < j + 1 by omega])
        have h1 := HB1.out
        have h2 := HB2.out
        rw [Nat.zero_add] at hst h1 h2
        exact ⟨j + 1, by omega, by go_num, hst, h1, h2, (HS.out.below.setCell (Nat.le_refl _) _).drew⟩
      case measure => simp [intOf]; omega
    · obtain rfl : j = 16 := by omega
      have c1 := HS.out.one.2.1
      have c2 := HS.out.two.2.1
      simp only [Nat.zero_add] at c1 c2
      go_wp2_with fail
      refine (X.out _).mono ?_
      rintro e w2 ⟨rfl, hb2⟩
      have hL2 := HS.out.one.below hb2
      have hc2 := hL2.2.1
      have hf2 := hL2.2.2
      simp only [Nat.zero_add] at hc2 hf2
      have HL3 : Hid (LinF (w2.setCell ⟨w.heap.size, 16, none⟩ (.string (xorB a b))) w.heap.size 0 (fun j => f j != g j) (xorB a b)) := (hL2.data (xorB a b)).congr (fun j hj => by simp [hj])
      have HR3 : Hid (LinF (w2.setCell ⟨w.heap.size, 16, none⟩ (.string (xorB a b))) (w.heap.size + 1 + 1) 0 (fun _ => false) ⟨#[]⟩) := (HS.out.res.below hb2).other (by show w.heap.size ≠ w.heap.size + 1 + 1; omega)
      have HB3 : Hid (Below w.heap.size w (w2.setCell ⟨w.heap.size, 16, none⟩ (.string (xorB a b)))) := (below_two HS.out.below hb2).setCell (Nat.le_refl _) _
      clear hb2 hL2 c1 c2 X
      generalize hxx : xorB a b = x at *
      have HXX := hide hxx
      clear hxx
      go_upto_region 6 with fail
      clear hc2 hf2
      generalize w2.setCell ⟨w.heap.size, 16, none⟩ (.string x) = w3 at *
      have hrg := HL3.out.range
      have hth := HR3.out.there
      have hPut := HR3.out.put (fun j => f j != g j) x
      have hld := run_loadVar_mid (P := Tryz.prog) _ _ _ 101 _ _ hPut.range Tryz.underlying101 rfl (by rw [linC_len]; exact Tryz.sizeLine)
      have HB4 : Hid (Below w.heap.size w (w3.setCells (w.heap.size + 1 + 1) 0 (linC (fun j => f j != g j) x).toList)) := sets_below (by omega) _ _ _ HB3.out
      have HRG := hide hrg
      have HTH := hide hth
      have HLD := hide hld
      clear hrg hth hPut hld
      generalize hcc : linC (fun j => f j != g j) x = cc at *
      have hc1 : cc.size = 17 := by rw [← hcc]; rfl
      have hc2 : cc.all (·.oneCell') = true := by rw [← hcc]; exact linC_one _ _
      have HC1 := hide hc1
      have HC2 := hide hc2
      have HCC := hide hcc
      clear hcc hc1 hc2
      go_wp2_with (first
        | (refine wpList_load_mid rfl 101 _ rfl w.heap.size 0 rfl cc.toList _ HRG.out Tryz.underlying101 rfl (by rw [Array.length_toList, HC1.out]; exact Tryz.sizeLine) ?_)
        | (refine wpList_store_mid rfl 101 _ _ rfl (w.heap.size + 1 + 1) 0 cc rfl (by rw [Array.toArray_toList]; rfl) (by rw [HC1.out]; exact HTH.out) (by rw [HC1.out]; exact Tryz.sizeLine) HC2.out ?_))
      refine bodyPost_ret (v := .agg cc) ?_ rfl ⟨by rw [HXX.out, HCC.out], HB4.out⟩
      have hl := HLD.out
      rw [Array.toArray_toList] at hl
      rw [results_cell1 rfl]
      exact hl
end Go.Proofs.YtjgifjkdgoijmaaGreatDoor
