/-
  Lemmas for the law above, joined into one text (SvBlk, Ints, SvRank). No statement is proved here.
-/
import Derived.Test.YtldjbampimbaeaaDoorTSvTab
import Derived.Test.YtldjbampimbaeaaDoorTSClone
import Derived.Test.YtldjbampimbaeaaDoorTG1
import Derived.ProofKit
import Derived.OpenShut
import Derived.ChangeSlices
namespace Go.Proofs.YtldjbampimbaeaaDoor
open Go.RowKit Go.Maps
set_option linter.unusedVariables false
set_option maxRecDepth 100000

/-- A block whose first n cells are the strings f 0, f 1, .., none of them frozen. -/
def SRow (w : World) (b n : Nat) (f : Nat → ByteArray) : Prop :=
  ∀ i, i < n → w.cell? ⟨b, i, none⟩ = some (.string (f i)) ∧ w.frozen? ⟨b, i, none⟩ = false
theorem SRow.congr {w : World} {b n : Nat} {f g : Nat → ByteArray} (h : SRow w b n f) (e : ∀ i, i < n → f i = g i) : SRow w b n g := fun i hi => by rw [← e i hi]; exact h i hi
theorem SRow.set {w : World} {b n : Nat} {f : Nat → ByteArray} (h : SRow w b n f) (j : Nat) (v : ByteArray) : SRow (w.setCell ⟨b, j, none⟩ (.string v)) b n (fun i => if i = j then v else f i) := fun i hi => by
  refine ⟨?_, by rw [World.frozen?_setCell]; exact (h i hi).2⟩
  have hc := (h i hi).1
  by_cases e : i = j
  · subst e
    rw [World.cell?_setCell_same _ _ _ hc]; simp
  · rw [World.cell?_setCell_other _ _ _ _ (fun h => e (by cases h; rfl))]; simp only [if_neg e]; exact hc
theorem SRow.below {w w' : World} {b n : Nat} {f : Nat → ByteArray} (h : SRow w b n f) (hb : Below w.heap.size w w') : SRow w' b n f := fun i hi => ⟨cell_below hb (h i hi).1, (hb.frozen (cell_lt (h i hi).1)).trans (h i hi).2⟩
theorem srow_zero {w : World} {b n : Nat} {t : TypeId} (h : w.rowIs b t n (fun _ => .string ⟨#[]⟩)) : SRow w b n (fun _ => ⟨#[]⟩) := fun i hi => ⟨h.cell hi, h.frozen i⟩

/-- 't[p]'. -/
theorem TMap.get {w : World} {b k : Nat} {has : Nat → Bool} {ofs : Nat → Nat} {dat : Nat → ByteArray} {D : DataW Unit} (h : TMap w b k has ofs dat D) {p : Nat} (hp : has p = true) (h16 : p ≤ 10000) :
    (Instr.lookup 57 (.map (some b)) (.int .i64 (p : Nat)) false).run Tryd.prog w = .ok (.agg #[.int .u64 (ofs p : Nat), .string (dat p)]) w := by
  obtain ⟨v, ps, hrun, hv⟩ := h.own.lookup Tryd.lawInt Tryd.underlying57 (Tryd.zeroRow w) (rowElem_mk 0 ⟨#[]⟩) (keyS (r := (p : Nat)) (by omega) (by omega))
  obtain ⟨z, s, rfl, hz⟩ := rowElem_inv hv
  have h1 := congrArg Prod.fst hz
  have hval : D.atKey (.int .i64 (p : Nat)) (.agg [.lit (.int .u64 ((0 : Nat) : Int)), .lit (.string (⟨#[]⟩ : ByteArray).data.toList)]) = _ := h.val p hp
  rw [hval] at h1
  simp only at h1
  injection h1 with h1
  injection h1 with h2 h3
  injection h3 with h3
  injection h2 with h2
  injection h2 with _ h2
  injection h3 with h3
  injection h3 with h3
  rw [hrun, ← h2, ← bytes_of_list' h3]

/-- The places of a set from a on. -/
def hiB (o : Nat) : Nat → Nat
  | 0 => o
  | a + 1 => if o.testBit a then hiB o a ^^^ 2 ^ a else hiB o a
theorem hiB_bit (o i : Nat) : ∀ a, (hiB o a).testBit i = (decide (a ≤ i) && o.testBit i)
  | 0 => by simp [hiB]
  | a + 1 => by
    unfold hiB
    have ih := hiB_bit o i a
    by_cases e : i = a
    · subst e
      rw [decide_eq_false (by omega)]
      by_cases c : o.testBit i = true
      · rw [if_pos c, Nat.testBit_xor, ih, Nat.testBit_two_pow]; simp [c]
      · rw [if_neg c, ih]; simp [c]
    · have e2 : decide (a + 1 ≤ i) = decide (a ≤ i) := decide_eq_decide.2 (by omega)
      rw [e2]
      by_cases c : o.testBit a = true
      · rw [if_pos c, Nat.testBit_xor, ih, Nat.testBit_two_pow, decide_eq_false (fun h : a = i => e h.symm)]; simp
      · rw [if_neg c, ih]
theorem hiB_top {o j : Nat} (h1 : o.testBit j = true) (h2 : o < 2 ^ (j + 1)) : hiB o j = 2 ^ j := Nat.eq_of_testBit_eq fun i => by
  rw [hiB_bit, Nat.testBit_two_pow]
  by_cases e : j = i
  · subst e; simp [h1]
  · rw [decide_eq_false e]
    rcases Nat.lt_or_ge i j with h | h
    · rw [decide_eq_false (by omega)]; rfl
    · rw [bit_big h2 (show j + 1 ≤ i by omega)]; simp
theorem shr_bit (o a : Nat) (h : o < 65536) : bits .and .u64 ((o : Int) / 2 ^ a) 1 = if o.testBit a then 1 else 0 := by
  have e : ((o : Int) / 2 ^ a) = ((o / 2 ^ a : Nat) : Int) := by rw [Int.natCast_ediv, Int.natCast_pow]; rfl
  have hle : o / 2 ^ a ≤ o := Nat.div_le_self _ _
  have h1 := u64_and_nat (o / 2 ^ a) 1 (by omega) (by omega)
  rw [e]
  have h2 : bits .and .u64 ((o / 2 ^ a : Nat) : Int) 1 = ((o / 2 ^ a &&& 1 : Nat) : Int) := h1
  rw [h2, Nat.and_one_is_mod, Nat.testBit_eq_decide_div_mod_eq]
  rcases Nat.mod_two_eq_zero_or_one (o / 2 ^ a) with h3 | h3 <;> rw [h3] <;> rfl

/-- Blocks that are found, j of them. -/
structure Found (w : World) (b k n : Nat) (S : RV → Prop) (j : Nat) (G : Nat → ByteArray) (wr : World) : Prop where
  row : SRow wr b k (fun i => if i < j then G i else ⟨#[]⟩)
  size : ∀ p, p < j → (G p).size = n
  sp : ∀ p, p < j → S (rv (2 ^ p) (G p))
  below : Below w.heap.size w wr

set_option maxHeartbeats 4000000 in
theorem tblocks_ok (k n b : Nat) (has : Nat → Bool) (ofs : Nat → Nat) (dat : Nat → ByteArray) (D : DataW Unit) (w : World) (hk : 1 ≤ k) (hk2 : k ≤ 16) (hn : n ≤ 8) (hM : TMap w b k has ofs dat D)
    (hp : ∀ p, has p = true → p < k ∧ (ofs p).testBit p = true ∧ ofs p < 2 ^ (p + 1) ∧ (dat p).size = n) (hall : ∀ p, p < k → has p = true) :
    Calls Tryd.prog 27 #[.map (some b), .int .i64 k] w fun e w' => ∃ G, e = .returned (.tuple #[.slice (some ⟨w.heap.size, 0, none⟩) k k, .nilIface]) ∧ Found w w.heap.size k n (Sp XV (piv has (fun p => rv (ofs p) (dat p)) k)) k G w' := by
  have HM := hide hM
  have HP := hide hp
  have HA := hide hall
  have hbw := hM.lt
  have hmk := run_make_row' (P := Tryd.prog) 30 9 (.string ⟨#[]⟩) 16 Tryd.underlying30 Tryd.infoStr rfl .i64 .i64 k (by omega) (by omega)
  have H0 : Hid (Found w w.heap.size k n (Sp XV (piv has (fun p => rv (ofs p) (dat p)) k)) 0 (fun _ => ⟨#[]⟩) (w.alloc (.cells (madeCells #[.string ⟨#[]⟩] k) 9))) :=
    ⟨(srow_zero (World.rowIs_made _ _ _ _)).congr (fun i _ => by simp), fun p h => absurd h (Nat.not_lt_zero _), fun p h => absurd h (Nat.not_lt_zero _), (Below.refl _ _).alloc (Nat.le_refl _) _⟩
  clear hM hp hall
  go_enter Tryd.func27, Tryd.ntmps27
  go_wp2_with fail
  go_loopw [16] (fun i wr => ∃ (j : Nat) (G : Nat → ByteArray), j ≤ k ∧ i = .int .i64 j ∧ Found w w.heap.size k n (Sp XV (piv has (fun p => rv (ofs p) (dat p)) k)) j G wr) (fun i _ => k - (intOf i).toNat)
  case atStart => exact ⟨0, _, Nat.zero_le _, rfl, H0.out⟩
  case round =>
    obtain ⟨j, G, hj, rfl, hF⟩ := hrel
    have HF := hide hF
    clear hF H0 hmk
    by_cases hlt : j < k
    · have hM1 := HM.out.below HF.out.below
      obtain ⟨_, ho1, ho2, hd1⟩ := HP.out j (HA.out j hlt)
      have hlk := hM1.get (HA.out j hlt) (by omega)
      have hoj : ofs j < 65536 := Nat.lt_of_lt_of_le ho2 (Nat.pow_le_pow_right (n := 2) (i := j + 1) (j := 16) (by decide) (by omega))
      have hr := rowIn_new wr (ofs j) (dat j)
      have r0 := hr.1.1
      have r1 := hr.2.1
      simp only [Nat.zero_add] at r1
      have HB0 : Hid (Below wr.heap.size wr (wr.alloc (.cells #[.int .u64 (ofs j : Nat), .string (dat j)] 82))) := (Below.refl _ _).alloc (Nat.le_refl _) _
      have HR0 := hide hr
      have HSp0 : Hid (Sp XV (piv has (fun p => rv (ofs p) (dat p)) k) (rv (hiB (ofs j) 0) (dat j))) := Sp.mem (mem_piv.2 ⟨j, hlt, HA.out j hlt, rfl⟩)
      have HTop := hide (hiB_top ho1 ho2)
      obtain ⟨rb, hrb⟩ : ∃ rb, rb = wr.heap.size := ⟨_, rfl⟩
      clear hM1 hr ho1 ho2
      generalize hoo : ofs j = oj at *
      generalize hdd : dat j = dj at *
      clear hoo hdd
      go_wp2_with fail
      have HF0 : Hid (Found w w.heap.size k n (Sp XV (piv has (fun p => rv (ofs p) (dat p)) k)) j G (wr.alloc (.cells #[.int .u64 (oj : Nat), .string dj] 82))) := ⟨HF.out.row.below HB0.out, HF.out.size, HF.out.sp, below_two HF.out.below HB0.out⟩
      generalize hw0 : wr.alloc (.cells #[.int .u64 (oj : Nat), .string dj] 82) = w0 at *
      clear hw0 HF HB0 hlk
      subst hrb
      generalize wr.heap.size = rb at *
      generalize hS : Sp XV (piv has (fun p => rv (ofs p) (dat p)) k) = S at *
      have HSA : Hid (∀ x y, S x → S y → S (XV.add x y)) := by rw [← hS]; exact fun x y hx hy => Sp.add hx hy
      have HSE := hide hS
      clear hS
      go_loopw [9, 25] (fun dd i wi => ∃ (a : Nat) (db : ByteArray), a ≤ j ∧ i = .int .i64 a ∧ dd = .string db ∧ db.size = n ∧ S (rv (hiB oj a) db) ∧ Below w0.heap.size w0 wi) (fun _ i _ => j - (intOf i).toNat)
      case atStart => exact ⟨0, dj, Nat.zero_le _, rfl, rfl, hd1, HSp0.out, Below.refl _ _⟩
      case round =>
        obtain ⟨a, db, ha, rfl, rfl, hdb, hsp, hbi⟩ := hrel
        have HSP := hide hsp
        have HBI := hide hbi
        have q0 := cell_below hbi r0
        have q1 := cell_below hbi r1
        clear hsp hbi
        by_cases hla : a < j
        · have hrow := HF0.out.row a (by omega)
          simp only [if_pos hla] at hrow
          have hc := cell_below HBI.out hrow.1
          have hga := HF0.out.size a hla
          have hand := shr_bit oj a hoj
          clear hrow
          by_cases hbit : oj.testBit a = true
          · rw [if_pos hbit] at hand
            have X := hide (xor_ok db (G a) wr (by omega) (by rw [hga, hdb]))
            have HN : Hid (S (rv (hiB oj (a + 1)) (xorB db (G a)))) := by
              unfold Hid hiB
              rw [if_pos hbit, rv_xor (by rw [hga, hdb])]
              exact HSA.out _ _ HSP.out (HF0.out.sp a hla)
            have hxs : (xorB db (G a)).size = n := by rw [xorB_size]; exact hdb
            generalize G a = ga at *
            generalize xorB db ga = x at *
            clear hbit
            go_wp2_with fail
            refine (X.out).mono ?_
            rintro e w2 ⟨rfl, hb2⟩
            have HB2 := hide (below_two HBI.out hb2)
            clear hb2
            go_wp2
            go_roundw
            case rel => exact ⟨a + 1, x, by omega, by go_num, rfl, hxs, HN.out, HB2.out⟩
            case measure => simp [intOf]; omega
          · rw [if_neg hbit] at hand
            have HN : Hid (S (rv (hiB oj (a + 1)) db)) := by
              unfold Hid hiB
              rw [if_neg hbit]; exact HSP.out
            clear hbit
            go_wp2
            go_roundw
            case rel => exact ⟨a + 1, db, by omega, by go_num, rfl, hdb, HN.out, HBI.out⟩
            case measure => simp [intOf]; omega
        · obtain rfl : a = j := by omega
          rw [HTop.out] at HSP
          have CL := hide (strings_Clone db wr (by omega))
          have hF1 : Found w w.heap.size k n S a G wr := ⟨HF0.out.row.below HBI.out, HF0.out.size, HF0.out.sp, below_two HF0.out.below HBI.out⟩
          have HF1 := hide hF1
          clear hF1 q0 q1 r0 r1
          go_wp2_with fail
          refine (CL.out).mono ?_
          rintro e w2 ⟨rfl, hb2⟩
          have hrow := HF1.out.row.below hb2
          have hc := (hrow a hlt).1
          have hf := (hrow a hlt).2
          have HR := hide (hrow.set a db)
          have HB2 := hide (below_two HF1.out.below hb2)
          clear hb2 hrow
          go_wp2
          go_roundw
          case rel =>
            refine ⟨a + 1, fun i => if i = a then db else G i, by omega, by go_num, HR.out.congr (fun i hi => ?_), fun p hp => ?_, fun p hp => ?_, HB2.out.setCell (Nat.le_refl _) _⟩
            · by_cases e1 : i = a
              · rw [if_pos e1, if_pos (by omega), if_pos e1]
              · rw [if_neg e1]
                by_cases e2 : i < a
                · rw [if_pos e2, if_pos (by omega), if_neg e1]
                · rw [if_neg e2, if_neg (by omega)]
            · by_cases e1 : p = a
              · simp only [if_pos e1]; exact hdb
              · simp only [if_neg e1]; exact HF1.out.size p (by omega)
            · by_cases e1 : p = a
              · simp only [if_pos e1]; rw [e1, HSE.out]; exact HSP.out
              · simp only [if_neg e1]; rw [HSE.out]; exact HF1.out.sp p (by omega)
          case measure => simp [intOf]; omega
    · obtain rfl : j = k := by omega
      go_wp2
      go_ret2
      exact ⟨G, rfl, HF.out⟩
end Go.Proofs.YtldjbampimbaeaaDoor

namespace Go.Proofs.YtldjbampimbaeaaDoor
open Go.ChangeShapes Go.WideShapes Go.ChangeAt Go.RowKit
set_option linter.unusedVariables false
set_option maxRecDepth 100000

theorem cellsInt : Tryd.prog.cellsOf 3 = 1 := by kernel_rfl

/-- A slice of ints as it lies: len numbers f 0, f 1, .. -/
def IntsAt (W : World) (v : Value) (len : Nat) (f : Nat → Int) : Prop :=
  (len = 0 ∧ ∃ a cap, v = .slice a 0 cap) ∨ (0 < len ∧ ∃ b o cap, v = .slice (some ⟨b, o, none⟩) len cap ∧ len ≤ cap ∧ cap ≤ maxLen ∧ (∀ i, i < len → W.cell? ⟨b, o + i, none⟩ = some (.int .i64 (f i))) ∧ ∀ i, i < len → (Lit.int .i64 (f i)).wf = true)

theorem open_intsAt {H : Type} {enc : TypeId × Value → H} {W : World} {base : Nat} {v : Value} {d : DataW H} {p : List MemPlace}
    (hv : Value.okWide Tryd.prog W .any base 22 v) (h : DataW.Trod enc Tryd.prog W 0 (fun _ => true) true 22 v d p) : ∃ len f, IntsAt W v len f := by
  obtain ⟨a0, len, cap, rfl⟩ := okWide_slice Tryd.underlying22 hv
  obtain ⟨fuel, hf⟩ := h
  rcases open_ints Tryd.underlying22 Tryd.underlying3 cellsInt hf with ⟨hcs, hx⟩ | ⟨a, len', cap', ss, hcs, _, hl, hm, hz, hx, hcell, hws⟩
  · simp [Value.cells] at hcs
    obtain ⟨rfl, rfl, rfl⟩ := hcs
    exact ⟨0, fun _ => 0, Or.inl ⟨rfl, none, 0, rfl⟩⟩
  · simp [Value.cells] at hcs
    obtain ⟨rfl, rfl, rfl⟩ := hcs
    simp only [if_true] at hz
    by_cases h0 : len = 0
    · subst h0
      exact ⟨0, fun _ => 0, Or.inl ⟨rfl, some a, cap, rfl⟩⟩
    · obtain ⟨b, off, spot⟩ := a
      have hspot : spot = none := by simpa [Addr.add] using World.cell?_spot (hcell 0 (by omega))
      subst hspot
      refine ⟨len, fun i => ss.getD i 0, Or.inr ⟨by omega, b, off, cap, rfl, hl, hm, fun i hi => ?_, fun i hi => ?_⟩⟩
      · rw [← add_plain]; exact hcell i (by omega)
      · have hi' : i < ss.length := by omega
        have e : ss.getD i 0 = ss[i] := by simp [List.getD, List.getElem?_eq_getElem hi']
        show (Lit.int .i64 (ss.getD i 0)).wf = true
        rw [e]; exact hws _ (List.getElem_mem hi')
end Go.Proofs.YtldjbampimbaeaaDoor

namespace Go.Proofs.YtldjbampimbaeaaDoor
open Go.RowKit Go.Maps
set_option linter.unusedVariables false
set_option maxRecDepth 100000

theorem swithin_ok (n m : Int) (w : World) (h1 : 1 ≤ n) (h2 : n ≤ m) :
    Calls Tryd.prog 16 #[.int .i64 n, .int .i64 m] w fun e w' => e = .returned (.bool true) ∧ w = w' := by
  go_enter Tryd.func16, Tryd.ntmps16
  go_wp2
  go_ret
  exact ⟨rfl, rfl⟩
theorem swithin_not (n m : Int) (w : World) (h : n < 1 ∨ m < n) :
    Calls Tryd.prog 16 #[.int .i64 n, .int .i64 m] w fun e w' => e = .returned (.bool false) ∧ w = w' := by
  by_cases h1 : n < 1
  · have h' : ¬ 1 ≤ n := by omega
    clear h
    go_enter Tryd.func16, Tryd.ntmps16
    go_wp2
    go_ret
    exact ⟨rfl, rfl⟩
  · have h' : 1 ≤ n := by omega
    have h2 : ¬ n ≤ m := by omega
    clear h
    go_enter Tryd.func16, Tryd.ntmps16
    go_wp2
    go_ret
    exact ⟨rfl, rfl⟩
/-- A seed that is none. -/
def badS (n : Int) : Bool := !decide (1 ≤ n ∧ n ≤ 10000)
theorem rank1_ok (n : Int) (w : World) :
    Calls Tryd.prog 18 #[.int .i64 n] w fun e w' => e = .returned (.bool (badS n)) ∧ w = w' := by
  by_cases h : 1 ≤ n ∧ n ≤ 10000
  · have W := hide (swithin_ok n 10000 w h.1 h.2)
    have e : badS n = false := by simp [badS, h]
    rw [e]
    clear h e
    go_enter Tryd.func18, Tryd.ntmps18
    go_wp2_with fail
    refine (W.out).mono ?_
    rintro e w1 ⟨rfl, rfl⟩
    go_wp2
    go_ret
    exact ⟨rfl, rfl⟩
  · have W := hide (swithin_not n 10000 w (by omega))
    have e : badS n = true := by unfold badS; rw [decide_eq_false h]; rfl
    rw [e]
    clear h e
    go_enter Tryd.func18, Tryd.ntmps18
    go_wp2_with fail
    refine (W.out).mono ?_
    rintro e w1 ⟨rfl, rfl⟩
    go_wp2
    go_ret
    exact ⟨rfl, rfl⟩
/-- The first place of which something holds, or -1. -/
def FirstAt (p : Nat → Bool) (n : Nat) (i : Int) : Prop := (i = -1 ∧ ∀ q, q < n → p q = false) ∨ ∃ j : Nat, i = j ∧ j < n ∧ p j = true
theorem IntsAt.open {w : World} {v : Value} {len : Nat} {f : Nat → Int} (h : IntsAt w v len f) : ∃ a cap, v = .slice a len cap ∧ (0 < len → ∃ b o, a = some ⟨b, o, none⟩ ∧ len ≤ cap ∧ cap ≤ maxLen ∧ ∀ i, i < len → w.cell? ⟨b, o + i, none⟩ = some (.int .i64 (f i))) := by
  rcases h with ⟨rfl, a, cap, rfl⟩ | ⟨h0, b, o, cap, rfl, h1, h2, h3, _⟩
  · exact ⟨a, cap, rfl, fun h => by omega⟩
  · exact ⟨_, cap, rfl, fun _ => ⟨b, o, rfl, h1, h2, h3⟩⟩
set_option maxHeartbeats 2000000 in
theorem idxS_ok (v : Value) (len : Nat) (f : Nat → Int) (w : World) (h : IntsAt w v len f) (hlen : len ≤ 60) :
    Calls Tryd.prog 36 #[v, .func (.func 18) #[] #[]] w fun e w' => ∃ i : Int, e = .returned (.int .i64 i) ∧ FirstAt (fun j => badS (f j)) len i ∧ w = w' := by
  obtain ⟨a, cap, rfl, h0⟩ := h.open
  have H0 := hide h0
  have R := hide (fun n => rank1_ok n w)
  clear h h0
  go_enter Tryd.func36, Tryd.ntmps36
  go_wp2
  go_loopw [5, 8] (fun _ i wr => ∃ j : Nat, j ≤ len ∧ i = .int .i64 j ∧ w = wr ∧ ∀ q, q < j → badS (f q) = false) (fun _ i _ => len - (intOf i).toNat)
  case atStart => exact ⟨0, Nat.zero_le _, rfl, rfl, fun q hq => absurd hq (Nat.not_lt_zero _)⟩
  case round =>
    obtain ⟨j, hj, rfl, hw, hno⟩ := hrel
    subst hw
    have HN := hide hno
    clear hno
    by_cases hlt : j < len
    · obtain ⟨b, o, ha, hc1, hc2, hc⟩ := H0.out (by omega)
      subst ha
      have hcj := hc j hlt
      have hK := R.out (f j)
      unfold maxLen at hc2
      clear hc
      generalize hx : f j = x at *
      have HX := hide hx
      clear hx
      cases hq : badS x with
      | true =>
        rw [hq] at hK
        have HQ := hide hq
        clear hq
        go_wp2_with (go_at_call 18; refine hK.mono ?_; rintro e w1 ⟨rfl, rfl⟩)
        go_ret
        exact ⟨_, rfl, Or.inr ⟨j, rfl, hlt, by show badS (f j) = true; rw [HX.out]; exact HQ.out⟩, rfl⟩
      | false =>
        rw [hq] at hK
        have HQ := hide hq
        clear hq
        go_wp2_with (go_at_call 18; refine hK.mono ?_; rintro e w1 ⟨rfl, rfl⟩)
        go_roundw
        case rel =>
          refine ⟨j + 1, by omega, by go_num, by first | rfl | trivial, fun q hq => ?_⟩
          by_cases e : q = j
          · rw [e, HX.out]; exact HQ.out
          · exact HN.out q (by omega)
        case measure => simp [intOf]; omega
    · obtain rfl : j = len := by omega
      go_wp2
      go_ret
      exact ⟨_, rfl, Or.inl ⟨rfl, HN.out⟩, rfl⟩
theorem contS_ok (v : Value) (len : Nat) (f : Nat → Int) (w : World) (h : IntsAt w v len f) (hlen : len ≤ 60) :
    Calls Tryd.prog 17 #[v, .func (.func 18) #[] #[]] w fun e w' => ∃ r : Bool, e = .returned (.bool r) ∧ (r = true ↔ ∃ j, j < len ∧ badS (f j) = true) ∧ w = w' := by
  have I := hide (idxS_ok v len f w h hlen)
  clear h
  go_enter Tryd.func17, Tryd.ntmps17
  go_wp2_with fail
  refine (I.out).mono ?_
  rintro e w1 ⟨i, rfl, hi, rfl⟩
  rcases hi with ⟨rfl, hno⟩ | ⟨j, rfl, hj, hb⟩
  · have HN := hide hno
    clear hno
    go_wp2
    go_ret
    refine ⟨false, rfl, ⟨(fun h => by cases h), fun ⟨j, hj, hb⟩ => ?_⟩, rfl⟩
    have := HN.out j hj
    rw [hb] at this; cases this
  · have HB := hide hb
    clear hb
    go_wp2
    go_ret
    exact ⟨true, by first | rfl | simp, ⟨fun _ => ⟨j, hj, HB.out⟩, fun _ => rfl⟩, rfl⟩

theorem rank_full (k : Int) (a : Option Addr) (len cap : Nat) (w : World) (h : 60 < len) :
    Calls Tryd.prog 7 #[.int .i64 k, .slice a len cap] w fun e w' => e = .returned (.tuple #[.int .i64 0, .iface 52 (.int .i64 4)]) ∧ w = w' := by
  go_enter Tryd.func7, Tryd.ntmps7
  go_wp2
  go_ret2
  exact ⟨rfl, rfl⟩
theorem rank_k (k : Int) (a : Option Addr) (len cap : Nat) (w : World) (h : len ≤ 60) (hk : k < 1 ∨ 16 < k) :
    Calls Tryd.prog 7 #[.int .i64 k, .slice a len cap] w fun e w' => e = .returned (.tuple #[.int .i64 0, .iface 52 (.int .i64 1)]) ∧ w = w' := by
  have W := hide (swithin_not k 16 w hk)
  clear hk
  go_enter Tryd.func7, Tryd.ntmps7
  go_wp2_with fail
  refine (W.out).mono ?_
  rintro e w1 ⟨rfl, rfl⟩
  go_wp2
  go_ret2
  exact ⟨rfl, rfl⟩
theorem rank_s (k : Int) (v : Value) (len : Nat) (f : Nat → Int) (w : World) (hv : IntsAt w v len f) (h : len ≤ 60) (hk : 1 ≤ k ∧ k ≤ 16) (hs : ∃ j, j < len ∧ badS (f j) = true) :
    Calls Tryd.prog 7 #[.int .i64 k, v] w fun e w' => e = .returned (.tuple #[.int .i64 0, .iface 52 (.int .i64 1)]) ∧ w = w' := by
  have W := hide (swithin_ok k 16 w hk.1 hk.2)
  have C := hide (contS_ok v len f w hv h)
  obtain ⟨a, cap, rfl, _⟩ := hv.open
  have HS := hide hs
  clear hs hv hk
  go_enter Tryd.func7, Tryd.ntmps7
  go_wp2_with fail
  refine (W.out).mono ?_
  rintro e w1 ⟨rfl, rfl⟩
  go_wp2_with fail
  refine (C.out).mono ?_
  rintro e w1 ⟨r, rfl, hr, rfl⟩
  obtain rfl : r = true := hr.2 HS.out
  clear hr
  go_wp2
  go_ret2
  exact ⟨rfl, rfl⟩

/-- The sets of the first seeds, as numbers. -/
noncomputable def masksD (k : Nat) (s : Nat → Nat) (i : Nat) : List Nat := (List.range i).map fun j => maskL (setL k (s j))
theorem masksD_rows (k : Nat) (s : Nat → Nat) (d : Nat → ByteArray) (i : Nat) : (rowsD k s d i).map Prod.fst = masksD k s i := by unfold rowsD masksD; rw [List.map_map]; rfl
theorem masksD_congr {k i : Nat} {s t : Nat → Nat} (h : ∀ j, j < i → s j = t j) : masksD k s i = masksD k t i := List.map_congr_left fun j hj => by rw [h j (List.mem_range.1 hj)]
theorem Tryd.infoDrp : (Tryd.prog.info? 38).map (fun i => (i.zero, i.size, i.bytes)) = some (some (.agg #[.int .i64 0, .string ⟨#[]⟩]), 2, 24) := by kernel_rfl
/-- A row of Drops without bytes. -/
def DRow (w : World) (b n : Nat) (f : Nat → Int) : Prop :=
  ∀ i, i < n → (w.cell? ⟨b, i * 2, none⟩ = some (.int .i64 (f i)) ∧ w.frozen? ⟨b, i * 2, none⟩ = false) ∧ w.cell? ⟨b, i * 2 + 1, none⟩ = some (.string ⟨#[]⟩)
theorem drow_made {w : World} {B g n cap : Nat} (h : w.ownsRow B 38 2 (.slice (some ⟨g, 0, none⟩) n cap) n (madeCells #[.int .i64 0, .string ⟨#[]⟩] (n * 2)).toList) : DRow w g n (fun _ => 0) := fun i hi => by
  rw [h.cellAt (i * 2) (by omega), h.cellAt (i * 2 + 1) (by omega), h.frozenAt]
  have e1 : i * 2 < n * 2 := by omega
  have e2 : i * 2 + 1 < n * 2 := by omega
  have e3 : i * 2 % 2 = 0 := by omega
  have e4 : (i * 2 + 1) % 2 = 1 := by omega
  simp [madeCells, e1, e2, e3, e4]
theorem DRow.set {w : World} {b n : Nat} {f : Nat → Int} (h : DRow w b n f) (j : Nat) (v : Int) : DRow (w.setCell ⟨b, j * 2, none⟩ (.int .i64 v)) b n (fun i => if i = j then v else f i) := fun i hi => by
  obtain ⟨⟨h1, h2⟩, h3⟩ := h i hi
  refine ⟨⟨?_, by rw [World.frozen?_setCell]; exact h2⟩, ?_⟩
  · by_cases e : i = j
    · subst e
      rw [World.cell?_setCell_same _ _ _ h1]; simp
    · rw [World.cell?_setCell_other _ _ _ _ (fun h => e (by injection h with _ h; omega))]; simp only [if_neg e]; exact h1
  · rw [World.cell?_setCell_other _ _ _ _ (fun h => by injection h with _ h; omega)]; exact h3
theorem DRow.congr {w : World} {b n : Nat} {f g : Nat → Int} (h : DRow w b n f) (e : ∀ i, i < n → f i = g i) : DRow w b n g := fun i hi => by rw [← e i hi]; exact h i hi
theorem DRow.drops {w : World} {b n : Nat} {s : Nat → Nat} (h : DRow w b n (fun i => (s i : Int))) (hn : n ≤ 60) (hs : ∀ i, i < n → s i ≤ 10000) : DropsAt w (.slice (some ⟨b, 0, none⟩) n n) n (fun i => (s i : Int)) (fun _ => ⟨#[]⟩) := by
  rcases Nat.eq_zero_or_pos n with rfl | h0
  · exact Or.inl ⟨rfl, _, _, rfl⟩
  · refine Or.inr ⟨h0, b, 0, n, rfl, Nat.le_refl _, by unfold maxLen; omega, fun i hi => ?_⟩
    obtain ⟨⟨h1, h2⟩, h3⟩ := h i hi
    rw [Nat.zero_add]
    have := hs i hi
    have e : ((fun i => (s i : Int)) i) = (s i : Int) := rfl
    exact ⟨h1, h3, Nat.zero_le _, WalkArith.wf_i64 (by omega)⟩

set_option maxHeartbeats 4000000 in
theorem rank_ok (k : Nat) (v : Value) (len : Nat) (s : Nat → Nat) (w : World) (hv : IntsAt w v len (fun i => (s i : Int))) (h : len ≤ 60) (hk : 1 ≤ k) (hk2 : k ≤ 16) (hs : ∀ j, j < len → 1 ≤ s j ∧ s j ≤ 10000) :
    Calls Tryd.prog 7 #[.int .i64 k, v] w fun e w' => ∃ r : Nat, e = .returned (.tuple #[.int .i64 (r : Nat), .nilIface]) ∧ Dim (Sp XN (masksD k s len)) r ∧ r ≤ k ∧ Below w.heap.size w w' := by
  have W := hide (swithin_ok k 16 w (by omega) (by omega))
  have C := hide (contS_ok v len _ w hv h)
  obtain ⟨a, cap, rfl, h0⟩ := hv.open
  have H0 := hide h0
  have HS := hide hs
  obtain ⟨i0, hi0, hz0, hz1, hz2⟩ := info_parts Tryd.infoDrp
  have Hi := hide hi0
  have Hz0 := hide hz0
  have Hz1 := hide hz1
  have Hz2 := hide hz2
  clear hs hv h0 hi0 hz0 hz1 hz2
  go_enter Tryd.func7, Tryd.ntmps7
  go_wp2_with fail
  refine (W.out).mono ?_
  rintro e w1 ⟨rfl, rfl⟩
  go_wp2_with fail
  refine (C.out).mono ?_
  rintro e w1 ⟨r, rfl, hr, rfl⟩
  obtain rfl : r = false := by
    cases r with
    | false => rfl
    | true =>
      obtain ⟨j, hj, hb⟩ := hr.1 rfl
      have := HS.out j hj
      unfold badS at hb
      rw [decide_eq_true (by omega)] at hb; cases hb
  clear hr W C
  go_wp2_with (at_make; refine wpList_make_full _ rfl _ _ 23 rfl w.heap.size 38 i0 (.agg #[.int .i64 0, .string ⟨#[]⟩]) 2 Tryd.underlying23 Hi.out Hz0.out Hz1.out _ _ _ _ len rfl rfl rfl rfl (by rw [Hz2.out]; omega) (by unfold maxLen; omega) (Nat.le_refl _) ?_; intro w2 hmk hgrow)
  have HD : Hid (DRow w2 w.heap.size len (fun _ => 0)) := drow_made hmk
  have HB2 : Hid (Below w.heap.size w w2) := (Below.refl _ _).grown hgrow (Nat.le_refl _) (fun j hj => by cases hj)
  clear hmk hgrow
  go_loopw [29] (fun i wr => ∃ j : Nat, j ≤ len ∧ i = .int .i64 j ∧ DRow wr w.heap.size len (fun i => if i < j then (s i : Int) else 0) ∧ Below w.heap.size w wr) (fun i _ => len - (intOf i).toNat)
  case atStart => exact ⟨0, Nat.zero_le _, rfl, HD.out.congr (fun i _ => by simp), HB2.out⟩
  case round =>
    obtain ⟨j, hj, rfl, hD, hb⟩ := hrel
    have HDj := hide hD
    have HB := hide hb
    clear HD HB2 hD hb
    by_cases hlt : j < len
    · obtain ⟨bb, o, ha, hc1, hc2, hc⟩ := H0.out (by omega)
      subst ha
      have hcj : wr.cell? ⟨bb, o + j, none⟩ = some (.int .i64 (s j : Nat)) := cell_below HB.out (hc j hlt)
      obtain ⟨⟨d0, d1⟩, _⟩ := HDj.out j hlt
      have HSET := hide (HDj.out.set j (s j))
      have hsj := HS.out j hlt
      unfold maxLen at hc2
      clear hc
      generalize hx : s j = x at *
      have HX := hide hx
      clear hx
      go_wp2
      go_roundw
      case rel =>
        refine ⟨j + 1, by omega, by go_num, HSET.out.congr (fun i hi => ?_), HB.out.setCell (Nat.le_refl _) _⟩
        by_cases e1 : i = j
        · rw [if_pos e1, if_pos (by omega), e1, HX.out]
        · rw [if_neg e1]
          by_cases e2 : i < j
          · rw [if_pos e2, if_pos (by omega)]
          · rw [if_neg e2, if_neg (by omega)]
      case measure => simp [intOf]; omega
    · obtain rfl : j = len := by omega
      have hdr := (HDj.out.congr (g := fun i => (s i : Int)) (fun i hi => by simp [hi])).drops h (fun i hi => (HS.out i hi).2)
      have T := hide (tabled_ok k 0 j s (fun _ => ⟨#[]⟩) _ wr hdr hk hk2 (by omega) h (fun i hi => ⟨(HS.out i hi).1, (HS.out i hi).2, rfl⟩))
      clear hdr
      go_wp2_with fail
      refine (T.out).mono ?_
      rintro e w3 ⟨vo, rfl, has, ofs, dat, O, D, hM, hT, hO, hOl, hb3⟩
      have hown := hM.own
      have hsz : Maps.size D = cntB has k := hM.size
      have hle := cntB_le has k
      have HT := hide hT
      have HB3 := hide (below_two HB.out hb3)
      clear hM hT hO hb3 T
      go_wp2_with (first | (at_len; refine wpList_len_own _ rfl _ 57 rfl 3 82 Tryd.underlying57 _ wr.heap.size (Maps.size D) D rfl hown ?_) | fail)
      go_ret2
      refine ⟨cntB has k, rfl, ?_, by omega, HB3.out⟩
      have h9 := HT.out.table.cleared.dim
      rw [masksD_rows] at h9
      exact h9
end Go.Proofs.YtldjbampimbaeaaDoor
