/-
  Lemmas for the law above, joined into one text (SvBlk). No statement is proved here.
-/
import Derived.Test.YtjhflcgphejddaaGreatDoorZSvTab
import Derived.Test.YtjhflcgphejddaaGreatDoorZG23
namespace Go.Proofs.YtjhflcgphejddaaGreatDoor
open Go.RowKit Go.Maps
set_option linter.unusedVariables false
set_option maxRecDepth 100000

/-- A block whose first n cells are the strings f 0, f 1, .., none of them frozen. -/
def SRow (w : World) (b n : Nat) (f : Nat → ByteArray) : Prop :=
  ∀ i, i < n → w.cell? ⟨b, i, none⟩ = some (.string (f i)) ∧ w.frozen? ⟨b, i, none⟩ = false
theorem SRow.congr {w : World} {b n : Nat} {f g : Nat → ByteArray} (h : SRow w b n f) (e : ∀ i, i < n → f i = g i) : SRow w b n g := fun i hi => by rw [← e i hi]; exact h i hi
theorem SRow.set {w : World} {b n : Nat} {f : Nat → ByteArray} (h : SRow w b n f) (j : Nat) (v : ByteArray) : SRow (w.setCell ⟨b, j, none⟩ (.string v)) b n (fun i => if i = j then v else f i) := fun i hi => by
  refine ⟨?_, by rw [World.frozen?_setCell]; exact (h i hi).2⟩
  have hc := (h i hi).1
  by_cases e : i = j
  · subst e
    rw [World.cell?_setCell_same _ _ _ hc]; simp
  · rw [World.cell?_setCell_other _ _ _ _ (fun h => e (by cases h; rfl))]; simp only [if_neg e]; exact hc
theorem SRow.below {w w' : World} {b n : Nat} {f : Nat → ByteArray} (h : SRow w b n f) (hb : Below w.heap.size w w') : SRow w' b n f := fun i hi => ⟨cell_below hb (h i hi).1, (hb.frozen (cell_lt (h i hi).1)).trans (h i hi).2⟩
theorem srow_zero {w : World} {b n : Nat} {t : TypeId} (h : w.rowIs b t n (fun _ => .string ⟨#[]⟩)) : SRow w b n (fun _ => ⟨#[]⟩) := fun i hi => ⟨h.cell hi, h.frozen i⟩

/-- 't[p]'. -/
theorem TMap.get {w : World} {b k : Nat} {has : Nat → Bool} {ofs : Nat → Nat} {dat : Nat → ByteArray} {D : DataW Unit} (h : TMap w b k has ofs dat D) {p : Nat} (hp : has p = true) (h16 : p ≤ 10000) :
    (Instr.lookup 140 (.map (some b)) (.int .i64 (p : Nat)) false).run Tryz.prog w = .ok (.agg #[.int .u64 (ofs p : Nat), .string (dat p)]) w := by
  obtain ⟨v, ps, hrun, hv⟩ := h.own.lookup Tryz.lawInt Tryz.underlying140 (Tryz.zeroRow w) (rowElem_mk 0 ⟨#[]⟩) (keyS (r := (p : Nat)) (by omega) (by omega))
  obtain ⟨z, s, rfl, hz⟩ := rowElem_inv hv
  have h1 := congrArg Prod.fst hz
  have hval : D.atKey (.int .i64 (p : Nat)) (.agg [.lit (.int .u64 ((0 : Nat) : Int)), .lit (.string (⟨#[]⟩ : ByteArray).data.toList)]) = _ := h.val p hp
  rw [hval] at h1
  simp only at h1
  injection h1 with h1
  injection h1 with h2 h3
  injection h3 with h3
  injection h2 with h2
  injection h2 with _ h2
  injection h3 with h3
  injection h3 with h3
  rw [hrun, ← h2, ← bytes_of_list' h3]

/-- The places of a set from a on. -/
def hiB (o : Nat) : Nat → Nat
  | 0 => o
  | a + 1 => if o.testBit a then hiB o a ^^^ 2 ^ a else hiB o a
theorem hiB_bit (o i : Nat) : ∀ a, (hiB o a).testBit i = (decide (a ≤ i) && o.testBit i)
  | 0 => by simp [hiB]
  | a + 1 => by
    unfold hiB
    have ih := hiB_bit o i a
    by_cases e : i = a
    · subst e
      rw [decide_eq_false (by omega)]
      by_cases c : o.testBit i = true
      · rw [if_pos c, Nat.testBit_xor, ih, Nat.testBit_two_pow]; simp [c]
      · rw [if_neg c, ih]; simp [c]
    · have e2 : decide (a + 1 ≤ i) = decide (a ≤ i) := decide_eq_decide.2 (by omega)
      rw [e2]
      by_cases c : o.testBit a = true
      · rw [if_pos c, Nat.testBit_xor, ih, Nat.testBit_two_pow, decide_eq_false (fun h : a = i => e h.symm)]; simp
      · rw [if_neg c, ih]
theorem hiB_top {o j : Nat} (h1 : o.testBit j = true) (h2 : o < 2 ^ (j + 1)) : hiB o j = 2 ^ j := Nat.eq_of_testBit_eq fun i => by
  rw [hiB_bit, Nat.testBit_two_pow]
  by_cases e : j = i
  · subst e; simp [h1]
  · rw [decide_eq_false e]
    rcases Nat.lt_or_ge i j with h | h
    · rw [decide_eq_false (by omega)]; rfl
    · rw [bit_big h2 (show j + 1 ≤ i by omega)]; simp
theorem shr_bit (o a : Nat) (h : o < 65536) : bits .and .u64 ((o : Int) / 2 ^ a) 1 = if o.testBit a then 1 else 0 := by
  have e : ((o : Int) / 2 ^ a) = ((o / 2 ^ a : Nat) : Int) := by rw [Int.natCast_ediv, Int.natCast_pow]; rfl
  have hle : o / 2 ^ a ≤ o := Nat.div_le_self _ _
  have h1 := u64_and_nat (o / 2 ^ a) 1 (by omega) (by omega)
  rw [e]
  have h2 : bits .and .u64 ((o / 2 ^ a : Nat) : Int) 1 = ((o / 2 ^ a &&& 1 : Nat) : Int) := h1
  rw [h2, Nat.and_one_is_mod, Nat.testBit_eq_decide_div_mod_eq]
  rcases Nat.mod_two_eq_zero_or_one (o / 2 ^ a) with h3 | h3 <;> rw [h3] <;> rfl

/-- Blocks that are found, j of them. -/
structure Found (w : World) (b k n : Nat) (S : RV → Prop) (j : Nat) (G : Nat → ByteArray) (wr : World) : Prop where
  row : SRow wr b k (fun i => if i < j then G i else ⟨#[]⟩)
  size : ∀ p, p < j → (G p).size = n
  sp : ∀ p, p < j → S (rv (2 ^ p) (G p))
  below : Below w.heap.size w wr

set_option maxHeartbeats 4000000 in
theorem tblocks_ok (k n b : Nat) (has : Nat → Bool) (ofs : Nat → Nat) (dat : Nat → ByteArray) (D : DataW Unit) (w : World) (hk : 1 ≤ k) (hk2 : k ≤ 16) (hn : n ≤ 8) (hM : TMap w b k has ofs dat D)
    (hp : ∀ p, has p = true → p < k ∧ (ofs p).testBit p = true ∧ ofs p < 2 ^ (p + 1) ∧ (dat p).size = n) (hall : ∀ p, p < k → has p = true) :
    Calls Tryz.prog 80 #[.map (some b), .int .i64 k] w fun e w' => ∃ G, e = .returned (.tuple #[.slice (some ⟨w.heap.size, 0, none⟩) k k, .nilIface]) ∧ Found w w.heap.size k n (Sp XV (piv has (fun p => rv (ofs p) (dat p)) k)) k G w' := by
  have HM := hide hM
  have HP := hide hp
  have HA := hide hall
  have hbw := hM.lt
  have hmk := run_make_row' (P := Tryz.prog) 35 9 (.string ⟨#[]⟩) 16 Tryz.underlying35 Tryz.infoStr rfl .i64 .i64 k (by omega) (by omega)
  have H0 : Hid (Found w w.heap.size k n (Sp XV (piv has (fun p => rv (ofs p) (dat p)) k)) 0 (fun _ => ⟨#[]⟩) (w.alloc (.cells (madeCells #[.string ⟨#[]⟩] k) 9))) :=
    ⟨(srow_zero (World.rowIs_made _ _ _ _)).congr (fun i _ => by simp), fun p h => absurd h (Nat.not_lt_zero _), fun p h => absurd h (Nat.not_lt_zero _), (Below.refl _ _).alloc (Nat.le_refl _) _⟩
  clear hM hp hall
  go_enter Tryz.func80, Tryz.ntmps80
  go_wp2_with fail
  go_loopw [16] (fun i wr => ∃ (j : Nat) (G : Nat → ByteArray), j ≤ k ∧ i = .int .i64 j ∧ Found w w.heap.size k n (Sp XV (piv has (fun p => rv (ofs p) (dat p)) k)) j G wr) (fun i _ => k - (intOf i).toNat)
  case atStart => exact ⟨0, _, Nat.zero_le _, rfl, H0.out⟩
  case round =>
    obtain ⟨j, G, hj, rfl, hF⟩ := hrel
    have HF := hide hF
    clear hF H0 hmk
    by_cases hlt : j < k
    · have hM1 := HM.out.below HF.out.below
      obtain ⟨_, ho1, ho2, hd1⟩ := HP.out j (HA.out j hlt)
      have hlk := hM1.get (HA.out j hlt) (by omega)
      have hoj : ofs j < 65536 := Nat.lt_of_lt_of_le ho2 (Nat.pow_le_pow_right (n := 2) (i := j + 1) (j := 16) (by decide) (by omega))
      have hr := rowIn_new wr (ofs j) (dat j)
      have r0 := hr.1.1
      have r1 := hr.2.1
      simp only [Nat.zero_add] at r1
      have HB0 : Hid (Below wr.heap.size wr (wr.alloc (.cells #[.int .u64 (ofs j : Nat), .string (dat j)] 190))) := (Below.refl _ _).alloc (Nat.le_refl _) _
      have HR0 := hide hr
      have HSp0 : Hid (Sp XV (piv has (fun p => rv (ofs p) (dat p)) k) (rv (hiB (ofs j) 0) (dat j))) := Sp.mem (mem_piv.2 ⟨j, hlt, HA.out j hlt, rfl⟩)
      have HTop := hide (hiB_top ho1 ho2)
      obtain ⟨rb, hrb⟩ : ∃ rb, rb = wr.heap.size := ⟨_, rfl⟩
      clear hM1 hr ho1 ho2
      generalize hoo : ofs j = oj at *
      generalize hdd : dat j = dj at *
      clear hoo hdd
      go_wp2_with fail
      have HF0 : Hid (Found w w.heap.size k n (Sp XV (piv has (fun p => rv (ofs p) (dat p)) k)) j G (wr.alloc (.cells #[.int .u64 (oj : Nat), .string dj] 190))) := ⟨HF.out.row.below HB0.out, HF.out.size, HF.out.sp, below_two HF.out.below HB0.out⟩
      generalize hw0 : wr.alloc (.cells #[.int .u64 (oj : Nat), .string dj] 190) = w0 at *
      clear hw0 HF HB0 hlk
      subst hrb
      generalize wr.heap.size = rb at *
      generalize hS : Sp XV (piv has (fun p => rv (ofs p) (dat p)) k) = S at *
      have HSA : Hid (∀ x y, S x → S y → S (XV.add x y)) := by rw [← hS]; exact fun x y hx hy => Sp.add hx hy
      have HSE := hide hS
      clear hS
      go_loopw [9, 25] (fun dd i wi => ∃ (a : Nat) (db : ByteArray), a ≤ j ∧ i = .int .i64 a ∧ dd = .string db ∧ db.size = n ∧ S (rv (hiB oj a) db) ∧ Below w0.heap.size w0 wi) (fun _ i _ => j - (intOf i).toNat)
      case atStart => exact ⟨0, dj, Nat.zero_le _, rfl, rfl, hd1, HSp0.out, Below.refl _ _⟩
      case round =>
        obtain ⟨a, db, ha, rfl, rfl, hdb, hsp, hbi⟩ := hrel
        have HSP := hide hsp
        have HBI := hide hbi
        have q0 := cell_below hbi r0
        have q1 := cell_below hbi r1
        clear hsp hbi
        by_cases hla : a < j
        · have hrow := HF0.out.row a (by omega)
          simp only [if_pos hla] at hrow
          have hc := cell_below HBI.out hrow.1
          have hga := HF0.out.size a hla
          have hand := shr_bit oj a hoj
          clear hrow
          by_cases hbit : oj.testBit a = true
          · rw [if_pos hbit] at hand
            have X := hide (xor_ok db (G a) wr (by omega) (by rw [hga, hdb]))
            have HN : Hid (S (rv (hiB oj (a + 1)) (xorB db (G a)))) := by
              unfold Hid hiB
              rw [if_pos hbit, rv_xor (by rw [hga, hdb])]
              exact HSA.out _ _ HSP.out (HF0.out.sp a hla)
            have hxs : (xorB db (G a)).size = n := by rw [xorB_size]; exact hdb
            generalize G a = ga at *
            generalize xorB db ga = x at *
            clear hbit
            go_wp2_with fail
            refine (X.out).mono ?_
            rintro e w2 ⟨rfl, hb2⟩
            have HB2 := hide (below_two HBI.out hb2)
            clear hb2
            go_wp2
            go_roundw
            case rel => exact ⟨a + 1, x, by omega, by go_num, rfl, hxs, HN.out, HB2.out⟩
            case measure => simp [intOf]; omega
          · rw [if_neg hbit] at hand
            have HN : Hid (S (rv (hiB oj (a + 1)) db)) := by
              unfold Hid hiB
              rw [if_neg hbit]; exact HSP.out
            clear hbit
            go_wp2
            go_roundw
            case rel => exact ⟨a + 1, db, by omega, by go_num, rfl, hdb, HN.out, HBI.out⟩
            case measure => simp [intOf]; omega
        · obtain rfl : a = j := by omega
          rw [HTop.out] at HSP
          have CL := hide (strings_Clone db wr (by omega))
          have hF1 : Found w w.heap.size k n S a G wr := ⟨HF0.out.row.below HBI.out, HF0.out.size, HF0.out.sp, below_two HF0.out.below HBI.out⟩
          have HF1 := hide hF1
          clear hF1 q0 q1 r0 r1
          go_wp2_with fail
          refine (CL.out).mono ?_
          rintro e w2 ⟨rfl, hb2⟩
          have hrow := HF1.out.row.below hb2
          have hc := (hrow a hlt).1
          have hf := (hrow a hlt).2
          have HR := hide (hrow.set a db)
          have HB2 := hide (below_two HF1.out.below hb2)
          clear hb2 hrow
          go_wp2
          go_roundw
          case rel =>
            refine ⟨a + 1, fun i => if i = a then db else G i, by omega, by go_num, HR.out.congr (fun i hi => ?_), fun p hp => ?_, fun p hp => ?_, HB2.out.setCell (Nat.le_refl _) _⟩
            · by_cases e1 : i = a
              · rw [if_pos e1, if_pos (by omega), if_pos e1]
              · rw [if_neg e1]
                by_cases e2 : i < a
                · rw [if_pos e2, if_pos (by omega), if_neg e1]
                · rw [if_neg e2, if_neg (by omega)]
            · by_cases e1 : p = a
              · simp only [if_pos e1]; exact hdb
              · simp only [if_neg e1]; exact HF1.out.size p (by omega)
            · by_cases e1 : p = a
              · simp only [if_pos e1]; rw [e1, HSE.out]; exact HSP.out
              · simp only [if_neg e1]; rw [HSE.out]; exact HF1.out.sp p (by omega)
          case measure => simp [intOf]; omega
    · obtain rfl : j = k := by omega
      go_wp2
      go_ret2
      exact ⟨G, rfl, HF.out⟩
end Go.Proofs.YtjhflcgphejddaaGreatDoor
