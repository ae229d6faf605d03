/-
  Lemmas for the law above, joined into one text (SvTab). No statement is proved here.
-/
import Derived.Test.YtjhflcgphejddaaGreatDoorZG29
import Derived.Test.YtjhflcgphejddaaGreatDoorZSetNew
import Derived.Test.YtjhflcgphejddaaGreatDoorZG16
import Derived.Deep.AppendLies
import Derived.Deep.RegionHeld3
import Derived.Deep.RegionWith
import Derived.Deep.RegionLaw
import Derived.Deep.DeepCutAuto
import Derived.Deep.CutRange
namespace Go.Proofs.YtjhflcgphejddaaGreatDoor
open Go.RowKit Go.Maps
set_option linter.unusedVariables false
set_option maxRecDepth 100000

/-- What the rows of a table, and what is over, are of. -/
structure Tabled (k n : Nat) (L : List RV) (has : Nat → Bool) (ofs : Nat → Nat) (dat : Nat → ByteArray) (O : List ByteArray) : Prop where
  table : Table L k has (fun p => rv (ofs p) (dat p)) (O.map atB)
  dats : ∀ p, has p = true → (dat p).size = n
  overs : ∀ o ∈ O, o.size = n
theorem tabled_none (k n : Nat) : Tabled k n [] (fun _ => false) (fun _ => 0) (fun _ => ⟨#[]⟩) [] := ⟨table_none k _, (fun p h => by cases h), (fun o h => by cases h)⟩
theorem Tabled.over {k n : Nat} {L : List RV} {has : Nat → Bool} {ofs : Nat → Nat} {dat : Nat → ByteArray} {O : List ByteArray} (h : Tabled k n L has ofs dat O) {r : RV} {d : ByteArray} (hd : d.size = n) (hr : Sp XV (piv has (fun p => rv (ofs p) (dat p)) k) (XV.add r (rv 0 d))) : Tabled k n (L ++ [r]) has ofs dat (O ++ [d]) := by
  refine ⟨?_, h.dats, fun o ho => ?_⟩
  · rw [List.map_append]; exact h.table.over hr
  · rcases List.mem_append.1 ho with ho | ho
    · exact h.overs o ho
    · rw [List.mem_singleton.1 ho]; exact hd
theorem Tabled.put {k n : Nat} {L : List RV} {has : Nat → Bool} {ofs : Nat → Nat} {dat : Nat → ByteArray} {O : List ByteArray} (h : Tabled k n L has ofs dat O) {r : RV} {m p : Nat} {d : ByteArray} (hd : d.size = n) (hr : Sp XV (piv has (fun p => rv (ofs p) (dat p)) k) (XV.add r (rv m d))) (hp : has p = false) (hpk : p < k) (ht : m.testBit p = true ∧ m < 2 ^ (p + 1)) : Tabled k n (L ++ [r]) (updT has p true) (updT ofs p m) (updT dat p d) O := by
  refine ⟨h.table.put hr hp hpk ht (fun q => rfl) (fun q => ?_), fun q hq => ?_, h.overs⟩
  · unfold updT; split <;> rfl
  · unfold updT at hq ⊢
    by_cases c : q = p
    · rw [if_pos c]; exact hd
    · rw [if_neg c] at hq ⊢; exact h.dats q hq
theorem Tabled.rows {k n : Nat} {L : List RV} {has : Nat → Bool} {ofs : Nat → Nat} {dat : Nat → ByteArray} {O : List ByteArray} (h : Tabled k n L has ofs dat O) (p : Nat) (hp : has p = true) : p < k ∧ (ofs p).testBit p = true ∧ ofs p < 2 ^ (p + 1) ∧ (dat p).size = n := ⟨h.table.lt p hp, (h.table.top p hp).1, (h.table.top p hp).2, h.dats p hp⟩

theorem ownU {w w' : World} {B e size n : Nat} {v : Value} {xs : List Value} (h : w.ownsRow B e size v n xs) (hb : Below w.heap.size w w') : w'.ownsRow B e size v n xs := by
  refine ⟨h.1, ?_⟩
  rcases h.2 with hn | ⟨g, cap, cur, hv, h1, hgg, rest⟩
  · exact .inl hn
  · exact .inr ⟨g, cap, cur, hv, h1, (hb.block g (Array.getElem?_eq_some_iff.1 hgg).1).trans hgg, rest⟩
/-- What tabled has come to, behind the first drops. -/
def TabInv (w : World) (k n : Nat) (s : Nat → Nat) (d : Nat → ByteArray) (j : Nat) (vo : Value) (wr : World) : Prop :=
  ∃ has ofs dat O D, TMap wr w.heap.size k has ofs dat D ∧ Tabled k n (rowsD k s d j) has ofs dat O ∧ wr.ownsRow (w.heap.size + 1) 9 1 vo O.length (O.map .string) ∧ O.length ≤ j ∧ Below w.heap.size w wr
/-- What reduce leaves, as a new row. -/
def TabCut (wr : World) (k n : Nat) (has : Nat → Bool) (ofs : Nat → Nat) (dat : Nat → ByteArray) (r : RV) (t12 t13 : Value) (wx : World) : Prop :=
  ∃ b3 m3 d3, t12 = .nilIface ∧ t13 = .pointer (some ⟨b3, 0, none⟩) ∧ RowIn wx b3 m3 d3 ∧ Sp XV (piv has (fun p => rv (ofs p) (dat p)) k) (XV.add r (rv m3 d3)) ∧ (m3 = 0 ∨ ∃ p, Lib.bitLen m3 = p + 1 ∧ has p = false ∧ p < k ∧ m3.testBit p = true ∧ m3 < 2 ^ (p + 1)) ∧ m3 < 2 ^ k ∧ d3.size = n ∧ Below wr.heap.size wr wx
theorem setL_few {k seed : Nat} (hk : 1 ≤ k) (hk2 : k ≤ 16) (h1 : 1 ≤ seed) (h2 : seed ≤ 10000) : (setL k seed).length ≤ 16 := Nat.le_trans (setL_len hk hk2 h1 h2).2 hk2

set_option maxHeartbeats 4000000 in
theorem tabled_ok (k n len : Nat) (s : Nat → Nat) (d : Nat → ByteArray) (v : Value) (w : World) (hv : DropsAt w v len (fun i => (s i : Int)) d) (hk : 1 ≤ k) (hk2 : k ≤ 16) (hn : n ≤ 8) (hlen : len ≤ 60) (hs : ∀ i, i < len → 1 ≤ s i ∧ s i ≤ 10000 ∧ (d i).size = n) :
    Calls Tryz.prog 78 #[.int .i64 k, v] w fun e w' => ∃ vo, e = .returned (.tuple #[.map (some w.heap.size), vo, .nilIface]) ∧ TabInv w k n s d len vo w' := by
  have hmm := fun w => run_makeMap (P := Tryz.prog) 140 w
  have hsl : ∃ a cap, v = .slice a len cap ∧ len ≤ cap ∧ cap ≤ maxLen ∨ len = 0 ∧ v = .slice a 0 cap := by
    rcases hv with ⟨rfl, a, cap, rfl⟩ | ⟨_, b, o, cap, rfl, h1, h2, _⟩
    · exact ⟨a, cap, Or.inr ⟨rfl, rfl⟩⟩
    · exact ⟨_, cap, Or.inl ⟨rfl, h1, h2⟩⟩
  have HV := hide hv
  have HS := hide hs
  obtain ⟨a, cap, hvv⟩ := hsl
  have hvs : v = .slice a len cap := by
    rcases hvv with ⟨e, _⟩ | ⟨e, e2⟩
    · exact e
    · rw [e]; exact e2
  clear hv hs hvv
  subst hvs
  have H0 : Hid (TabInv w k n s d 0 (.slice none 0 0) (w.alloc (.map #[] 0))) := ⟨_, _, _, [], _, tmap_made w k _ _, tabled_none k n, World.ownsRow_nil _ _ _ _, Nat.le_refl _, (Below.refl _ _).alloc (Nat.le_refl _) _⟩
  go_enter Tryz.func78, Tryz.ntmps78
  go_wp2_with fail
  go_loopw [8, 17] (fun vo i wr => ∃ j : Nat, j ≤ len ∧ i = .int .i64 j ∧ TabInv w k n s d j vo wr) (fun _ i _ => len - (intOf i).toNat)
  case atStart => exact ⟨0, Nat.zero_le _, rfl, H0.out⟩
  case round =>
    obtain ⟨j, hj, rfl, hT⟩ := hrel
    have HT := hide hT
    clear hT H0
    by_cases hlt : j < len
    · obtain ⟨has, ofs, dat, O, D, hM, hTb, hO, hOl, hb⟩ := HT.out
      have hsj := HS.out j hlt
      rcases HV.out with ⟨e, _⟩ | ⟨_, bb, o, cap', hve, hc1, hc2, hcell⟩
      · omega
      injection hve with ea _ ec
      subst ea ec
      obtain ⟨q0, q1, _, _⟩ := hcell j hlt
      have c0 : wr.cell? ⟨bb, o + j * 2, none⟩ = some (.int .i64 ((s j : Nat) : Int)) := cell_below hb q0
      have c1 := cell_below hb q1
      have HM := hide hM
      have HTb := hide hTb
      have HO := hide hO
      have HB := hide hb
      have S := hide (fun o => set_new k (s j) (wr.alloc o) hk hk2 hsj.1 hsj.2.1)
      have hdn := dropIn_new wr (s j) (d j)
      have HDN := hide hdn
      have n0 := hdn.1.1
      have n1 := hdn.2.1
      simp only [Nat.zero_add] at n1
      unfold maxLen at hc2
      have HRow := hide (rowsD_succ k s d j)
      clear hM hTb hO hb hcell q0 q1 hdn hmm HT
      generalize hsj1 : s j = sj at *
      generalize hdj1 : d j = dj at *
      clear hsj1 hdj1
      go_wp2_with fail
      refine (S.out _).mono ?_
      rintro e w2 ⟨vs, rfl, hl2, hb2, hnew2⟩
      have HB2 : Hid (Below wr.heap.size wr w2) := below_two ((Below.refl _ _).alloc (Nat.le_refl _) _) hb2
      have n1' := cell_below hb2 n1
      have HL2 := hide hl2
      have hmk := setL_mask hk hsj.1
      have MK : Hid (∀ W, Below w2.heap.size w2 W → Calls Tryz.prog 126 #[vs] W fun e w' => e = .returned (.int .u64 (maskL (setL k sj) : Nat)) ∧ W = w') := fun W h => marks_ok (setL k sj) k vs W (HL2.out.below h) hk2 (fun p hp => setL_lt hk hsj.1 hp) (setL_few hk hk2 hsj.1 hsj.2.1)
      have RD : Hid (∀ W, Below w2.heap.size w2 W → Calls Tryz.prog 125 #[.map (some w.heap.size), .agg #[.int .u64 (maskL (setL k sj) : Nat), .string dj]] W fun e w' => ∃ (m : Nat) (d : ByteArray), e = .returned (.tuple #[.agg #[.int .u64 (m : Nat), .string d], .nilIface]) ∧ Sp XV (piv has (fun p => rv (ofs p) (dat p)) k) (XV.add (rv (maskL (setL k sj)) dj) (rv m d)) ∧ (m = 0 ∨ ∃ p, Lib.bitLen m = p + 1 ∧ has p = false ∧ p < k ∧ m.testBit p = true ∧ m < 2 ^ (p + 1)) ∧ m < 2 ^ k ∧ d.size = n ∧ Below W.heap.size W w') := fun W h => reduce_ok k n w.heap.size _ has ofs dat D dj W hk2 hn ((HM.out.below HB2.out).below h) HTb.out.rows hmk hsj.2.2
      clear S hl2 hb2 hnew2 n0 n1 c0 c1 hmk
      generalize maskL (setL k sj) = mk at *
      go_upto_region 9 with fail
      go_cut [12, 13] (fun t12 t13 wx => TabCut wr k n has ofs dat (rv mk dj) t12 t13 wx)
      case first =>
        have hz := rowIn_new w2 0 ⟨#[]⟩
        have HZ := hide hz
        have n1o : ∀ o, (w2.alloc o).cell? ⟨wr.heap.size, 1, none⟩ = some (.string dj) := fun o => cell_below ((Below.refl _ _).alloc (Nat.le_refl _) o) n1'
        clear hz
        go_region_with (first
          | (go_at_call 126; refine (MK.out w2.drew (Below.refl _ w2).drew).mono ?_; rintro e w3 ⟨rfl, rfl⟩)
          | (go_at_call 126; refine (MK.out (w2.alloc (.cells #[.int .u64 0, .string ⟨#[]⟩] 190)).drew ((Below.refl _ w2).alloc (Nat.le_refl _) _).drew).mono ?_; rintro e w3 ⟨rfl, rfl⟩)
          | (go_at_call 125; refine (RD.out w2.drew (Below.refl _ w2).drew).mono ?_; rintro e w3 ⟨m3, d3, rfl, hsp3, hor3, hm3, hd3, hb3⟩; have hrow := rowIn_new w3 m3 d3; have hb9 : Below w2.heap.size w2 (w3.alloc (.cells #[.int .u64 (m3 : Nat), .string d3] 190)) := below_two (w1 := w3) ⟨hb3.os, hb3.tape, hb3.output, hb3.size, hb3.block⟩ ((Below.refl _ _).alloc (Nat.le_refl _) _))
          | (go_at_call 125; refine (RD.out (w2.alloc (.cells #[.int .u64 0, .string ⟨#[]⟩] 190)).drew ((Below.refl _ w2).alloc (Nat.le_refl _) _).drew).mono ?_; rintro e w3 ⟨m3, d3, rfl, hsp3, hor3, hm3, hd3, hb3⟩; have hz3 := HZ.out.below (w' := w3) ⟨hb3.os, hb3.tape, hb3.output, hb3.size, hb3.block⟩; have hz30 := hz3.1.1; have hz31 := hz3.2.1; have hf30 := hz3.1.2; have hf31 := hz3.2.2; have hrow := hz3.set (n := m3) (t := d3); have hb9 : Below w2.heap.size w2 ((w3.setCell ⟨w2.heap.size, 0, none⟩ (.int .u64 (m3 : Nat))).setCell ⟨w2.heap.size, 0 + 1, none⟩ (.string d3)) := ((below_two (w1 := w2.alloc (.cells #[.int .u64 0, .string ⟨#[]⟩] 190)) ((Below.refl _ w2).alloc (Nat.le_refl _) _) ⟨hb3.os, hb3.tape, hb3.output, hb3.size, hb3.block⟩).setCell (Nat.le_refl _) _).setCell (Nat.le_refl _) _; simp only [Nat.zero_add] at hz31 hf31 hrow hb9))
        all_goals
          go_wp2_with fail
          go_meet
          exact ⟨_, m3, d3, rfl, rfl, hrow, hsp3, hor3, hm3, hd3, below_two HB2.out hb9⟩
      case rest =>
      obtain ⟨b3, m3, d3, ht12, ht13, hr3, hsp3, hor3, hm3, hd3, hb3⟩ := hcut
      subst ht12 ht13
      have HB4 := hide hb3
      have HO4 := hide (ownU HO.out HB4.out)
      have HSP := hide hsp3
      have HD3 := hide hd3
      have r0 := hr3.1.1
      have r1 := hr3.2.1
      simp only [Nat.zero_add] at r1
      have HM4 := hide (HM.out.below HB4.out)
      have hwr := HB.out.size
      have hwr1 : w.heap.size < wr.heap.size := HM.out.lt
      have hw3 := HB4.out.size
      have hb3l := hr3.lt
      have h16 : m3 < 65536 := Nat.lt_of_lt_of_le hm3 (Nat.pow_le_pow_right (n := 2) (i := k) (j := 16) (by decide) hk2)
      clear hb3 hsp3 hd3 hm3 hr3 MK RD n1'
      generalize wc = w3 at *
      rcases hor3 with hm0 | ⟨p, hp1, hp2, hp3, hp4, hp5⟩
      · subst hm0
        obtain ⟨i0, hi0, hz0, hz1, hz2⟩ := info_parts Tryz.infoStr
        have Hi := hide hi0
        have Hz0 := hide hz0
        have Hz1 := hide hz1
        have Hz2 := hide hz2
        clear hi0 hz0 hz1 hz2
        go_wp2_with (at_builtin; refine wpList_append_own _ rfl _ _ 35 rfl (w.heap.size + 1) 9 i0 (.string ⟨#[]⟩) 1 16 Tryz.underlying35 Hi.out Hz0.out Hz1.out Hz2.out rfl (by decide) _ _ _ rfl (HO4.out.alloc _) ⟨w3.heap.size, 0, none⟩ 1 1 [.string d3] rfl rfl (cell_one_new _ _ _) (fun x hx => by simp at hx; subst hx; rfl) (by unfold maxLen; omega) (by omega) (by simp; omega) ?_; intro v5 w5 hown5 hgrow5 hnil5)
        go_roundw
        case rel =>
          have hb5 : Below wr.heap.size wr (w3.alloc (.cells #[.string d3] 9)) := below_two HB4.out ((Below.refl _ _).alloc (Nat.le_refl _) _)
          refine ⟨j + 1, by omega, by go_num, has, ofs, dat, O ++ [d3], D, (HM.out.below hb5).of_block (hgrow5.block _ (by simp; omega) fun e => ?_), ?_, ?_, by rw [List.length_append]; simp; omega, (below_two HB.out hb5).grown hgrow5 (by simp; omega) (fun q hq => by have := (HO.out.lt q hq).1; omega)⟩
          · have := (HO.out.lt _ e.symm).1; omega
          · rw [HRow.out]; exact HTb.out.over HD3.out HSP.out
          · rw [List.length_append, List.map_append]; exact hown5
        case measure => simp [intOf]; omega
      · have hne : ((m3 : Int) == 0) = false := by
          rw [beq_eq_false_iff_ne]
          intro e
          have e2 : m3 = 0 := by omega
          rw [e2, Nat.zero_testBit] at hp4; cases hp4
        have hfew : Maps.size D ≤ k := by rw [HM.out.size]; exact cntB_le _ _
        have L := hide (fun W => last_ok m3 p W h16 hp1 (by omega))
        obtain ⟨w4, hrun4, hown4, hgrow4⟩ := (HM4.out.of_block (w' := w3.drew) rfl).own.update Tryz.lawInt Tryz.underlying140 (by unfold maxLen; omega) (keyS (r := (p : Nat)) (by omega) (by omega)) (rowElem_mk m3 d3)
        unfold rowW at hrun4
        have hg4 : w3.grownBy w4 (some w.heap.size) := ⟨hgrow4.os, hgrow4.tape, hgrow4.output, hgrow4.size, hgrow4.block⟩
        have HG4 := hide hg4
        have HPut := hide (HM4.out.put hp2 hp3 hown4)
        have HTp := hide (HTb.out.put HD3.out HSP.out hp2 hp3 ⟨hp4, hp5⟩)
        have HOp : Hid (w4.ownsRow (w.heap.size + 1) 9 1 u8 O.length (O.map .string)) := HO4.out.kept hg4 (by
          cases e : u8.ownBlock with
          | none => exact Or.inl rfl
          | some q => exact Or.inr (fun e2 => by cases e2; have := (HO4.out.lt _ e).1; omega))
        clear hp1 hp2 hp4 hp5 hown4 hgrow4 hg4 h16
        go_upto_region 14 with fail
        go_region_with (first | (go_at_call 127; refine (L.out _).mono ?_; rintro e w9 ⟨rfl, rfl⟩))
        all_goals
          clear hrun4
          go_wp2
          go_roundw
          case rel =>
            refine ⟨j + 1, by omega, by go_num, _, _, _, O, _, HPut.out, ?_, HOp.out, by omega, (below_two HB.out HB4.out).grown HG4.out (Nat.le_trans HB.out.size HB4.out.size) (fun q hq => by cases hq; exact Nat.le_refl _)⟩
            rw [HRow.out]; exact HTp.out
          case measure => simp [intOf]; omega
    · obtain rfl : j = len := by omega
      go_wp2
      go_ret3
      exact ⟨_, rfl, HT.out⟩
end Go.Proofs.YtjhflcgphejddaaGreatDoor
