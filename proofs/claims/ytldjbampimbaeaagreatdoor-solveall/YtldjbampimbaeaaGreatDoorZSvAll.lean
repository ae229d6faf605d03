/-
  Lemmas for the law above, joined into one text (SvAll). No statement is proved here.
-/
import Derived.Test.YtldjbampimbaeaaGreatDoorZG13
import Derived.Test.YtldjbampimbaeaaGreatDoorZG17
import Derived.Deep.DeepCutAuto
import Derived.Deep.CutRange
import Derived.Deep.AppendLies
namespace Go.Proofs.YtldjbampimbaeaaGreatDoor
open Go.RowKit Go.Maps
set_option linter.unusedVariables false
set_option maxRecDepth 100000

theorem wpList_append_nil_empty {P : Program} {w : World} {ops : Array Oper} {rest : List Oper} {o : Oper} {a : Act} {Q : Exit → Act → World → Prop} (hgd : o.guard = none) (s x : Operand) (t : TypeId)
    (ho : o.op = .call { callee := .builtin .append, args := #[s, x], argTypes := #[t, t] })
    (e : TypeId) (i : TypeInfo) (ht : P.underlying t = some (.slice e)) (hi : P.info? e = some i) (ad : Option Addr) (c : Nat)
    (hs : a.eval s = .slice none 0 0) (hx : a.eval x = .slice ad 0 c)
    (h : wpList P ops Q rest (a.put o.dst (.slice none 0 0)) w) : wpList P ops Q (o :: rest) a w := by
  refine wpList_plain hgd fun K hK => ?_
  have hrun : (Builtin.append_ #[t, t] o.type #[.slice none 0 0, .slice ad 0 c]).run P w = .ok (.slice none 0 0) w := by
    cases ad <;> simp [Builtin.append_, run_underlying ht, sizeOf, typeInfo, hi, Builtin.lenOf, Builtin.firstCells, loadCells, loadCellsFrom]
  unfold Oper.wp
  simp [execOp, ho, resolve, invoke, builtin, hs, hx, hrun, Result.andThen]
  exact hK _ _ h

/-- Where the drops are made and taken. -/
def AInv (w : World) (vP : Value) (g : Nat → ByteArray) (k z : Nat) (s : Nat → Nat) (j : Nat) (vm : Value) (wr : World) : Prop :=
  ∃ (p : PS) (T : List Nat) (am : Option Addr) (cm : Nat), vm = .slice am j cm ∧ OneP peelI0 w wr vP vm k z p T j s (fun i => dropB g k (s i)) ∧ Seen k j s p T

set_option maxHeartbeats 8000000 in
theorem all_core (b o len cap : Nat) (g : Nat → ByteArray) (v2 : Value) (m : Nat) (s : Nat → Nat) (more : Int) (w : World) (hg : HasErr w) (hlc : len ≤ cap) (hcm : cap ≤ maxLen) (hB : Blks w b o len g) (hi : IntsAt w v2 m (fun i => (s i : Int))) (hm : m ≤ 60) (hs : ∀ j, j < m → 1 ≤ s j ∧ s j ≤ 10000) (hmw : (Lit.int .i64 more).wf = true) :
    Calls Tryz.prog 3 #[.slice (some ⟨b, o, none⟩) len cap, v2, .int .i64 more] w fun e w' => e = .returned (.bool true) ∧ Below w.heap.size w w' := by
  have F := hide (all_fact w)
  have HG := hide hg
  have HGL := hide hg.lt
  have hpos := hB.pos
  have h16 := hB.most
  have h1 := hB.one
  have h8 := hB.eight
  have HBk := hide hB
  have HS := hide hs
  have RK := hide (fun w1 (hb : Below w.heap.size w w1) => rank_ok len v2 m s w1 (hi.below hb) hm hpos h16 hs)
  have C := hide (fun w1 (hb : Below w.heap.size w w1) => check_ok b o len cap g w1 hB.pos hB.most (hB.below hb).cells hB.one hB.eight hB.same)
  obtain ⟨aS, cS, rfl, hS0⟩ := hi.open
  have HSC : Hid (0 < m → ∃ bs os, aS = some ⟨bs, os, none⟩ ∧ m ≤ cS ∧ cS ≤ maxLen ∧ ∀ i, i < m → w.cell? ⟨bs, os + i, none⟩ = some (.int .i64 (s i : Nat))) := hS0
  have hc0 := hB.cells 0 hB.pos
  simp only [Nat.add_zero] at hc0
  have HMW := hide hmw
  unfold maxLen at hcm
  clear hg hB hs hS0 hmw hi
  go_enter Tryz.func3, Tryz.ntmps3
  go_wp2_with fail
  refine (F.out).mono ?_
  rintro e w1 ⟨b1, rfl, c0, c1, hb1⟩
  have HB1 := hide hb1
  have RK1 := hide (RK.out w1 HB1.out)
  clear hb1 F RK
  go_wp2_with fail
  refine (RK1.out).mono ?_
  rintro e w2 ⟨r, rfl, hdim, hrk, hb2⟩
  have HDm := hide hdim
  have HB2 := hide (below_two HB1.out hb2)
  have C3 := hide (C.out w2 HB2.out)
  clear hb2 RK1 C c0 c1 hdim HB1
  go_wp2_with fail
  refine (C3.out).mono ?_
  rintro e w3 ⟨rfl, hb3⟩
  have HB3 := hide (below_two HB2.out hb3)
  have hc3 := cell_below HB3.out hc0
  have NP := hide (fun w => peelI0.new_ok len (g 0).size w (by omega) h16 h1 h8)
  clear hb3 C3 HB2
  generalize hz0 : g 0 = g0 at *
  have HZ0 := hide hz0
  clear hz0
  generalize hz : g0.size = z at *
  have HZ := hide hz
  clear hz
  go_wp2_with fail
  have hz' := HZ.out
  rw [hz']
  clear hz'
  refine (NP.out _).mono ?_
  rintro e w4 ⟨vP, rfl, hst4, hfo4, hb4⟩
  have HI4 : Hid (AInv w vP g len z s 0 (.slice none 0 0) w4) := ⟨p0, [], none, 0, rfl, ⟨hst4, World.ownsRow_nil _ _ _ _, (fun i e => by cases e), fun i hi => Nat.le_trans HB3.out.size (hfo4 i hi), below_two HB3.out hb4⟩, seen_none _ _⟩
  clear hst4 hfo4 hb4 NP HB3 hc3
  go_wp2_with fail
  go_loopw [11, 14] (fun vm ti wr => ∃ i : Nat, i ≤ m ∧ ti = .int .i64 i ∧ AInv w vP g len z s i vm wr) (fun _ ti _ => m - (intOf ti).toNat)
  case atStart => exact ⟨0, Nat.zero_le _, rfl, HI4.out⟩
  case round =>
    obtain ⟨j, hj, rfl, p, T, am, cm, rfl, hO, hSe⟩ := hrel
    have HO := hide hO
    have HSe := hide hSe
    clear hO hSe HI4
    by_cases hlt : j < m
    · obtain ⟨bs, os, rfl, hcs1, hcs2, hcs3⟩ := HSC.out (by omega)
      have hsj := HS.out j hlt
      have hcj := cell_below HO.out.below (hcs3 j hlt)
      have MK := hide (make_ok b o len cap g (s j) wr hpos h16 (HBk.out.below HO.out.below).cells HBk.out.one HBk.out.eight HBk.out.same hsj.1 hsj.2)
      unfold dropV at MK
      have HFd : Hid (fD len z ((s j : Nat) : Int) (dropB g len (s j)).size = 0) := by
        unfold Hid fD
        rw [if_pos (by unfold OkD; omega), if_pos (by rw [dropB_size, HZ0.out, HZ.out])]
      have hTl := HSe.out.1
      obtain ⟨n, hn⟩ : ∃ n, s j = n := ⟨_, rfl⟩
      obtain ⟨dn, hdn⟩ : ∃ dn, dropB g len n = dn := ⟨_, rfl⟩
      rw [hn] at hcj MK hsj HFd
      rw [hdn] at MK HFd
      have HSj : Hid (dcells s (fun i => dropB g len (s i)) (j + 1) = dcells s (fun i => dropB g len (s i)) j ++ [.int .i64 (n : Nat), .string dn]) := by rw [Hid, dcells_succ, hn, hdn]
      have HTk : Hid (∀ a, Peels (setL len) ⟨p.known, p.B, p.L ++ [(n, dn)]⟩ a → Seen len (j + 1) s a (T ++ [n])) := fun a ha => by
        rw [← hn] at ha ⊢; exact HSe.out.take ha
      have hdz : Hid (dn.size ≤ maxLen) := by
        rw [← hdn]; unfold Hid maxLen; rw [dropB_size, HZ0.out, HZ.out]; omega
      clear hn hdn hcs3
      unfold maxLen at hcs2
      have hlt' : (j : Int) < (m : Int) := by omega
      go_wp2_with fail
      refine (MK.out).mono ?_
      rintro e w5 ⟨rfl, hb5⟩
      have hba : Below w5.heap.size w5 (w5.alloc (.cells #[.int .i64 (n : Nat), .string dn] 29)) := (Below.refl _ _).alloc (Nat.le_refl _) _
      have HO5 := hide (HO.out.grow hb5)
      have HO6 := hide (HO5.out.grow hba)
      have HBox : Hid (∀ i, (Value.slice am j cm).ownBlock = some i → i ≠ w5.heap.size) := fun i e e2 => by
        have := (HO5.out.row.lt i e).2; omega
      have HDI := hide (dropIn_new w5 (n : Nat) dn)
      clear hb5 hba MK hcj
      generalize hw6 : w5.alloc (.cells #[.int .i64 (n : Nat), .string dn] 29) = w6 at *
      obtain ⟨⟨d0, _⟩, d1, _⟩ := HDI.out
      simp only [Nat.zero_add] at d1
      have hbl6 : w5.heap.size < w6.heap.size := HDI.out.lt
      have hHS : w.heap.size ≤ w6.heap.size := HO6.out.below.size
      obtain ⟨i0, hi0, hz0, hz1, hz2⟩ := info_parts Tryz.infoDrop
      have Hi := hide hi0
      have Hz0 := hide hz0
      have Hz1 := hide hz1
      have Hz2 := hide hz2
      have HRow := hide (HO6.out.row.alloc (.cells #[.int .i64 (n : Nat), .string dn] 29))
      clear hi0 hz0 hz1 hz2
      go_wp2_with (first | (at_builtin; refine wpList_append_lies _ rfl _ _ 30 rfl w.heap.size 29 i0 _ 2 24 Tryz.underlying30 Hi.out Hz0.out Hz1.out Hz2.out rfl (by decide) (.slice am j cm) j _ rfl HRow.out ⟨w6.heap.size, 0, none⟩ 1 1 [.int .i64 (n : Nat), .string dn] rfl rfl (World.news_of_block (cs := #[.int .i64 (n : Nat), .string dn]) (t := 29) (fr := (0, 0)) (heap_alloc_new w6 _)) (by simp [Value.oneCell']) (by omega) (by unfold maxLen; omega) (by omega) (by simp; omega) (w6.heap.size + 1) (by simp) ?_; intro gg cg w7 hown7 hgrow7 hat7 hlt7; have hO7 : OneP peelI0 w w7 vP (.slice (some ⟨gg, 0, none⟩) (j + 1) cg) len z p T (j + 1) s (fun i => dropB g len (s i)) := (HO6.out.grow ((Below.refl _ w6).alloc (Nat.le_refl _) (.cells #[.int .i64 (n : Nat), .string dn] 29))).push hgrow7 (by rw [HSj.out]; exact hown7) (hat7.elim (fun e => Or.inl e.symm) (fun e => Or.inr ⟨gg, rfl, by rw [e]; simp⟩)); have hbk : w7.heap[w5.heap.size]? = w6.heap[w5.heap.size]? := (hgrow7.block _ (by simp; omega) (fun e => HBox.out _ e.symm rfl)).trans (((Below.refl _ w6).alloc (Nat.le_refl _) (.cells #[.int .i64 (n : Nat), .string dn] 29)).block _ hbl6); have e0 := (World.cell?_of_block (w := w6) (a := ⟨w5.heap.size, 0, none⟩) hbk).trans d0; have e1 := (World.cell?_of_block (w := w6) (a := ⟨w5.heap.size, 1, none⟩) hbk).trans d1; have HO7 := hide hO7; clear hO7 hbk hown7 hgrow7 hat7 hlt7) | fail)
      by_cases hmT : n ∈ T
      · have TK := hide (peelI0.take_bad HO7.out.st (n : Nat) dn hdz.out (by unfold tF; rw [if_neg (by simp [HFd.out]), if_pos (by simpa using hmT)]; decide))
        unfold dropV at TK
        refine (TK.out).mono ?_
        rintro e w9 ⟨vs9, rfl, hl9, hs9, hk9, hf9⟩
        have HO9 := hide (HO7.out.take hs9 hk9 hf9)
        clear hl9 hs9 hk9 hf9 TK d0 d1 e0 e1
        go_wp2
        go_roundw
        case rel =>
          have R : j + 1 ≤ m ∧ Value.int .i64 ((j : Int) + 1) = .int .i64 ((j + 1 : Nat) : Int) ∧ AInv w vP g len z s (j + 1) (.slice (some ⟨gg, 0, none⟩) (j + 1) cg) w9 := ⟨by omega, by simp, p, T, _, _, rfl, HO9.out, HSe.out.more⟩
          first
            | exact ⟨j + 1, R⟩
            | ((repeat apply Exists.intro); exact ⟨⟨j + 1, R⟩, rfl⟩)
        case measure => simp [intOf]; omega
      · have TK := hide (peelI0.take_ok HO7.out.st n dn (tF_ok HFd.out hmT (by omega)))
        unfold dropV at TK
        refine (TK.out).mono ?_
        rintro e w9 ⟨vs9, q9, rfl, hp9, hl9, hs9, hk9, hf9⟩
        have HO9 := hide (HO7.out.take hs9 hk9 hf9)
        have HS9 := hide (HTk.out q9 hp9)
        clear hl9 hs9 hk9 hf9 hp9 TK d0 d1 e0 e1
        go_wp2
        go_roundw
        case rel =>
          have R : j + 1 ≤ m ∧ Value.int .i64 ((j : Int) + 1) = .int .i64 ((j + 1 : Nat) : Int) ∧ AInv w vP g len z s (j + 1) (.slice (some ⟨gg, 0, none⟩) (j + 1) cg) w9 := ⟨by omega, by simp, q9, T ++ [n], _, _, rfl, HO9.out, HS9.out⟩
          first
            | exact ⟨j + 1, R⟩
            | ((repeat apply Exists.intro); exact ⟨⟨j + 1, R⟩, rfl⟩)
        case measure => simp [intOf]; omega
    · obtain rfl : j = m := by omega
      have hx3 : ¬ (j : Int) < (j : Int) := by omega
      have hc9 := cell_below HO.out.below hc0
      have hall : ∀ i, i < j → 1 ≤ s i ∧ s i ≤ 10000 ∧ (dropB g len (s i)).size = z := fun i hi => ⟨(HS.out i hi).1, (HS.out i hi).2, by rw [dropB_size, HZ0.out, HZ.out]⟩
      have hDA := own_dropsAt (s := s) (d := fun i => dropB g len (s i)) (n := j) HO.out.row (fun i hi => (hall i hi).2.1) (fun i hi => by rw [(hall i hi).2.2]; unfold maxLen; omega)
      have SO := hide (solve_ok len z (.slice am j cm) j s (fun i => dropB g len (s i)) wr hDA (fC_zero hm ⟨hpos, h16⟩ ⟨h1, h8⟩ hall))
      clear hall hDA
      go_wp2_with fail
      have hz' := HZ.out
      rw [hz']
      clear hz'
      refine (SO.out).mono ?_
      rintro e w5 ⟨hS5, hb5⟩
      have HO5 := hide (HO.out.grow hb5)
      obtain ⟨x17, x10, he, hQ⟩ : ∃ x17 x10, e = .returned (.tuple #[x17, x10]) ∧ ((r = len ∧ ∃ b9 : Nat, x17 = .slice (some ⟨b9, 0, none⟩) len len ∧ x10 = .nilIface ∧ ∀ p, p < len → w5.cell? ⟨b9, p, none⟩ = some (.string (g p))) ∨ (r ≠ len ∧ x10 = .iface 54 (.int .i64 8))) := by
        rcases solved_all hpos hS5 (fun i hi => (HS.out i hi).1) HBk.out.same (by rw [HZ0.out, HZ.out]) HDm.out with ⟨hr, b9, he, hc⟩ | ⟨hr, he⟩
        · exact ⟨_, _, he, Or.inl ⟨hr, b9, rfl, rfl, hc⟩⟩
        · exact ⟨_, _, he, Or.inr ⟨hr, rfl⟩⟩
      subst he
      have HQ := hide hQ
      clear hS5 hb5 SO hc9 HO hQ
      go_upto_region 20 with fail
      go_cut [142] (fun t wx => t = .bool false ∧ Below w5.heap.size w5 wx)
      case first =>
        have hr0 : ¬ (r : Int) < 0 := by omega
        have hr1 : ¬ (len : Int) < (r : Int) := by omega
        rcases HQ.out with ⟨hr, b9, e1, e2, hc⟩ | ⟨hr, e2⟩
        · subst e1 e2
          have hq1 : ((r : Int) == (len : Int)) = true := by simp [hr]
          have ST := hide (sstrs_same (.slice (some ⟨b9, 0, none⟩) len len) (.slice (some ⟨b, o, none⟩) len cap) len g w5 (by omega) (Or.inr ⟨hpos, b9, 0, len, rfl, fun i hi => by rw [Nat.zero_add]; exact hc i hi⟩) (Or.inr ⟨hpos, b, o, cap, rfl, (HBk.out.below HO5.out.below).cells⟩))
          clear hc hr
          go_wp2_with fail
          refine (ST.out).mono ?_
          rintro e w6 ⟨rfl, hb6⟩
          go_wp2_with fail
          go_meet
          exact ⟨rfl, hb6⟩
        · subst e2
          have hq1 : ((r : Int) == (len : Int)) = false := by simp; omega
          have E := hide (error_right 8 _ w5 (HG.out.below HGL.out HO5.out.below) (Or.inr rfl))
          clear hr
          go_wp2_with fail
          refine (E.out).mono ?_
          rintro e w6 ⟨rfl, hb6⟩
          go_wp2_with fail
          go_meet
          exact ⟨rfl, hb6⟩
      case rest =>
      obtain ⟨rfl, hb6⟩ := hcut
      have HO6 := hide (HO5.out.grow hb6)
      have KN := hide (peelI0.knows_ok HO6.out.st)
      have hkr := HSe.out.rank HDm.out
      clear hb6 HO5
      have hkl := knows_len len p.known
      go_wp2_with fail
      refine (KN.out).mono ?_
      rintro e w7 ⟨vs, rfl, hl7, hb7⟩
      obtain ⟨a7, c7, rfl, q7, q8, _⟩ := hl7
      have HB7 := hide (below_two HO6.out.below hb7)
      clear hb7 KN HO6 q7 q8
      generalize (knows len p.known).length = kn at *
      have hx5 : ¬ (r : Int) < (kn : Int) := by omega
      obtain ⟨i1, hi1, hy0, hy1, hy2⟩ := info_parts Tryz.infoInt
      have Hi1 := hide hi1
      have Hy0 := hide hy0
      have Hy1 := hide hy1
      have Hy2 := hide hy2
      clear hi1 hy0 hy1 hy2
      go_upto_region 25 with fail
      go_cut [18] (fun t wx => (∃ a c, t = .slice a j c) ∧ wx.ownsRow w.heap.size 3 1 t j ((List.range j).map fun k : Nat => .int .i64 (s k : Nat)) ∧ Below w.heap.size w wx)
      case first =>
        rcases Nat.eq_zero_or_pos j with e0 | h0
        · subst e0
          go_wp2_with (at_builtin; refine wpList_append_nil_empty rfl _ _ 23 rfl 3 i1 Tryz.underlying23 Hi1.out aS cS rfl rfl ?_)
          go_meet
          exact ⟨⟨none, 0, rfl⟩, World.ownsRow_nil _ _ _ _, HB7.out⟩
        · obtain ⟨bs, os, rfl, q1, q2, q3⟩ := HSC.out h0
          have HC7 : Hid (∀ q u, ((List.range j).map fun k : Nat => Value.int .i64 (s k : Nat))[q]? = some u → w7.cell? ((⟨bs, os, none⟩ : Addr).add q) = some u) := fun q u hu => by
            have hq : q < j := by
              rcases Nat.lt_or_ge q j with h | h
              · exact h
              · rw [List.getElem?_eq_none (by simpa using h)] at hu; cases hu
            have e : u = .int .i64 (s q : Nat) := by simpa [hq] using hu.symm
            have h9 := cell_below HB7.out (q3 q hq)
            rw [e]
            by_cases c : q = 0
            · subst c; simpa [Addr.add] using h9
            · simpa [Addr.add, c] using h9
          unfold maxLen at q2
          have hs7 := HB7.out.size
          clear q3
          go_wp2_with (at_builtin; refine wpList_append_own _ rfl _ _ 23 rfl w.heap.size 3 i1 (.int .i64 0) 1 8 Tryz.underlying23 Hi1.out Hy0.out Hy1.out Hy2.out rfl (by decide) _ _ _ rfl (World.ownsRow_nil _ _ _ _) ⟨bs, os, none⟩ j cS _ rfl (by simp) HC7.out (fun u hu => by obtain ⟨_, _, rfl⟩ := List.mem_map.1 hu; rfl) (by unfold maxLen; omega) (by omega) (by omega) ?_; intro v8 w8 hown8 hgrow8 hnil8)
          go_meet
          simp only [Nat.zero_add, List.nil_append] at hown8
          refine ⟨?_, hown8, HB7.out.grown hgrow8 hs7 (fun q hq => by cases hq)⟩
          rcases hown8.2 with ⟨_, h⟩ | ⟨g8, cap8, _, h, _⟩
          · omega
          · exact ⟨_, _, h⟩
      case rest =>
      obtain ⟨⟨a8, c8, rfl⟩, hrow8, hb8⟩ := hcut
      have HR8 := hide hrow8
      have HB8 := hide hb8
      have hs8 := HB8.out.size
      clear hrow8 hb8 HB7
      go_wp2_with (at_builtin; refine wpList_append_own _ rfl _ _ 23 rfl w.heap.size 3 i1 (.int .i64 0) 1 8 Tryz.underlying23 Hi1.out Hy0.out Hy1.out Hy2.out rfl (by decide) _ _ _ rfl (HR8.out.alloc _) ⟨wc.heap.size, 0, none⟩ 1 1 [.int .i64 more] rfl rfl (cell_one_new _ _ _) (fun x hx => by simp at hx; subst hx; rfl) (by unfold maxLen; omega) (by omega) (by simp; omega) ?_; intro v9 w9 hown9 hgrow9 hnil9)
      have HB9 := hide ((HB8.out.alloc hs8 _).grown hgrow9 (by simp; omega) (fun q hq => (HR8.out.lt q hq).1))
      have hIA : IntsAt w9 v9 (j + 1) (fun i => if i < j then (s i : Int) else more) := own_intsAt (by
        have e : ((List.range (j + 1)).map fun k : Nat => Value.int .i64 (if k < j then (s k : Int) else more)) = ((List.range j).map fun k : Nat => Value.int .i64 (s k : Nat)) ++ [.int .i64 more] := by
          rw [List.range_succ, List.map_append]
          congr 1
          · exact List.map_congr_left fun k hk => by rw [if_pos (List.mem_range.1 hk)]
          · simp
        rw [e]; exact hown9) (by omega) (fun i hi => by
          by_cases c : i < j
          · rw [if_pos c]
            have := HS.out i c
            exact WalkArith.wf_i64 (by omega)
          · rw [if_neg c]; exact HMW.out)
      have HIA := hide hIA
      clear hown9 hgrow9 hnil9 hIA HR8
      by_cases h60 : 60 < j + 1
      · obtain ⟨a9, c9, rfl, _⟩ := HIA.out.open
        have RF := hide (rank_full len a9 (j + 1) c9 w9 h60)
        refine (RF.out).mono ?_
        rintro e w10 ⟨rfl, rfl⟩
        go_wp2
        go_ret
        exact ⟨rfl, HB9.out⟩
      · by_cases hmo : 1 ≤ more ∧ more ≤ 10000
        · obtain ⟨n, rfl⟩ := Int.eq_ofNat_of_zero_le (show 0 ≤ more by omega)
          have RO := hide (rank_ok len v9 (j + 1) (fun i => if i < j then s i else n) w9 (HIA.out.congr fun i _ => by by_cases c : i < j <;> simp [c]) (by omega) hpos h16 (fun q hq => by
            by_cases c : q < j
            · simp only [c, if_true]; exact HS.out q c
            · simp only [c, if_false]; omega))
          refine (RO.out).mono ?_
          rintro e w10 ⟨q, rfl, hd10, hq10, hb10⟩
          have hor := rank_more (s := fun i => if i < j then s i else n) (by
            have h9 := HDm.out
            rw [masksD_congr (t := fun i => if i < j then s i else n) (fun i hi => by rw [if_pos hi])] at h9
            exact h9) hd10
          have HB10 := hide (below_two HB9.out hb10)
          clear hd10 hb10 RO
          rcases hor with h | h
          · have hq1 : ((q : Int) == (r : Int)) = true := by simp [h]
            go_wp2
            go_ret
            exact ⟨rfl, HB10.out⟩
          · have hq1 : ((q : Int) == (r : Int)) = false := by simp; omega
            have hq2 : ((q : Int) == (r : Int) + 1) = true := by simp [h]
            go_wp2
            go_ret
            exact ⟨rfl, HB10.out⟩
        · have RS := hide (rank_s len v9 (j + 1) _ w9 HIA.out (by omega) ⟨by omega, by omega⟩ ⟨j, by omega, by unfold badS; simp; omega⟩)
          refine (RS.out).mono ?_
          rintro e w10 ⟨rfl, rfl⟩
          go_wp2
          go_ret
          exact ⟨rfl, HB9.out⟩
end Go.Proofs.YtldjbampimbaeaaGreatDoor
