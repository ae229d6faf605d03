/-
  'dropletmill/droplaw4.SolveBent': the walk. Lemmas for the law above; no statement is proved here.
-/
import Derived.Test.YtldjbampimbaeaaDoorSvMade
import Derived.Test.YtldjbampimbaeaaDoorSStrs
import Derived.Test.YtldjbampimbaeaaDoorDropW
import Derived.Laws.Concat
namespace Go.Proofs.YtldjbampimbaeaaDoor
open Go.RowKit Go.Maps
set_option linter.unusedVariables false
set_option maxRecDepth 100000

theorem mask_k1 {seed : Nat} (h1 : 1 ≤ seed) (h2 : seed ≤ 10000) : maskL (setL 1 seed) = 1 := by
  have hl := setL_mask (k := 1) (Nat.le_refl _) h1
  have hn := (setL_len (k := 1) (Nat.le_refl _) (by omega) h1 h2).1
  have hb : (maskL (setL 1 seed)).testBit 0 = true := by
    rw [maskL_bit]
    refine decide_eq_true ?_
    have hm := List.getElem_mem hn
    have := setL_lt (Nat.le_refl _) h1 hm
    rwa [show (setL 1 seed)[0] = 0 by omega] at hm
  have : maskL (setL 1 seed) ≠ 0 := fun e => by rw [e, Nat.zero_testBit] at hb; cases hb
  omega
/-- Two drops, as they lie behind a literal. -/
theorem two_drops (w : World) (s0 s1 : Int) (d0 d1 : ByteArray) (h0 : (Lit.int .i64 s0).wf = true) (h1 : (Lit.int .i64 s1).wf = true) (z0 : d0.size ≤ maxLen) (z1 : d1.size ≤ maxLen) : DropsAt (w.alloc (.cells #[.int .i64 s0, .string d0, .int .i64 s1, .string d1] 38)) (.slice (some ⟨w.heap.size, 0, none⟩) 2 2) 2 (fun i => if i = 0 then s0 else s1) (fun i => if i = 0 then d0 else d1) := by
  refine Or.inr ⟨by omega, w.heap.size, 0, 2, rfl, Nat.le_refl _, by unfold maxLen; omega, fun i hi => ?_⟩
  match i, hi with
  | 0, _ => exact ⟨by simp, by simp, z0, h0⟩
  | 1, _ => exact ⟨by simp, by simp, z1, h1⟩
theorem clash_two {k n : Nat} {s : Nat → Nat} {d : Nat → ByteArray} {len i j m : Nat} (hi : i < len) (hj : j < len) (h1 : maskL (setL k (s i)) = m) (h2 : maskL (setL k (s j)) = m) (hz : (d i).size = (d j).size) (hne : d i ≠ d j) : Clash (rowsD k s d len) := by
  refine Classical.byContradiction fun hc => hne (bytes_fun hz (one_of hc (m := m) ?_ ?_))
  · exact Sp.mem (List.mem_map.2 ⟨i, List.mem_range.2 hi, by rw [h1]; rfl⟩)
  · exact Sp.mem (List.mem_map.2 ⟨j, List.mem_range.2 hj, by rw [h2]; rfl⟩)
theorem bent_fact (w : World) : Calls Tryd.prog 10 #[.int .i64 1, .int .i64 1, .slice (some ⟨w.heap.size, 0, none⟩) 2 2] (w.alloc (.cells #[.int .i64 1, .string ⟨#[97]⟩, .int .i64 2, .string ⟨#[98]⟩] 38))
    fun e w' => e = .returned (.tuple #[.slice none 0 0, .iface 52 (.int .i64 7)]) ∧ Below w.heap.size w w' := by
  have hd := two_drops w 1 2 ⟨#[97]⟩ ⟨#[98]⟩ (by decide) (by decide) (by decide) (by decide)
  have hd' := hd.congr (s' := fun i => (((if i = 0 then 1 else 2 : Nat) : Nat) : Int)) (d' := fun i => if i = 0 then ⟨#[97]⟩ else ⟨#[98]⟩) (fun i _ => by by_cases c : i = 0 <;> simp [c]) (fun i _ => rfl)
  refine (solve_ok 1 1 _ 2 _ _ _ hd' (by decide +kernel)).mono ?_
  rintro e w' ⟨hS, hb⟩
  have hC : Clash (rowsD 1 (fun i => if i = 0 then 1 else 2) (fun i => if i = 0 then ⟨#[97]⟩ else ⟨#[98]⟩) 2) := clash_two (n := 1) (i := 0) (j := 1) (m := 1) (by omega) (by omega) (mask_k1 (by decide) (by decide)) (mask_k1 (by decide) (by decide)) rfl (by decide)
  rcases hS with ⟨_, e⟩ | ⟨hn, _⟩ | ⟨hn, _⟩
  · exact ⟨e, below_two ((Below.refl _ _).alloc (Nat.le_refl _) _) hb⟩
  · exact absurd hC hn
  · exact absurd hC hn

theorem DropIn.of_drew {w : World} {b : Nat} {seed : Int} {s : ByteArray} (h : DropIn w b seed s) : DropIn w.drew b seed s := h
/-- A text with one byte turned. -/
def bentB (D : ByteArray) (a : Nat) (t : UInt8) : ByteArray := bytesB D.size (fun i => if i = a then t else atB D i)
theorem bent_eq (D : ByteArray) (a : Nat) (t : UInt8) (h : a < D.size) : D.extract 0 a ++ ⟨#[t]⟩ ++ D.extract (a + 1) D.size = bentB D a t := by
  apply ByteArray.ext
  rw [ByteArray.data_append, ByteArray.data_append, ← Array.toList_inj, Array.toList_append, Array.toList_append, Lib.extract_data, Lib.extract_data]
  rw [Lib.size_eq] at h
  unfold bentB bytesB
  rw [List.toList_toArray, Lib.size_eq]
  generalize hl : D.data.toList = l at *
  have hat : ∀ i, atB D i = l.getD i 0 := fun i => by unfold atB; rw [hl]
  apply List.ext_getElem
  · simp; omega
  · intro i h1 h2
    simp at h2
    simp only [List.getElem_map, List.getElem_range, hat]
    rcases Nat.lt_trichotomy i a with c | c | c
    · rw [if_neg (by omega), List.getElem_append_left (by simp; omega), List.getElem_append_left (by simp; omega)]
      simp [List.getD, h2]
    · subst c
      rw [if_pos rfl, List.getElem_append_left (by simp; omega), List.getElem_append_right (by simp; omega)]
      simp
    · rw [if_neg (by omega), List.getElem_append_right (by simp; omega)]
      simp [List.getD, h2]
      congr 1
      omega
theorem bentB_size (D : ByteArray) (a : Nat) (t : UInt8) : (bentB D a t).size = D.size := bytesB_size _ _
theorem bentB_same {D : ByteArray} {a : Nat} {t : UInt8} (h : atB D a = t) : bentB D a t = D := bytesB_eq _ _ _ rfl fun i hi => by
  by_cases c : i = a
  · rw [if_pos c, c, h]
  · rw [if_neg c]
theorem bentB_other {D : ByteArray} {a : Nat} {t : UInt8} (ha : a < D.size) (h : atB D a ≠ t) : bentB D a t ≠ D := fun e => h (by
  have h9 : atB (bentB D a t) a = atB D a := by rw [e]
  unfold bentB at h9
  rw [bytesB_at _ _ _ ha, if_pos rfl] at h9
  exact h9.symm)

set_option maxHeartbeats 4000000 in
theorem bent_walk {w : World} (v : Value) (len : Nat) (g : Nat → ByteArray) (hv : StrsAt w v len g) (seed a : Int) (t : UInt8) (hg : HasErr w) :
    Calls Tryd.prog 4 #[v, .int .i64 seed, .int .i64 a, .int .u8 (t.toNat : Int)] w fun e w' => e = .returned (.bool true) ∧ Below w.heap.size w w' := by
  have F := hide (bent_fact w)
  have HG := hide hg
  have HGL := hide hg.lt
  have MW := hide (make_ways hv seed)
  clear hg hv
  go_enter Tryd.func4, Tryd.ntmps4
  go_wp2_with fail
  refine (F.out).mono ?_
  rintro e w1 ⟨rfl, hb1⟩
  have HB1 := hide hb1
  have E := hide (error_right 7 _ w1 (HG.out.below HGL.out HB1.out) (Or.inr rfl))
  clear hb1 F
  go_wp2_with fail
  refine (E.out).mono ?_
  rintro e w2 ⟨rfl, hb2⟩
  have HB2 := hide (below_two HB1.out hb2)
  clear hb2 E HB1
  rcases MW.out with ⟨x, hx⟩ | ⟨b, o, cap, n, rfl, hlc, hcm, hB, hsn, hn1, hn2, hmk⟩
  · have M := hide (hx w2 HB2.out)
    unfold dropV at M
    clear hx MW
    go_wp2_with fail
    refine (M.out).mono ?_
    rintro e w3 ⟨rfl, hb3⟩
    have HB3 := hide (below_two HB2.out hb3)
    clear hb3
    go_wp2
    go_ret
    exact ⟨rfl, below_two HB3.out ((Below.refl _ _).alloc (Nat.le_refl _) _)⟩
  · have M := hide (hmk w2 HB2.out)
    have HBk := hide hB
    have hpos := hB.pos
    have hmost := hB.most
    have hdz := dropB_size g len n
    have h1z := hB.one
    have h8z := hB.eight
    have HDD : Hid (Fits g len (rv (maskL (setL len n)) (dropB g len n))) := drop_fits hB.pos hn1 hB.same
    unfold dropV at M
    unfold maxLen at hcm
    clear hmk MW hB
    subst hsn
    generalize hD : dropB g len n = D at *
    generalize hz : (g 0).size = z at *
    have HZ := hide hz
    have hDz : D.size = z := hdz
    clear hD hz hdz
    go_wp2_with fail
    refine (M.out).mono ?_
    rintro e w3 ⟨rfl, hb3⟩
    have HB3 := hide (below_two HB2.out hb3)
    clear hb3 M HB2
    by_cases ha : a < 0 ∨ (z : Int) ≤ a
    · have HA := hide ha
      rcases ha with ha | ha
      · go_wp2
        go_ret
        exact ⟨rfl, below_two HB3.out ((Below.refl _ _).alloc (Nat.le_refl _) _)⟩
      · have ha' : ¬ a < 0 := by omega
        go_wp2
        go_ret
        exact ⟨rfl, below_two HB3.out ((Below.refl _ _).alloc (Nat.le_refl _) _)⟩
    · obtain ⟨an, rfl⟩ := Int.eq_ofNat_of_zero_le (show 0 ≤ a by omega)
      have haz : an < z := by omega
      have haD : an < D.size := by omega
      have hx0 : ¬ (an : Int) < 0 := by omega
      have hx1 : ¬ (z : Int) ≤ (an : Int) := by omega
      have HDn := hide (dropIn_new w3 n D)
      have HB4 : Hid (Below w.heap.size w (w3.alloc (.cells #[.int .i64 (n : Nat), .string D] 38))) := below_two HB3.out ((Below.refl _ _).alloc (Nat.le_refl _) _)
      clear ha
      obtain ⟨q, hq⟩ : ∃ q : Bool, ((D[an].toNat : Int) != (t.toNat : Int)) = q := ⟨_, rfl⟩
      have HQ1 : Hid (q = true → bentB D an t ≠ D) := fun e => bentB_other haD (by
        rw [← hq, bne_iff_ne] at e
        rw [atB_eq D an haD]
        intro e2
        exact e (by rw [e2]))
      have HQ2 : Hid (q = false → bentB D an t = D) := fun e => bentB_same (by
        rw [← hq] at e
        have e2 : (D[an].toNat : Int) = (t.toNat : Int) := by simpa using e
        rw [atB_eq D an haD]
        exact UInt8.toNat_inj.1 (by omega))
      go_upto_region 8 with fail
      clear hq
      have hdb0 : w.heap.size ≤ w3.heap.size := HB3.out.size
      generalize w3.alloc (.cells #[.int .i64 (n : Nat), .string D] 38) = w4 at *
      generalize w3.heap.size = db at *
      go_cut [68] (fun t0 wx => DropIn wx db n (bentB D an t) ∧ Below w.heap.size w wx)
      case first =>
        have hdb := HDn.out.lt
        obtain ⟨⟨c0, f0⟩, c1, f1⟩ := HDn.out
        simp only [Nat.zero_add] at c1 f1
        have n1 : ∀ o, (w4.alloc o).cell? ⟨db, 1, none⟩ = some (.string D) := fun o => cell_below ((Below.refl _ _).alloc (Nat.le_refl _) o) c1
        have g1 : ∀ o, (w4.alloc o).frozen? ⟨db, 1, none⟩ = false := fun o => (((Below.refl w4.heap.size w4).alloc (Nat.le_refl _) o).frozen hdb).trans f1
        have hcv := run_convert_bytes_back (P := Tryd.prog) (w4.alloc (.cells #[.int .u8 (t.toNat : Int)] 5)).drew 41 9 5 ⟨w4.heap.size, 0, none⟩ 1 [t] Tryd.underlying41 Tryd.underlying5 Tryd.underlying9
          (fun j hj => by
            obtain rfl : j = 0 := by simpa using hj
            have h9 := cell_one_new w4 (.int .u8 (t.toNat : Int)) 5 0 _ rfl
            exact h9)
        simp only [List.length_cons, List.length_nil, Nat.zero_add] at hcv
        have hle1 : an ≤ z := by omega
        have hle2 : an + 1 ≤ z := by omega
        have he1 : (D.extract 0 an).size ≤ 8 := by rw [ByteArray.size_extract]; omega
        have he2 : (D.extract (an + 1) z).size ≤ 8 := by rw [ByteArray.size_extract]; omega
        have HE := hide (bent_eq D an t haD)
        rw [hDz] at HE
        go_region
        all_goals
          go_wp2_with fail
          go_meet
          refine ⟨?_, ?_⟩
          · have h9 := (HDn.out.data (bentB D an t)).below ((Below.refl _ _).alloc (Nat.le_refl _) (.cells #[.int .u8 (t.toNat : Int)] 5))
            rw [Nat.zero_add] at h9
            rw [HE.out]
            exact h9.of_drew
          · have h9 : Below w.heap.size w (w4.setCell ⟨db, 1, none⟩ (.string (D.extract 0 an ++ ⟨#[t]⟩ ++ D.extract (an + 1) z))) := HB4.out.setCell hdb0 _
            exact (h9.alloc h9.size _).drew
      case rest =>
      obtain ⟨hd5, hb5⟩ := hcut
      have HD5 := hide hd5
      have HB5 := hide hb5
      have hbz : (bentB D an t).size = z := by rw [bentB_size]; exact hDz
      clear hd5 hb5 HDn HB4 HB3 haD haz hx0 hx1
      generalize hDb : bentB D an t = Db at *
      clear hDb
      generalize wc = w5 at *
      obtain ⟨s, hs⟩ : ∃ s : Nat → Nat, s = fun i => if i < len then i + 1 else n := ⟨_, rfl⟩
      obtain ⟨d, hd⟩ : ∃ d : Nat → ByteArray, d = fun i => if i < len then g i else Db := ⟨_, rfl⟩
      have HSl : Hid (∀ i, i < len → s i = i + 1 ∧ d i = g i) := fun i hi => by rw [hs, hd]; simp [hi]
      have HSe : Hid (s len = n ∧ d len = Db) := by rw [Hid, hs, hd]; simp
      have M : Hid (∀ w1 (kk : Nat), kk < len → Below w.heap.size w w1 → Calls Tryd.prog 12 #[.slice (some ⟨b, o, none⟩) len cap, .int .i64 ((kk : Int) + 1)] w1 fun e w' => e = .returned (.tuple #[.agg #[.int .i64 ((kk : Int) + 1), .string (g kk)], .nilIface]) ∧ Below w1.heap.size w1 w') := fun w1 kk hk hb => by
        have h9 := make_ok b o len cap g (kk + 1) w1 HBk.out.pos HBk.out.most (HBk.out.below hb).cells HBk.out.one HBk.out.eight HBk.out.same (by omega) (by omega)
        rw [dropB_one (by omega) (by omega) (by rw [Nat.add_sub_cancel]; exact HBk.out.same kk hk), Nat.add_sub_cancel] at h9
        unfold dropV at h9
        rw [show (((kk + 1 : Nat)) : Int) = (kk : Int) + 1 by omega] at h9
        exact h9
      clear hs hd
      obtain ⟨i0, hi0, hz0, hz1, hz2⟩ := info_parts Tryd.infoDrp
      have Hi := hide hi0
      have Hz0 := hide hz0
      have Hz1 := hide hz1
      have Hz2 := hide hz2
      clear hi0 hz0 hz1 hz2
      go_wp2_with fail
      go_loopw [14, 15] (fun vo i wr => ∃ (j : Nat) (ao : Option Addr) (co : Nat), j ≤ len ∧ i = .int .i64 ((j : Int) + 1) ∧ vo = .slice ao j co ∧ wr.ownsRow w5.heap.size 38 2 vo j (dcells s d j) ∧ Below w5.heap.size w5 wr) (fun _ i _ => len + 1 - (intOf i).toNat)
      case atStart => exact ⟨0, none, 0, Nat.zero_le _, rfl, rfl, World.ownsRow_nil _ _ _ _, Below.refl _ _⟩
      case round =>
        obtain ⟨j, ao, co, hj, rfl, rfl, hrow, hbr⟩ := hrel
        have HRow := hide hrow
        have HBr := hide hbr
        clear hrow hbr
        by_cases hlt : j < len
        · have MK := hide (M.out wr j hlt (below_two HB5.out HBr.out))
          have hx2 : (j : Int) + 1 ≤ (len : Int) := by omega
          obtain ⟨hs1, hs2⟩ := HSl.out j hlt
          have HSj : Hid (dcells s d (j + 1) = dcells s d j ++ [.int .i64 ((j : Int) + 1), .string (g j)]) := by rw [Hid, dcells_succ, hs1, hs2]; rfl
          clear hs1 hs2
          generalize hgj : g j = gj at *
          clear hgj
          go_wp2_with fail
          refine (MK.out).mono ?_
          rintro e w6 ⟨rfl, hb6⟩
          have HB6 := hide (below_two HBr.out hb6)
          have HR6 := hide (ownU (ownU HRow.out hb6) ((Below.refl _ _).alloc (Nat.le_refl _) (.cells #[.int .i64 ((j : Int) + 1), .string gj] 38)))
          have hs6 := HB6.out.size
          have HB7 := hide (below_two HB6.out ((Below.refl _ _).alloc (Nat.le_refl _) (.cells #[.int .i64 ((j : Int) + 1), .string gj] 38)))
          clear hb6 MK
          generalize hw7 : w6.alloc (.cells #[.int .i64 ((j : Int) + 1), .string gj] 38) = w7 at *
          have d0 : w7.cell? ⟨w6.heap.size, 0, none⟩ = some (.int .i64 ((j : Int) + 1)) := by rw [← hw7]; simp
          have d1 : w7.cell? ⟨w6.heap.size, 1, none⟩ = some (.string gj) := by rw [← hw7]; simp
          subst hw7
          go_wp2_with (at_builtin; refine wpList_append_own _ rfl _ _ 23 rfl w5.heap.size 38 i0 (.agg #[.int .i64 0, .string ⟨#[]⟩]) 2 24 Tryd.underlying23 Hi.out Hz0.out Hz1.out Hz2.out rfl (by decide) _ _ _ rfl (HR6.out.alloc _) ⟨w6.heap.size + 1, 0, none⟩ 1 1 [.int .i64 ((j : Int) + 1), .string gj] rfl rfl (by have h9 := World.news_of_block (cs := #[.int .i64 ((j : Int) + 1), .string gj]) (t := 38) (fr := (0, 0)) (heap_alloc_new (w6.alloc (.cells #[.int .i64 ((j : Int) + 1), .string gj] 38)) _); rw [heap_alloc1] at h9; exact h9) (by simp [Value.oneCell']) (by unfold maxLen; omega) (by omega) (by simp; omega) ?_; intro v8 w8 hown8 hgrow8 hnil8)
          go_roundw
          case rel =>
            obtain ⟨g8, cap8, hv8⟩ : ∃ g8 cap8, v8 = .slice (some ⟨g8, 0, none⟩) (j + 1) cap8 := by
              rcases hown8.2 with ⟨_, h⟩ | ⟨g8, cap8, _, h, _⟩
              · omega
              · exact ⟨g8, cap8, h⟩
            have R : j + 1 ≤ len ∧ Value.int .i64 ((j : Int) + 1 + 1) = .int .i64 (((j + 1 : Nat) : Int) + 1) ∧ v8 = .slice (some ⟨g8, 0, none⟩) (j + 1) cap8 ∧ w8.ownsRow w5.heap.size 38 2 v8 (j + 1) (dcells s d (j + 1)) ∧ Below w5.heap.size w5 w8 :=
              ⟨by omega, by simp, hv8, by rw [HSj.out]; exact hown8, (below_two HB7.out ((Below.refl _ _).alloc (Nat.le_refl _) _)).grown hgrow8 (by simp; omega) (fun q hq => (HRow.out.lt q hq).1)⟩
            first
              | exact ⟨j + 1, some ⟨g8, 0, none⟩, cap8, R⟩
              | ((repeat apply Exists.intro); exact ⟨⟨j + 1, some ⟨g8, 0, none⟩, cap8, R⟩, rfl⟩)
          case measure => simp [intOf]; omega
        · obtain rfl : j = len := by omega
          have hD6 := HD5.out.below HBr.out
          have d0 := hD6.1.1
          have d1 := hD6.2.1
          simp only [Nat.zero_add] at d1
          have HSj : Hid (dcells s d (j + 1) = dcells s d j ++ [.int .i64 (n : Nat), .string Db]) := by rw [Hid, dcells_succ, HSe.out.1, HSe.out.2]
          have hc0 := cell_below (below_two HB5.out HBr.out) (HBk.out.cells 0 hpos)
          simp only [Nat.add_zero] at hc0
          have hx3 : ¬ (j : Int) + 1 ≤ (j : Int) := by omega
          have HB6 := hide (below_two HB5.out HBr.out)
          have hs5 := HBr.out.size
          clear hD6
          generalize hg0 : g 0 = g0 at *
          have hx4 : ∀ o2, (wr.alloc o2).cell? ⟨b, o, none⟩ = some (.string g0) := fun o2 => cell_below ((Below.refl _ _).alloc (Nat.le_refl _) o2) hc0
          have HG0 := hide hg0
          clear hg0
          go_wp2_with (at_builtin; refine wpList_append_own _ rfl _ _ 23 rfl w5.heap.size 38 i0 (.agg #[.int .i64 0, .string ⟨#[]⟩]) 2 24 Tryd.underlying23 Hi.out Hz0.out Hz1.out Hz2.out rfl (by decide) _ _ _ rfl (HRow.out.alloc _) ⟨wr.heap.size, 0, none⟩ 1 1 [.int .i64 (n : Nat), .string Db] rfl rfl (World.news_of_block (cs := #[.int .i64 (n : Nat), .string Db]) (t := 38) (fr := (0, 0)) (heap_alloc_new wr _)) (by simp [Value.oneCell']) (by unfold maxLen; omega) (by omega) (by simp; omega) ?_; intro v8 w8 hown8 hgrow8 hnil8; have HB8 : Hid (Below w.heap.size w w8) := ((below_two HB6.out ((Below.refl _ _).alloc (Nat.le_refl _) _)).grown hgrow8 (by have := HB5.out.size; simp; omega) (fun q hq => by have := (HRow.out.lt q hq).1; have := HB5.out.size; omega)); have hc8 : w8.cell? ⟨b, o, none⟩ = some (.string g0) := by have h7 := cell_below HB8.out (HBk.out.cells 0 hpos); simp only [Nat.add_zero, HG0.out] at h7; exact h7)
          have hz0 : g0.size = z := HZ.out
          have hall : ∀ i, i < j + 1 → 1 ≤ s i ∧ s i ≤ 10000 ∧ (d i).size = z := fun i hi => by
            by_cases c : i < j
            · obtain ⟨e1, e2⟩ := HSl.out i c
              rw [e1, e2, HBk.out.same i c, HG0.out]; omega
            · obtain rfl : i = j := by omega
              rw [HSe.out.1, HSe.out.2]; omega
          have hDA := own_dropsAt (s := s) (d := d) (n := j + 1) (by rw [HSj.out]; exact hown8) (fun i hi => (hall i hi).2.1) (fun i hi => by rw [(hall i hi).2.2]; unfold maxLen; omega)
          have SO := hide (solve_ok j z v8 (j + 1) s d w8 hDA (fC_zero (by omega) (by omega) (by omega) hall))
          have HU : Hid (∀ p, p < j → Sp XV (rowsD j s d (j + 1)) (rv (2 ^ p) (g p))) := fun p hp => Sp.mem (List.mem_map.2 ⟨p, List.mem_range.2 (by omega), by
            obtain ⟨e1, e2⟩ := HSl.out p hp
            show rv (maskL (setL j (s p))) (d p) = _
            rw [e1, e2, setL_one (by omega), Nat.add_sub_cancel, maskL_one]⟩)
          have HLast : Hid (Sp XV (rowsD j s d (j + 1)) (rv (maskL (setL j n)) Db)) := Sp.mem (List.mem_map.2 ⟨j, List.mem_range.2 (by omega), by
            show rv (maskL (setL j (s j))) (d j) = _
            rw [HSe.out.1, HSe.out.2]⟩)
          rw [hz0]
          clear hz0 hall hDA hown8 hgrow8 hnil8 d0 d1 hx4 hc0 M
          cases q with
          | true =>
            have HC : Hid (Clash (rowsD j s d (j + 1))) := bent_clash HU.out (setL_mask hpos hn1) HLast.out (fun hf => HQ1.out rfl (bytes_fun (by rw [hbz, hDz]) (by
              have h1 : atB Db = _ := hf
              have h2 : atB D = _ := HDD.out
              rw [h1, h2]; rfl)))
            refine (SO.out).mono ?_
            rintro e w9 ⟨hS, hb9⟩
            have he := solved_bent hS HC.out
            subst he
            have HB9 := hide (below_two HB8.out hb9)
            have E := hide (error_right 7 _ w9 (HG.out.below HGL.out HB9.out) (Or.inr rfl))
            clear hS hb9 SO
            go_wp2_with fail
            refine (E.out).mono ?_
            rintro e w10 ⟨rfl, hb10⟩
            have HB10 := hide (below_two HB9.out hb10)
            clear hb10
            go_wp2
            go_ret
            exact ⟨rfl, HB10.out⟩
          | false =>
            have hFit : ∀ v ∈ rowsD j s d (j + 1), Fits g j v := fun v hv => by
              obtain ⟨i, hi, rfl⟩ := List.mem_map.1 hv
              have hi := List.mem_range.1 hi
              by_cases c : i < j
              · obtain ⟨e1, e2⟩ := HSl.out i c
                show Fits g j (rv (maskL (setL j (s i))) (d i))
                rw [e1, e2, setL_one (by omega), Nat.add_sub_cancel, maskL_one]
                exact unit_fits c
              · obtain rfl : i = j := by omega
                show Fits g i (rv (maskL (setL i (s i))) (d i))
                rw [HSe.out.1, HSe.out.2, HQ2.out rfl]
                exact HDD.out
            have HF := hide hFit
            clear hFit
            refine (SO.out).mono ?_
            rintro e w9 ⟨hS, hb9⟩
            obtain ⟨b9, he, hc9⟩ := solved_right hS HF.out HU.out (fun p hp => by rw [HBk.out.same p hp, HG0.out]; exact HZ.out)
            subst he
            have HB9 := hide (below_two HB8.out hb9)
            have ST := hide (sstrs_same (.slice (some ⟨b9, 0, none⟩) j j) (.slice (some ⟨b, o, none⟩) j cap) j g w9 (by omega) (Or.inr ⟨hpos, b9, 0, j, rfl, fun i hi => by rw [Nat.zero_add]; exact hc9 i hi⟩) (Or.inr ⟨hpos, b, o, cap, rfl, (HBk.out.below HB9.out).cells⟩))
            clear hS hb9 SO hc9 hc8
            go_wp2_with fail
            refine (ST.out).mono ?_
            rintro e w10 ⟨rfl, hb10⟩
            have HB10 := hide (below_two HB9.out hb10)
            clear hb10
            go_wp2
            go_ret
            exact ⟨rfl, HB10.out⟩
end Go.Proofs.YtldjbampimbaeaaDoor
