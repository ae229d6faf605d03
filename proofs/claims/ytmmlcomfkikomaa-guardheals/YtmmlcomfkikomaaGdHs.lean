/-
  The walk of GuardHeals over this seat's translation. Lemmas for the law above; no statement is proved here.
-/
import Derived.Test.YtmmlcomfkikomaaGdHsN
import Derived.Test.YtmmlcomfkikomaaGdW
import Derived.Test.YtmmlcomfkikomaaSStrs
import Derived.Test.YtmmlcomfkikomaaInts
namespace Go.Proofs.Ytmmlcomfkikomaa
open Go.RowKit
set_option linter.unusedVariables false
set_option maxRecDepth 100000

/-- A store into another block leaves a row as it lay. -/
theorem own_other {W : World} {B e size n : Nat} {v : Value} {xs : List Value} (h : W.ownsRow B e size v n xs) (a : Addr) (u : Value) (hne : v.ownBlock ≠ some a.block) : (W.setCell a u).ownsRow B e size v n xs := by
  have hg : W.grownBy (W.setCell a u) (some a.block) := ⟨rfl, rfl, rfl, (KeepsWalks.setCell W _ u).size, fun k _ hk => Below.heap_setCell _ _ _ k (fun e => hk (by rw [e]))⟩
  exact h.kept hg (.inr fun e => hne e)

theorem ownsRow_posZ {W : World} {base e size n : Nat} {v : Value} {xs : List Value} (h : W.ownsRow base e size v (0 + n) xs) (h0 : 0 < n) : ∃ g cap, v = .slice (some ⟨g, 0, none⟩) n cap := by
  rw [Nat.zero_add] at h
  exact ownsRow_pos h h0
theorem cell_at {B : Nat} {w w' : World} {a : Addr} {v : Value} (hb : Below B w w') (h : w.cell? a = some v ∧ a.block < B) : w'.cell? a = some v := (hb.cell (p := a) h.2).trans h.1
/-- "a", "b", "c". -/
def g3 : Nat → ByteArray := fun i => if i = 0 then ⟨#[97]⟩ else if i = 1 then ⟨#[98]⟩ else ⟨#[99]⟩
theorem g3_three : addG g3 3 2 3 = ⟨#[3]⟩ := by decide +kernel
theorem g3_four : addG g3 3 2 4 = ⟨#[99]⟩ := by decide +kernel

/-- What Heal answers where all is right. -/
theorem heal_right (b o len cap lb lo lcap n each : Nat) (g z : Nat → ByteArray) (lk : Nat → Bool) (w : World) (hB : Blks w b o len z) (hcap : len ≤ cap) (hcm : cap ≤ maxLen)
    (hlk : ∀ i, i < len → w.cell? ⟨lb, lo + i, none⟩ = some (.bool (lk i))) (he : 1 ≤ each) (he2 : each ≤ 16) (hn : n < len) (hs : n + gN n each = len)
    (h0 : ∀ q, q < gN n each → hFlt z lk n each q = 0) (hg : ∀ i, i < n → healF z lk n each (gN n each) i = g i) :
    Calls Try.prog 5 #[.slice (some ⟨b, o, none⟩) len cap, .slice (some ⟨lb, lo, none⟩) len lcap, .int .i64 each] w fun e w' => ∃ gy cy, e = .returned (.tuple #[.slice (some ⟨gy, 0, none⟩) n cy, .nilIface]) ∧ StrsIn w' (.slice (some ⟨gy, 0, none⟩) n cy) n g ∧ Below w.heap.size w w' :=
  (heal_ok b o len cap lb lo lcap n each z lk w hB hcap hcm hlk he he2 hn hs).mono (by
    have hn0 : 0 < n := by
      rcases Nat.eq_zero_or_pos n with e | e
      · have := gN_le n each he; omega
      · exact e
    rintro e w' (⟨v, rfl, _, hrow, hb⟩ | ⟨q, hq, hbad, _⟩)
    · obtain ⟨gy, cy, rfl⟩ := ownsRow_pos hrow hn0
      refine ⟨gy, cy, rfl, Or.inr ⟨hn0, gy, 0, cy, rfl, fun i hi => ?_⟩, hb⟩
      have h9 := hrow.cellAt i (by omega)
      rw [strV_at _ _ _ hi, hg i hi] at h9
      rw [Nat.zero_add]; exact h9
    · exact absurd (h0 q hq) hbad)

set_option maxHeartbeats 4000000 in
theorem heals_walk {w : World} (v : Value) (n : Nat) (g : Nat → ByteArray) (hv : StrsAt w v n g) (each : Int) (u : Value) (m : Nat) (f : Nat → Int) (hu : IntsAt w u m f) (s : ByteArray) (hsz : s.size ≤ maxLen) :
    Calls Try.prog 3 #[v, .int .i64 each, u, .string s] w fun e w' => e = .returned (.bool true) ∧ Below w.heap.size w w' := by
  obtain ⟨av, cv, hav⟩ : ∃ a c, v = .slice a n c := by
    rcases hv with ⟨rfl, a, cap, rfl⟩ | ⟨h0, b, o, cap, rfl, _⟩
    · exact ⟨_, _, rfl⟩
    · exact ⟨_, _, rfl⟩
  obtain ⟨au, cu, hau⟩ : ∃ a c, u = .slice a m c := by
    rcases hu with ⟨rfl, a, cap, rfl⟩ | ⟨h0, b, o, cap, rfl, _⟩
    · exact ⟨_, _, rfl⟩
    · exact ⟨_, _, rfl⟩
  -- the fact
  obtain ⟨W0, hW0⟩ : ∃ W0, W0 = w.alloc (.cells #[.string ⟨#[97]⟩, .string ⟨#[98]⟩, .string ⟨#[99]⟩] 9) := ⟨_, rfl⟩
  have hb0 : Below w.heap.size w W0 := by rw [hW0]; exact (Below.refl _ w).alloc (Nat.le_refl _) _
  have hB0 : Blks W0 w.heap.size 0 3 g3 := by
    refine ⟨by omega, by omega, fun i hi => ?_, by decide, by decide, fun i hi => ?_⟩
    · have h9 : W0.heap[w.heap.size]? = some (.cells #[.string ⟨#[97]⟩, .string ⟨#[98]⟩, .string ⟨#[99]⟩] 9) := by rw [hW0]; exact World.alloc_heap_new w _
      have : i = 0 ∨ i = 1 ∨ i = 2 := by omega
      rcases this with rfl | rfl | rfl <;> simp [World.cell?, h9, g3]
    · have : i = 0 ∨ i = 1 ∨ i = 2 := by omega
      rcases this with rfl | rfl | rfl <;> decide
  have K0 := hide (add_ok w.heap.size 0 3 3 2 g3 W0 hB0 (by omega) (by omega) (by decide))
  have HB0 := hide hb0
  have HW0 := hide hW0
  have HV := hide hv
  have HU := hide hu
  have hg5 : 3 + gN 3 2 = 5 := by decide
  rw [hg5] at K0
  have HAV := hide hav
  have HAU := hide hau
  clear hb0 hW0 hB0 hv hu hg5
  subst hav hau
  go_enter Try.func3, Try.ntmps3
  go_wp2_with fail
  rw [← HW0.out]
  refine (K0.out).mono ?_
  rintro e0 w1 ⟨v0, rfl, hr0, hb1⟩
  obtain ⟨g0, c0, rfl⟩ := ownsRow_pos hr0 (by omega)
  have k3 := hr0.cellAt 3 (by omega)
  have k4 := hr0.cellAt 4 (by omega)
  rw [strV_at _ _ _ (by omega), g3_three] at k3
  rw [strV_at _ _ _ (by omega), g3_four] at k4
  have HB1 := hide (below_two HB0.out hb1)
  clear hr0 hb1 K0
  rcases add_ways HV.out each with ⟨x, hx⟩ | ⟨b, o, cap, e, hve, hc1, hc2, hB, hee, he1, he2, hf⟩
  · have K := hide (hx w1 HB1.out)
    clear hx
    go_wp2_with fail
    refine (K.out).mono ?_
    rintro e1 w2 ⟨rfl, hb2⟩
    have HB2 := hide (below_two HB1.out hb2)
    clear hb2
    go_wp2
    go_ret
    exact ⟨rfl, HB2.out⟩
  · subst hee
    cases hve
    have hn0 := hB.pos
    have hn16 := hB.most
    have hgp := gN_pos he1 hn0
    have K := hide (add_ok b o n cv e g w1 (hB.below HB1.out) he1 he2 hf)
    have HBK : Hid (∀ W B gx cx, W.ownsRow B 9 1 (.slice (some ⟨gx, 0, none⟩) (n + gN n e) cx) (n + gN n e) (strV (addG g n e) (n + gN n e)) → Blks W gx 0 (n + gN n e) (addG g n e) ∧ n + gN n e ≤ cx ∧ cx ≤ maxLen) := fun W B gx cx h => add_blks hB hf h
    have HBS := hide hB
    have HF := hide hf
    have HM := hide (none_math hB.same he1 hf)
    obtain ⟨T, hT⟩ : ∃ T, T = n + gN n e := ⟨_, rfl⟩
    rw [← hT] at K HBK hf
    have HT := hide hT
    have hTl : n < T := by omega
    clear hT hB hgp
    have hmk := run_make_row' (P := Try.prog) 29 4 (.bool false) 1 Try.underlying29 Try.infoBool rfl .i64 .i64 T (by omega) (by omega)
    go_wp2_with fail
    refine (K.out).mono ?_
    rintro e1 w2 ⟨v1, rfl, hrow, hb2⟩
    obtain ⟨gx, cx, rfl⟩ := ownsRow_pos hrow (by omega)
    have HB2 := hide (below_two HB1.out hb2)
    have HRX := hide (own_mono hrow HB1.out.size)
    have hgx : gx < w2.heap.size := (hrow.lt gx rfl).2
    obtain ⟨W3, hW3⟩ : ∃ W3, W3 = w2.alloc (.cells (madeCells #[.bool false] T) 4) := ⟨_, rfl⟩
    have hr3 := own_bools_made w2 T (by unfold maxLen; omega)
    rw [← hW3] at hr3
    have hb3 : Below w2.heap.size w2 W3 := by rw [hW3]; exact (Below.refl _ w2).alloc (Nat.le_refl _) _
    obtain ⟨hBk, hx1, hx2⟩ := HBK.out W3 _ gx cx (own_under' hrow hb3)
    have KH := hide (heal_right gx 0 T cx w2.heap.size 0 T n e g (addG g n e) (fun _ => false) W3 hBk hx1 hx2 (fun i hi => by
      have h9 := hr3.cellAt i (by omega)
      rw [boolV_at _ _ _ hi] at h9
      rw [Nat.zero_add]; exact h9) he1 he2 hTl HT.out.symm HM.out.1 HM.out.2)
    have HB3 := hide hb3
    have HW3 := hide hW3
    have hxc1 := hx1
    have hxc2 := hx2
    unfold maxLen at hxc2
    clear hrow hb2 hr3 hb3 hBk hx1 hx2 hW3 K k3 k4
    go_wp2_with fail
    rw [← HW3.out]
    refine (KH.out).mono ?_
    rintro e1 w4 ⟨gy, cy, rfl, hSy, hb4⟩
    have hb24 : Below w2.heap.size w2 w4 := HB3.out.trans (hb4.mono HB3.out.size)
    have hSl : StrsIn w4 (.slice (some ⟨b, o, none⟩) n cv) n g := Or.inr ⟨hn0, b, o, cv, rfl, fun i hi => cell_below (below_two HB2.out hb24) (HBS.out.cells i hi)⟩
    have KS := hide (sstrs_same _ _ n g w4 (by omega) hSy hSl)
    have HB24 := hide hb24
    clear hSy hSl hb4 hb24 KH HB3 HW3
    go_wp2_with fail
    refine (KS.out).mono ?_
    rintro e1 w5 ⟨rfl, hb5⟩
    have HB25 := hide (HB24.out.trans (hb5.mono HB24.out.size) : Below w2.heap.size w2 w5)
    have HRX5 := hide (own_under' HRX.out HB25.out)
    have hgx5 : gx < w5.heap.size := Nat.lt_of_lt_of_le hgx HB25.out.size
    have HB05 := hide (below_two HB2.out HB25.out)
    clear hb5 KS HB24
    obtain ⟨W6, hW6⟩ : ∃ W6, W6 = w5.alloc (.cells (madeCells #[.bool false] T) 4) := ⟨_, rfl⟩
    have hr6 := own_bools_made w5 T (by unfold maxLen; omega)
    rw [← hW6] at hr6
    have hb6 : Below w5.heap.size w5 W6 := by rw [hW6]; exact (Below.refl _ w5).alloc (Nat.le_refl _) _
    have hs6 : W6.heap.size = w5.heap.size + 1 := by rw [hW6]; simp
    have HS6 : Hid (w5.heap.size < W6.heap.size) := by unfold Hid; omega
    have HR6 := hide hr6
    have HB6 := hide hb6
    have HRX6 := hide (own_under' HRX5.out hb6)
    obtain ⟨i0, hi, hz0, hz1, hz2⟩ := info_parts Try.infoStr
    have HI := hide hi
    have HZ0 := hide hz0
    have HZ1 := hide hz1
    have HZ2 := hide hz2
    have HW6 := hide hW6
    clear hi hz0 hz1 hz2 hr6 hb6 hs6 hW6
    have HXC : Hid (∀ j y, (strV (addG g n e) T)[j]? = some y → W6.cell? ((⟨gx, 0, none⟩ : Addr).add j) = some y) := fun j y hy => by
      have hj : j < T := by
        have h9 := (List.getElem?_eq_some_iff.1 hy).1
        rw [strV_len] at h9; exact h9
      rw [Addr.add_lit, Nat.zero_add, HRX6.out.cellAt j (by omega)]
      exact hy
    go_wp2_with (at_builtin; rw [← HW6.out]; refine wpList_append_own _ rfl _ _ 22 rfl W6.heap.size 9 i0 (.string ⟨#[]⟩) 1 16 Try.underlying22 HI.out HZ0.out HZ1.out HZ2.out rfl (by decide) _ _ _ rfl (World.ownsRow_nil W6 _ _ _) ⟨gx, 0, none⟩ T cx (strV (addG g n e) T) rfl (by rw [strV_len]; omega) HXC.out (strV_one _ _) (by unfold maxLen; omega) (by omega) (Nat.le_refl _) ?_; intro v7 w7 hown7 hgrow7 _; obtain ⟨gz, cz, rfl⟩ := ownsRow_posZ hown7 (by omega); have HZ7 := hide hown7; have HG7 := hide hgrow7; clear hown7 hgrow7)
    have hb67 : Below W6.heap.size W6 w7 := (Below.refl _ W6).grown HG7.out (Nat.le_refl _) (fun k hk => by cases hk)
    have hz7 : w7.ownsRow W6.heap.size 9 1 (.slice (some ⟨gz, 0, none⟩) T cz) T (strV (addG g n e) T) := by
      have h9 := HZ7.out
      simpa using h9
    have hgz : W6.heap.size ≤ gz := (hz7.lt gz rfl).1
    have hs6 := HS6.out
    have hl7 := own_under' HR6.out hb67
    have hb57 : Below w5.heap.size w5 w7 := HB6.out.trans (hb67.mono (Nat.le_of_lt hs6))
    have HX0 : Hid (w5.cell? ⟨gx, 0, none⟩ = some (.string (addG g n e 0)) ∧ gx < w5.heap.size) := by
      have h9 := HRX5.out.cellAt 0 (by omega)
      rw [strV_at _ _ _ (by omega)] at h9
      exact ⟨h9, hgx5⟩
    obtain ⟨fit, hfit⟩ : ∃ fit : Bool, fit = decide (s.size = (g 0).size) := ⟨_, rfl⟩
    have HFit : Hid (fit = true ↔ s.size = (g 0).size) := by unfold Hid; rw [hfit]; simp
    have HF0 : Hid (((addG g n e 0).size : Int) = ((g 0).size : Int)) := by unfold Hid; rw [addG_size HBS.out.same]
    have HBS8 : Hid ((g 0).size ≤ 8) := HBS.out.eight
    have HGQ : Hid (∀ q, q < T - n → q * e < n) := fun q hq => (gN_lt he1 q).1 (by have := HT.out; omega)
    have hx08 : (addG g n e 0).size ≤ 8 := by rw [addG_size HBS.out.same]; exact HBS.out.eight
    have HUC : Hid (∀ q, q < m → ∃ bu ou, au = some ⟨bu, ou, none⟩ ∧ w.cell? ⟨bu, ou + q, none⟩ = some (.int .i64 (f q))) := fun q hq => by
      rcases HU.out with ⟨h0, _⟩ | ⟨h0, bu, ou, c', hv', _, _, h3, _⟩
      · omega
      · cases hv'
        exact ⟨bu, ou, rfl, h3 q hq⟩
    have hm9 : m ≤ maxLen := by
      rcases HU.out with ⟨h0, _⟩ | ⟨h0, bu, ou, c', hv', h1, h2, _⟩
      · omega
      · omega
    unfold maxLen at hm9 hsz
    have HL7 := hide hl7
    have HZ8 := hide hz7
    have HB7 := hide hb57
    clear hl7 hz7 hb57 hb67 hfit HZ7 HG7 HRX HRX5 HRX6 HXC HR6 HB6 HW6
    go_loopw [18] (fun s18 wr => ∃ q : Nat, q ≤ T - n ∧ s18 = .int .i64 q ∧ wr.ownsRow w5.heap.size 4 1 (.slice (some ⟨w5.heap.size, 0, none⟩) T T) T (boolV (lkS n m e f q) T) ∧ wr.ownsRow W6.heap.size 9 1 (.slice (some ⟨gz, 0, none⟩) T cz) T (strV (zS g s fit n m e f q) T) ∧ Below w5.heap.size w5 wr) (fun s18 _ => T - n - (intOf s18).toNat)
    case atStart => exact ⟨0, Nat.zero_le _, rfl, HL7.out, HZ8.out, HB7.out⟩
    case round =>
      obtain ⟨q, hq, rfl, hL, hZ, hB⟩ := hrel
      have HL := hide hL
      have HZ := hide hZ
      have HB := hide hB
      clear hL hZ hB
      by_cases hlt : q < T - n
      · have hqI : (q : Int) < (T : Int) - (n : Int) := by omega
        by_cases h1 : m ≤ q
        · have HLQ : Hid (¬ lacksQ m e f q) := fun h => by have := h.1; omega
          go_wp2
          go_roundw
          case rel =>
            refine ⟨q + 1, by omega, by go_num, ?_, ?_, HB.out⟩
            · have e9 : lkS n m e f (q + 1) = lkS n m e f q := by
                funext i
                show (if lacksQ m e f q then _ else _) = _
                rw [if_neg HLQ.out]
              rw [e9]; exact HL.out
            · have e9 : zS g s fit n m e f (q + 1) = zS g s fit n m e f q := by
                funext i
                show (if lacksQ m e f q ∧ fit = true then _ else _) = _
                rw [if_neg (fun h => HLQ.out h.1)]
              rw [e9]; exact HZ.out
          case measure => simp [intOf]; omega
        obtain ⟨bu, ou, rfl, hcu⟩ := HUC.out q (by omega)
        have hcq := cell_below (below_two HB05.out (show Below w5.heap.size w5 wr from HB.out)) hcu
        clear hcu
        by_cases h2 : f q < 0
        · have HLQ : Hid (¬ lacksQ m e f q) := fun h => by have := h.2.1; omega
          go_wp2
          go_roundw
          case rel =>
            refine ⟨q + 1, by omega, by go_num, ?_, ?_, HB.out⟩
            · have e9 : lkS n m e f (q + 1) = lkS n m e f q := by
                funext i
                show (if lacksQ m e f q then _ else _) = _
                rw [if_neg HLQ.out]
              rw [e9]; exact HL.out
            · have e9 : zS g s fit n m e f (q + 1) = zS g s fit n m e f q := by
                funext i
                show (if lacksQ m e f q ∧ fit = true then _ else _) = _
                rw [if_neg (fun h => HLQ.out h.1)]
              rw [e9]; exact HZ.out
          case measure => simp [intOf]; omega
        by_cases h3 : (e : Int) < f q
        · have HLQ : Hid (¬ lacksQ m e f q) := fun h => by have := h.2.2; omega
          go_wp2
          go_roundw
          case rel =>
            refine ⟨q + 1, by omega, by go_num, ?_, ?_, HB.out⟩
            · have e9 : lkS n m e f (q + 1) = lkS n m e f q := by
                funext i
                show (if lacksQ m e f q then _ else _) = _
                rw [if_neg HLQ.out]
              rw [e9]; exact HL.out
            · have e9 : zS g s fit n m e f (q + 1) = zS g s fit n m e f q := by
                funext i
                show (if lacksQ m e f q ∧ fit = true then _ else _) = _
                rw [if_neg (fun h => HLQ.out h.1)]
              rw [e9]; exact HZ.out
          case measure => simp [intOf]; omega
        have HLQ : Hid (lacksQ m e f q) := ⟨by omega, by omega, by omega⟩
        obtain ⟨d, hd⟩ : ∃ d : Nat, f q = (d : Nat) := ⟨(f q).toNat, by omega⟩
        have hqe := HGQ.out q hlt
        have hqI2 : ((q * e : Nat) : Int) = (q : Int) * (e : Int) := Int.natCast_mul _ _
        have hp1 : 0 ≤ (q : Int) * (e : Int) := by omega
        have hp2 : (q : Int) * (e : Int) ≤ 16 := by omega
        obtain ⟨P, hP⟩ : ∃ P : Nat, P = q * e + d := ⟨_, rfl⟩
        have hPI : (q : Int) * (e : Int) + (d : Int) = (P : Int) := by rw [hP]; omega
        obtain ⟨R, hR⟩ : ∃ R : Nat, R = n + q := ⟨_, rfl⟩
        have hRI : (n : Int) + (q : Int) = (R : Int) := by omega
        have hRT : R < T := by omega
        have hd16 : d ≤ e := by omega
        have hAQ : atQ n e (f q) q = if d = e ∨ n ≤ P then R else P := by
          unfold atQ
          rw [hd, Int.toNat_natCast, ← hP, ← hR]
          have : ((d : Int) = (e : Int)) ↔ d = e := by omega
          simp only [this]
        rw [hd] at hcq h2 h3
        have HAQ := hide hAQ
        clear hAQ hd hP hR hqe hqI2
        by_cases h4 : d = e
        · have HAT : Hid (atQ n e (f q) q = R) := by unfold Hid; rw [HAQ.out, if_pos (Or.inl h4)]
          have q5 : ((d : Int) == (e : Int)) = true := by rw [beq_iff_eq]; omega
          clear h4
          by_cases hfit : fit = true
          · have q9 : ((s.size : Int) == ((addG g n e 0).size : Int)) = true := by rw [beq_iff_eq, HF0.out]; have := HFit.out.1 hfit; omega
            have HFT := hide hfit
            clear hfit
            have s1 := HL.out.cellAt R (by omega)
            rw [boolV_at _ _ _ (by omega)] at s1
            have s2 := HL.out.frozenAt R
            have hZ2 := own_other HZ.out ⟨w5.heap.size, R, none⟩ (.bool true) (by simp [Value.ownBlock]; omega)
            have hB2 := HB.out.setCell (p := ⟨w5.heap.size, R, none⟩) (Nat.le_refl _) (.bool true)
            have s5 := cell_at hB2 HX0.out
            have s6 := cell_at HB.out HX0.out
            have s3 := hZ2.cellAt R (by omega)
            rw [strV_at _ _ _ (by omega)] at s3
            have s4 := hZ2.frozenAt R
            have HB3 := hide (hB2.setCell (p := ⟨gz, R, none⟩) (by show w5.heap.size ≤ gz; omega) (.string s))
            have HL3 := hide (own_other (HL.out.stored R (.bool true)).1 ⟨gz, R, none⟩ (.string s) (by simp [Value.ownBlock]; omega))
            have HZ3 := hide (hZ2.stored R (.string s)).1
            clear hZ2 hB2
            go_wp2
            go_roundw
            case rel =>
              refine ⟨q + 1, by omega, by go_num, ?_, ?_, HB3.out⟩
              · have h9 := HL3.out
                rw [boolV_set _ _ _ _ (by omega)] at h9
                have e9 : (fun i => if i = R then true else lkS n m e f q i) = lkS n m e f (q + 1) := by
                  funext i
                  show _ = (if lacksQ m e f q then _ else _)
                  rw [if_pos HLQ.out, HAT.out]
                rw [e9] at h9
                exact h9
              · have h9 := HZ3.out
                rw [strV_set _ _ _ _ (by omega)] at h9
                have e9 : (fun i => if i = R then s else zS g s fit n m e f q i) = zS g s fit n m e f (q + 1) := by
                  funext i
                  show _ = (if lacksQ m e f q ∧ fit = true then _ else _)
                  rw [if_pos (show lacksQ m e f q ∧ fit = true from ⟨HLQ.out, HFT.out⟩), HAT.out]
                rw [e9] at h9
                exact h9
            case measure => simp [intOf]; omega
          · have q9 : ((s.size : Int) == ((addG g n e 0).size : Int)) = false := by
              rw [beq_eq_false_iff_ne, HF0.out]
              intro h9
              exact hfit (HFit.out.2 (by omega))
            have HFT : Hid (fit = false) := by cases fit with
              | true => exact absurd rfl hfit
              | false => exact rfl
            clear hfit
            have s1 := HL.out.cellAt R (by omega)
            rw [boolV_at _ _ _ (by omega)] at s1
            have s2 := HL.out.frozenAt R
            have hZ2 := own_other HZ.out ⟨w5.heap.size, R, none⟩ (.bool true) (by simp [Value.ownBlock]; omega)
            have hB2 := HB.out.setCell (p := ⟨w5.heap.size, R, none⟩) (Nat.le_refl _) (.bool true)
            have s5 := cell_at hB2 HX0.out
            have s6 := cell_at HB.out HX0.out
            have HB3 := hide hB2
            have HL3 := hide (HL.out.stored R (.bool true)).1
            have HZ3 := hide hZ2
            clear hZ2 hB2
            go_wp2
            go_roundw
            case rel =>
              refine ⟨q + 1, by omega, by go_num, ?_, ?_, HB3.out⟩
              · have h9 := HL3.out
                rw [boolV_set _ _ _ _ (by omega)] at h9
                have e9 : (fun i => if i = R then true else lkS n m e f q i) = lkS n m e f (q + 1) := by
                  funext i
                  show _ = (if lacksQ m e f q then _ else _)
                  rw [if_pos HLQ.out, HAT.out]
                rw [e9] at h9
                exact h9
              · have h9 := HZ3.out
                have e9 : zS g s fit n m e f (q + 1) = zS g s fit n m e f q := by
                  funext i
                  show (if lacksQ m e f q ∧ fit = true then _ else _) = _
                  rw [if_neg (fun h => by rw [HFT.out] at h; cases h.2)]
                rw [e9]
                exact h9
            case measure => simp [intOf]; omega
        have q5 : ((d : Int) == (e : Int)) = false := by rw [beq_eq_false_iff_ne]; omega
        by_cases h5 : n ≤ P
        · have HAT : Hid (atQ n e (f q) q = R) := by unfold Hid; rw [HAQ.out, if_pos (Or.inr h5)]
          have h5I : (n : Int) ≤ (P : Int) := by omega
          by_cases hfit : fit = true
          · have q9 : ((s.size : Int) == ((addG g n e 0).size : Int)) = true := by rw [beq_iff_eq, HF0.out]; have := HFit.out.1 hfit; omega
            have HFT := hide hfit
            clear hfit
            have s1 := HL.out.cellAt R (by omega)
            rw [boolV_at _ _ _ (by omega)] at s1
            have s2 := HL.out.frozenAt R
            have hZ2 := own_other HZ.out ⟨w5.heap.size, R, none⟩ (.bool true) (by simp [Value.ownBlock]; omega)
            have hB2 := HB.out.setCell (p := ⟨w5.heap.size, R, none⟩) (Nat.le_refl _) (.bool true)
            have s5 := cell_at hB2 HX0.out
            have s6 := cell_at HB.out HX0.out
            have s3 := hZ2.cellAt R (by omega)
            rw [strV_at _ _ _ (by omega)] at s3
            have s4 := hZ2.frozenAt R
            have HB3 := hide (hB2.setCell (p := ⟨gz, R, none⟩) (by show w5.heap.size ≤ gz; omega) (.string s))
            have HL3 := hide (own_other (HL.out.stored R (.bool true)).1 ⟨gz, R, none⟩ (.string s) (by simp [Value.ownBlock]; omega))
            have HZ3 := hide (hZ2.stored R (.string s)).1
            clear hZ2 hB2
            go_wp2
            go_roundw
            case rel =>
              refine ⟨q + 1, by omega, by go_num, ?_, ?_, HB3.out⟩
              · have h9 := HL3.out
                rw [boolV_set _ _ _ _ (by omega)] at h9
                have e9 : (fun i => if i = R then true else lkS n m e f q i) = lkS n m e f (q + 1) := by
                  funext i
                  show _ = (if lacksQ m e f q then _ else _)
                  rw [if_pos HLQ.out, HAT.out]
                rw [e9] at h9
                exact h9
              · have h9 := HZ3.out
                rw [strV_set _ _ _ _ (by omega)] at h9
                have e9 : (fun i => if i = R then s else zS g s fit n m e f q i) = zS g s fit n m e f (q + 1) := by
                  funext i
                  show _ = (if lacksQ m e f q ∧ fit = true then _ else _)
                  rw [if_pos (show lacksQ m e f q ∧ fit = true from ⟨HLQ.out, HFT.out⟩), HAT.out]
                rw [e9] at h9
                exact h9
            case measure => simp [intOf]; omega
          · have q9 : ((s.size : Int) == ((addG g n e 0).size : Int)) = false := by
              rw [beq_eq_false_iff_ne, HF0.out]
              intro h9
              exact hfit (HFit.out.2 (by omega))
            have HFT : Hid (fit = false) := by cases fit with
              | true => exact absurd rfl hfit
              | false => exact rfl
            clear hfit
            have s1 := HL.out.cellAt R (by omega)
            rw [boolV_at _ _ _ (by omega)] at s1
            have s2 := HL.out.frozenAt R
            have hZ2 := own_other HZ.out ⟨w5.heap.size, R, none⟩ (.bool true) (by simp [Value.ownBlock]; omega)
            have hB2 := HB.out.setCell (p := ⟨w5.heap.size, R, none⟩) (Nat.le_refl _) (.bool true)
            have s5 := cell_at hB2 HX0.out
            have s6 := cell_at HB.out HX0.out
            have HB3 := hide hB2
            have HL3 := hide (HL.out.stored R (.bool true)).1
            have HZ3 := hide hZ2
            clear hZ2 hB2
            go_wp2
            go_roundw
            case rel =>
              refine ⟨q + 1, by omega, by go_num, ?_, ?_, HB3.out⟩
              · have h9 := HL3.out
                rw [boolV_set _ _ _ _ (by omega)] at h9
                have e9 : (fun i => if i = R then true else lkS n m e f q i) = lkS n m e f (q + 1) := by
                  funext i
                  show _ = (if lacksQ m e f q then _ else _)
                  rw [if_pos HLQ.out, HAT.out]
                rw [e9] at h9
                exact h9
              · have h9 := HZ3.out
                have e9 : zS g s fit n m e f (q + 1) = zS g s fit n m e f q := by
                  funext i
                  show (if lacksQ m e f q ∧ fit = true then _ else _) = _
                  rw [if_neg (fun h => by rw [HFT.out] at h; cases h.2)]
                rw [e9]
                exact h9
            case measure => simp [intOf]; omega
        · have HAT : Hid (atQ n e (f q) q = P) := by unfold Hid; rw [HAQ.out, if_neg (by omega)]
          have h5I : ¬ (n : Int) ≤ (P : Int) := by omega
          by_cases hfit : fit = true
          · have q9 : ((s.size : Int) == ((addG g n e 0).size : Int)) = true := by rw [beq_iff_eq, HF0.out]; have := HFit.out.1 hfit; omega
            have HFT := hide hfit
            clear hfit
            have s1 := HL.out.cellAt P (by omega)
            rw [boolV_at _ _ _ (by omega)] at s1
            have s2 := HL.out.frozenAt P
            have hZ2 := own_other HZ.out ⟨w5.heap.size, P, none⟩ (.bool true) (by simp [Value.ownBlock]; omega)
            have hB2 := HB.out.setCell (p := ⟨w5.heap.size, P, none⟩) (Nat.le_refl _) (.bool true)
            have s5 := cell_at hB2 HX0.out
            have s6 := cell_at HB.out HX0.out
            have s3 := hZ2.cellAt P (by omega)
            rw [strV_at _ _ _ (by omega)] at s3
            have s4 := hZ2.frozenAt P
            have HB3 := hide (hB2.setCell (p := ⟨gz, P, none⟩) (by show w5.heap.size ≤ gz; omega) (.string s))
            have HL3 := hide (own_other (HL.out.stored P (.bool true)).1 ⟨gz, P, none⟩ (.string s) (by simp [Value.ownBlock]; omega))
            have HZ3 := hide (hZ2.stored P (.string s)).1
            clear hZ2 hB2
            go_wp2
            go_roundw
            case rel =>
              refine ⟨q + 1, by omega, by go_num, ?_, ?_, HB3.out⟩
              · have h9 := HL3.out
                rw [boolV_set _ _ _ _ (by omega)] at h9
                have e9 : (fun i => if i = P then true else lkS n m e f q i) = lkS n m e f (q + 1) := by
                  funext i
                  show _ = (if lacksQ m e f q then _ else _)
                  rw [if_pos HLQ.out, HAT.out]
                rw [e9] at h9
                exact h9
              · have h9 := HZ3.out
                rw [strV_set _ _ _ _ (by omega)] at h9
                have e9 : (fun i => if i = P then s else zS g s fit n m e f q i) = zS g s fit n m e f (q + 1) := by
                  funext i
                  show _ = (if lacksQ m e f q ∧ fit = true then _ else _)
                  rw [if_pos (show lacksQ m e f q ∧ fit = true from ⟨HLQ.out, HFT.out⟩), HAT.out]
                rw [e9] at h9
                exact h9
            case measure => simp [intOf]; omega
          · have q9 : ((s.size : Int) == ((addG g n e 0).size : Int)) = false := by
              rw [beq_eq_false_iff_ne, HF0.out]
              intro h9
              exact hfit (HFit.out.2 (by omega))
            have HFT : Hid (fit = false) := by cases fit with
              | true => exact absurd rfl hfit
              | false => exact rfl
            clear hfit
            have s1 := HL.out.cellAt P (by omega)
            rw [boolV_at _ _ _ (by omega)] at s1
            have s2 := HL.out.frozenAt P
            have hZ2 := own_other HZ.out ⟨w5.heap.size, P, none⟩ (.bool true) (by simp [Value.ownBlock]; omega)
            have hB2 := HB.out.setCell (p := ⟨w5.heap.size, P, none⟩) (Nat.le_refl _) (.bool true)
            have s5 := cell_at hB2 HX0.out
            have s6 := cell_at HB.out HX0.out
            have HB3 := hide hB2
            have HL3 := hide (HL.out.stored P (.bool true)).1
            have HZ3 := hide hZ2
            clear hZ2 hB2
            go_wp2
            go_roundw
            case rel =>
              refine ⟨q + 1, by omega, by go_num, ?_, ?_, HB3.out⟩
              · have h9 := HL3.out
                rw [boolV_set _ _ _ _ (by omega)] at h9
                have e9 : (fun i => if i = P then true else lkS n m e f q i) = lkS n m e f (q + 1) := by
                  funext i
                  show _ = (if lacksQ m e f q then _ else _)
                  rw [if_pos HLQ.out, HAT.out]
                rw [e9] at h9
                exact h9
              · have h9 := HZ3.out
                have e9 : zS g s fit n m e f (q + 1) = zS g s fit n m e f q := by
                  funext i
                  show (if lacksQ m e f q ∧ fit = true then _ else _) = _
                  rw [if_neg (fun h => by rw [HFT.out] at h; cases h.2)]
                rw [e9]
                exact h9
            case measure => simp [intOf]; omega
      · obtain rfl : q = T - n := by omega
        have hqI : ¬ ((T - n : Nat) : Int) < (T : Int) - (n : Int) := by omega
        obtain ⟨hBz, hz1, hz2⟩ := blks_own HZ.out (by omega) hf (by rw [zS_size HBS.out.same HFit.out.1]; exact HBS.out.one) (by rw [zS_size HBS.out.same HFit.out.1]; exact HBS.out.eight) (fun i hi => by rw [zS_size HBS.out.same HFit.out.1, zS_size HBS.out.same HFit.out.1])
        have hM := heals_math (g := g) (s := s) (fit := fit) (len := m) (f := f) HBS.out.same HFit.out.1 he1 HF.out (T - n)
        have KH := hide (heal_right gz 0 T cz w5.heap.size 0 T n e g (zS g s fit n m e f (T - n)) (lkS n m e f (T - n)) wr hBz hz1 hz2 (fun i hi => by
          have h9 := HL.out.cellAt i (by omega)
          rw [boolV_at _ _ _ hi] at h9
          rw [Nat.zero_add]; exact h9) he1 he2 hTl HT.out.symm hM.1 hM.2)
        clear hBz hz1 hz2 hM
        have hqI2 : ((T - n : Nat) : Int) = (T : Int) - (n : Int) := by omega
        go_wp2_with fail
        refine (KH.out).mono ?_
        rintro e1 w8 ⟨gy2, cy2, rfl, hSy, hb8⟩
        have hbw8 : Below w.heap.size w w8 := below_two (below_two HB05.out (show Below w5.heap.size w5 wr from HB.out)) hb8
        have hSl : StrsIn w8 (.slice (some ⟨b, o, none⟩) n cv) n g := Or.inr ⟨hn0, b, o, cv, rfl, fun i hi => cell_below hbw8 (HBS.out.cells i hi)⟩
        have KS := hide (sstrs_same _ _ n g w8 (by omega) hSy hSl)
        have HBW8 := hide hbw8
        clear hSy hSl hb8 hbw8 KH
        go_wp2_with fail
        refine (KS.out).mono ?_
        rintro e1 w9 ⟨rfl, hb9⟩
        have HB9 := hide (below_two HBW8.out hb9)
        clear hb9
        go_wp2
        go_ret
        exact ⟨rfl, HB9.out⟩
end Go.Proofs.Ytmmlcomfkikomaa
