/-
  Lemmas for the law above, joined into one text (Top, FlStW). No statement is proved here.
-/
import Derived.Test.YtfgcngjggdjcjaaDoorTG0
import Derived.ProofKit
import Derived.OpenShut
import Derived.ShutString
import Derived.Test.YtfgcngjggdjcjaaDoorTG31
import Derived.Test.YtfgcngjggdjcjaaDoorTG32
import Derived.Test.YtfgcngjggdjcjaaDoorTG34
import Derived.Deep.DeepCutAuto
namespace Go.Proofs.YtfgcngjggdjcjaaDoor
open Go.ChangeShapes Go.WideShapes Go.ChangeAt Go.RowKit
open Go.ChangeMaps (open_string shut_string)
set_option linter.unusedVariables false
set_option maxRecDepth 100000

theorem own : ownKnob Tryd.prog.godebug = none := by kernel_rfl
theorem laidOut : laidOutB Tryd.prog = true := by kernel_rfl

theorem trodAll_below {H : Type} {enc : TypeId × Value → H} {W W' : World} (hb : Below W.heap.size W W') : ∀ (ts : List TypeId) (vs : List Value) (ds : List (DataW H)) (p : List MemPlace),
    (∀ t ∈ ts, Tryd.prog.readableRec t = true ∧ t < Tryd.prog.types.size) → DataW.TrodAll enc Tryd.prog W 0 (fun _ => true) true ts vs ds p → (∀ x ∈ p, x.block < W.heap.size) →
    DataW.TrodAll enc Tryd.prog W' 0 (fun b => decide (b < W.heap.size)) true ts vs ds p
  | [], _, _, _, _, h, _ => by
    obtain ⟨rfl, rfl, rfl⟩ := trodAll_nil h
    exact trodAll_mk0
  | t :: ts, _, _, _, ht, h, hlt => by
    obtain ⟨v, vs, d, ds, p, q, rfl, rfl, rfl, h1, h2⟩ := trodAll_cons h
    have hx := ht t (by simp)
    exact trodAll_cons_mk (Below.trod laidOut hx.1 hx.2 h1 hb (fun x hx => hlt x (by simp [hx]))) (trodAll_below hb ts vs ds q (fun t' h' => ht t' (by simp [h'])) h2 (fun x hx => hlt x (by simp [hx])))
end Go.Proofs.YtfgcngjggdjcjaaDoor

namespace Go.Proofs.YtfgcngjggdjcjaaDoor
open Go.ChangeShapes Go.WideShapes Go.ChangeAt Go.RowKit Go.Maps
set_option linter.unusedVariables false
set_option maxRecDepth 100000

/-- A row of pictures whose pixels lie elsewhere. -/
theorem pics_own {w : World} {B : Nat} {v : Value} {N : Nat} {P : Nat → Pc} {S : Nat → Value} (h : w.ownsRow B 40 3 v N (rowV (picH P) S N)) (hi : ∀ i, i < N → IntsIn w (S i) (P i).n (P i).f) : PicsIn w v N P := by
  have hl : ∀ i, i < N → (picH P i).length = 2 := fun _ _ => rfl
  rcases h.2 with ⟨rfl, rfl⟩ | ⟨g, cap, cur, rfl, _, hgg, h1, h2, _⟩
  · exact pics_nil _ _
  · refine ⟨_, cap, rfl, h1, h2, fun h0 => ⟨g, 0, rfl, fun i hN => ⟨S i, ?_⟩⟩⟩
    have hc : ∀ j, j < 3 → w.cell? ⟨g, 0 + i * 3 + j, none⟩ = (picH P i ++ [S i])[j]? := fun j hj => by
      rw [Nat.zero_add, h.cellAt _ (by omega)]
      exact rowV_at (z := 2) hl hN hj
    exact ⟨by simpa [picH] using hc 0 (by omega), by simpa [picH] using hc 1 (by omega), by simpa [picH] using hc 2 (by omega), hi i hN⟩

set_option maxHeartbeats 8000000 in
theorem fstill_walk {w : World} (a b : Int) (s : Value) (m : Nat) (f : Nat → Int) (hs : IntsIn w s m f) (n ev : Int) (hg : HasErr w) :
    Calls Tryd.prog 4 #[.agg #[.int .i64 a, .int .i64 b, s], .int .i64 n, .int .i64 ev] w fun e w' => e = .returned (.bool true) ∧ Below w.heap.size w w' := by
  obtain ⟨W1, hW1⟩ : ∃ W1, W1 = w.alloc (.cells #[.int .i64 a, .int .i64 b, s] 40) := ⟨_, rfl⟩
  have b1 : Below w.heap.size w W1 := hW1 ▸ (Below.refl _ _).alloc (Nat.le_refl _) _
  have P1 : Hid (PicIn W1 w.heap.size a b s) := hide (hW1 ▸ picIn_new w a b s)
  have B1 := hide b1
  have HS1 := hide (hs.below b1)
  have hx : enfF 0 (fun _ => Pc.none) 1 1 ≠ 0 := by decide
  have hx5 : enfF 0 (fun _ => Pc.none) 1 1 = 5 := by decide
  have KN := hide (fun (W : World) => fenc_bad 1 1 (pics_nil W (fun _ => Pc.none)) hx)
  rw [hx5] at KN
  have EK := hide (fun (W : World) (hb : Below w.heap.size w W) => error_right 5 (errN 5) W (hg.below hg.lt hb) (errIs_N 5))
  have KC := hide (pcheck_ok a b HS1.out)
  obtain ⟨⟨c0, _⟩, ⟨c1, _⟩, c2, _⟩ := P1.out
  obtain ⟨ads, cps, rfl⟩ := slice_shape hs
  clear hs hg b1 hx hx5
  rcases Int.lt_or_le n 1 with hn1 | hn1
  · subst hW1
    clear KC
    go_enter Tryd.func4, Tryd.ntmps4
    go_wp2_with fail
    refine (KN.out _).mono ?_
    rintro e w2 ⟨rfl, hb2⟩
    have E2 := hide (EK.out w2 (below_two B1.out hb2))
    have B2 := hide (below_two B1.out hb2)
    clear hb2
    go_wp2_with fail
    refine (E2.out).mono ?_
    rintro e w3 ⟨rfl, hb3⟩
    have B3 := hide (below_two B2.out hb3)
    clear hb3
    go_wp2
    go_ret
    exact ⟨rfl, B3.out⟩
  · rcases Int.lt_or_le 6 n with hn6 | hn6
    · subst hW1
      clear KC
      go_enter Tryd.func4, Tryd.ntmps4
      go_wp2_with fail
      refine (KN.out _).mono ?_
      rintro e w2 ⟨rfl, hb2⟩
      have E2 := hide (EK.out w2 (below_two B1.out hb2))
      have B2 := hide (below_two B1.out hb2)
      clear hb2
      go_wp2_with fail
      refine (E2.out).mono ?_
      rintro e w3 ⟨rfl, hb3⟩
      have B3 := hide (below_two B2.out hb3)
      clear hb3
      go_wp2
      go_ret
      exact ⟨rfl, B3.out⟩
    · by_cases hp : picF a b m f = 0
      · obtain ⟨A, B, o⟩ := picF_zero.1 hp
        rw [hp] at KC
        obtain ⟨N, rfl⟩ := Int.eq_ofNat_of_zero_le (show 0 ≤ n by omega)
        have hN1 : 1 ≤ N := by omega
        have hN6 : N ≤ 6 := by omega
        obtain ⟨i0, hi0, hz0, hz1, hz2⟩ := info_parts Tryd.infoPic
        have Hi := hide hi0
        have Hz0 := hide hz0
        have Hz1 := hide hz1
        have Hz2 := hide hz2
        have HO := hide o
        have hS0 : ∀ j, rowV (picH fun _ => ⟨a, b, m, f⟩) (fun _ => .slice ads m cps) (j + 1) = rowV (picH fun _ => ⟨a, b, m, f⟩) (fun _ => .slice ads m cps) j ++ [.int .i64 a, .int .i64 b, .slice ads m cps] := fun j => rowV_succ _ _ _
        have HSS := hide hS0
        have HPO := hide (fun (W : World) (B0 : Nat) (v : Value) h hi => pics_own (w := W) (B := B0) (v := v) (N := N) (P := fun _ => ⟨a, b, m, f⟩) (S := fun _ => .slice ads m cps) h hi)
        have HR0 : Hid (rowV (picH fun _ => ⟨a, b, m, f⟩) (fun _ => .slice ads m cps) 0 = []) := rfl
        have HO0 := hide (fun W : World => (World.ownsRow_nil W W.heap.size 40 3 : W.ownsRow W.heap.size 40 3 (.slice none 0 0) 0 (rowV (picH fun _ => ⟨a, b, m, f⟩) (fun _ => .slice ads m cps) 0)))
        generalize rowV (picH fun _ => ⟨a, b, m, f⟩) (fun _ => .slice ads m cps) = RV at *
        have HLe := o.le
        have hfz := hide (fun (i : Nat) (h : (filC A B m ev.toNat 1 (fun _ => f) i).al = false) => fil_none (A := A) (B := B) (n := m) (ev := ev.toNat) (g := fun _ => f) (a := a) (b := b) o (fun _ _ => rfl) h)
        have hf0 : Hid ((filC A B m ev.toNat 1 (fun _ => f) 0).al = true) := rfl
        have hfn := hide (fun i => filC_n (A := A) (B := B) (n := m) (ev := ev.toNat) (s := 1) (g := fun _ => f) (i := i))
        have KB := hide (fun (W : World) (v : Value) (h : PicsIn W v N fun _ => ⟨a, b, m, f⟩) (hx : enfF N (fun _ => ⟨a, b, m, f⟩) ev 1 ≠ 0) => fenc_bad ev 1 h hx)
        have KG := hide (fun (W : World) (v : Value) (h : PicsIn W v N fun _ => ⟨a, b, m, f⟩) (h1 : 1 ≤ ev) (h6 : ev ≤ 6) => fenc_ok h (A := A) (B := B) (st := 1) (ev := ev) ⟨hN1, hN6, fun _ _ => o, h1, h6, Int.le_refl _, by omega⟩)
        have HQ : Hid (1 ≤ ev ∧ ev ≤ 6 ∨ (ev < 1 ∨ 6 < ev) ∧ enfF N (fun _ => ⟨a, b, m, f⟩) ev 1 ≠ 0) := by
          by_cases h : 1 ≤ ev ∧ ev ≤ 6
          · exact Or.inl h
          · refine Or.inr ⟨by omega, fun h9 => h ?_⟩
            obtain ⟨A', B', o'⟩ := enfF_zero.1 h9
            exact ⟨o'.e1, o'.e6⟩
        generalize enfF N (fun _ => ⟨a, b, m, f⟩) ev 1 = EF at *
        simp only [] at KG
        generalize filC A B m ev.toNat 1 (fun _ => f) = C at *
        have HC0 := hide c0
        have HC1 := hide c1
        have HC2 := hide c2
        have hzw : w.heap.size < W1.heap.size := P1.out.lt
        clear hp hi0 hz0 hz1 hz2 o hS0 KN EK c0 c1 c2
        subst hW1
        go_enter Tryd.func4, Tryd.ntmps4
        go_wp2_with fail
        refine (KC.out).mono ?_
        rintro e w1 ⟨rfl, hb1⟩
        rw [errN_zero]
        have B2 := hide (below_two B1.out hb1)
        have c0 := cell_below hb1 HC0.out
        have c1 := cell_below hb1 HC1.out
        have c2 := cell_below hb1 HC2.out
        have H1 := hide (HS1.out.below hb1)
        have HO1 := hide (HO0.out w1)
        clear hb1 HS1 HC0 HC1 HC2 B1 P1 KC HO0
        have HC0 := hide c0
        have HC1 := hide c1
        have HC2 := hide c2
        clear c0 c1 c2
        go_wp2
        go_loopw [9, 10] (fun u i wr => ∃ (j : Nat) (adu : Option Addr) (cpu : Nat), j ≤ N ∧ i = .int .i64 j ∧ u = .slice adu j cpu ∧ Hid (wr.ownsRow w1.heap.size 40 3 u j (RV j)) ∧ Hid (Below w1.heap.size w1 wr)) (fun _ i _ => N - (intOf i).toNat)
        case atStart => exact ⟨0, none, 0, Nat.zero_le _, rfl, rfl, by unfold Hid; rw [HR0.out]; exact HO1.out, Below.refl _ _⟩
        case round =>
          obtain ⟨j, adu, cpu, hj, rfl, rfl, HR, HB⟩ := hrel
          by_cases hlt : j < N
          · have c0 := cell_below HB.out HC0.out
            have c1 := cell_below HB.out HC1.out
            have c2 := cell_below HB.out HC2.out
            have hzr := HB.out.size
            go_wp2_with (at_builtin; refine wpList_append_lies _ rfl _ _ 22 rfl w1.heap.size 40 i0 (.agg #[.int .i64 0, .int .i64 0, .slice none 0 0]) 3 40 Tryd.underlying22 Hi.out Hz0.out Hz1.out Hz2.out rfl (by decide) _ _ _ rfl (HR.out.alloc _) ⟨wr.heap.size, 0, none⟩ 1 1 [.int .i64 a, .int .i64 b, .slice ads m cps] rfl rfl (World.news_of_block (cs := #[.int .i64 a, .int .i64 b, .slice ads m cps]) (t := 40) (fr := (0, 0)) (heap_alloc_new wr _)) (fun x hx => by simp at hx; rcases hx with rfl | rfl | rfl <;> rfl) (by decide) (by unfold maxLen; omega) (by omega) (by simp; omega) _ rfl ?_; intro g3 cap3 w5 hown3 hgrow3 hat3 hlt3)
            go_roundw
            case rel =>
              have hB5 : Below w1.heap.size wr w5 := ((Below.refl w1.heap.size wr).alloc (by omega) _).grown hgrow3 (by simp; omega) (fun q hq => (HR.out.lt q hq).1)
              have R : j + 1 ≤ N ∧ Value.int .i64 ((j : Int) + 1) = .int .i64 ((j + 1 : Nat) : Int) ∧ Value.slice (some ⟨g3, 0, none⟩) (j + 1) cap3 = .slice (some ⟨g3, 0, none⟩) (j + 1) cap3 ∧ Hid (w5.ownsRow w1.heap.size 40 3 (.slice (some ⟨g3, 0, none⟩) (j + 1) cap3) (j + 1) (RV (j + 1))) ∧ Hid (Below w1.heap.size w1 w5) :=
                ⟨by omega, by simp, rfl, by unfold Hid; rw [HSS.out]; exact hown3, HB.out.trans hB5⟩
              first
                | exact ⟨j + 1, some ⟨g3, 0, none⟩, cap3, R⟩
                | ((repeat apply Exists.intro); exact ⟨⟨j + 1, some ⟨g3, 0, none⟩, cap3, R⟩, rfl⟩)
            case measure => simp [intOf]; omega
          · obtain rfl : j = N := by omega
            have HPi := hide (HPO.out wr w1.heap.size _ HR.out (fun _ _ => H1.out.below HB.out))
            have B3 := hide (below_two B2.out HB.out)
            rcases HQ.out with ⟨he1, he6⟩ | ⟨he, hEF⟩
            · have K := hide (KG.out wr _ HPi.out he1 he6)
              clear KB KG HQ HPO HSS HO1 HR0 HC0 HC1 HC2
              go_wp2_with fail
              refine (K.out).mono ?_
              rintro e w4 ⟨u, rfl, hu, hb4⟩
              obtain ⟨ad4, cp4, rfl, _, _, h4⟩ := hu
              obtain ⟨gb, og, rfl, hc4⟩ := h4 (by omega)
              have HC4 := hide hc4
              have B4 := hide (below_two B3.out hb4)
              obtain ⟨s00, k00, _⟩ := hc4 0 (by omega)
              rw [show og + 0 * 4 = og by omega, hf0.out] at k00
              clear hc4 h4 hb4 K HPi
              go_wp2
              go_loop [13] (fun i => ∃ q : Nat, q ≤ j ∧ i = .int .i64 q) (fun i => j - (intOf i).toNat)
              case atStart => exact ⟨0, Nat.zero_le _, rfl⟩
              case round =>
                obtain ⟨q, hq, rfl⟩ := hrel
                by_cases hql : q < j
                · obtain ⟨sq, k0, k1, k2, k3, hi⟩ := HC4.out q hql
                  rw [hfn.out] at hi
                  obtain ⟨adq, cpq, rfl⟩ := slice_shape hi
                  have HI := hide hi
                  have HF := hide (hfz.out q)
                  clear hi
                  generalize (C q).al = al at *
                  generalize (C q).x = X at *
                  generalize (C q).y = Y at *
                  generalize (C q).f = F at *
                  go_wp2
                  go_loop [14] (fun i => ∃ k : Nat, k ≤ m ∧ i = .int .i64 k) (fun i => m - (intOf i).toNat)
                  case atStart => exact ⟨0, Nat.zero_le _, rfl⟩
                  case round =>
                    obtain ⟨k, hk, rfl⟩ := hrel
                    by_cases hkl : k < m
                    · cases al with
                      | true =>
                        go_wp2
                        go_round
                        case rel => exact ⟨k + 1, by omega, by go_num⟩
                        case measure => simp [intOf]; omega
                      | false =>
                        have hz := HF.out rfl k hkl
                        obtain ⟨bq, oq, cq, hqe, hqc⟩ : ∃ b o c, Value.slice adq m cpq = .slice (some ⟨b, o, none⟩) m c ∧ ∀ i, i < m → w4.cell? ⟨b, o + i, none⟩ = some (.int .i64 (F i)) := by
                          rcases HI.out with ⟨h, _⟩ | ⟨_, b, o, c, e, hc⟩
                          · omega
                          · exact ⟨_, _, _, e, hc⟩
                        obtain ⟨rfl, rfl⟩ : adq = some ⟨bq, oq, none⟩ ∧ cpq = cq := by cases hqe; exact ⟨rfl, rfl⟩
                        have hck := hqc k hkl
                        rw [hz] at hck
                        clear hqc hqe hz HI HF
                        go_wp2
                        go_round
                        case rel => exact ⟨k + 1, by omega, by go_num⟩
                        case measure => simp [intOf]; omega
                    · obtain rfl : k = m := by omega
                      go_wp2
                      go_round
                      case rel => exact ⟨q + 1, by omega, by go_num⟩
                      case measure => simp [intOf]; omega
                · obtain rfl : q = j := by omega
                  go_wp2
                  go_ret
                  exact ⟨ret_bool (by first | rfl | simp), B4.out⟩
            · have K := hide (KB.out wr _ HPi.out hEF)
              have HN := hide (errN_pos hEF)
              clear KB KG HQ HPO HSS HO1 HR0 HC0 HC1 HC2
              rcases he with he | he
              · go_wp2_with fail
                refine (K.out).mono ?_
                rintro e w4 ⟨rfl, hb4⟩
                rw [HN.out]
                have B4 := hide (below_two B3.out hb4)
                clear hb4
                go_wp2
                go_ret
                exact ⟨rfl, B4.out⟩
              · go_wp2_with fail
                refine (K.out).mono ?_
                rintro e w4 ⟨rfl, hb4⟩
                rw [HN.out]
                have B4 := hide (below_two B3.out hb4)
                clear hb4
                go_wp2
                go_ret
                exact ⟨ret_bool (by first | rfl | simp | (simp; omega)), B4.out⟩
      · have HN := hide (errN_pos hp)
        generalize picF a b m f = k at *
        rw [HN.out] at KC
        subst hW1
        clear hp
        go_enter Tryd.func4, Tryd.ntmps4
        go_wp2_with fail
        refine (KC.out).mono ?_
        rintro e w1 ⟨rfl, hb1⟩
        have Bq := hide (below_two B1.out hb1)
        clear hb1
        go_wp2_with fail
        refine (KN.out _).mono ?_
        rintro e w2 ⟨rfl, hb2⟩
        have E2 := hide (EK.out w2 (below_two Bq.out hb2))
        have B2 := hide (below_two Bq.out hb2)
        clear hb2
        go_wp2_with fail
        refine (E2.out).mono ?_
        rintro e w3 ⟨rfl, hb3⟩
        have B3 := hide (below_two B2.out hb3)
        clear hb3
        go_wp2
        go_ret
        exact ⟨rfl, B3.out⟩
end Go.Proofs.YtfgcngjggdjcjaaDoor
