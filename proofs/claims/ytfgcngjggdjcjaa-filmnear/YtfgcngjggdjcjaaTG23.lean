/-
  Lemmas for the law above, joined into one text (PicQ, FlS, PicR). No statement is proved here.
-/
import Derived.Test.YtfgcngjggdjcjaaTG0
import Derived.Test.YtfgcngjggdjcjaaTG5
import Derived.Test.YtfgcngjggdjcjaaTG4
import Derived.Deep.RegionHeld3
import Derived.Test.YtfgcngjggdjcjaaTG10
import Derived.Shelf.Bits.Mul64
import Derived.Laws.CopyOwn
import Derived.Deep.RegionLaw
import Derived.Deep.DrawnRows
import Derived.Deep.DeepCutAuto
import Derived.Maps.AppendAt
namespace Go.Proofs.Ytfgcngjggdjcjaa
open Go.RowKit
set_option linter.unusedVariables false
set_option maxRecDepth 100000

set_option maxHeartbeats 1000000 in
theorem ints_rows_any (b o b2 o2 n c c2 : Nat) (f g : Nat → Int) (w : World) (hn : n ≤ 1000000)
    (h1 : ∀ i, i < n → w.cell? ⟨b, o + i, none⟩ = some (.int .i64 (f i))) (h2 : ∀ i, i < n → w.cell? ⟨b2, o2 + i, none⟩ = some (.int .i64 (g i))) :
    Calls Try.prog 27 #[.slice (some ⟨b, o, none⟩) n c, .slice (some ⟨b2, o2, none⟩) n c2] w fun e w' => ∃ r : Bool, e = .returned (.bool r) ∧ (r = true ↔ ∀ i, i < n → f i = g i) ∧ Below w.heap.size w w' := by
  have H1 := hide h1
  have H2 := hide h2
  clear h1 h2
  go_enter Try.func27, Try.ntmps27
  go_wp2
  go_loopw [5] (fun i wr => ∃ j : Nat, j ≤ n ∧ i = .int .i64 j ∧ Below w.heap.size w wr ∧ ∀ q, q < j → f q = g q) (fun i _ => n - (intOf i).toNat)
  case atStart => exact ⟨0, Nat.zero_le _, rfl, Below.refl _ _, fun q hq => absurd hq (Nat.not_lt_zero _)⟩
  case round =>
    obtain ⟨j, hj, rfl, hb, hno⟩ := hrel
    have HN := hide hno
    clear hno
    by_cases hlt : j < n
    · have c1 := cell_below hb (H1.out j hlt)
      have c2 := cell_below hb (H2.out j hlt)
      by_cases hz : f j = g j
      · have HZ := hide hz
        rw [← hz] at c2
        clear hz
        generalize f j = y at c1 c2
        go_wp2_with fail
        go_quiet (fail)
        go_wp2
        go_roundw
        case rel =>
          refine ⟨j + 1, by omega, by go_num, below_drewN hb _, fun q hq => ?_⟩
          by_cases c : q = j
          · rw [c]; exact HZ.out
          · exact HN.out q (by omega)
        case measure => simp [intOf]; omega
      · have HZ := hide hz
        have e1 : (f j == g j) = false := by rw [beq_eq_false_iff_ne]; exact hz
        have e2 : (f j != g j) = true := by simp [bne, e1]
        clear hz
        generalize hfj : f j = y at *
        generalize hgj : g j = z at *
        have F1 := hide hfj
        have F2 := hide hgj
        clear hfj hgj
        go_wp2_with fail
        go_quiet (fail)
        go_wp2
        go_ret
        exact ⟨false, rfl, ⟨fun h => Bool.noConfusion h, fun h => absurd (by rw [← F1.out, ← F2.out]; exact h j hlt) HZ.out⟩, below_drewN hb _⟩
    · obtain rfl : j = n := by omega
      go_wp2
      go_ret
      exact ⟨true, rfl, ⟨fun _ => HN.out, fun _ => rfl⟩, hb⟩

theorem ints_any {v v2 : Value} {n n2 : Nat} {f g : Nat → Int} {w : World} (hn : n ≤ 1000000) (h : IntsIn w v n f) (h2 : IntsIn w v2 n2 g) :
    Calls Try.prog 27 #[v, v2] w fun e w' => ∃ r : Bool, e = .returned (.bool r) ∧ (r = true ↔ n = n2 ∧ ∀ i, i < n → f i = g i) ∧ Below w.heap.size w w' := by
  by_cases hne : n = n2
  · subst hne
    rcases h with ⟨rfl, a, c, rfl⟩ | ⟨h0, b, o, c, rfl, hc⟩
    · rcases h2 with ⟨_, a2, c2, rfl⟩ | ⟨h0, _⟩
      · refine (ints_none a a2 c c2 w).mono ?_
        rintro e w' ⟨rfl, hb⟩
        exact ⟨true, rfl, ⟨fun _ => ⟨rfl, fun i hi => absurd hi (Nat.not_lt_zero _)⟩, fun _ => rfl⟩, hb⟩
      · omega
    · rcases h2 with ⟨rfl, _⟩ | ⟨_, b2, o2, c2, rfl, hc2⟩
      · omega
      · refine (ints_rows_any b o b2 o2 n c c2 f g w hn hc hc2).mono ?_
        rintro e w' ⟨r, rfl, hr, hb⟩
        exact ⟨r, rfl, ⟨fun h => ⟨rfl, hr.1 h⟩, fun h => hr.2 h.2⟩, hb⟩
  · obtain ⟨a, c, rfl⟩ : ∃ a c, v = .slice a n c := by
      rcases h with ⟨rfl, a, c, rfl⟩ | ⟨_, b, o, c, rfl, _⟩
      · exact ⟨_, _, rfl⟩
      · exact ⟨_, _, rfl⟩
    obtain ⟨a2, c2, rfl⟩ : ∃ a c, v2 = .slice a n2 c := by
      rcases h2 with ⟨rfl, a, c, rfl⟩ | ⟨_, b, o, c, rfl, _⟩
      · exact ⟨_, _, rfl⟩
      · exact ⟨_, _, rfl⟩
    have HZ := hide hne
    have e1 : ((n : Int) == (n2 : Int)) = false := by rw [beq_eq_false_iff_ne]; omega
    have e2 : ((n : Int) != (n2 : Int)) = true := by simp [bne, e1]
    clear h h2 hne
    go_enter Try.func27, Try.ntmps27
    go_wp2
    go_ret
    exact ⟨false, rfl, ⟨fun h => Bool.noConfusion h, fun h => absurd h.1 HZ.out⟩, Below.refl _ _⟩

set_option maxHeartbeats 1000000 in
theorem pics_any {v v2 : Value} {n n2 : Nat} {f g : Nat → Int} {w : World} (a b a2 b2 : Int) (hn : n ≤ 1000000) (h : IntsIn w v n f) (h2 : IntsIn w v2 n2 g) :
    Calls Try.prog 19 #[.agg #[.int .i64 a, .int .i64 b, v], .agg #[.int .i64 a2, .int .i64 b2, v2]] w fun e w' => ∃ r : Bool, e = .returned (.bool r) ∧ (r = true ↔ a = a2 ∧ b = b2 ∧ n = n2 ∧ ∀ i, i < n → f i = g i) ∧ Below w.heap.size w w' := by
  obtain ⟨W1, hW1⟩ : ∃ W1, W1 = w.alloc (.cells #[.int .i64 a, .int .i64 b, v] 25) := ⟨_, rfl⟩
  obtain ⟨W2, hW2⟩ : ∃ W2, W2 = W1.alloc (.cells #[.int .i64 a2, .int .i64 b2, v2] 25) := ⟨_, rfl⟩
  have b1 : Below w.heap.size w W1 := hW1 ▸ (Below.refl _ _).alloc (Nat.le_refl _) _
  have b2' : Below W1.heap.size W1 W2 := hW2 ▸ (Below.refl _ _).alloc (Nat.le_refl _) _
  have hb2 := below_two b1 b2'
  have p1 : PicIn W2 w.heap.size a b v := PicIn.below (hW1 ▸ picIn_new w a b v) b2'
  have p2 : PicIn W2 (w.heap.size + 1) a2 b2 v2 := by
    have := picIn_new W1 a2 b2 v2
    rw [← hW2] at this
    rwa [show W1.heap.size = w.heap.size + 1 by rw [hW1]; simp] at this
  have I := hide (ints_any hn (h.below hb2) (h2.below hb2))
  have B2 := hide hb2
  subst hW2
  subst hW1
  obtain ⟨⟨c0, _⟩, ⟨c1, _⟩, c2, _⟩ := p1
  obtain ⟨⟨c3, _⟩, ⟨c4, _⟩, c5, _⟩ := p2
  clear h h2 b1 b2' hb2
  by_cases ha : a = a2
  · by_cases hb : b = b2
    · have HA := hide ha
      have HB := hide hb
      have e1 : (a == a2) = true := by rw [beq_iff_eq]; exact ha
      have e2 : (b == b2) = true := by rw [beq_iff_eq]; exact hb
      clear ha hb
      go_enter Try.func19, Try.ntmps19
      go_wp2_with fail
      refine (I.out).mono ?_
      rintro e w1 ⟨r, rfl, hr, hb1⟩
      have HR := hide hr
      have B3 := hide (below_two B2.out hb1)
      clear hr hb1
      go_wp2
      go_ret
      exact ⟨r, rfl, ⟨fun h => ⟨HA.out, HB.out, HR.out.1 h⟩, fun h => HR.out.2 h.2.2⟩, B3.out⟩
    · have HB := hide hb
      have e1 : (a == a2) = true := by rw [beq_iff_eq]; exact ha
      have e2 : (b == b2) = false := by rw [beq_eq_false_iff_ne]; exact hb
      clear ha hb
      go_enter Try.func19, Try.ntmps19
      go_wp2
      go_ret
      exact ⟨false, rfl, ⟨fun h => Bool.noConfusion h, fun h => absurd h.2.1 HB.out⟩, B2.out⟩
  · have HA := hide ha
    have e1 : (a == a2) = false := by rw [beq_eq_false_iff_ne]; exact ha
    clear ha
    go_enter Try.func19, Try.ntmps19
    go_wp2
    go_ret
    exact ⟨false, rfl, ⟨fun h => Bool.noConfusion h, fun h => absurd h.1 HA.out⟩, B2.out⟩
theorem pics_alike {v v2 : Value} {n : Nat} {f g : Nat → Int} {w : World} (a b : Int) (hn : n ≤ 1000000) (h : IntsIn w v n f) (h2 : IntsIn w v2 n g) (e : ∀ i, i < n → f i = g i) :
    Calls Try.prog 19 #[.agg #[.int .i64 a, .int .i64 b, v], .agg #[.int .i64 a, .int .i64 b, v2]] w fun e w' => e = .returned (.bool true) ∧ Below w.heap.size w w' := by
  refine (pics_any a b a b hn h h2).mono ?_
  rintro x w' ⟨r, rfl, hr, hb⟩
  rw [hr.2 ⟨rfl, rfl, rfl, e⟩]
  exact ⟨rfl, hb⟩
end Go.Proofs.Ytfgcngjggdjcjaa

namespace Go.Proofs.Ytfgcngjggdjcjaa
open Go.RowKit
set_option linter.unusedVariables false
set_option maxRecDepth 100000

set_option maxHeartbeats 4000000 in
theorem picss_same {v v2 : Value} {N : Nat} {P : Nat → Pc} {w : World} (hN : N ≤ 1000) (hn : ∀ i, i < N → (P i).n ≤ 1000000) (h : PicsIn w v N P) (h2 : PicsIn w v2 N P) :
    Calls Try.prog 8 #[v, v2] w fun e w' => e = .returned (.bool true) ∧ Below w.heap.size w w' := by
  have H1 := hide h
  have H2 := hide h2
  have HN := hide hn
  obtain ⟨ad, cap, rfl, _, _, h3⟩ := h
  obtain ⟨ad2, cap2, rfl, _, _, h4⟩ := h2
  have H3 := hide h3
  have H4 := hide h4
  clear h3 h4 hn
  go_enter Try.func8, Try.ntmps8
  go_wp2
  go_loopw [5] (fun i wr => ∃ j : Nat, j ≤ N ∧ i = .int .i64 j ∧ Below w.heap.size w wr) (fun i _ => N - (intOf i).toNat)
  case atStart => exact ⟨0, Nat.zero_le _, rfl, Below.refl _ _⟩
  case round =>
    obtain ⟨j, hj, rfl, hb⟩ := hrel
    have HB := hide hb
    clear hb
    by_cases hlt : j < N
    · obtain ⟨b, o, rfl, hc⟩ := H3.out (by omega)
      obtain ⟨b2, o2, rfl, hc2⟩ := H4.out (by omega)
      obtain ⟨s, hs⟩ := hc j hlt
      obtain ⟨s2, hs2⟩ := hc2 j hlt
      obtain ⟨c0, c1, c2, hi⟩ := hs.below HB.out
      obtain ⟨d0, d1, d2, hi2⟩ := hs2.below HB.out
      have K := hide (fun W (hW : Below wr.heap.size wr W) => pics_alike (P j).a (P j).b (HN.out j hlt) (hi.below hW) (hi2.below hW) (fun i _ => rfl))
      clear hc hc2 hs hs2 H3 H4 hi hi2
      generalize (P j).a = pa at *
      generalize (P j).b = pb at *
      go_wp2_with fail
      go_region_held3 (fun w' => w'.cell? ⟨b, o + j * 3, none⟩ = some (.int .i64 pa) ∧ w'.cell? ⟨b, o + j * 3 + 1, none⟩ = some (.int .i64 pb) ∧ w'.cell? ⟨b, o + j * 3 + 2, none⟩ = some s ∧ w'.cell? ⟨b2, o2 + j * 3, none⟩ = some (.int .i64 pa) ∧ w'.cell? ⟨b2, o2 + j * 3 + 1, none⟩ = some (.int .i64 pb) ∧ w'.cell? ⟨b2, o2 + j * 3 + 2, none⟩ = some s2) (first | go_keep | exact ⟨cell_below hb3 c0, cell_below hb3 c1, cell_below hb3 c2, cell_below hb3 d0, cell_below hb3 d1, cell_below hb3 d2⟩)
        (first | (go_at_call 19; refine (K.out wr.drew ⟨rfl, rfl, rfl, Nat.le_refl _, fun _ _ => rfl⟩).mono ?_; rintro e w3 ⟨rfl, hb3'⟩; have hb3 : Below wr.heap.size wr w3 := ⟨hb3'.os, hb3'.tape, hb3'.output, hb3'.size, hb3'.block⟩))
      have HB3 := hide (HB.out.trans (hb3.mono HB.out.size))
      clear hb3 hb3' c0 c1 c2 d0 d1 d2 K
      go_wp2
      go_roundw
      case rel => exact ⟨j + 1, by omega, by go_num, HB3.out⟩
      case measure => simp [intOf]; omega
    · obtain rfl : j = N := by omega
      go_wp2
      go_ret
      exact ⟨rfl, HB.out⟩
end Go.Proofs.Ytfgcngjggdjcjaa

namespace Go.Proofs.Ytfgcngjggdjcjaa
open Go.RowKit Go.Shelf Go.Maps
set_option linter.unusedVariables false
set_option maxRecDepth 100000

def renMul : Go.Shelf.Ren := ⟨fun | 212 => 20 | 263 => 28 | 264 => 29 | n => n,
  fun | 9 => 9 | 3 => 3 | 4 => 4 | 0 => 0 | 46 => 55 | 51 => 64 | 53 => 67 | 109 => 56 | 146 => 65 | 148 => 68 | n => n, fun | n => n⟩
theorem laysMul : Go.Proofs.Lays.n212 Try.prog renMul := by constructor <;> (intros; kernel_rfl)
theorem bmul_one (m : Nat) (hm : m ≤ 1000) (w : World) :
    Calls Try.prog 20 #[.int .u64 1, .int .u64 m] w fun e w' => e = .returned (.tuple #[.int .u64 0, .int .u64 m]) ∧ w = w' := by
  refine (Any.bits_Mul laysMul 1 m (by omega) (by omega) w).mono ?_
  rintro e w' ⟨rfl, rfl⟩
  refine ⟨?_, rfl⟩
  rw [Nat.one_mul, Nat.div_eq_of_lt (by omega), Nat.mod_eq_of_lt (by omega)]
  rfl

/-- A row of m, the first j of which are k. -/
def repL (k : Int) (m j : Nat) : List Value := List.replicate j (.int .i64 k) ++ List.replicate (m - j) (.int .i64 0)
def repC (k : Int) (c : Nat) : List Value := List.replicate c (.int .i64 k)
theorem repL_len {k : Int} {m j : Nat} (h : j ≤ m) : (repL k m j).length = m := by simp [repL]; omega
theorem repC_len (k : Int) (c : Nat) : (repC k c).length = c := by simp [repC]
theorem repC_one {k : Int} {c : Nat} : ∀ v ∈ repC k c, v.oneCell' = true := fun v hv => by
  rw [repC, List.mem_replicate] at hv
  rw [hv.2]; rfl
theorem rep_splice {k : Int} {m j c : Nat} (h : j + c ≤ m) : splice (repL k m j) j (repC k c) = repL k m (j + c) := by
  unfold splice repL repC
  rw [List.take_append_of_le_length (by simp), List.take_of_length_le (by simp), List.length_replicate]
  rw [List.drop_append, List.drop_of_length_le (by simp), List.length_replicate, List.drop_replicate, List.nil_append]
  rw [← List.append_assoc, List.replicate_append_replicate]
  congr 2
  omega
theorem rep_src {w : World} {g : Nat} {k : Int} {m j c : Nat} {t : TypeId} (hg : w.heap[g]? = some (.cells (repL k m j).toArray t (0, 0))) (hc : c ≤ j) : ∀ i v, (repC k c)[i]? = some v → w.cell? ((⟨g, 0, none⟩ : Addr).add i) = some v := by
  intro i v hv
  refine World.news_of_block hg i v ?_
  show (repL k m j)[i]? = some v
  have hi : i < c := by
    rw [← repC_len k c]; exact (List.getElem?_eq_some_iff.1 hv).1
  rw [repL, List.getElem?_append_left (by simp; omega), List.getElem?_replicate, if_pos (by omega)]
  rwa [repC, List.getElem?_replicate, if_pos hi] at hv
theorem rep_new {w : World} {b : Nat} {t : TypeId} {m : Nat} (h : w.rowIs b t m (fun _ => .int .i64 0)) (k : Int) : w.heap[b]? = some (.cells (repL k m 0).toArray t (0, 0)) := by
  obtain ⟨c, h1, h2, h3⟩ := h
  rw [h1]
  have e : c.toList = repL k m 0 := by
    apply List.ext_getElem?
    intro i
    rw [Array.getElem?_toList, repL, List.replicate_zero, List.nil_append, Nat.sub_zero, List.getElem?_replicate]
    by_cases hi : i < m
    · rw [h3 i hi, if_pos hi]
    · rw [if_neg hi, Array.getElem?_eq_none (by omega)]
  rw [← e]
theorem rep_in {w : World} {g : Nat} {k : Int} {m : Nat} {t : TypeId} (hg : w.heap[g]? = some (.cells (repL k m m).toArray t (0, 0))) (cap : Nat) : IntsIn w (.slice (some ⟨g, 0, none⟩) m cap) m (fun _ => k) := by
  rcases Nat.eq_zero_or_pos m with rfl | h0
  · exact Or.inl ⟨rfl, _, _, rfl⟩
  · refine Or.inr ⟨h0, g, 0, cap, rfl, fun i hi => ?_⟩
    have := rep_src (c := m) hg (Nat.le_refl _) i (.int .i64 k) (by rw [repC, List.getElem?_replicate, if_pos hi])
    rw [Addr.add_lit] at this
    exact this

set_option maxHeartbeats 2000000 in
theorem prepeat_ok {w : World} {b c1 : Nat} (k : Int) (m : Nat) (h1 : 1 ≤ m) (hm : m ≤ 1000) (hc : w.cell? ⟨b, 0, none⟩ = some (.int .i64 k)) :
    Calls Try.prog 11 #[.slice (some ⟨b, 0, none⟩) 1 c1, .int .i64 m] w fun e w' => ∃ v, e = .returned v ∧ IntsIn w' v m (fun _ => k) ∧ Below w.heap.size w w' ∧ ∀ g, v.ownBlock = some g → w.heap.size ≤ g := by
  have M := hide (bmul_one m hm)
  have hmk := run_make_row' (P := Try.prog) 23 3 (.int .i64 0) 8 Try.underlying23 Try.infoInt rfl .i64 .i64 m (by omega) (by omega)
  have hb0 : Below w.heap.size w (w.alloc (.cells (madeCells #[.int .i64 0] m) 3)) := (Below.refl _ _).alloc (Nat.le_refl _) _
  have R0 := hide (rep_new (World.rowIs_made w (.int .i64 0) m 3) k)
  have hc0 := cell_below hb0 hc
  have HSZ : Hid ((Try.prog.info? 3).map (·.size) = some 1) := by
    unfold Hid
    obtain ⟨i0, hi0, _, hz1, _⟩ := info_parts Try.infoInt
    rw [hi0]; simp [hz1]
  have HB0 := hide hb0
  obtain ⟨cs1, hcs1⟩ : ∃ cs, cs = repC k 1 := ⟨_, rfl⟩
  have hl1 : cs1.length = 1 := by rw [hcs1, repC_len]
  have HO1 : Hid (∀ v ∈ cs1, v.oneCell' = true) := by unfold Hid; rw [hcs1]; exact repC_one
  have HS1 : Hid (∀ j v, cs1[j]? = some v → (w.alloc (.cells (madeCells #[.int .i64 0] m) 3)).cell? ((⟨b, 0, none⟩ : Addr).add j) = some v) := by
    intro j v hv
    rw [hcs1] at hv
    have hj : j < 1 := by rw [← repC_len k 1]; exact (List.getElem?_eq_some_iff.1 hv).1
    obtain rfl : j = 0 := by omega
    rw [repC, List.getElem?_replicate, if_pos hj] at hv
    cases hv
    rw [Addr.add_lit]
    exact hc0
  have HL0 := hide (repL_len (k := k) (Nat.zero_le m))
  have HC1 := hide hcs1
  clear hc hb0 hc0 hcs1
  go_enter Try.func11, Try.ntmps11
  go_wp2_with fail
  refine (M.out _).mono ?_
  rintro e w1 ⟨rfl, rfl⟩
  go_wp2_with (refine wpList_copy_splice rfl (.tmp 31) (.tmp 32) 23 23 rfl 3 Try.underlying23 HSZ.out (some ⟨w.heap.size, 0, none⟩) (some ⟨b, 0, none⟩) m m 1 c1 rfl rfl w.heap.size 0 (repL k m 0) 3 R0.out cs1 (by rw [hl1]; show 1 = min 1 m; omega) (fun _ => ⟨rfl, _, rfl, HS1.out⟩) (by rw [HL0.out, hl1]; omega) HO1.out w.heap.size w HB0.out (Nat.le_refl _) ?_; intro w2 hg2 hb2)
  
  go_loopw [8] (fun i wr => ∃ j : Nat, 1 ≤ j ∧ j ≤ m ∧ i = .int .i64 j ∧ Hid (wr.heap[w.heap.size]? = some (.cells (repL k m j).toArray 3 (0, 0))) ∧ Below w.heap.size w wr) (fun i _ => m - (intOf i).toNat)
  case atStart =>
    refine ⟨1, Nat.le_refl _, h1, rfl, ?_, hb2⟩
    have h9 := hg2.out
    rw [HC1.out, rep_splice (by omega), Nat.zero_add] at h9
    exact h9
  case round =>
    obtain ⟨j, hj1, hj, rfl, hg, hb⟩ := hrel
    by_cases hlt : j < m
    · obtain ⟨c, hc⟩ : ∃ c, c = min j (m - j) := ⟨_, rfl⟩
      obtain ⟨cs, hcs⟩ : ∃ cs, cs = repC k c := ⟨_, rfl⟩
      have hcl : cs.length = c := by rw [hcs, repC_len]
      have HO : Hid (∀ v ∈ cs, v.oneCell' = true) := by unfold Hid; rw [hcs]; exact repC_one
      have HS : Hid (∀ i v, cs[i]? = some v → wr.cell? ((⟨w.heap.size, 0, none⟩ : Addr).add i) = some v) := by
        unfold Hid; rw [hcs]; exact rep_src hg.out (by omega)
      have HF : Hid (j + cs.length ≤ (repL k m j).length) := by unfold Hid; rw [hcl, repL_len (by omega)]; omega
      have HN : Hid (cs.length = Nat.min j (m - j)) := by unfold Hid; rw [hcl, hc]
      have HCS := hide hcs
      have HB := hide hb
      have hcb : c ≤ m - j := by omega
      have hc0 : 1 ≤ c := by omega
      have hwr : IntKind.i64.wrap ((j : Int) + (c : Int)) = (j : Int) + (c : Int) := by rw [IntKind.wrap_i64]; omega
      clear hcs hb hc
      go_wp2_with fail
      go_region_law (refine step_copy_splice rfl (.tmp 41) (.tmp 44) 23 23 rfl 3 Try.underlying23 HSZ.out (some ⟨w.heap.size, j, none⟩) (some ⟨w.heap.size, 0, none⟩) (m - j) (m - j) j m (by simp [Act.eval, Act.put] <;> omega) (by simp [Act.eval, Act.put]) w.heap.size j (repL k m j) 3 hg.out cs HN.out (fun _ => ⟨rfl, _, rfl, HS.out⟩) HF.out HO.out w.heap.size w HB.out.drew (Nat.le_refl _) ?_; intro w4 hg4 hb4)
      all_goals
        go_wp2_with fail
        go_roundw
        case rel =>
          have h9 := hg4.out
          rw [HCS.out, rep_splice (by omega)] at h9
          have R : 1 ≤ j + c ∧ j + c ≤ m ∧ Value.int .i64 ((j : Int) + (c : Int)) = .int .i64 ((j + c : Nat) : Int) ∧ Hid (w4.heap[w.heap.size]? = some (.cells (repL k m (j + c)).toArray 3 (0, 0))) ∧ Below w.heap.size w w4 :=
            ⟨by omega, by omega, by simp, h9, hb4⟩
          first
            | exact ⟨j + c, R⟩
            | exact ⟨j + c, by omega, by omega, by simp, h9⟩
            | ((repeat apply Exists.intro); exact ⟨⟨j + c, R⟩, rfl⟩)
        case measure => simp [intOf]; omega
    · obtain rfl : j = m := by omega
      go_wp2
      go_ret
      exact ⟨_, rfl, rep_in hg.out _, hb, fun g hg => by cases hg; exact Nat.le_refl _⟩
end Go.Proofs.Ytfgcngjggdjcjaa
