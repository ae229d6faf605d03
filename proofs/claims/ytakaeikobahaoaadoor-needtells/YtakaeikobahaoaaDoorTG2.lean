/-
  Lemmas for the law above, joined into one text (U8, RXor, RLine). No statement is proved here.
-/
import Derived.Test.YtakaeikobahaoaaDoorTG1
import Derived.Deep.AppendLies
import Derived.Laws.BytesArg
import Derived.Deep.OwnRows
import Derived.Deep.MidRow
import Derived.Laws.ResultCell
import Derived.Deep.DeepCutAuto
import Derived.Deep.CutRange
namespace Go.Proofs.YtakaeikobahaoaaDoor
open Go.RowKit
set_option linter.unusedVariables false
set_option maxRecDepth 100000

theorem Tryd.infoU8 : (Tryd.prog.info? 5).map (fun i => (i.zero, i.size, i.bytes)) = some (some (.int .u8 0), 1, 1) := by kernel_rfl
end Go.Proofs.YtakaeikobahaoaaDoor

namespace Go.Proofs.YtakaeikobahaoaaDoor
open Go.RowKit
set_option linter.unusedVariables false
set_option maxRecDepth 100000

theorem bit_step (X Y k : Nat) : (X ^^^ Y) % 2 ^ (k + 1) = (X ^^^ Y) % 2 ^ k + if X / 2 ^ k % 2 = Y / 2 ^ k % 2 then 0 else 2 ^ k := by
  rw [Nat.mod_pow_succ, ← Nat.toNat_testBit, Nat.testBit_xor, Nat.testBit_eq_decide_div_mod_eq, Nat.testBit_eq_decide_div_mod_eq]
  have hx := Nat.mod_two_eq_zero_or_one (X / 2 ^ k)
  have hy := Nat.mod_two_eq_zero_or_one (Y / 2 ^ k)
  rcases hx with hx | hx <;> rcases hy with hy | hy <;> simp [hx, hy]

theorem own_bytes {w : World} {B : Nat} {v : Value} {n : Nat} {f : Nat → UInt8} (h : w.ownsRow B 5 1 v n ((List.range n).map fun k : Nat => .int .u8 ((f k).toNat : Int))) (hn : 0 < n) :
    ∃ g cap, v = .slice (some ⟨g, 0, none⟩) n cap ∧ BRow w g n f := by
  have h' := h
  rcases h.2 with ⟨_, h0⟩ | ⟨g, cap, cur, hv, _, hg, h1, h2, hcs, hcur⟩
  · omega
  · rw [hv] at h'
    refine ⟨g, cap, hv, fun k hk => ⟨?_, h'.frozenAt k⟩⟩
    rw [h'.cellAt k (by omega)]
    simp [hk]

set_option maxHeartbeats 2000000 in
theorem rxor_ok (a b : ByteArray) (w : World) (ha : a.size ≤ 120) (h : b.size = a.size) :
    Calls Tryd.prog 31 #[.string a, .string b] w fun e w' => e = .returned (.string (xorB a b)) ∧ Below w.heap.size w w' := by
  obtain ⟨i0, hi, hz0, hzs, hzb⟩ := info_parts Tryd.infoU8
  have Hi := hide hi
  have Hz0 := hide hz0
  have Hzs := hide hzs
  have Hzb := hide hzb
  have HB := hide h
  clear hi hz0 hzs hzb h
  go_enter Tryd.func31, Tryd.ntmps31
  go_wp2
  go_loopw [5, 6, 7, 8, 9, 10, 11] (fun v i x y n p k wr => ∃ (j : Nat) (ao : Option Addr) (cv : Nat), j ≤ a.size ∧ i = .int .i64 j ∧ v = .slice ao j cv ∧ wr.ownsRow w.heap.size 5 1 v j ((List.range j).map fun k : Nat => .int .u8 ((atB a k ^^^ atB b k).toNat : Int)) ∧ Below w.heap.size w wr) (fun _ i _ _ _ _ _ _ => a.size - (intOf i).toNat)
  case atStart => exact ⟨0, none, 0, Nat.zero_le _, rfl, rfl, World.ownsRow_nil _ _ _ _, Below.refl _ _⟩
  case round =>
    obtain ⟨j, ao, cv, hj, rfl, rfl, hown, hb⟩ := hrel
    by_cases hlt : j < a.size
    · have hlb : j < b.size := by rw [HB.out]; exact hlt
      have HOwn := hide hown
      clear hown
      have hX := (a[j]).toNat_lt
      have hY := (b[j]).toNat_lt
      have hxy : Hid ((((a[j]).toNat ^^^ (b[j]).toNat : Nat)) = (atB a j ^^^ atB b j).toNat) := by
        unfold Hid; rw [atB_eq a j hlt, atB_eq b j hlb, UInt8.toNat_xor]
      go_wp2
      generalize (a[j]).toNat = X at *
      generalize (b[j]).toNat = Y at *
      go_loop [7, 8, 9, 10, 11] (fun x y n p k => ∃ q : Nat, q ≤ 8 ∧ k = .int .i64 q ∧ x = .int .i64 (X / 2 ^ q : Nat) ∧ y = .int .i64 (Y / 2 ^ q : Nat) ∧ n = .int .i64 ((X ^^^ Y) % 2 ^ q : Nat) ∧ p = .int .i64 (2 ^ q : Nat)) (fun _ _ _ _ k => 8 - (intOf k).toNat)
      case atStart => exact ⟨0, by decide, rfl, by simp, by simp, by simp [Nat.mod_one], rfl⟩
      case round =>
        obtain ⟨q, hq, rfl, rfl, rfl, rfl, rfl⟩ := hrel
        by_cases hq8 : q < 8
        · have hs := bit_step X Y q
          have e1 : X / 2 ^ (q + 1) = X / 2 ^ q / 2 := by rw [Nat.pow_succ, Nat.div_div_eq_div_mul]
          have e2 : Y / 2 ^ (q + 1) = Y / 2 ^ q / 2 := by rw [Nat.pow_succ, Nat.div_div_eq_div_mul]
          have e3 : 2 ^ (q + 1) = 2 * 2 ^ q := by rw [Nat.pow_succ, Nat.mul_comm]
          have l1 : X / 2 ^ q ≤ 255 := Nat.le_trans (Nat.div_le_self _ _) (by omega)
          have l2 : Y / 2 ^ q ≤ 255 := Nat.le_trans (Nat.div_le_self _ _) (by omega)
          have l3 : 2 ^ q ≤ 128 := Nat.pow_le_pow_right (n := 2) (by decide) (show q ≤ 7 by omega)
          have l4 : (X ^^^ Y) % 2 ^ q ≤ 128 := by
            have := Nat.mod_lt (X ^^^ Y) (show 2 ^ q > 0 from Nat.pow_pos (by decide))
            omega
          have E1 := hide e1
          have E2 := hide e2
          have E3 := hide e3
          have HS := hide hs
          clear e1 e2 e3 hs
          generalize X / 2 ^ q = xq at *
          generalize Y / 2 ^ q = yq at *
          generalize (X ^^^ Y) % 2 ^ q = nq at *
          generalize 2 ^ q = pq at *
          by_cases hxq : xq % 2 = yq % 2
          · have hne : ((xq : Int) % 2 != (yq : Int) % 2) = false := by
              have : (xq : Int) % 2 = (yq : Int) % 2 := by omega
              rw [this]; simp
            have HXQ := hide hxq
            clear hxq
            go_wp2
            go_round
            case rel => exact ⟨q + 1, by omega, by go_num, by rw [E1.out]; simp, by rw [E2.out]; simp, by rw [HS.out, if_pos HXQ.out, Nat.add_zero], by rw [E3.out]; simp⟩
            case measure => simp [intOf]; omega
          · have hne : ((xq : Int) % 2 != (yq : Int) % 2) = true := by rw [bne_iff_ne]; omega
            have HXQ := hide hxq
            clear hxq
            go_wp2
            go_round
            case rel => exact ⟨q + 1, by omega, by go_num, by rw [E1.out]; simp, by rw [E2.out]; simp, by rw [HS.out, if_neg HXQ.out]; simp, by rw [E3.out]; simp⟩
            case measure => simp [intOf]; omega
        · obtain rfl : q = 8 := by omega
          have hn8 : (X ^^^ Y) % 2 ^ 8 = (atB a j ^^^ atB b j).toNat := by
            rw [Nat.mod_eq_of_lt (Nat.xor_lt_two_pow (by omega) (by omega)), hxy.out]
          rw [hn8]
          have hU := (atB a j ^^^ atB b j).toNat_lt
          clear hn8 hxy
          generalize hu : atB a j ^^^ atB b j = u at *
          have HU := hide hu
          clear hu
          have hbs := hb.size
          go_wp2_with (at_builtin; refine wpList_append_lies _ rfl _ _ 97 rfl w.heap.size 5 i0 (.int .u8 0) 1 1 Tryd.underlying97 Hi.out Hz0.out Hzs.out Hzb.out rfl (by decide) _ _ _ rfl (HOwn.out.alloc _) ⟨wr.heap.size, 0, none⟩ 1 1 [.int .u8 (u.toNat : Int)] rfl rfl (cell_one_new _ _ _) (fun x hx => by simp at hx; subst hx; rfl) (by decide) (by unfold maxLen; omega) (by omega) (by simp; omega) _ rfl ?_; intro g3 cap3 w3 hown3 hgrow3 hat3 hlt3)
          go_roundw
          case rel =>
            have R : j + 1 ≤ a.size ∧ Value.int .i64 ((j : Int) + 1) = .int .i64 ((j + 1 : Nat) : Int) ∧ Value.slice (some ⟨g3, 0, none⟩) (j + 1) cap3 = .slice (some ⟨g3, 0, none⟩) (j + 1) cap3 ∧ w3.ownsRow w.heap.size 5 1 (.slice (some ⟨g3, 0, none⟩) (j + 1) cap3) (j + 1) ((List.range (j + 1)).map fun k : Nat => .int .u8 ((atB a k ^^^ atB b k).toNat : Int)) ∧ Below w.heap.size w w3 :=
              ⟨by omega, by simp, rfl, by rw [List.range_succ, List.map_append, List.map_singleton, HU.out]; exact hown3, (hb.alloc hbs _).grown hgrow3 (by simp; omega) (fun q hq => (HOwn.out.lt q hq).1)⟩
            first
              | exact ⟨j + 1, some ⟨g3, 0, none⟩, cap3, R⟩
              | ((repeat apply Exists.intro); exact ⟨⟨j + 1, some ⟨g3, 0, none⟩, cap3, R⟩, rfl⟩)
          case measure => simp [intOf]; omega
    · obtain rfl : j = a.size := by omega
      by_cases h0 : a.size = 0
      · have hx0 : ∀ f : Nat → UInt8, bytesB a.size f = ⟨#[]⟩ := fun f => by rw [h0]; rfl
        have HX : Hid (xorB a b = ⟨#[]⟩) := hx0 _
        rcases hown.2 with ⟨hv, _⟩ | ⟨g, cap, _, hv, _⟩
        · injection hv with e1 e2 e3
          subst e1 e3
          have hbk := run_convert_bytes_nil (P := Tryd.prog) wr 97 5 Tryd.underlying97 Tryd.underlying5 a.size 0 9 Tryd.underlying9
          have hbk0 := run_convert_bytes_nil (P := Tryd.prog) wr 97 5 Tryd.underlying97 Tryd.underlying5 0 0 9 Tryd.underlying9
          clear hown e2 h0 hx0
          go_wp2
          go_ret
          exact ⟨by rw [HX.out]; rfl, hb⟩
        · injection hv with e1 e2 e3
          subst e1 e3
          have hbk := back_row (cap := cv) (show BRow wr g a.size (fun _ => 0) from fun i hi => by omega)
          rw [hx0] at hbk
          clear hown e2 h0 hx0
          go_wp2
          go_ret
          exact ⟨by rw [HX.out]; rfl, hb⟩
      · obtain ⟨g, cap, hv, hr⟩ := own_bytes hown (by omega)
        injection hv with e1 e2 e3
        subst e1 e3
        have hbk := back_row (cap := cv) hr
        have HX : Hid (bytesB a.size (fun k => atB a k ^^^ atB b k) = xorB a b) := rfl
        clear hown e2 hr h0
        go_wp2
        go_ret
        exact ⟨rfl, hb⟩

set_option maxHeartbeats 1000000 in
theorem rin_no (b o n cap : Nat) (v : Int) (f : Nat → Int) (w : World) (hn : n ≤ maxLen)
    (hcell : ∀ i, i < n → w.cell? ⟨b, o + i, none⟩ = some (.int .i64 (f i))) (hs : ∀ i, i < n → f i ≠ v) :
    Calls Tryd.prog 22 #[.slice (some ⟨b, o, none⟩) n cap, .int .i64 v] w fun e w' => e = .returned (.bool false) ∧ w = w' := by
  unfold maxLen at hn
  have HC := hide hcell
  have HS := hide hs
  clear hcell hs
  go_enter Tryd.func22, Tryd.ntmps22
  go_wp2
  go_loop [5] (fun i => ∃ j : Nat, j ≤ n ∧ i = .int .i64 j) (fun i => n - (intOf i).toNat)
  case atStart => exact ⟨0, Nat.zero_le _, rfl⟩
  case round =>
    obtain ⟨j, hj, rfl⟩ := hrel
    by_cases hlt : j < n
    · have hc := HC.out j hlt
      have hz := HS.out j hlt
      have hz' : (f j == v) = false := by rw [beq_eq_false_iff_ne]; exact hz
      clear hz
      go_wp2
      go_round
      case rel => exact ⟨j + 1, by omega, by go_num⟩
      case measure => simp [intOf]; omega
    · go_wp2
      go_ret
      exact ⟨rfl, rfl⟩
set_option maxHeartbeats 1000000 in
theorem rin_yes (b o n cap : Nat) (v : Int) (f : Nat → Int) (w : World) (hn : n ≤ maxLen)
    (hcell : ∀ i, i < n → w.cell? ⟨b, o + i, none⟩ = some (.int .i64 (f i))) (q : Nat) (hq : q < n) (hs : f q = v) :
    Calls Tryd.prog 22 #[.slice (some ⟨b, o, none⟩) n cap, .int .i64 v] w fun e w' => e = .returned (.bool true) ∧ w = w' := by
  unfold maxLen at hn
  have HC := hide hcell
  have HS := hide hs
  clear hcell hs
  go_enter Tryd.func22, Tryd.ntmps22
  go_wp2
  go_loop [5] (fun i => ∃ j : Nat, j ≤ q ∧ i = .int .i64 j) (fun i => n - (intOf i).toNat)
  case atStart => exact ⟨0, Nat.zero_le _, rfl⟩
  case round =>
    obtain ⟨j, hj, rfl⟩ := hrel
    have hlt : j < n := by omega
    have hc := HC.out j hlt
    by_cases hz : f j = v
    · have hz' : (f j == v) = true := by rw [beq_iff_eq]; exact hz
      clear hz
      go_wp2
      go_ret
      exact ⟨rfl, rfl⟩
    · have hz' : (f j == v) = false := by rw [beq_eq_false_iff_ne]; exact hz
      have hne : j ≠ q := fun e => hz (by rw [e]; exact HS.out)
      have hlt2 : j < q := by omega
      clear hz hne
      go_wp2
      go_round
      case rel => exact ⟨j + 1, by omega, by go_num⟩
      case measure => simp [intOf]; omega
/-- 'in' as the list says it, whichever. -/
theorem rin_any (b o n cap : Nat) (v : Int) (f : Nat → Int) (w : World) (hn : n ≤ maxLen)
    (hcell : ∀ i, i < n → w.cell? ⟨b, o + i, none⟩ = some (.int .i64 (f i))) :
    ∃ r : Bool, (r = true ↔ ∃ q, q < n ∧ f q = v) ∧ Calls Tryd.prog 22 #[.slice (some ⟨b, o, none⟩) n cap, .int .i64 v] w fun e w' => e = .returned (.bool r) ∧ w = w' := by
  by_cases h : ∃ q, q < n ∧ f q = v
  · obtain ⟨q, hq, he⟩ := h
    exact ⟨true, by simp; exact ⟨q, hq, he⟩, rin_yes b o n cap v f w hn hcell q hq he⟩
  · exact ⟨false, by simp; exact fun q hq he => h ⟨q, hq, he⟩, rin_no b o n cap v f w hn hcell (fun i hi he => h ⟨i, hi, he⟩)⟩
end Go.Proofs.YtakaeikobahaoaaDoor

namespace Go.Proofs.YtakaeikobahaoaaDoor
open Go.RowKit
set_option linter.unusedVariables false
set_option maxRecDepth 100000

/-- A Line's cells: which places it has, and its bytes. -/
def linC (f : Nat → Bool) (d : ByteArray) : Array Value := #[.bool (f 0), .bool (f 1), .bool (f 2), .bool (f 3), .bool (f 4), .bool (f 5), .bool (f 6), .bool (f 7), .bool (f 8), .bool (f 9), .bool (f 10), .bool (f 11), .bool (f 12), .bool (f 13), .bool (f 14), .bool (f 15), .string d]
theorem linC_size (f : Nat → Bool) (d : ByteArray) : (linC f d).size = 17 := rfl
theorem linC_bit (f : Nat → Bool) (d : ByteArray) : ∀ {j : Nat}, j < 16 → (linC f d)[j]? = some (.bool (f j))
  | 0, _ => rfl
  | 1, _ => rfl
  | 2, _ => rfl
  | 3, _ => rfl
  | 4, _ => rfl
  | 5, _ => rfl
  | 6, _ => rfl
  | 7, _ => rfl
  | 8, _ => rfl
  | 9, _ => rfl
  | 10, _ => rfl
  | 11, _ => rfl
  | 12, _ => rfl
  | 13, _ => rfl
  | 14, _ => rfl
  | 15, _ => rfl
  | j + 16, h => absurd h (by omega)
theorem linC_data (f : Nat → Bool) (d : ByteArray) : (linC f d)[16]? = some (.string d) := rfl
/-- A Line as it lies, none of it frozen. -/
def LinF (w : World) (b o : Nat) (f : Nat → Bool) (d : ByteArray) : Prop :=
  (∀ j, j < 16 → w.cell? ⟨b, o + j, none⟩ = some (.bool (f j)) ∧ w.frozen? ⟨b, o + j, none⟩ = false) ∧ w.cell? ⟨b, o + 16, none⟩ = some (.string d) ∧ w.frozen? ⟨b, o + 16, none⟩ = false
theorem LinF.lt {w : World} {b o : Nat} {f : Nat → Bool} {d : ByteArray} (h : LinF w b o f d) : b < w.heap.size := cell_lt h.2.1
theorem LinF.of_block {w w' : World} {b o : Nat} {f : Nat → Bool} {d : ByteArray} (h : LinF w b o f d) (hb : w'.heap[b]? = w.heap[b]?) : LinF w' b o f d := by
  have hc : ∀ i, w'.cell? ⟨b, i, none⟩ = w.cell? ⟨b, i, none⟩ := fun i => World.cell?_of_block (w := w) hb
  have hf : ∀ i, w'.frozen? ⟨b, i, none⟩ = w.frozen? ⟨b, i, none⟩ := fun i => World.frozen?_of_block (w := w) hb
  refine ⟨fun j hj => ?_, ?_⟩
  · rw [hc, hf]; exact h.1 j hj
  · rw [hc, hf]; exact h.2
theorem LinF.below {w w' : World} {b o : Nat} {f : Nat → Bool} {d : ByteArray} (h : LinF w b o f d) (hb : Below w.heap.size w w') : LinF w' b o f d := h.of_block (hb.block b h.lt)
theorem LinF.congr {w : World} {b o : Nat} {f g : Nat → Bool} {d : ByteArray} (h : LinF w b o f d) (e : ∀ j, j < 16 → f j = g j) : LinF w b o g d := ⟨fun j hj => by rw [← e j hj]; exact h.1 j hj, h.2⟩
theorem LinF.set {w : World} {b o : Nat} {f : Nat → Bool} {d : ByteArray} (h : LinF w b o f d) {j : Nat} (hj : j < 16) (x : Bool) : LinF (w.setCell ⟨b, o + j, none⟩ (.bool x)) b o (fun i => if i = j then x else f i) d := by
  refine ⟨fun i hi => ⟨?_, by rw [World.frozen?_setCell]; exact (h.1 i hi).2⟩, ?_, by rw [World.frozen?_setCell]; exact h.2.2⟩
  · by_cases e : i = j
    · subst e
      rw [World.cell?_setCell_same _ _ _ (h.1 i hi).1]; simp
    · rw [World.cell?_setCell_other _ _ _ _ (fun h => e (by injection h with _ h; omega))]; simp only [if_neg e]; exact (h.1 i hi).1
  · rw [World.cell?_setCell_other _ _ _ _ (fun h => by injection h with _ h; omega)]; exact h.2.1
theorem LinF.data {w : World} {b o : Nat} {f : Nat → Bool} {d : ByteArray} (h : LinF w b o f d) (x : ByteArray) : LinF (w.setCell ⟨b, o + 16, none⟩ (.string x)) b o f x := by
  refine ⟨fun i hi => ⟨?_, by rw [World.frozen?_setCell]; exact (h.1 i hi).2⟩, World.cell?_setCell_same _ _ _ h.2.1, by rw [World.frozen?_setCell]; exact h.2.2⟩
  rw [World.cell?_setCell_other _ _ _ _ (fun h => by injection h with _ h; omega)]; exact (h.1 i hi).1
theorem LinF.other {w : World} {b o : Nat} {f : Nat → Bool} {d : ByteArray} (h : LinF w b o f d) {a : Addr} {v : Value} (hne : a.block ≠ b) : LinF (w.setCell a v) b o f d := h.of_block (Below.heap_setCell w a v b (fun e => hne e.symm))
theorem linF_new (w : World) (f : Nat → Bool) (d : ByteArray) (t : TypeId) : LinF (w.alloc (.cells (linC f d) t)) w.heap.size 0 f d := by
  have hh := (MapKept.heap_alloc w (.cells (linC f d) t)).1
  have hcell : ∀ i, (w.alloc (.cells (linC f d) t)).cell? ⟨w.heap.size, i, none⟩ = (linC f d)[i]? := fun i => cell_of_row _ _ i _ t (0, 0) hh
  have hf : ∀ i, (w.alloc (.cells (linC f d) t)).frozen? ⟨w.heap.size, i, none⟩ = false := fun i => by simp only [World.frozen?, hh]; simp
  refine ⟨fun j hj => ⟨?_, hf _⟩, ?_, hf _⟩
  · rw [Nat.zero_add, hcell, linC_bit f d hj]
  · rw [hcell]; rfl

theorem linC_one (f : Nat → Bool) (d : ByteArray) : (linC f d).all (·.oneCell') = true := by simp [linC, Value.oneCell']
theorem LinF.range {w : World} {b o : Nat} {f : Nat → Bool} {d : ByteArray} (h : LinF w b o f d) : w.rangeAt b o (linC f d).toList := fun j v hv => by
  have hj : j < 17 := by
    have h9 := (List.getElem?_eq_some_iff.1 hv).1
    exact h9
  rw [Array.getElem?_toList] at hv
  by_cases e : j = 16
  · subst e
    rw [linC_data] at hv
    rw [← hv]; exact h.2.1
  · rw [linC_bit f d (by omega)] at hv
    rw [← hv]; exact (h.1 j (by omega)).1
theorem LinF.there {w : World} {b o : Nat} {f : Nat → Bool} {d : ByteArray} (h : LinF w b o f d) : w.there b o 17 := fun j hj => by
  by_cases e : j = 16
  · subst e
    exact ⟨by rw [h.2.1]; rfl, h.2.2⟩
  · exact ⟨by rw [(h.1 j (by omega)).1]; rfl, (h.1 j (by omega)).2⟩
theorem linF_of {w : World} {b o : Nat} {f : Nat → Bool} {d : ByteArray} (hr : w.rangeAt b o (linC f d).toList) (hf : ∀ j, j < 17 → w.frozen? ⟨b, o + j, none⟩ = false) : LinF w b o f d :=
  ⟨fun j hj => ⟨hr j _ (by rw [Array.getElem?_toList]; exact linC_bit f d hj), hf j (by omega)⟩, hr 16 _ (by rw [Array.getElem?_toList]; rfl), hf 16 (by omega)⟩
theorem linC_len (f : Nat → Bool) (d : ByteArray) : (linC f d).toList.length = 17 := rfl
theorem LinF.put {w : World} {b o : Nat} {f : Nat → Bool} {d : ByteArray} (h : LinF w b o f d) (f' : Nat → Bool) (d' : ByteArray) : LinF (w.setCells b o (linC f' d').toList) b o f' d' :=
  linF_of (World.rangeAt_setCells_same w b o _ (by rw [linC_len]; exact h.there)) (fun j hj => by rw [World.frozen?_setCells]; exact (h.there j hj).2)
theorem LinF.apart {w : World} {b o : Nat} {f : Nat → Bool} {d : ByteArray} (h : LinF w b o f d) (b' o' : Nat) (f' : Nat → Bool) (d' : ByteArray) (hap : b ≠ b' ∨ o + 17 ≤ o' ∨ o' + 17 ≤ o) : LinF (w.setCells b' o' (linC f' d').toList) b o f d :=
  linF_of (World.rangeAt_setCells_apart h.range b' o' _ (by rw [linC_len, linC_len]; exact hap)) (fun j hj => by rw [World.frozen?_setCells]; exact (h.there j hj).2)
theorem sets_below {B g : Nat} {a : World} (hb : B ≤ g) : ∀ (vs : List Value) (o : Nat) (w : World), Below B a w → Below B a (w.setCells g o vs)
  | [], _, _, h => h
  | v :: vs, o, w, h => sets_below hb vs (o + 1) _ (h.setCell hb _)
theorem Tryd.sizeLine : (Tryd.prog.info? 38).map (·.size) = some 17 := by kernel_rfl

theorem results_cell1 {fn : Func} {p : Tmp} {ty : TypeId} (h : fn.results = #[.cell p ty]) (tmps : Array Value) (P : Program) (w : World) :
    (results fn tmps).run P w = ((asAddr (tmps.getD p undef)).run P w).andThen fun a w₁ => (loadVar ty a).run P w₁ := by
  simp only [results, h]
  simp [Sem.run_bind, Result.andThen]
/-- What over has come to. -/
structure OvSt (w : World) (f g : Nat → Bool) (a b : ByteArray) (j : Nat) (wr : World) : Prop where
  one : LinF wr w.heap.size 0 (fun i => if i < j then (f i != g i) else f i) a
  two : LinF wr (w.heap.size + 1) 0 g b
  res : LinF wr (w.heap.size + 1 + 1) 0 (fun _ => false) ⟨#[]⟩
  below : Below w.heap.size w wr

set_option maxHeartbeats 4000000 in
theorem over_ok (f g : Nat → Bool) (a b : ByteArray) (w : World) (ha : a.size ≤ 120) (hb : b.size = a.size) :
    Calls Tryd.prog 24 #[.agg (linC f a), .agg (linC g b)] w fun e w' => e = .returned (.agg (linC (fun j => f j != g j) (xorB a b))) ∧ Below w.heap.size w w' := by
  have X := hide (fun w => rxor_ok a b w ha hb)
  have H0 : Hid (OvSt w f g a b 0 (((w.alloc (.cells (linC f a) 38)).alloc (.cells (linC g b) 38)).alloc (.cells (linC (fun _ => false) ⟨#[]⟩) 38))) := by
    have h1 := linF_new w f a 38
    have h2 := linF_new (w.alloc (.cells (linC f a) 38)) g b 38
    have h3 := linF_new ((w.alloc (.cells (linC f a) 38)).alloc (.cells (linC g b) 38)) (fun _ => false) ⟨#[]⟩ 38
    have e1 : (w.alloc (.cells (linC f a) 38)).heap.size = w.heap.size + 1 := by simp
    have e2 : ((w.alloc (.cells (linC f a) 38)).alloc (.cells (linC g b) 38)).heap.size = w.heap.size + 1 + 1 := by simp
    rw [e1] at h2
    rw [e2] at h3
    refine ⟨((h1.below ((Below.refl _ _).alloc (Nat.le_refl _) _)).below ((Below.refl _ _).alloc (Nat.le_refl _) _)).congr (fun j _ => by simp), h2.below ((Below.refl _ _).alloc (Nat.le_refl _) _), h3, (((Below.refl _ w).alloc (Nat.le_refl _) _).alloc (by simp) _).alloc (by simp; omega) _⟩
  clear hb
  go_enter Tryd.func24, Tryd.ntmps24
  go_wp2_with fail
  go_loopw [5] (fun i wr => ∃ j : Nat, j ≤ 16 ∧ i = .int .i64 j ∧ OvSt w f g a b j wr) (fun i _ => 16 - (intOf i).toNat)
  case atStart => exact ⟨0, by decide, rfl, H0.out⟩
  case round =>
    obtain ⟨j, hj, rfl, hS⟩ := hrel
    have HS := hide hS
    clear hS H0
    by_cases hlt : j < 16
    · have c1 := (HS.out.one.1 j hlt).1
      have f1 := (HS.out.one.1 j hlt).2
      have c2 := (HS.out.two.1 j hlt).1
      simp only [Nat.zero_add, Nat.lt_irrefl, if_false] at c1 f1 c2
      have HN := hide (HS.out.one.set hlt (f j != g j))
      have hb1 := HS.out.two.other (v := .bool (f j != g j)) (a := ⟨w.heap.size, 0 + j, none⟩) (by simp)
      have hb2 := HS.out.res.other (v := .bool (f j != g j)) (a := ⟨w.heap.size, 0 + j, none⟩) (by show w.heap.size ≠ w.heap.size + 1 + 1; omega)
      have HB1 := hide hb1
      have HB2 := hide hb2
      clear hb1 hb2
      go_wp2_with fail
      go_region
      all_goals go_wp2
      all_goals go_roundw
      case rel =>
        have hst := HN.out.congr (g := fun i => if i < j + 1 then (f i != g i) else f i) (fun i hi => by
          by_cases e1 : i = j
          · subst e1; simp
          · by_cases e2 : i < j
            · simp [e1, e2, show i < j + 1 by omega]
            · simp [e1, e2, show ¬ i < j + 1 by omega])
        have h1 := HB1.out
        have h2 := HB2.out
        rw [Nat.zero_add] at hst h1 h2
        exact ⟨j + 1, by omega, by go_num, hst, h1, h2, (HS.out.below.setCell (Nat.le_refl _) _).drew⟩
      case measure => simp [intOf]; omega
    · obtain rfl : j = 16 := by omega
      have c1 := HS.out.one.2.1
      have c2 := HS.out.two.2.1
      simp only [Nat.zero_add] at c1 c2
      go_wp2_with fail
      refine (X.out _).mono ?_
      rintro e w2 ⟨rfl, hb2⟩
      have hL2 := HS.out.one.below hb2
      have hc2 := hL2.2.1
      have hf2 := hL2.2.2
      simp only [Nat.zero_add] at hc2 hf2
      have HL3 : Hid (LinF (w2.setCell ⟨w.heap.size, 16, none⟩ (.string (xorB a b))) w.heap.size 0 (fun j => f j != g j) (xorB a b)) := (hL2.data (xorB a b)).congr (fun j hj => by simp [hj])
      have HR3 : Hid (LinF (w2.setCell ⟨w.heap.size, 16, none⟩ (.string (xorB a b))) (w.heap.size + 1 + 1) 0 (fun _ => false) ⟨#[]⟩) := (HS.out.res.below hb2).other (by show w.heap.size ≠ w.heap.size + 1 + 1; omega)
      have HB3 : Hid (Below w.heap.size w (w2.setCell ⟨w.heap.size, 16, none⟩ (.string (xorB a b)))) := (below_two HS.out.below hb2).setCell (Nat.le_refl _) _
      clear hb2 hL2 c1 c2 X
      generalize hxx : xorB a b = x at *
      have HXX := hide hxx
      clear hxx
      go_upto_region 6 with fail
      clear hc2 hf2
      generalize w2.setCell ⟨w.heap.size, 16, none⟩ (.string x) = w3 at *
      have hrg := HL3.out.range
      have hth := HR3.out.there
      have hPut := HR3.out.put (fun j => f j != g j) x
      have hld := run_loadVar_mid (P := Tryd.prog) _ _ _ 38 _ _ hPut.range Tryd.underlying38 rfl (by rw [linC_len]; exact Tryd.sizeLine)
      have HB4 : Hid (Below w.heap.size w (w3.setCells (w.heap.size + 1 + 1) 0 (linC (fun j => f j != g j) x).toList)) := sets_below (by omega) _ _ _ HB3.out
      have HRG := hide hrg
      have HTH := hide hth
      have HLD := hide hld
      clear hrg hth hPut hld
      generalize hcc : linC (fun j => f j != g j) x = cc at *
      have hc1 : cc.size = 17 := by rw [← hcc]; rfl
      have hc2 : cc.all (·.oneCell') = true := by rw [← hcc]; exact linC_one _ _
      have HC1 := hide hc1
      have HC2 := hide hc2
      have HCC := hide hcc
      clear hcc hc1 hc2
      go_wp2_with (first
        | (refine wpList_load_mid rfl 38 _ rfl w.heap.size 0 rfl cc.toList _ HRG.out Tryd.underlying38 rfl (by rw [Array.length_toList, HC1.out]; exact Tryd.sizeLine) ?_)
        | (refine wpList_store_mid rfl 38 _ _ rfl (w.heap.size + 1 + 1) 0 cc rfl (by rw [Array.toArray_toList]; rfl) (by rw [HC1.out]; exact HTH.out) (by rw [HC1.out]; exact Tryd.sizeLine) HC2.out ?_))
      refine bodyPost_ret (v := .agg cc) ?_ rfl ⟨by rw [HXX.out, HCC.out], HB4.out⟩
      have hl := HLD.out
      rw [Array.toArray_toList] at hl
      rw [results_cell1 rfl]
      exact hl
end Go.Proofs.YtakaeikobahaoaaDoor
