/-
  Proved: 'dropletmill/droplaw4.MixOne' returns true whatever blocks and whatever number it is handed, and both read behind the call as they did. No conditions.
-/
import Derived.Test.YtgdfoahpkiglhabSum
import Derived.Test.YtgdfoahpkiglhabFrame
import Derived.Test.YtgdfoahpkiglhabOwn
namespace Go.Proofs.Ytgdfoahpkiglhab
open Go.ChangeShapes Go.WideShapes Go.ChangeAt Go.RowKit
open Go.ChangeMaps (open_string shut_string)
set_option linter.unusedVariables false

def factG (i : Nat) : ByteArray := if i = 0 then ⟨#[97]⟩ else ⟨#[98]⟩
theorem fact_sum : sumB factG (fun i => (i : Int)) 2 = ⟨#[3]⟩ := by decide
theorem two_cases {p : Nat → Prop} (h0 : p 0) (h1 : p 1) : ∀ i, i < 2 → p i := fun i hi => by
  rcases i with _ | _ | i
  · exact h0
  · exact h1
  · omega
theorem cell_second (w : World) (x : Obj) (C : Array Value) (t : TypeId) (j : Nat) {v : Option Value} (h : C[0 + j]? = v) : ((w.alloc x).alloc (.cells C t)).cell? ⟨w.heap.size + 1, 0 + j, none⟩ = v := by
  have e : w.heap.size + 1 = (w.alloc x).heap.size := by simp
  rw [e, World.cell?_alloc_mark, h]
theorem sum_fact (w : World) :
    Calls Try.prog 4 #[.slice (some ⟨w.heap.size, 0, none⟩) 2 2, .slice (some ⟨w.heap.size + 1, 0, none⟩) 2 2]
      ((w.alloc (.cells #[.string ⟨#[97]⟩, .string ⟨#[98]⟩] 9)).alloc (.cells #[.int .i64 0, .int .i64 1] 3)) fun e w' => e = .returned (.tuple #[.string ⟨#[3]⟩, .nilIface]) ∧ Below w.heap.size w w' := by
  have h := sum_ok w.heap.size 0 2 2 (w.heap.size + 1) 0 2 2 factG (fun i => (i : Int)) ((w.alloc (.cells #[.string ⟨#[97]⟩, .string ⟨#[98]⟩] 9)).alloc (.cells #[.int .i64 0, .int .i64 1] 3)) (by decide) (by decide)
    (two_cases (by
        rw [World.cell?_alloc_lt _ _ ⟨w.heap.size, 0 + 0, none⟩ (by simp)]; simp [factG]) (by
        rw [World.cell?_alloc_lt _ _ ⟨w.heap.size, 0 + 1, none⟩ (by simp)]; simp [factG])) (by decide) (by decide) (two_cases rfl rfl) (by decide) (by decide) (by decide)
    (two_cases (cell_second _ _ _ _ _ rfl) (cell_second _ _ _ _ _ rfl)) (two_cases ⟨by decide, fun j hj => by omega⟩ ⟨by decide, fun j hj => by
      obtain rfl : j = 0 := by omega
      decide⟩)
  rw [fact_sum] at h
  refine h.mono fun e w' ⟨he, hb⟩ => ⟨he, ?_⟩
  exact (((Below.refl _ w).alloc (Nat.le_refl _) _).alloc (by simp) _).trans (hb.mono (by simp; omega))

set_option maxHeartbeats 1000000 in
theorem one_err (v : Value) (i : Int) (w : World) (x : Int)
    (hS : ∀ w1 : World, Below w.heap.size w w1 → Calls Try.prog 4 #[v, .slice (some ⟨w1.heap.size, 0, none⟩) 1 1] (w1.alloc (.cells #[.int .i64 i] 3)) fun e w' => e = .returned (.tuple #[.string ⟨#[]⟩, .iface 34 (.int .i64 x)]) ∧ Below w1.heap.size w1 w') :
    Calls Try.prog 3 #[v, .int .i64 i] w fun e w' => e = .returned (.bool true) ∧ Below w.heap.size w w' := by
  have K := hide hS
  have F := hide (sum_fact w)
  clear hS
  go_enter Try.func3, Try.ntmps3
  go_wp2_with fail
  refine (F.out).mono ?_
  rintro e w1 ⟨rfl, hb1⟩
  clear F
  go_wp2_with fail
  refine (K.out _ hb1).mono ?_
  rintro e w2 ⟨rfl, hb2⟩
  have hb := below_two hb1 hb2
  go_wp2
  go_ret
  exact ⟨rfl, hb⟩

/-- How many of the first j are not i; and which is the k-th. -/
def fewN (i j : Nat) : Nat := if j ≤ i then j else j - 1
def fewF (i k : Nat) : Nat := if k < i then k else k + 1
theorem fewF_ne (i k : Nat) : fewF i k ≠ i := by unfold fewF; split <;> omega
theorem few_next (i j : Nat) (h : j ≠ i) : fewN i (j + 1) = fewN i j + 1 ∧ fewF i (fewN i j) = j := by
  unfold fewN fewF
  by_cases h1 : j < i
  · rw [if_pos (by omega), if_pos (by omega)]; exact ⟨rfl, if_pos h1⟩
  · rw [if_neg (by omega), if_neg (by omega)]; refine ⟨by omega, ?_⟩; rw [if_neg (by omega)]; omega
theorem few_at (i : Nat) : fewN i (i + 1) = fewN i i := by unfold fewN; rw [if_neg (by omega), if_pos (by omega)]; omega
theorem xor_both (a b c : UInt8) : (a ^^^ c) ^^^ (b ^^^ c) = a ^^^ b := by
  rw [UInt8.xor_assoc, ← UInt8.xor_assoc c b c, UInt8.xor_comm c b, UInt8.xor_assoc b c c, UInt8.xor_self, UInt8.xor_zero]
theorem all_few (g : Nat → ByteArray) (i p : Nat) : ∀ j, xsum g (fun k => (k : Int)) j p ^^^ xsum g (fun k => (fewF i k : Nat)) (fewN i j) p = if j ≤ i then 0 else atB (g i) p
  | 0 => by simp [fewN, xsum]
  | j + 1 => by
    have ih := all_few g i p j
    by_cases h : j = i
    · subst h
      rw [if_pos (Nat.le_refl _)] at ih
      rw [few_at, if_neg (by omega), xsum, UInt8.xor_assoc, UInt8.xor_comm (atB _ _), ← UInt8.xor_assoc, ih, UInt8.zero_xor]
      rfl
    · obtain ⟨h1, h2⟩ := few_next i j h
      rw [h1, xsum, xsum, h2]
      show (xsum g _ j p ^^^ atB (g j) p) ^^^ (xsum g _ (fewN i j) p ^^^ atB (g j) p) = _
      rw [xor_both, ih]
      by_cases h3 : j ≤ i
      · rw [if_pos h3, if_pos (by omega)]
      · rw [if_neg h3, if_neg (by omega)]
theorem xor_all_few (g : Nat → ByteArray) (i len : Nat) (hi : i < len) (hs : (g i).size = (g 0).size) :
    xorB (sumB g (fun k => (k : Int)) len) (sumB g (fun k => (fewF i k : Nat)) (fewN i len)) = g i := by
  refine bytesB_eq _ _ _ (by rw [sumB_size, hs]) (fun p hp => ?_)
  rw [sumB_size] at hp
  rw [sumB_at _ _ _ _ hp, sumB_at _ _ _ _ hp, all_few, if_neg (by omega)]
theorem sum_single (g : Nat → ByteArray) (i : Nat) (hs : (g i).size = (g 0).size) : sumB g (fun _ => (i : Int)) 1 = g i := by
  refine bytesB_eq _ _ _ hs (fun p hp => ?_)
  rw [xsum, xsum, UInt8.zero_xor]; rfl

set_option maxHeartbeats 4000000 in
theorem one_ok (b o len cap : Nat) (g : Nat → ByteArray) (i : Nat) (w : World) (hl0 : 0 < len) (hlen : len ≤ 16)
    (hcell : ∀ i, i < len → w.cell? ⟨b, o + i, none⟩ = some (.string (g i))) (h1 : 1 ≤ (g 0).size) (h8 : (g 0).size ≤ 8) (hs : ∀ i, i < len → (g i).size = (g 0).size) (hi : i < len) :
    Calls Try.prog 3 #[.slice (some ⟨b, o, none⟩) len cap, .int .i64 i] w fun e w' => e = .returned (.bool true) ∧ Below w.heap.size w w' := by
  have F := hide (sum_fact w)
  have K : Hid (∀ w1 : World, Below w.heap.size w w1 → Calls Try.prog 4 #[.slice (some ⟨b, o, none⟩) len cap, .slice (some ⟨w1.heap.size, 0, none⟩) 1 1] (w1.alloc (.cells #[.int .i64 i] 3)) fun e w' => e = .returned (.tuple #[.string (g i), .nilIface]) ∧ Below w1.heap.size w1 w') := fun w1 hb => by
    have h := sum_ok b o len cap w1.heap.size 0 1 1 g (fun _ => (i : Int)) (w1.alloc (.cells #[.int .i64 i] 3)) hl0 hlen (cells_alloc (fun i hi => cell_below hb (hcell i hi)) _) h1 h8 hs (by decide) (by decide) (by decide)
      (fun k hk => by
        obtain rfl : k = 0 := by omega
        simp) (fun k hk => ⟨⟨by show (0 : Int) ≤ (i : Int); omega, by show (i : Int) < (len : Int); omega⟩, fun j hj => by omega⟩)
    rw [sum_single g i (hs i hi)] at h
    exact h.mono fun e w' ⟨he, hb'⟩ => ⟨he, ((Below.refl _ w1).alloc (Nat.le_refl _) _).trans (hb'.mono (by simp))⟩
  have KS : Hid (∀ (w1 : World) (b2 n cap2 : Nat) (f : Nat → Int), Below w.heap.size w w1 → 0 < n → n ≤ cap2 → cap2 ≤ maxLen → (∀ i, i < n → w1.cell? ⟨b2, 0 + i, none⟩ = some (.int .i64 (f i))) → (∀ i, i < n → goodAt f len i) →
      Calls Try.prog 4 #[.slice (some ⟨b, o, none⟩) len cap, .slice (some ⟨b2, 0, none⟩) n cap2] w1 fun e w' => e = .returned (.tuple #[.string (sumB g f n), .nilIface]) ∧ Below w1.heap.size w1 w') :=
    fun w1 b2 n cap2 f hb h0 hnc hc hc2 hg => sum_ok b o len cap b2 0 n cap2 g f w1 hl0 hlen (fun i hi => cell_below hb (hcell i hi)) h1 h8 hs h0 hnc hc hc2 hg
  have X : Hid (∀ w1 : World, Calls Try.prog 5 #[.string (sumB g (fun k => (k : Int)) len), .string (sumB g (fun k => (fewF i k : Nat)) (fewN i len))] w1 fun e w' => e = .returned (.tuple #[.string (g i), .nilIface]) ∧ Below w1.heap.size w1 w') := fun w1 => by
    have h := xor_ok (sumB g (fun k => (k : Int)) len) (sumB g (fun k => (fewF i k : Nat)) (fewN i len)) w1 (by rw [sumB_size]; omega) (by rw [sumB_size, sumB_size])
    rw [xor_all_few g i len hi (hs i hi)] at h
    exact h
  have hci := hcell i hi
  obtain ⟨i0, hif, hz0, hzs, hzb⟩ := info_parts Try.infoInt
  have Hi := hide hif
  have Hz0 := hide hz0
  have Hzs := hide hzs
  have Hzb := hide hzb
  have hsz8 : (g i).size ≤ 8 := by rw [hs i hi]; exact h8
  have d1 : decide ((i : Int) < 0) = false := by simp
  have d2 : decide (len ≤ i) = false := by simp; omega
  have d3 : decide ((len : Int) ≤ (i : Int)) = false := by simp; omega
  clear hif hz0 hzs hzb hcell hs
  go_enter Try.func3, Try.ntmps3
  go_wp2_with fail
  refine (F.out).mono ?_
  rintro e w1 ⟨rfl, hb1⟩
  clear F
  go_wp2_with fail
  refine (K.out _ hb1).mono ?_
  rintro e w2 ⟨rfl, hb2⟩
  have hbb := below_two hb1 hb2
  have hci2 := cell_below hbb hci
  clear hb1 hb2 K hci
  go_wp2
  go_loopw [9, 10, 11] (fun va vf k wr => ∃ (j : Nat) (aA : Option Addr) (cA : Nat) (aF : Option Addr) (cF : Nat), j ≤ len ∧ k = .int .i64 j ∧ va = .slice aA j cA ∧ vf = .slice aF (fewN i j) cF
      ∧ wr.ownsRow w2.heap.size 3 1 va j ((List.range j).map fun k : Nat => .int .i64 (k : Int)) ∧ wr.ownsRow w2.heap.size 3 1 vf (fewN i j) ((List.range (fewN i j)).map fun k : Nat => .int .i64 ((fewF i k : Nat) : Int))
      ∧ Apart va vf ∧ Below w2.heap.size w2 wr) (fun _ _ k _ => len - (intOf k).toNat)
  case atStart => exact ⟨0, none, 0, none, 0, Nat.zero_le _, rfl, rfl, rfl, World.ownsRow_nil _ _ _ _, World.ownsRow_nil _ _ _ _, Or.inl rfl, Below.refl _ _⟩
  case round =>
    obtain ⟨j, aA, cA, aF, cF, hj, rfl, rfl, rfl, hA, hF, hap, hb⟩ := hrel
    have hbs := hb.size
    by_cases hlt : j < len
    · have HA := hide hA
      have HF := hide hF
      have HAp := hide hap
      clear hA hF hap
      have hN16 : fewN i j ≤ 16 := by unfold fewN; split <;> omega
      by_cases hji : j = i
      · have hne : ((j : Int) != (i : Int)) = false := by rw [hji]; simp
        have hnx : Hid (fewN i (j + 1) = fewN i j) := by unfold Hid; rw [hji]; exact few_at i
        clear hji
        go_wp2_with (at_builtin; refine wpList_append_lies _ rfl _ _ 27 rfl w2.heap.size 3 i0 (.int .i64 0) 1 8 Try.underlying27 Hi.out Hz0.out Hzs.out Hzb.out rfl (by decide) _ _ _ rfl (HA.out.alloc _) ⟨wr.heap.size, 0, none⟩ 1 1 [.int .i64 j] rfl rfl (cell_one_new _ _ _) (fun x hx => by simp at hx; subst hx; rfl) (by decide) (by unfold maxLen; omega) (by omega) (by simp; omega) _ rfl ?_; intro g3 cap3 w3 hown3 hgrow3 hat3 hlt3)
        go_roundw
        case rel =>
          have hF3 := (HF.out.alloc (.cells #[.int .i64 (j : Int)] 3)).kept hgrow3 HAp.out.kept
          have R : j + 1 ≤ len ∧ Value.int .i64 ((j : Int) + 1) = .int .i64 ((j + 1 : Nat) : Int) ∧ Value.slice (some ⟨g3, 0, none⟩) (j + 1) cap3 = .slice (some ⟨g3, 0, none⟩) (j + 1) cap3 ∧ Value.slice aF (fewN i j) cF = .slice aF (fewN i (j + 1)) cF
              ∧ w3.ownsRow w2.heap.size 3 1 (.slice (some ⟨g3, 0, none⟩) (j + 1) cap3) (j + 1) ((List.range (j + 1)).map fun k : Nat => .int .i64 (k : Int)) ∧ w3.ownsRow w2.heap.size 3 1 (.slice aF (fewN i j) cF) (fewN i (j + 1)) ((List.range (fewN i (j + 1))).map fun k : Nat => .int .i64 ((fewF i k : Nat) : Int))
              ∧ Apart (.slice (some ⟨g3, 0, none⟩) (j + 1) cap3) (.slice aF (fewN i j) cF) ∧ Below w2.heap.size w2 w3 :=
            ⟨by omega, by simp, rfl, by rw [hnx.out], by rw [List.range_succ, List.map_append]; exact hown3, by rw [hnx.out]; exact hF3, apart_new HF.out HAp.out (by simp) hat3, (hb.alloc hbs _).grown hgrow3 (by simp; omega) (fun q hq => (HA.out.lt q hq).1)⟩
          first
            | exact ⟨j + 1, some ⟨g3, 0, none⟩, cap3, aF, cF, R⟩
            | ((repeat apply Exists.intro); exact ⟨⟨j + 1, some ⟨g3, 0, none⟩, cap3, aF, cF, R⟩, rfl⟩)
        case measure => simp [intOf]; omega
      · have hne : ((j : Int) != (i : Int)) = true := by rw [bne_iff_ne]; omega
        obtain ⟨hn1, hn2⟩ := few_next i j hji
        have hnx := hide hn1
        have hnf := hide hn2
        clear hji hn1 hn2
        go_wp2_with (first
          | (at_builtin; refine wpList_append_lies _ rfl _ _ 27 rfl w2.heap.size 3 i0 (.int .i64 0) 1 8 Try.underlying27 Hi.out Hz0.out Hzs.out Hzb.out rfl (by decide) _ _ _ rfl (HA.out.alloc _) ⟨wr.heap.size, 0, none⟩ 1 1 [.int .i64 j] rfl rfl (cell_one_new _ _ _) (fun x hx => by simp at hx; subst hx; rfl) (by decide) (by unfold maxLen; omega) (by omega) (by simp; omega) _ rfl ?_; intro g3 cap3 w3 hown3 hgrow3 hat3 hlt3; have HF3 := hide ((HF.out.alloc (.cells #[.int .i64 (j : Int)] 3)).kept hgrow3 HAp.out.kept); have HB3 := hide ((hb.alloc hbs (.cells #[.int .i64 (j : Int)] 3)).grown hgrow3 (by simp; omega) (fun q hq => (HA.out.lt q hq).1)))
          | (at_builtin; refine wpList_append_lies _ rfl _ _ 27 rfl w2.heap.size 3 i0 (.int .i64 0) 1 8 Try.underlying27 Hi.out Hz0.out Hzs.out Hzb.out rfl (by decide) _ _ _ rfl (HF3.out.alloc _) ⟨w3.heap.size, 0, none⟩ 1 1 [.int .i64 j] rfl rfl (cell_one_new _ _ _) (fun x hx => by simp at hx; subst hx; rfl) (by decide) (by unfold maxLen; omega) (by omega) (by have := HB3.out.size; simp; omega) _ rfl ?_; intro g4 cap4 w4 hown4 hgrow4 hat4 hlt4))
        go_roundw
        case rel =>
          have hap3 := apart_new (n := j + 1) (c := cap3) HF.out HAp.out (by simp) hat3
          have hA4 := (hown3.alloc (.cells #[.int .i64 (j : Int)] 3)).kept hgrow4 hap3.symm.kept
          have R : j + 1 ≤ len ∧ Value.int .i64 ((j : Int) + 1) = .int .i64 ((j + 1 : Nat) : Int) ∧ Value.slice (some ⟨g3, 0, none⟩) (j + 1) cap3 = .slice (some ⟨g3, 0, none⟩) (j + 1) cap3 ∧ Value.slice (some ⟨g4, 0, none⟩) (fewN i j + 1) cap4 = .slice (some ⟨g4, 0, none⟩) (fewN i (j + 1)) cap4
              ∧ w4.ownsRow w2.heap.size 3 1 (.slice (some ⟨g3, 0, none⟩) (j + 1) cap3) (j + 1) ((List.range (j + 1)).map fun k : Nat => .int .i64 (k : Int)) ∧ w4.ownsRow w2.heap.size 3 1 (.slice (some ⟨g4, 0, none⟩) (fewN i j + 1) cap4) (fewN i (j + 1)) ((List.range (fewN i (j + 1))).map fun k : Nat => .int .i64 ((fewF i k : Nat) : Int))
              ∧ Apart (.slice (some ⟨g3, 0, none⟩) (j + 1) cap3) (.slice (some ⟨g4, 0, none⟩) (fewN i j + 1) cap4) ∧ Below w2.heap.size w2 w4 :=
            ⟨by omega, by simp, rfl, by rw [hnx.out], by rw [List.range_succ, List.map_append]; exact hA4, by rw [hnx.out, List.range_succ, List.map_append, List.map_singleton, hnf.out]; exact hown4, (apart_new hown3 hap3.symm (by simp) hat4).symm, (HB3.out.alloc (HB3.out.size) _).grown hgrow4 (by have := HB3.out.size; simp; omega) (fun q hq => (HF3.out.lt q hq).1)⟩
          first
            | exact ⟨j + 1, some ⟨g3, 0, none⟩, cap3, some ⟨g4, 0, none⟩, cap4, R⟩
            | ((repeat apply Exists.intro); exact ⟨⟨j + 1, some ⟨g3, 0, none⟩, cap3, some ⟨g4, 0, none⟩, cap4, R⟩, rfl⟩)
        case measure => simp [intOf]; omega
    · obtain rfl : j = len := by omega
      have hfn : fewN i j = j - 1 := by unfold fewN; rw [if_neg (by omega)]
      have hbw := below_two hbb hb
      by_cases hl1 : j = 1
      · have b0 : ((fewN i j : Int) == 0) = true := by rw [hfn, hl1]; rfl
        clear hl1 hfn hA hF hap
        go_wp2
        go_ret
        exact ⟨rfl, hbw⟩
      · have b0 : ((fewN i j : Int) == 0) = false := by rw [beq_eq_false_iff_ne]; omega
        obtain ⟨gA, kA, hvA, hA1, hA2, hAc⟩ := own_ints (f := fun k : Nat => (k : Int)) hA hl0
        obtain ⟨gF, kF, hvF, hF1, hF2, hFc⟩ := own_ints (f := fun k : Nat => ((fewF i k : Nat) : Int)) hF (by omega)
        injection hvA with e1 e2 e3
        subst e1 e3
        injection hvF with e4 e5 e6
        subst e4 e6
        have S1 := hide (KS.out wr gA j cA (fun k => (k : Int)) hbw hl0 hA1 hA2 hAc (fun k hk => ⟨⟨by show (0 : Int) ≤ (k : Int); omega, by show (k : Int) < (j : Int); omega⟩, fun q hq e => by have : (q : Int) = (k : Int) := e; omega⟩))
        have hgood : ∀ k, k < fewN i j → goodAt (fun k => ((fewF i k : Nat) : Int)) j k := fun k hk => by
          refine ⟨⟨by show (0 : Int) ≤ ((fewF i k : Nat) : Int); omega, ?_⟩, fun q hq e => ?_⟩
          · show ((fewF i k : Nat) : Int) < (j : Int)
            unfold fewF; split <;> omega
          · have e' : ((fewF i q : Nat) : Int) = ((fewF i k : Nat) : Int) := e
            unfold fewF at e'
            split at e' <;> split at e' <;> omega
        have S2 := hide (fun (w5 : World) (hb5 : Below wr.heap.size wr w5) => KS.out w5 gF (fewN i j) cF (fun k => ((fewF i k : Nat) : Int)) (below_two hbw hb5) (by omega) hF1 hF2 (fun k hk => cell_below hb5 (hFc k hk)) hgood)
        have hfn16 : fewN i j ≤ 16 := by omega
        have HFN := hide hfn
        clear hl1 e2 e5 hfn hgood hA hF hap KS hAc hFc hA1 hA2 hF1 hF2
        generalize sumB g (fun k => (k : Int)) j = sa at *
        generalize sumB g (fun k => ((fewF i k : Nat) : Int)) (fewN i j) = sf at *
        go_wp2_with fail
        refine (S1.out).mono ?_
        rintro e w5 ⟨rfl, hb5⟩
        go_wp2_with fail
        refine (S2.out _ hb5).mono ?_
        rintro e w6 ⟨rfl, hb6⟩
        go_wp2_with fail
        refine (X.out _).mono ?_
        rintro e w7 ⟨rfl, hb7⟩
        have hbz := below_two (below_two (below_two hbw hb5) hb6) hb7
        have hciz := cell_below (below_two (below_two (below_two hb hb5) hb6) hb7) hci2
        go_wp2
        go_ret
        exact ⟨rfl, hbz⟩

theorem one_walk {w : World} (v : Value) (len : Nat) (g : Nat → ByteArray) (hv : StrsAt w v len g) (i : Int) :
    Calls Try.prog 3 #[v, .int .i64 i] w fun e w' => e = .returned (.bool true) ∧ Below w.heap.size w w' := by
  have below_alloc : ∀ (w1 : World) (x : Obj) (w' : World), Below (w1.alloc x).heap.size (w1.alloc x) w' → Below w1.heap.size w1 w' := fun w1 x w' h =>
    ((Below.refl _ w1).alloc (Nat.le_refl _) _).trans (h.mono (by simp))
  have bad : ∀ x : Int, (∀ w1 : World, Below w.heap.size w w1 → Calls Try.prog 6 #[v] (w1.alloc (.cells #[.int .i64 i] 3)) fun e w' => e = .returned (.iface 34 (.int .i64 x)) ∧ Below (w1.alloc (.cells #[.int .i64 i] 3)).heap.size (w1.alloc (.cells #[.int .i64 i] 3)) w') →
      Calls Try.prog 3 #[v, .int .i64 i] w fun e w' => e = .returned (.bool true) ∧ Below w.heap.size w w' := fun x hC =>
    one_err v i w x (fun w1 hb => (sum_check _ _ _ x (hC w1 hb)).mono fun e w' ⟨he, hb'⟩ => ⟨he, below_alloc _ _ _ hb'⟩)
  rcases hv with ⟨rfl, a, cap, rfl⟩ | ⟨h0, b, o, cap, rfl, hlc, hcm, hcell, hsz⟩
  · exact bad 5 (fun w1 hb => (check_none a cap _).mono fun e w' ⟨he, hw⟩ => ⟨he, hw ▸ Below.refl _ _⟩)
  by_cases h16 : len ≤ 16
  · by_cases hr : (g 0).size < 1 ∨ 8 < (g 0).size
    · exact bad 1 (fun w1 hb => check_range b o len cap (g 0) _ h0 h16 (by simpa using cells_alloc (fun i hi => cell_below hb (hcell i hi)) _ 0 h0) (hsz 0 h0) hr)
    by_cases hq : ∃ q, q < len ∧ (g q).size ≠ (g 0).size
    · obtain ⟨q, hq, hne⟩ := hq
      exact bad 3 (fun w1 hb => check_shape b o len cap g _ h0 h16 (cells_alloc (fun i hi => cell_below hb (hcell i hi)) _) (by omega) (by omega) q hq hne)
    have hs : ∀ i, i < len → (g i).size = (g 0).size := fun i hi => Classical.byContradiction fun hn => hq ⟨i, hi, hn⟩
    by_cases hi : 0 ≤ i ∧ i < (len : Int)
    · obtain ⟨k, rfl⟩ := Int.eq_ofNat_of_zero_le hi.1
      exact one_ok b o len cap g k w h0 h16 hcell (by omega) (by omega) hs (by omega)
    · refine one_err _ i w 1 (fun w1 hb => ?_)
      have hbad : ¬ goodAt (fun _ => i) len 0 := fun h => hi h.1
      have hf : faultAt (fun _ => i) len 0 = 1 := by unfold faultAt; exact if_neg hi
      have h := sum_named b o len cap (.slice (some ⟨w1.heap.size, 0, none⟩) 1 1) (w1.alloc (.cells #[.int .i64 i] 3)) 1 h16
        (check_ok b o len cap g _ h0 h16 (cells_alloc (fun i hi => cell_below hb (hcell i hi)) _) (by omega) (by omega) hs)
        (fun w2 hb2 => by
          have hn := named_bad w1.heap.size 0 1 1 len (fun _ => i) w2 (by decide) (by decide) (fun k hk => cell_below hb2 (by
            obtain rfl : k = 0 := by omega
            simp)) 0 (by decide) (fun k hk => absurd hk (Nat.not_lt_zero _)) hbad
          rw [hf] at hn
          exact hn)
      exact h.mono fun e w' ⟨he, hb'⟩ => ⟨he, below_alloc _ _ _ hb'⟩
  · exact bad 4 (fun w1 hb => (check_full _ len cap _ (by omega) (by omega)).mono fun e w' ⟨he, hw⟩ => ⟨he, hw ▸ Below.refl _ _⟩)

theorem mixOne_contract (H : Type) (enc : TypeId × Value → H) (W : World) (base : Nat) (args : Array Value) (ds gs : List (DataW H)) (before : List MemPlace)
    (hval : ∀ (j : Nat) t v, Try.f3.params[j]? = some t → args[j]? = some v → Value.okWide Try.prog W .any base t v)
    (hW : DataW.Whole enc Try.prog Try.f3.params.toList Rows.mixOneSpec.vars false W args.toList ds gs before) :
    Calls Try.prog 3 args W fun e W' => ∃ v, e = .returned v ∧ Rows.mixOneSpec.post enc Try.prog Try.f3 false true false false W args v W' := by
  have hW' := hW
  have hlt0 := hW.lt
  obtain ⟨p, q, hA0, hV, rfl, hfz, hnd⟩ := hW
  have hA : DataW.TrodAll enc Try.prog W 0 (fun _ => true) true Try.f3.params.toList args.toList ds p := hA0
  rw [Try.params3] at hA hval
  have hAll := hA
  have hread : ∀ t ∈ [22, 3], Try.prog.readableRec t = true ∧ t < Try.prog.types.size := by
    intro t ht
    simp only [List.mem_cons, List.not_mem_nil, or_false] at ht
    rcases ht with rfl | rfl <;> exact ⟨by kernel_rfl, of_decide_eq_true (by kernel_rfl)⟩
  obtain ⟨v0, vs0, d0, ds0, p0, q0, hargs, rfl, rfl, h0, r0⟩ := trodAll_cons hA
  obtain ⟨v1, vs1, d1, ds1, p1, q1, rfl, rfl, rfl, h1, r1⟩ := trodAll_cons r0
  obtain ⟨rfl, rfl, rfl⟩ := trodAll_nil r1
  obtain rfl : args = #[v0, v1] := by cases args; simp_all
  obtain ⟨rfl, rfl⟩ := trodVars_none hV
  simp only [List.append_nil] at hW' hlt0
  have fin : ∀ W' : World, Below W.heap.size W W' → Rows.mixOneSpec.post enc Try.prog Try.f3 false true false false W #[v0, v1] (.bool true) W' := by
    intro W' hg
    refine ⟨_, _, _, [], (p0 ++ (p1 ++ [])), [], hW', ?_, ?_, ?_, hg.frame _, fun h => by cases h⟩
    · exact trodAll_mk1 (shut_bool Try.underlying4 true)
    · exact trodAll_below hg _ _ _ _ hread hAll (by simpa using hlt0)
    · rfl
  obtain ⟨l0, f0, hs0⟩ := open_strsAt (hval 0 22 v0 rfl rfl) h0
  obtain ⟨a1, rfl, rfl, rfl, w1⟩ := open_int Try.underlying3 (hval 1 3 v1 rfl rfl) h1
  refine (one_walk v0 l0 f0 hs0 a1 (w := W)).mono fun e W' ⟨he, hg⟩ => ?_
  subst he
  exact ⟨_, rfl, fin W' hg⟩

set_option maxRecDepth 100000 in
theorem mixOne_lifted (os : Os) (started : os.Started) (H : Type) (enc : TypeId × Value → H) :
    ReturnsInHanded {} Try.checked os 3 .any (Rows.mixOneSpec.pre6 enc Try.prog Try.f3 Rows.mixOneRow.domain false) (Rows.mixOneSpec.post enc Try.prog Try.f3 false true false false) := by
  refine returnsInHanded_of_change (C := Try.checked) own started (by kernel_rfl) Try.func3
    (ChangeSpec.witness6 (enc := enc) (C := Try.checked) false ⟨#[], #[.slice none 0 0, .int .i64 0], []⟩ 8 (by kernel_rfl) (by kernel_rfl) (by kernel_rfl) (by kernel_rfl)) ?_
  intro W base args ds gs before hval hW _ _
  exact mixOne_contract H enc W base args ds gs before hval hW

theorem mixOne_holds : Rows.MixOneSaid :=
  OpenClaim.holds_of_wide 3 Try.f3 rfl rfl rfl rfl rfl rfl rfl ⟨rfl, rfl, rfl, rfl, rfl⟩ rfl rfl rfl rfl rfl (by kernel_rfl) Try.func3 (by kernel_rfl)
    (of_decide_eq_true (by kernel_rfl)) (by unfold Func.isWrapper; first | (rw [if_pos (by decide +kernel)]; kernel_rfl) | (rw [if_neg (by decide +kernel)]; exact ⟨rfl, rfl⟩))
    (fun os started H enc _ => mixOne_lifted os started H enc)
#print axioms mixOne_holds
end Go.Proofs.Ytgdfoahpkiglhab
