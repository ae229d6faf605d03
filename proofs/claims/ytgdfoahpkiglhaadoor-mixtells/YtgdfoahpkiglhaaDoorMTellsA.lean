/-
  Walks of MixTells where a fault is told at once. Lemmas for the law above; no statement is proved here.
-/
import Derived.Test.YtgdfoahpkiglhaaDoorTold
import Derived.Test.YtgdfoahpkiglhaaDoorRSum
import Derived.Test.YtgdfoahpkiglhaaDoorRef1
import Derived.Deep.DeepCutAuto
import Derived.Deep.QuietTactic
import Derived.BigQuiet
namespace Go.Proofs.YtgdfoahpkiglhaaDoor
open Go.RowKit
set_option linter.unusedVariables false
set_option maxRecDepth 100000

/-- The error that stands for the number x: none for 0. -/
def ErrIs (x : Int) (err : Value) : Prop := (x = 0 ∧ err = .nilIface) ∨ err = .iface 47 (.int .i64 x)
theorem error_right (x : Int) (err : Value) (w : World) (hg : HasErr w) (h : ErrIs x err) :
    Calls Tryd.prog 8 #[err, .int .i64 x] w fun e w' => e = .returned (.bool true) ∧ Below w.heap.size w w' := by
  rcases h with ⟨rfl, rfl⟩ | rfl
  · exact (error_nil 0 w).mono fun e w' ⟨he, hw⟩ => ⟨he, hw ▸ Below.refl _ _⟩
  · exact (error_hit x x w hg).mono fun e w' ⟨he, hb⟩ => ⟨by rw [he]; simp, hb⟩

/-- What mix.Xor says of two strings: the number of its fault, the bytes. -/
def XorSays (a b : ByteArray) (x : Int) (s : ByteArray) : Prop :=
  ∀ w : World, Calls Tryd.prog 16 #[.string a, .string b] w fun e w' => ∃ err, ErrIs x err ∧ e = .returned (.tuple #[.string s, err]) ∧ Below w.heap.size w w'
theorem xor_says_err {a b : ByteArray} {x : Int} (h : ∀ w : World, Calls Tryd.prog 16 #[.string a, .string b] w fun e w' => e = .returned (.tuple #[.string ⟨#[]⟩, .iface 47 (.int .i64 x)]) ∧ w = w') : XorSays a b x ⟨#[]⟩ :=
  fun w => (h w).mono fun e w' ⟨he, hw⟩ => ⟨_, Or.inr rfl, he, hw ▸ Below.refl _ _⟩
theorem xor_says_ok {a b : ByteArray} (ha : a.size ≤ 120) (h : b.size = a.size) : XorSays a b 0 (xorB a b) :=
  fun w => (xor_ok a b w ha h).mono fun e w' ⟨he, hb⟩ => ⟨_, Or.inl ⟨rfl, rfl⟩, he, hb⟩

/-- What mix.Zero says of a number. -/
def ZeroSays (z x : Int) (s : ByteArray) : Prop :=
  ∀ w : World, Calls Tryd.prog 20 #[.int .i64 z] w fun e w' => ∃ err, ErrIs x err ∧ e = .returned (.tuple #[.string s, err]) ∧ Below w.heap.size w w'
theorem zero_says_range {z : Int} (h : z < 1 ∨ 8 < z) : ZeroSays z 1 ⟨#[]⟩ :=
  fun w => (mzero_range z w h).mono fun e w' ⟨he, hw⟩ => ⟨_, Or.inr rfl, he, hw ▸ Below.refl _ _⟩
theorem zero_says_ok {n : Nat} (h1 : 1 ≤ n) (h8 : n ≤ 8) : ZeroSays n 0 (zerosB n) :=
  fun w => (mzero_ok n w h1 h8).mono fun e w' ⟨he, hb⟩ => ⟨_, Or.inl ⟨rfl, rfl⟩, he, hb⟩
/-- mix.Sum tells a fault, in every world behind w. -/
def SumFault (l of : Value) (y : Int) (w : World) : Prop :=
  ∀ w1 : World, Below w.heap.size w w1 → Calls Tryd.prog 19 #[l, of] w1 fun e w' => e = .returned (.tuple #[.string ⟨#[]⟩, .iface 47 (.int .i64 y)]) ∧ Below w1.heap.size w1 w'
/-- dropref1.Blocks tells a number, in every world behind w. -/
def BlocksSay (l : Value) (y : Int) (w : World) : Prop :=
  ∀ w1 : World, Below w.heap.size w w1 → Calls Tryd.prog 10 #[l] w1 fun e w' => e = .returned (.int .i64 y) ∧ Below w1.heap.size w1 w'

set_option maxHeartbeats 4000000 in
theorem tells_fault0 (a b : ByteArray) (ha : a.size ≤ maxLen) (hb : b.size ≤ maxLen) (l : Value) (ao : Option Addr) (cap : Nat) (y : Int) (z : Int) (w : World) (hg : HasErr w) (hy : y ≠ 0) (hB : BlocksSay l y w) (hS : SumFault l (.slice ao 0 cap) y w) :
    Calls Tryd.prog 5 #[.string a, .string b, l, .slice ao 0 cap, .int .i64 z] w fun e w' => e = .returned (.bool true) ∧ Below w.heap.size w w' := by
  have KB := hide hB
  have KS := hide hS
  have hy0 : (y == 0) = false := by rw [beq_eq_false_iff_ne]; exact hy
  clear hB hS hy
  have HG := hide hg
  have hgl := hg.lt
  have HGL := hide hgl
  have HA := hide ha
  have HB := hide hb
  clear hg hgl ha hb
  go_enter Tryd.func5, Tryd.ntmps5
  go_upto_region 3 with fail
  go_cut [27] (fun t wx => ∃ r : Bool, t = .bool r ∧ (r = true ↔ (120 < a.size ∨ 120 < b.size)) ∧ w = wx)
  case first =>
    have ha := HA.out
    have hb := HB.out
    unfold maxLen at ha hb
    by_cases h1 : 120 < a.size
    · go_wp2
      go_meet
      exact ⟨true, rfl, ⟨fun _ => Or.inl h1, fun _ => rfl⟩, rfl⟩
    · by_cases h2 : 120 < b.size
      · go_wp2
        go_meet
        exact ⟨true, by first | rfl | simp <;> omega, ⟨fun _ => Or.inr h2, fun _ => rfl⟩, rfl⟩
      · go_wp2
        go_meet
        exact ⟨false, by first | rfl | simp <;> omega, ⟨fun h => Bool.noConfusion h, fun h => by omega⟩, rfl⟩
  case rest =>
  obtain ⟨r, rfl, hr, rfl⟩ := hcut
  have HR := hide hr
  clear hr
  go_upto_if 27 with fail
  go_cut [11, 12] (fun e want wx => ∃ (x : Int) (s : ByteArray), e = .int .i64 x ∧ want = .string s ∧ XorSays a b x s ∧ Below w.heap.size w wx)
  case first =>
    by_cases h : 120 < a.size ∨ 120 < b.size
    · obtain rfl : r = true := HR.out.2 h
      have KX := hide (xor_says_err (fun w1 => xor_full a b w1 HA.out HB.out h))
      clear h
      go_wp2
      go_meet
      exact ⟨4, _, rfl, rfl, KX.out, Below.refl _ _⟩
    · obtain rfl : r = false := by
        cases r with
        | false => rfl
        | true => exact absurd (HR.out.1 rfl) h
      have h1 : a.size ≤ 120 := by omega
      have h2 : b.size ≤ 120 := by omega
      by_cases h3 : b.size = a.size
      · have KX := hide (xor_says_ok h1 h3)
        have KR := hide (fun w1 => rxor_ok a b w1 h1 h3)
        have hne : ((a.size : Int) != (b.size : Int)) = false := by rw [h3]; simp
        clear h h3
        go_wp2_with fail
        refine (KR.out _).mono ?_
        rintro e w1 ⟨rfl, hb1⟩
        go_wp2
        go_meet
        exact ⟨0, _, rfl, rfl, KX.out, hb1⟩
      · have KX := hide (xor_says_err (fun w1 => xor_shape a b w1 h1 h2 (fun e => h3 e.symm)))
        have hne : ((a.size : Int) != (b.size : Int)) = true := by rw [bne_iff_ne]; omega
        clear h h3
        go_wp2
        go_meet
        exact ⟨3, _, rfl, rfl, KX.out, Below.refl _ _⟩
  case rest =>
  obtain ⟨x, s, rfl, rfl, hX, hb0⟩ := hcut
  have KX := hide hX
  clear hX
  go_wp2_with fail
  refine (KX.out _).mono ?_
  rintro e w1 ⟨err1, herr1, rfl, hb1⟩
  have b1 := below_two hb0 hb1
  have E1 := hide (error_right x err1 w1 (HG.out.below HGL.out b1) herr1)
  clear hb0 hb1 KX herr1
  go_wp2_with fail
  refine (E1.out).mono ?_
  rintro e w2 ⟨rfl, hb2⟩
  have b2 := below_two b1 hb2
  clear b1 hb2 E1
  go_wp2_with fail
  refine (KB.out _ b2).mono ?_
  rintro e w3 ⟨rfl, hb3⟩
  have b3 := below_two b2 hb3
  clear b2 hb3 KB
  go_wp2
  go_loop [11, 16] (fun e i => e = .int .i64 y ∧ i = .int .i64 0) (fun _ _ => 0)
  case atStart => exact ⟨rfl, rfl⟩
  case round =>
    obtain ⟨rfl, rfl⟩ := hrel
    go_wp2_with fail
    refine (KS.out _ b3).mono ?_
    rintro e w6 ⟨rfl, hb6⟩
    have b6 := below_two b3 hb6
    have E2 := hide (error_right y _ w6 (HG.out.below HGL.out b6) (Or.inr rfl))
    clear hb6 KS
    go_wp2_with fail
    refine (E2.out).mono ?_
    rintro e w7 ⟨rfl, hb7⟩
    have b7 := below_two b6 hb7
    clear b6 hb7 E2
    go_upto_region 28 with fail
    go_cut [116] (fun t wx => ∃ r : Bool, t = .bool r ∧ (r = true ↔ (z < 1 ∨ 8 < z)) ∧ w7 = wx)
    case first =>
      by_cases h1 : z < 1
      · go_wp2
        go_meet
        exact ⟨true, rfl, ⟨fun _ => Or.inl h1, fun _ => rfl⟩, rfl⟩
      · by_cases h2 : 8 < z
        · go_wp2
          go_meet
          exact ⟨true, by first | rfl | simp <;> omega, ⟨fun _ => Or.inr h2, fun _ => rfl⟩, rfl⟩
        · go_wp2
          go_meet
          exact ⟨false, by first | rfl | simp <;> omega, ⟨fun h => Bool.noConfusion h, fun h => by omega⟩, rfl⟩
    case rest =>
    obtain ⟨r2, rfl, hr2, rfl⟩ := hcut
    have HR2 := hide hr2
    clear hr2
    go_upto_if 116 with fail
    go_cut [11, 12] (fun e want wx => ∃ (x : Int) (s : ByteArray), e = .int .i64 x ∧ want = .string s ∧ ZeroSays z x s ∧ Below w7.heap.size w7 wx)
    case first =>
      by_cases h : z < 1 ∨ 8 < z
      · obtain rfl : r2 = true := HR2.out.2 h
        have KZ := hide (zero_says_range h)
        clear h
        go_wp2
        go_meet
        exact ⟨1, _, rfl, rfl, KZ.out, Below.refl _ _⟩
      · obtain rfl : r2 = false := by
          cases r2 with
          | false => rfl
          | true => exact absurd (HR2.out.1 rfl) h
        obtain ⟨m, rfl⟩ := Int.eq_ofNat_of_zero_le (show 0 ≤ z by omega)
        have KZ := hide (zero_says_ok (n := m) (by omega) (by omega))
        have KR := hide (fun w1 => zero_any m w1 (by omega))
        clear h
        go_wp2_with fail
        refine (KR.out _).mono ?_
        rintro e w8 ⟨rfl, rfl⟩
        go_wp2
        go_meet
        exact ⟨0, _, rfl, rfl, KZ.out, Below.refl _ _⟩
    case rest =>
    obtain ⟨x3, s3, rfl, rfl, hZ, hb8⟩ := hcut
    have KZ := hide hZ
    have b8 := below_two b7 hb8
    clear hZ hb8 b7
    go_wp2_with fail
    refine (KZ.out _).mono ?_
    rintro e w9 ⟨err3, herr3, rfl, hb9⟩
    have b9 := below_two b8 hb9
    have E3 := hide (error_right x3 err3 w9 (HG.out.below HGL.out b9) herr3)
    clear b8 hb9 KZ herr3
    go_wp2_with fail
    refine (E3.out).mono ?_
    rintro e w10 ⟨rfl, hb10⟩
    have b10 := below_two b9 hb10
    go_wp2
    go_ret
    exact ⟨rfl, b10⟩

set_option maxHeartbeats 4000000 in
theorem tells_fault1 (a b : ByteArray) (ha : a.size ≤ maxLen) (hb : b.size ≤ maxLen) (l : Value) (ao : Option Addr) (n cap : Nat) (y : Int) (z : Int) (w : World) (hg : HasErr w) (hn : 0 < n) (hy : y ≠ 0) (hB : BlocksSay l y w) (hS : SumFault l (.slice ao n cap) y w) :
    Calls Tryd.prog 5 #[.string a, .string b, l, .slice ao n cap, .int .i64 z] w fun e w' => e = .returned (.bool true) ∧ Below w.heap.size w w' := by
  have KB := hide hB
  have KS := hide hS
  have hy0 : (y == 0) = false := by rw [beq_eq_false_iff_ne]; exact hy
  clear hB hS hy
  have HG := hide hg
  have hgl := hg.lt
  have HGL := hide hgl
  have HA := hide ha
  have HB := hide hb
  clear hg hgl ha hb
  go_enter Tryd.func5, Tryd.ntmps5
  go_upto_region 3 with fail
  go_cut [27] (fun t wx => ∃ r : Bool, t = .bool r ∧ (r = true ↔ (120 < a.size ∨ 120 < b.size)) ∧ w = wx)
  case first =>
    have ha := HA.out
    have hb := HB.out
    unfold maxLen at ha hb
    by_cases h1 : 120 < a.size
    · go_wp2
      go_meet
      exact ⟨true, rfl, ⟨fun _ => Or.inl h1, fun _ => rfl⟩, rfl⟩
    · by_cases h2 : 120 < b.size
      · go_wp2
        go_meet
        exact ⟨true, by first | rfl | simp <;> omega, ⟨fun _ => Or.inr h2, fun _ => rfl⟩, rfl⟩
      · go_wp2
        go_meet
        exact ⟨false, by first | rfl | simp <;> omega, ⟨fun h => Bool.noConfusion h, fun h => by omega⟩, rfl⟩
  case rest =>
  obtain ⟨r, rfl, hr, rfl⟩ := hcut
  have HR := hide hr
  clear hr
  go_upto_if 27 with fail
  go_cut [11, 12] (fun e want wx => ∃ (x : Int) (s : ByteArray), e = .int .i64 x ∧ want = .string s ∧ XorSays a b x s ∧ Below w.heap.size w wx)
  case first =>
    by_cases h : 120 < a.size ∨ 120 < b.size
    · obtain rfl : r = true := HR.out.2 h
      have KX := hide (xor_says_err (fun w1 => xor_full a b w1 HA.out HB.out h))
      clear h
      go_wp2
      go_meet
      exact ⟨4, _, rfl, rfl, KX.out, Below.refl _ _⟩
    · obtain rfl : r = false := by
        cases r with
        | false => rfl
        | true => exact absurd (HR.out.1 rfl) h
      have h1 : a.size ≤ 120 := by omega
      have h2 : b.size ≤ 120 := by omega
      by_cases h3 : b.size = a.size
      · have KX := hide (xor_says_ok h1 h3)
        have KR := hide (fun w1 => rxor_ok a b w1 h1 h3)
        have hne : ((a.size : Int) != (b.size : Int)) = false := by rw [h3]; simp
        clear h h3
        go_wp2_with fail
        refine (KR.out _).mono ?_
        rintro e w1 ⟨rfl, hb1⟩
        go_wp2
        go_meet
        exact ⟨0, _, rfl, rfl, KX.out, hb1⟩
      · have KX := hide (xor_says_err (fun w1 => xor_shape a b w1 h1 h2 (fun e => h3 e.symm)))
        have hne : ((a.size : Int) != (b.size : Int)) = true := by rw [bne_iff_ne]; omega
        clear h h3
        go_wp2
        go_meet
        exact ⟨3, _, rfl, rfl, KX.out, Below.refl _ _⟩
  case rest =>
  obtain ⟨x, s, rfl, rfl, hX, hb0⟩ := hcut
  have KX := hide hX
  clear hX
  go_wp2_with fail
  refine (KX.out _).mono ?_
  rintro e w1 ⟨err1, herr1, rfl, hb1⟩
  have b1 := below_two hb0 hb1
  have E1 := hide (error_right x err1 w1 (HG.out.below HGL.out b1) herr1)
  clear hb0 hb1 KX herr1
  go_wp2_with fail
  refine (E1.out).mono ?_
  rintro e w2 ⟨rfl, hb2⟩
  have b2 := below_two b1 hb2
  clear b1 hb2 E1
  go_wp2_with fail
  refine (KB.out _ b2).mono ?_
  rintro e w3 ⟨rfl, hb3⟩
  have b3 := below_two b2 hb3
  clear b2 hb3 KB
  go_wp2
  go_loop [11, 16] (fun e i => e = .int .i64 y ∧ i = .int .i64 0) (fun _ _ => 0)
  case atStart => exact ⟨rfl, rfl⟩
  case round =>
    obtain ⟨rfl, rfl⟩ := hrel
    go_wp2_with fail
    refine (KS.out _ b3).mono ?_
    rintro e w6 ⟨rfl, hb6⟩
    have b6 := below_two b3 hb6
    have E2 := hide (error_right y _ w6 (HG.out.below HGL.out b6) (Or.inr rfl))
    clear hb6 KS
    go_wp2_with fail
    refine (E2.out).mono ?_
    rintro e w7 ⟨rfl, hb7⟩
    have b7 := below_two b6 hb7
    clear b6 hb7 E2
    go_upto_region 28 with fail
    go_cut [116] (fun t wx => ∃ r : Bool, t = .bool r ∧ (r = true ↔ (z < 1 ∨ 8 < z)) ∧ w7 = wx)
    case first =>
      by_cases h1 : z < 1
      · go_wp2
        go_meet
        exact ⟨true, rfl, ⟨fun _ => Or.inl h1, fun _ => rfl⟩, rfl⟩
      · by_cases h2 : 8 < z
        · go_wp2
          go_meet
          exact ⟨true, by first | rfl | simp <;> omega, ⟨fun _ => Or.inr h2, fun _ => rfl⟩, rfl⟩
        · go_wp2
          go_meet
          exact ⟨false, by first | rfl | simp <;> omega, ⟨fun h => Bool.noConfusion h, fun h => by omega⟩, rfl⟩
    case rest =>
    obtain ⟨r2, rfl, hr2, rfl⟩ := hcut
    have HR2 := hide hr2
    clear hr2
    go_upto_if 116 with fail
    go_cut [11, 12] (fun e want wx => ∃ (x : Int) (s : ByteArray), e = .int .i64 x ∧ want = .string s ∧ ZeroSays z x s ∧ Below w7.heap.size w7 wx)
    case first =>
      by_cases h : z < 1 ∨ 8 < z
      · obtain rfl : r2 = true := HR2.out.2 h
        have KZ := hide (zero_says_range h)
        clear h
        go_wp2
        go_meet
        exact ⟨1, _, rfl, rfl, KZ.out, Below.refl _ _⟩
      · obtain rfl : r2 = false := by
          cases r2 with
          | false => rfl
          | true => exact absurd (HR2.out.1 rfl) h
        obtain ⟨m, rfl⟩ := Int.eq_ofNat_of_zero_le (show 0 ≤ z by omega)
        have KZ := hide (zero_says_ok (n := m) (by omega) (by omega))
        have KR := hide (fun w1 => zero_any m w1 (by omega))
        clear h
        go_wp2_with fail
        refine (KR.out _).mono ?_
        rintro e w8 ⟨rfl, rfl⟩
        go_wp2
        go_meet
        exact ⟨0, _, rfl, rfl, KZ.out, Below.refl _ _⟩
    case rest =>
    obtain ⟨x3, s3, rfl, rfl, hZ, hb8⟩ := hcut
    have KZ := hide hZ
    have b8 := below_two b7 hb8
    clear hZ hb8 b7
    go_wp2_with fail
    refine (KZ.out _).mono ?_
    rintro e w9 ⟨err3, herr3, rfl, hb9⟩
    have b9 := below_two b8 hb9
    have E3 := hide (error_right x3 err3 w9 (HG.out.below HGL.out b9) herr3)
    clear b8 hb9 KZ herr3
    go_wp2_with fail
    refine (E3.out).mono ?_
    rintro e w10 ⟨rfl, hb10⟩
    have b10 := below_two b9 hb10
    go_wp2
    go_ret
    exact ⟨rfl, b10⟩

set_option maxHeartbeats 4000000 in
theorem tells_none (a b : ByteArray) (ha : a.size ≤ maxLen) (hb : b.size ≤ maxLen) (l : Value) (ao : Option Addr) (cap : Nat) (z : Int) (w : World) (hg : HasErr w) (hB : BlocksSay l 0 w) (hS : SumFault l (.slice ao 0 cap) 5 w) :
    Calls Tryd.prog 5 #[.string a, .string b, l, .slice ao 0 cap, .int .i64 z] w fun e w' => e = .returned (.bool true) ∧ Below w.heap.size w w' := by
  have KB := hide hB
  have KS := hide hS
  clear hB hS
  have HG := hide hg
  have hgl := hg.lt
  have HGL := hide hgl
  have HA := hide ha
  have HB := hide hb
  clear hg hgl ha hb
  go_enter Tryd.func5, Tryd.ntmps5
  go_upto_region 3 with fail
  go_cut [27] (fun t wx => ∃ r : Bool, t = .bool r ∧ (r = true ↔ (120 < a.size ∨ 120 < b.size)) ∧ w = wx)
  case first =>
    have ha := HA.out
    have hb := HB.out
    unfold maxLen at ha hb
    by_cases h1 : 120 < a.size
    · go_wp2
      go_meet
      exact ⟨true, rfl, ⟨fun _ => Or.inl h1, fun _ => rfl⟩, rfl⟩
    · by_cases h2 : 120 < b.size
      · go_wp2
        go_meet
        exact ⟨true, by first | rfl | simp <;> omega, ⟨fun _ => Or.inr h2, fun _ => rfl⟩, rfl⟩
      · go_wp2
        go_meet
        exact ⟨false, by first | rfl | simp <;> omega, ⟨fun h => Bool.noConfusion h, fun h => by omega⟩, rfl⟩
  case rest =>
  obtain ⟨r, rfl, hr, rfl⟩ := hcut
  have HR := hide hr
  clear hr
  go_upto_if 27 with fail
  go_cut [11, 12] (fun e want wx => ∃ (x : Int) (s : ByteArray), e = .int .i64 x ∧ want = .string s ∧ XorSays a b x s ∧ Below w.heap.size w wx)
  case first =>
    by_cases h : 120 < a.size ∨ 120 < b.size
    · obtain rfl : r = true := HR.out.2 h
      have KX := hide (xor_says_err (fun w1 => xor_full a b w1 HA.out HB.out h))
      clear h
      go_wp2
      go_meet
      exact ⟨4, _, rfl, rfl, KX.out, Below.refl _ _⟩
    · obtain rfl : r = false := by
        cases r with
        | false => rfl
        | true => exact absurd (HR.out.1 rfl) h
      have h1 : a.size ≤ 120 := by omega
      have h2 : b.size ≤ 120 := by omega
      by_cases h3 : b.size = a.size
      · have KX := hide (xor_says_ok h1 h3)
        have KR := hide (fun w1 => rxor_ok a b w1 h1 h3)
        have hne : ((a.size : Int) != (b.size : Int)) = false := by rw [h3]; simp
        clear h h3
        go_wp2_with fail
        refine (KR.out _).mono ?_
        rintro e w1 ⟨rfl, hb1⟩
        go_wp2
        go_meet
        exact ⟨0, _, rfl, rfl, KX.out, hb1⟩
      · have KX := hide (xor_says_err (fun w1 => xor_shape a b w1 h1 h2 (fun e => h3 e.symm)))
        have hne : ((a.size : Int) != (b.size : Int)) = true := by rw [bne_iff_ne]; omega
        clear h h3
        go_wp2
        go_meet
        exact ⟨3, _, rfl, rfl, KX.out, Below.refl _ _⟩
  case rest =>
  obtain ⟨x, s, rfl, rfl, hX, hb0⟩ := hcut
  have KX := hide hX
  clear hX
  go_wp2_with fail
  refine (KX.out _).mono ?_
  rintro e w1 ⟨err1, herr1, rfl, hb1⟩
  have b1 := below_two hb0 hb1
  have E1 := hide (error_right x err1 w1 (HG.out.below HGL.out b1) herr1)
  clear hb0 hb1 KX herr1
  go_wp2_with fail
  refine (E1.out).mono ?_
  rintro e w2 ⟨rfl, hb2⟩
  have b2 := below_two b1 hb2
  clear b1 hb2 E1
  go_wp2_with fail
  refine (KB.out _ b2).mono ?_
  rintro e w3 ⟨rfl, hb3⟩
  have b3 := below_two b2 hb3
  clear b2 hb3 KB
  go_wp2
  go_loop [11, 16] (fun e i => e = .int .i64 5 ∧ i = .int .i64 0) (fun _ _ => 0)
  case atStart => exact ⟨rfl, rfl⟩
  case round =>
    obtain ⟨rfl, rfl⟩ := hrel
    go_wp2_with fail
    refine (KS.out _ b3).mono ?_
    rintro e w6 ⟨rfl, hb6⟩
    have b6 := below_two b3 hb6
    have E2 := hide (error_right 5 _ w6 (HG.out.below HGL.out b6) (Or.inr rfl))
    clear hb6 KS
    go_wp2_with fail
    refine (E2.out).mono ?_
    rintro e w7 ⟨rfl, hb7⟩
    have b7 := below_two b6 hb7
    clear b6 hb7 E2
    go_upto_region 28 with fail
    go_cut [116] (fun t wx => ∃ r : Bool, t = .bool r ∧ (r = true ↔ (z < 1 ∨ 8 < z)) ∧ w7 = wx)
    case first =>
      by_cases h1 : z < 1
      · go_wp2
        go_meet
        exact ⟨true, rfl, ⟨fun _ => Or.inl h1, fun _ => rfl⟩, rfl⟩
      · by_cases h2 : 8 < z
        · go_wp2
          go_meet
          exact ⟨true, by first | rfl | simp <;> omega, ⟨fun _ => Or.inr h2, fun _ => rfl⟩, rfl⟩
        · go_wp2
          go_meet
          exact ⟨false, by first | rfl | simp <;> omega, ⟨fun h => Bool.noConfusion h, fun h => by omega⟩, rfl⟩
    case rest =>
    obtain ⟨r2, rfl, hr2, rfl⟩ := hcut
    have HR2 := hide hr2
    clear hr2
    go_upto_if 116 with fail
    go_cut [11, 12] (fun e want wx => ∃ (x : Int) (s : ByteArray), e = .int .i64 x ∧ want = .string s ∧ ZeroSays z x s ∧ Below w7.heap.size w7 wx)
    case first =>
      by_cases h : z < 1 ∨ 8 < z
      · obtain rfl : r2 = true := HR2.out.2 h
        have KZ := hide (zero_says_range h)
        clear h
        go_wp2
        go_meet
        exact ⟨1, _, rfl, rfl, KZ.out, Below.refl _ _⟩
      · obtain rfl : r2 = false := by
          cases r2 with
          | false => rfl
          | true => exact absurd (HR2.out.1 rfl) h
        obtain ⟨m, rfl⟩ := Int.eq_ofNat_of_zero_le (show 0 ≤ z by omega)
        have KZ := hide (zero_says_ok (n := m) (by omega) (by omega))
        have KR := hide (fun w1 => zero_any m w1 (by omega))
        clear h
        go_wp2_with fail
        refine (KR.out _).mono ?_
        rintro e w8 ⟨rfl, rfl⟩
        go_wp2
        go_meet
        exact ⟨0, _, rfl, rfl, KZ.out, Below.refl _ _⟩
    case rest =>
    obtain ⟨x3, s3, rfl, rfl, hZ, hb8⟩ := hcut
    have KZ := hide hZ
    have b8 := below_two b7 hb8
    clear hZ hb8 b7
    go_wp2_with fail
    refine (KZ.out _).mono ?_
    rintro e w9 ⟨err3, herr3, rfl, hb9⟩
    have b9 := below_two b8 hb9
    have E3 := hide (error_right x3 err3 w9 (HG.out.below HGL.out b9) herr3)
    clear b8 hb9 KZ herr3
    go_wp2_with fail
    refine (E3.out).mono ?_
    rintro e w10 ⟨rfl, hb10⟩
    have b10 := below_two b9 hb10
    go_wp2
    go_ret
    exact ⟨rfl, b10⟩

end Go.Proofs.YtgdfoahpkiglhaaDoor
