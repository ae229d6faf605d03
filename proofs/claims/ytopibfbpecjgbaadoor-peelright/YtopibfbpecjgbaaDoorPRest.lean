/-
  Our own contract of the Peeler's rest over this seat's translation. Lemmas for the laws above; no statement is proved here.
-/
import Derived.Test.YtopibfbpecjgbaaDoorPWait
import Derived.Test.YtopibfbpecjgbaaDoorXor
namespace Go.Proofs.YtopibfbpecjgbaaDoor
open Go.RowKit Go.Maps
set_option linter.unusedVariables false
set_option maxRecDepth 100000

theorem outB_next {B : Nat → ByteArray} {x : Nat} {l : List Nat} {b : ByteArray} {j : Nat} (h : j < l.length) : outB B x (l.take (j + 1)) b = if l.getD j 0 = x then outB B x (l.take j) b else xorB (outB B x (l.take j) b) (B (l.getD j 0)) := by
  have e : l.take (j + 1) = l.take j ++ [l.getD j 0] := by rw [List.take_add_one]; simp [List.getD, h]
  rw [e]
  unfold outB
  rw [List.foldl_append]
  rfl

set_option maxHeartbeats 2000000 in
theorem rest_ok (b kb k seed x z : Nat) (kn : Nat → Bool) (B : Nat → ByteArray) (D : DataW Unit) (vo : Value) (data : ByteArray) (w : World) (hk : 1 ≤ k) (hk2 : k ≤ 16) (h1 : 1 ≤ seed) (h2 : seed ≤ 10000) (hz : z ≤ 8)
    (hc : w.cell? ⟨b, 3, none⟩ = some (.map (some kb))) (hM : MKn w kb k kn B D) (ho : Lst w vo (setL k seed)) (hx : lft (setL k) kn (seed, data) = [x]) (hd : data.size = z) (hB : ∀ r, kn r = true → (B r).size = z) :
    Calls Tryd.prog 45 #[.pointer (some ⟨b, 0, none⟩), .agg #[vo, .string data]] w fun e w' => e = .returned (.tuple #[.string (outB B x (setL k seed) data), .nilIface]) ∧ Below w.heap.size w w' := by
  have hb0 : Below w.heap.size w (w.alloc (.cells #[vo, .string data] 66)) := (Below.refl _ _).alloc (Nat.le_refl _) _
  have HB0 := hide hb0
  have hl : 0 < (setL k seed).length ∧ (setL k seed).length ≤ 16 := ⟨(setL_len hk hk2 h1 h2).1, Nat.le_trans (setL_len hk hk2 h1 h2).2 hk2⟩
  have HSL : Hid (∀ r ∈ setL k seed, r < k) := fun r hr => setL_lt hk h1 hr
  have HKn : Hid (∀ r ∈ setL k seed, kn r = true ↔ r ≠ x) := fun r hr => by
    have hxm : x ∈ lft (setL k) kn (seed, data) := by rw [hx]; simp
    constructor
    · rintro h rfl
      rw [(mem_lft.1 hxm).2] at h; cases h
    · intro hne
      cases e : kn r with
      | true => rfl
      | false =>
        have : r ∈ lft (setL k) kn (seed, data) := mem_lft.2 ⟨hr, e⟩
        rw [hx] at this
        exact absurd (List.mem_singleton.1 this) hne
  have HC := hide hc
  have HM := hide hM
  have HBz := hide hB
  have hOz : Hid (∀ j, (outB B x ((setL k seed).take j) data).size = z) := fun j => by rw [outB_size]; exact hd
  obtain ⟨g, cap, rfl, hq1, hq2, hq3⟩ := ho
  unfold maxLen at hq2
  have HQ := hide hq3
  clear hc hM hb0 hq3 hx hB
  generalize setL k seed = l at *
  go_enter Tryd.func45, Tryd.ntmps45
  go_wp2_with fail
  go_loopw [6, 18] (fun d i wr => ∃ j : Nat, j ≤ l.length ∧ i = .int .i64 j ∧ d = .string (outB B x (l.take j) data) ∧ Below w.heap.size w wr) (fun _ i _ => l.length - (intOf i).toNat)
  case atStart => exact ⟨0, Nat.zero_le _, rfl, rfl, HB0.out⟩
  case round =>
    obtain ⟨j, hj, rfl, rfl, hb⟩ := hrel
    have HB := hide hb
    have hbs := hb.size
    by_cases hlt : j < l.length
    · have hcj := cell_below hb (HQ.out j hlt)
      have hck := cell_below hb HC.out
      have HMj := hide (HM.out.below hb)
      have HO := hide (outB_next (B := B) (x := x) (b := data) hlt)
      have hrm := getD_mem hlt
      have hoz := hOz.out j
      have hr16 := HSL.out _ hrm
      have hkr := HKn.out _ hrm
      simp only [Nat.zero_add] at hcj
      clear hb hrm
      generalize hrr : l.getD j 0 = r at *
      generalize hob : outB B x (l.take j) data = ob at *
      clear hrr hob
      by_cases hrx : r = x
      · have hkf : kn r = false := by
          cases e : kn r with
          | false => rfl
          | true => exact absurd hrx (hkr.1 e)
        rw [Hid, if_pos hrx] at HO
        have HO' := hide HO
        have HKF := hide hkf
        clear HO hkr hrx
        go_wp2_with (first | (at_lookup; refine wpList_lookup_blk rfl _ _ rfl kb k r kn B D rfl rfl HMj.out (by omega) ?_; intro s hs; rw [HKF.out]) | fail)
        exact ⟨⟨j + 1, by omega, by simp, by rw [HO'.out], HB.out.alloc hbs _⟩, by simp [intOf]; omega⟩
      · have hkt : kn r = true := hkr.2 hrx
        rw [Hid, if_neg hrx] at HO
        have HO' := hide HO
        have HKT := hide hkt
        have X := hide (fun w1 => xor_ok ob (B r) w1 (by omega) (by rw [hoz]; exact HBz.out r hkt))
        clear HO hkr hrx hkt
        go_wp2_with (first | (at_lookup; refine wpList_lookup_blk rfl _ _ rfl kb k r kn B D rfl rfl HMj.out (by omega) ?_; intro s hs; rw [HKT.out, hs HKT.out]) | fail)
        refine (X.out _).mono ?_
        rintro e w1 ⟨rfl, hb1⟩
        have HB1 := hide (HB.out.alloc hbs (.cells #[.string (B r)] 69))
        have HB2 := hide (below_two HB1.out hb1)
        clear hb1 hcj hck
        generalize hxo : xorB ob (B r) = xo at *
        clear hxo
        go_wp2
        exact ⟨⟨j + 1, by omega, by simp, by rw [HO'.out], HB2.out⟩, by simp [intOf]; omega⟩
    · obtain rfl : j = l.length := by omega
      rw [List.take_length] at *
      go_wp2
      go_ret2
      exact ⟨rfl, HB.out⟩
end Go.Proofs.YtopibfbpecjgbaaDoor
