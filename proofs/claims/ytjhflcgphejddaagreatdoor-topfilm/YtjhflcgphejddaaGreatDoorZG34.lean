/-
  Lemmas for the law above, joined into one text (EarA, Lib, Join, BlkJ). No statement is proved here.
-/
import Derived.Test.YtjhflcgphejddaaGreatDoorZG28
import Derived.Test.YtjhflcgphejddaaGreatDoorZEarHearW
import Derived.Test.YtjhflcgphejddaaGreatDoorZG33
import Derived.Shelf.Strings.OnBuilder
import Derived.Shelf.LaysM
import Derived.Test.YtjhflcgphejddaaGreatDoorZG23
import Derived.WalkKit
import Derived.Test.YtjhflcgphejddaaGreatDoorZG16
import Derived.Test.YtjhflcgphejddaaGreatDoorZG18
namespace Go.Proofs.YtjhflcgphejddaaGreatDoor
open Go.RowKit Go.Maps
set_option linter.unusedVariables false
set_option maxRecDepth 100000

theorem peel_ptr : PtrI peelI0 := fun h => by
  obtain ⟨b, _, _, _, _, rfl, _⟩ := h
  exact ⟨_, rfl⟩
theorem mask_some {k s : Nat} (hk : 1 ≤ k ∧ k ≤ 16) (h1 : 1 ≤ s ∧ s ≤ 10000) : maskL (setL k s) ≠ 0 := fun e => by
  have hl := (setL_len hk.1 hk.2 h1.1 h1.2).1
  have h9 := maskL_bit (setL k s) ((setL k s)[0]'(by omega))
  rw [e] at h9
  simp at h9
theorem rk_one {v : Nat} (h : v ≠ 0) : rkL [v] = 1 := by
  have h9 := rkL_out (L := []) (v := v) (fun e => h e)
  rw [rkL_none] at h9
  exact h9
/-- The drop of a seed is fit for the Ear. -/
theorem eF_made {k z n : Nat} {F : List Drp} {s : Nat} {d : ByteArray} (h : FOk k z n F) (hs : 1 ≤ s ∧ s ≤ 10000) (hd : d.size = z) (hl : F.length < 60) : eF k z F (s : Int) d.size = 0 := by
  have h1 := h.nk
  have h2 := h.nz
  have hf : fD k z (s : Int) d.size = 0 := by unfold fD; rw [if_pos (by unfold OkD; omega), if_pos (by omega)]
  unfold eF
  rw [if_neg (by simp [hf]), if_neg (by omega)]
/-- Hear of a drop that is fit, seen from an earlier world. -/
theorem hear_from {I : PIm0} (hI : PtrI I) {w0 w : World} {v : Value} {k z n : Nat} {dr : Int} {F : List Drp} {M : Nat → Prop} (h : ESt I w v k z n dr F M) (hb : Below w0.heap.size w0 w) (hM : ∀ i, M i → w0.heap.size ≤ i) (seed : Nat) (data : ByteArray) (hf : eF k z F seed data.size = 0) (hdr : -9223372036854775808 ≤ dr ∧ dr ≤ 9223372036854775807) :
    Calls Tryz.prog 12 #[v, dropV seed data] w fun e w' => ∃ q M', Took (setL k) q (eAdd F seed data) ∧ e = .returned (.tuple #[heardV (wrap64 (dr + 1)) (eAdd F seed data).length (knows k q.known).length, .nilIface]) ∧ ESt I w' v k z n (wrap64 (dr + 1)) (eAdd F seed data) M' ∧ (∀ i, M' i → w0.heap.size ≤ i) ∧ Below w0.heap.size w0 w' ∧ Kept M w w' ∧ ∀ i, M' i → M i ∨ w.heap.size ≤ i :=
  (hear_ok hI h seed data hf hdr).mono fun e w' ⟨q, h1, h2, h3, h4⟩ => ⟨q, _, h1, h2, h3, fun i hi => hi.elim (hM i) fun e => Nat.le_trans hb.size e.1, kept_below hb h4 hM, h4, fun i hi => hi.imp id fun e => e.1⟩
theorem DropIn.kept {M : Nat → Prop} {w w' : World} {b : Nat} {seed : Int} {s : ByteArray} (h : DropIn w b seed s) (hk : Kept M w w') (hm : ¬ M b) : DropIn w' b seed s := h.of_block (hk.block b h.lt hm)
end Go.Proofs.YtjhflcgphejddaaGreatDoor

namespace Go.Proofs.YtjhflcgphejddaaGreatDoor
open Go.Shelf Go.RowKit
set_option linter.unusedVariables false
set_option maxRecDepth 100000
def renJoin : Go.Shelf.Ren := ⟨fun | 156 => 81 | 165 => 109 | 166 => 110 | 169 => 112 | 240 => 144 | 241 => 145 | 276 => 156 | 277 => 157 | n => n,
  fun | 31 => 35 | 9 => 9 | 3 => 3 | 4 => 4 | 0 => 0 | 20 => 20 | 72 => 174 | 76 => 56 | 70 => 172 | 37 => 74 | 75 => 27 | 127 => 185 | 164 => 157 | 5 => 5 | 80 => 177 | n => n, fun | n => n⟩
theorem laysJoin : Go.Proofs.Lays.n156 Tryz.prog renJoin := by constructor <;> (intros; kernel_rfl)
theorem extraJoin0 : Builder.X72 Tryz.prog renJoin := by constructor <;> (intros; kernel_rfl)
theorem extraJoin : Builder.Extra Tryz.prog renJoin :=
  Builder.Extra.mk extraJoin0 (by kernel_rfl) (fun _ => by kernel_rfl) (fun _ => by kernel_rfl) (fun _ => by kernel_rfl) (by kernel_rfl) (by kernel_rfl) (by kernel_rfl) (by decide)
theorem strings_Join (bk o c : Nat) (xs : List ByteArray) (sep : ByteArray) (w : World) (hcells : ∀ (j : Nat) x, xs[j]? = some x → w.cell? ⟨bk, o + j, none⟩ = some (.string x)) (hbk : bk < w.heap.size) (hN : xs.length ≤ 140737488355328) (hcap : xs.length ≤ c) (hlen : (Lib.join (xs.map (·.data.toList)) sep.data.toList).length ≤ 140737488355328) :
    Calls Tryz.prog 81 #[.slice (some ⟨bk, o, none⟩) xs.length c, .string sep] w fun e w' => e = .returned (.string ⟨(Lib.join (xs.map (·.data.toList)) sep.data.toList).toArray⟩) ∧ Below w.heap.size w w' :=
  Any.strings_Join laysJoin extraJoin bk o c xs sep w hcells hbk hN hcap hlen
end Go.Proofs.YtjhflcgphejddaaGreatDoor

namespace Go.Proofs.YtjhflcgphejddaaGreatDoor
open Go.RowKit
set_option linter.unusedVariables false
set_option maxRecDepth 100000

/-- All strings f 0 .. f (len-1) one behind the other. -/
def allL (f : Nat → ByteArray) (len : Nat) : List UInt8 := ((List.range len).map (fun i => (f i).data.toList)).flatten
theorem allL_succ (f : Nat → ByteArray) (len : Nat) : allL f (len + 1) = allL f len ++ (f len).data.toList := by
  simp [allL, List.range_succ]
theorem allL_length (f : Nat → ByteArray) (m : Nat) : ∀ len, (∀ i, i < len → (f i).size = m) → (allL f len).length = len * m
  | 0, _ => by simp [allL]
  | len + 1, h => by
    rw [allL_succ, List.length_append, allL_length f m len (fun i hi => h i (by omega)), ← Lib.size_eq, h len (by omega), Nat.add_mul, Nat.one_mul]
theorem join_nil (xs : List (List UInt8)) : Lib.join xs [] = xs.flatten := by
  cases xs with
  | nil => rfl
  | cons x r => rw [Lib.join_cons]; simp [Lib.joinTail]
theorem join_checks (a : Option Addr) (len cap : Nat) (n : Int) (x : Int) (w : World)
    (hC : Calls Tryz.prog 33 #[.slice a len cap] w fun e w' => e = .returned (.iface 61 (.int .i64 x)) ∧ Below w.heap.size w w') :
    Calls Tryz.prog 44 #[.slice a len cap, .int .i64 n] w fun e w' => e = .returned (.tuple #[.string ⟨#[]⟩, .iface 61 (.int .i64 x)]) ∧ Below w.heap.size w w' := by
  have K := hide hC
  clear hC
  go_enter Tryz.func44, Tryz.ntmps44
  go_wp2_with fail
  refine (K.out).mono ?_
  rintro e w1 ⟨rfl, hb⟩
  go_wp2
  go_ret2
  exact ⟨rfl, hb⟩
theorem cells_below {w w1 : World} {b o len : Nat} {f : Nat → ByteArray} (hb : Below w.heap.size w w1) (hcell : ∀ i, i < len → w.cell? ⟨b, o + i, none⟩ = some (.string (f i))) :
    ∀ i, i < len → w1.cell? ⟨b, o + i, none⟩ = some (.string (f i)) := fun i hi =>
  (hb.cell (p := ⟨b, o + i, none⟩) (cell_lt (hcell i hi))).trans (hcell i hi)
theorem mul_cast (len m : Nat) (h16 : len ≤ 16) (h8 : m ≤ 8) : 0 ≤ (len : Int) * (m : Int) ∧ (len : Int) * (m : Int) ≤ 128 := by
  have h := Nat.mul_le_mul h16 h8
  have e : (len : Int) * (m : Int) = ((len * m : Nat) : Int) := by simp
  rw [e]; omega
/-- Join where the blocks are well, and n is none that may be. -/
theorem join_range (b o len cap : Nat) (f : Nat → ByteArray) (n : Int) (w : World) (h0 : 0 < len) (h16 : len ≤ 16)
    (hcell : ∀ i, i < len → w.cell? ⟨b, o + i, none⟩ = some (.string (f i))) (h1 : 1 ≤ (f 0).size) (h8 : (f 0).size ≤ 8) (hs : ∀ i, i < len → (f i).size = (f 0).size)
    (hn : n < 0 ∨ (len : Int) * ((f 0).size : Int) < n ∨ (0 ≤ n ∧ n ≤ (len : Int) * ((f 0).size : Int) ∧ cntN n.toNat (f 0).size ≠ len)) :
    Calls Tryz.prog 44 #[.slice (some ⟨b, o, none⟩) len cap, .int .i64 n] w fun e w' => e = .returned (.tuple #[.string ⟨#[]⟩, .iface 61 (.int .i64 1)]) ∧ Below w.heap.size w w' := by
  have hc0 := hcell 0 h0
  simp only [Nat.add_zero] at hc0
  have hbl := cell_lt hc0
  have K := hide (check_ok b o len cap f w h0 h16 hcell h1 h8 hs)
  clear hcell hs
  obtain ⟨hm1, hm2⟩ := mul_cast len (f 0).size h16 h8
  rcases hn with hn | hn | ⟨hn0, hn1, hn2⟩
  · go_enter Tryz.func44, Tryz.ntmps44
    go_wp2_with fail
    refine (K.out).mono ?_
    rintro e w1 ⟨rfl, hb⟩
    have hc1 := (hb.cell (p := ⟨b, o, none⟩) hbl).trans hc0
    go_wp2
    go_ret2
    exact ⟨rfl, hb⟩
  · have hn' : ¬ n < 0 := by omega
    go_enter Tryz.func44, Tryz.ntmps44
    go_wp2_with fail
    refine (K.out).mono ?_
    rintro e w1 ⟨rfl, hb⟩
    have hc1 := (hb.cell (p := ⟨b, o, none⟩) hbl).trans hc0
    go_wp2
    go_ret2
    exact ⟨rfl, hb⟩
  · obtain ⟨q, rfl⟩ := Int.eq_ofNat_of_zero_le hn0
    rw [Int.toNat_natCast] at hn2
    have HC := hide (cast_cnt q (f 0).size h1)
    generalize cntN q (f 0).size = k at *
    have hne : ((k : Int) != (len : Int)) = true := by rw [bne_iff_ne]; omega
    have hn' : ¬ (q : Int) < 0 := by omega
    go_enter Tryz.func44, Tryz.ntmps44
    go_wp2_with fail
    refine (K.out).mono ?_
    rintro e w1 ⟨rfl, hb⟩
    have hc1 := (hb.cell (p := ⟨b, o, none⟩) hbl).trans hc0
    go_wp2_with fail
    refine (count_any _ _ _ (by omega) (by omega) (by omega) (by omega)).mono ?_
    rw [HC.out]
    rintro e w2 ⟨rfl, rfl⟩
    go_wp2
    go_ret2
    exact ⟨rfl, hb⟩

theorem extract_take (l : List UInt8) (q : Nat) : (ByteArray.mk l.toArray).extract 0 q = ⟨(l.take q).toArray⟩ := by
  apply ByteArray.ext
  rw [← Array.toList_inj, Lib.extract_data]
  simp
/-- Join where all is well: the first n bytes. -/
theorem join_ok (b o len cap : Nat) (f : Nat → ByteArray) (q : Nat) (w : World) (h0 : 0 < len) (h16 : len ≤ 16) (hcap : len ≤ cap)
    (hcell : ∀ i, i < len → w.cell? ⟨b, o + i, none⟩ = some (.string (f i))) (h1 : 1 ≤ (f 0).size) (h8 : (f 0).size ≤ 8) (hs : ∀ i, i < len → (f i).size = (f 0).size)
    (hn1 : q ≤ len * (f 0).size) (hn2 : cntN q (f 0).size = len) :
    Calls Tryz.prog 44 #[.slice (some ⟨b, o, none⟩) len cap, .int .i64 q] w fun e w' => e = .returned (.tuple #[.string ⟨((allL f len).take q).toArray⟩, .nilIface]) ∧ Below w.heap.size w w' := by
  have hc0 := hcell 0 h0
  simp only [Nat.add_zero] at hc0
  have hbl := cell_lt hc0
  have K := hide (check_ok b o len cap f w h0 h16 hcell h1 h8 hs)
  have HCell := hide hcell
  have hal := allL_length f (f 0).size len hs
  have hmul := Nat.mul_le_mul h16 h8
  clear hcell hs
  obtain ⟨hm1, hm2⟩ := mul_cast len (f 0).size h16 h8
  have hq2 : (q : Int) ≤ (len : Int) * ((f 0).size : Int) := by rw [← Int.natCast_mul]; omega
  have HC := hide (cast_cnt q (f 0).size h1)
  rw [hn2] at HC
  have hne : ((len : Int) != (len : Int)) = false := by simp
  have hn' : ¬ (q : Int) < 0 := by omega
  have HAL := hide hal
  have hjl : (Lib.join (((List.range len).map f).map (·.data.toList)) (ByteArray.mk #[]).data.toList) = allL f len := by
    show Lib.join _ [] = _
    rw [join_nil, List.map_map]; rfl
  have HJ := hide hjl
  clear hal hjl hn2
  go_enter Tryz.func44, Tryz.ntmps44
  go_wp2_with fail
  refine (K.out).mono ?_
  rintro e w1 ⟨rfl, hb⟩
  have hc1 := (hb.cell (p := ⟨b, o, none⟩) hbl).trans hc0
  have hbl1 : b < w1.heap.size := cell_lt hc1
  go_wp2_with fail
  refine (count_any _ _ _ (by omega) (by omega) (by omega) (by omega)).mono ?_
  rw [HC.out]
  rintro e w2 ⟨rfl, rfl⟩
  go_wp2_with fail
  have J := strings_Join b o cap ((List.range len).map f) ⟨#[]⟩ w1 (fun j x hx => by
    rw [List.getElem?_map] at hx
    obtain ⟨i, hi, rfl⟩ := Option.map_eq_some_iff.1 hx
    have hj := (List.getElem?_eq_some_iff.1 hi).1
    rw [List.length_range] at hj
    rw [List.getElem?_range hj] at hi
    obtain rfl := Option.some.inj hi
    exact cells_below hb HCell.out j hj) hbl1 (by simp; omega) (by simpa using hcap) (by rw [HJ.out, HAL.out]; omega)
  rw [HJ.out, List.length_map, List.length_range] at J
  refine J.mono ?_
  rintro e w2 ⟨rfl, hb2⟩
  have hsz : (ByteArray.mk (allL f len).toArray).size = len * (f 0).size := by rw [← HAL.out]; rfl
  have hqs : q ≤ (ByteArray.mk (allL f len).toArray).size := by rw [hsz]; exact hn1
  clear J
  have hqm := Nat.le_trans hn1 hmul
  go_wp2_with fail
  rw [extract_take]
  refine (strings_Clone _ _ (by rw [Lib.size_eq, List.length_take]; omega)).mono ?_
  rintro e w3 ⟨rfl, hb3⟩
  go_wp2
  go_ret2
  exact ⟨rfl, (hb.trans (hb2.mono hb.size)).trans (hb3.mono (Nat.le_trans hb.size hb2.size))⟩
end Go.Proofs.YtjhflcgphejddaaGreatDoor

namespace Go.Proofs.YtjhflcgphejddaaGreatDoor
open Go.RowKit
set_option linter.unusedVariables false
set_option maxRecDepth 100000

theorem allL_blk (l : List UInt8) (n : Nat) : ∀ k, allL (blkB l n) k = padL l (k * n)
  | 0 => by simp [allL, padL]
  | k + 1 => by
    rw [allL_succ, allL_blk l n k, blkB, List.toList_toArray, blkL, padL_append, Nat.add_mul, Nat.one_mul]
theorem back_bytes (s : ByteArray) (n : Nat) (h1 : 1 ≤ n) : (ByteArray.mk ((allL (blkB s.data.toList n) (cntN s.size n)).take s.size).toArray) = s := by
  rw [allL_blk]
  have h := cnt_ge s.size n h1
  rw [Lib.size_eq] at h ⊢
  generalize hl : s.data.toList = l at *
  unfold padL
  rw [List.take_of_length_le h, List.take_append_of_le_length (Nat.le_refl _), List.take_length, ← hl]
end Go.Proofs.YtjhflcgphejddaaGreatDoor
