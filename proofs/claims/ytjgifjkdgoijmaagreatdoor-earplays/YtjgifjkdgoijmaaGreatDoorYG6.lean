/-
  Lemmas for the law above, joined into one text (Split, EarN, RIn, RDeg, RXor). No statement is proved here.
-/
import Derived.Test.YtjgifjkdgoijmaaGreatDoorYG5
import Derived.Deep.OwnRows
import Derived.Lib.IndexBytes
import Derived.Test.YtjgifjkdgoijmaaGreatDoorYG4
import Derived.Test.YtjgifjkdgoijmaaGreatDoorYG0
import Derived.Test.YtjgifjkdgoijmaaGreatDoorYG3
import Derived.Deep.AppendLies
import Derived.Laws.BytesArg
namespace Go.Proofs.YtjgifjkdgoijmaaGreatDoor
open Go.RowKit
set_option linter.unusedVariables false
set_option maxRecDepth 100000

/-- Block i of n bytes. -/
def blkL (l : List UInt8) (n i : Nat) : List UInt8 := padL (l.drop (i * n)) n
theorem blkL_length (l : List UInt8) (n i : Nat) : (blkL l n i).length = n := padL_length _ _
def cntN (m n : Nat) : Nat := max 1 ((m + n - 1) / n)
theorem cut_le (m n i : Nat) (h1 : 1 ≤ n) (hi : i < cntN m n) : i * n ≤ m := by
  unfold cntN at hi
  have h2 := Nat.div_mul_le_self (m + n - 1) n
  rcases Nat.eq_zero_or_pos i with h | h
  · subst h; omega
  · have h3 : i + 1 ≤ (m + n - 1) / n := by omega
    have h4 := Nat.mul_le_mul_right n h3
    rw [Nat.add_mul] at h4
    omega

theorem split_full (s : ByteArray) (z : Int) (w : World) (h : 120 < s.size) (hm : s.size ≤ maxLen) :
    Calls Tryz.prog 9 #[.string s, .int .i64 z] w fun e w' => e = .returned (.tuple #[.slice none 0 0, .iface 64 (.int .i64 4)]) ∧ w = w' := by
  unfold maxLen at hm
  go_enter Tryz.func9, Tryz.ntmps9
  go_wp2
  go_ret2
  exact ⟨rfl, rfl⟩

theorem split_range (s : ByteArray) (z : Int) (w : World) (h : s.size ≤ 120) (hz : z < 1 ∨ 8 < z) :
    Calls Tryz.prog 9 #[.string s, .int .i64 z] w fun e w' => e = .returned (.tuple #[.slice none 0 0, .iface 64 (.int .i64 1)]) ∧ w = w' := by
  go_enter Tryz.func9, Tryz.ntmps9
  go_wp2_with (go_at_call 32; refine (fits_no _ _ hz).mono ?_; rintro e w' ⟨rfl, rfl⟩)
  go_ret2
  exact ⟨rfl, rfl⟩

theorem cast_cnt (m n : Nat) (h1 : 1 ≤ n) : max 1 (((m : Int) + (n : Int) - 1) / (n : Int)) = ((cntN m n : Nat) : Int) := by
  unfold cntN
  have e : (((m + n - 1 : Nat)) : Int) = (m : Int) + (n : Int) - 1 := by omega
  rw [← e, ← Int.natCast_ediv]
  omega

theorem split_many (s : ByteArray) (n : Nat) (w : World) (h : s.size ≤ 120) (h1 : 1 ≤ n) (h8 : n ≤ 8) (hk : 16 < cntN s.size n) :
    Calls Tryz.prog 9 #[.string s, .int .i64 n] w fun e w' => e = .returned (.tuple #[.slice none 0 0, .iface 64 (.int .i64 4)]) ∧ w = w' := by
  have hc := cast_cnt s.size n h1
  have HC : Hid (max 1 (((s.size : Int) + (n : Int) - 1) / (n : Int)) = ((cntN s.size n : Nat) : Int)) := hc
  clear hc
  go_enter Tryz.func9, Tryz.ntmps9
  go_wp2_with (first | (go_at_call 32; refine (fits_yes _ _ (by omega) (by omega)).mono ?_; rintro e w' ⟨rfl, rfl⟩) | (go_at_call 33; refine (count_any _ _ _ (by omega) (by omega) (by omega) (by omega)).mono ?_; rw [HC.out]; rintro e w' ⟨rfl, rfl⟩))
  go_ret2
  exact ⟨rfl, rfl⟩


set_option maxHeartbeats 1000000 in
theorem split_ok (s : ByteArray) (n : Nat) (w : World) (h : s.size ≤ 120) (h1 : 1 ≤ n) (h8 : n ≤ 8) (hk : cntN s.size n ≤ 16) :
    Calls Tryz.prog 9 #[.string s, .int .i64 n] w fun e w' => e = .returned (.tuple #[.slice (some ⟨w.heap.size, 0, none⟩) (cntN s.size n) (cntN s.size n), .nilIface])
      ∧ w'.rowIs w.heap.size 9 (cntN s.size n) (fun i => .string ⟨(blkL s.data.toList n i).toArray⟩) ∧ Below w.heap.size w w' := by
  have hc := cast_cnt s.size n h1
  have HC : Hid (max 1 (((s.size : Int) + (n : Int) - 1) / (n : Int)) = ((cntN s.size n : Nat) : Int)) := hc
  clear hc
  have hle := cut_le s.size n
  have HL : Hid (∀ i, 1 ≤ n → i < cntN s.size n → i * n ≤ s.size) := hle
  clear hle
  generalize cntN s.size n = k at *
  have hmk := run_make_row' (P := Tryz.prog) 37 9 (.string ⟨#[]⟩) 16 Tryz.underlying37 Tryz.infoStr rfl .i64 .i64 k (by omega) (by omega)
  go_enter Tryz.func9, Tryz.ntmps9
  go_wp2_with (first | (go_at_call 32; refine (fits_yes _ _ (by omega) (by omega)).mono ?_; rintro e w' ⟨rfl, rfl⟩) | (go_at_call 33; refine (count_any _ _ _ (by omega) (by omega) (by omega) (by omega)).mono ?_; rw [HC.out]; rintro e w' ⟨rfl, rfl⟩))
  go_loopw [28] (fun i wr => ∃ j : Nat, j ≤ k ∧ i = .int .i64 j ∧ wr.rowIs w.heap.size 9 k (fun i => if i < j then .string ⟨(blkL s.data.toList n i).toArray⟩ else .string ⟨#[]⟩) ∧ Below w.heap.size w wr) (fun i _ => k - (intOf i).toNat)
  case atStart => exact ⟨0, Nat.zero_le _, rfl, (World.rowIs_made _ _ _ _).congr (fun i _ => by simp), (Below.refl _ _).alloc (Nat.le_refl _) _⟩
  case round =>
    obtain ⟨j, hj, rfl, hrow, hb⟩ := hrel
    by_cases hlt : j < k
    · have hjn := HL.out j h1 hlt
      have hjn2 : (j : Int) * (n : Int) ≤ (s.size : Int) := by rw [← Int.natCast_mul]; omega
      have hjn0 : 0 ≤ (j : Int) * (n : Int) := by rw [← Int.natCast_mul]; omega
      go_wp2_with fail
      refine (padded_any _ _ _ (by omega) (by omega)).mono ?_
      rintro e w1 ⟨rfl, hb1⟩
      rw [Int.toNat_natCast]
      have hrow1 := hrow.of_block (hb1.block _ hrow.lt)
      have hb2 : Below w.heap.size w w1 := hb.trans (hb1.mono hb.size)
      have hcell : w1.cell? ⟨w.heap.size, j, none⟩ = some (.string ⟨#[]⟩) := by rw [hrow1.cell hlt, if_neg (Nat.lt_irrefl _)]
      have hfr := hrow1.frozen j
      have hset := hrow1.set j (.string ⟨(blkL s.data.toList n j).toArray⟩)
      have hex : padL (s.extract (j * n) s.size).data.toList n = blkL s.data.toList n j := by
        rw [blkL, Lib.extract_to_end]
      rw [hex]
      clear hrow1 hrow hb hb1 hex
      go_wp2
      go_roundw
      case rel =>
        refine ⟨j + 1, by omega, by go_num, hset.congr (fun i hi => ?_), hb2.setCell (Nat.le_refl _) _⟩
        by_cases e1 : i = j
        · subst e1; simp
        · by_cases e2 : i < j
          · simp [e1, e2, show i < j + 1 by omega]
          · simp [e1, e2, show ¬ i < j + 1 by omega]
      case measure => simp [intOf]; omega
    · go_wp2
      go_ret2
      obtain rfl : j = k := by omega
      exact ⟨rfl, hrow.congr (fun i hi => by simp [hi]), hb⟩
end Go.Proofs.YtjgifjkdgoijmaaGreatDoor

namespace Go.Proofs.YtjgifjkdgoijmaaGreatDoor
open Go.RowKit Go.Maps
set_option linter.unusedVariables false
set_option maxRecDepth 100000

/-- The seeds of drops. -/
abbrev sds (F : List Drp) : List Nat := F.map Prod.fst
/-- What is so of the numbers of an Ear, and of the drops that were new. -/
structure FOk (k z n : Nat) (F : List Drp) : Prop where
  nk : 1 ≤ k ∧ k ≤ 16
  nz : 1 ≤ z ∧ z ≤ 8
  nn : n ≤ 120
  cnt : cntN n z = k
  few : F.length ≤ 60
  good : ∀ d ∈ F, 1 ≤ d.1 ∧ d.1 ≤ 10000 ∧ d.2.size = z
  nd : (sds F).Nodup
theorem FOk.add {k z n : Nat} {F : List Drp} {s : Nat} {d : ByteArray} (h : FOk k z n F) (hf : fD k z (s : Int) d.size = 0) (h60 : F.length < 60) (hm : s ∉ sds F) : FOk k z n (F ++ [(s, d)]) := by
  obtain ⟨⟨_, _, h1, h2⟩, h3⟩ := fD_ok hf
  refine ⟨h.nk, h.nz, h.nn, h.cnt, by simp; omega, fun x hx => ?_, ?_⟩
  · rcases List.mem_append.1 hx with hx | hx
    · exact h.good x hx
    · obtain rfl := List.mem_singleton.1 hx
      exact ⟨by omega, by omega, by show d.size = z; omega⟩
  · unfold sds
    rw [List.map_append, List.nodup_append]
    refine ⟨h.nd, by simp, fun a ha b hb => ?_⟩
    obtain rfl : b = s := by simpa using hb
    exact fun e => hm (e ▸ ha)
/-- What the Ear answers to a drop: the fault's number. -/
def eF (k z : Nat) (F : List Drp) (seed : Int) (n : Nat) : Int := if fD k z seed n ≠ 0 then fD k z seed n else if 60 ≤ F.length then 4 else 0
/-- The drops that were new, with one that is heard. -/
def eAdd (F : List Drp) (s : Nat) (d : ByteArray) : List Drp := if s ∈ sds F then F else F ++ [(s, d)]

/-- The Ear at block b, that began in w0 within the blocks M. -/
structure EK (I : PIm0) (M : Nat → Prop) (w0 w : World) (b : Nat) (vP vF : Value) (k z n : Nat) (dr : Int) (p : PS) (T : List Nat) (F : List Drp) : Prop where
  ci : w.cell? ⟨b, 0, none⟩ = some vP
  ck : w.cell? ⟨b, 1, none⟩ = some (.int .i64 k)
  cz : w.cell? ⟨b, 2, none⟩ = some (.int .i64 z)
  cn : w.cell? ⟨b, 3, none⟩ = some (.int .i64 n)
  cd : w.cell? ⟨b, 4, none⟩ = some (.int .i64 dr)
  cf : w.cell? ⟨b, 5, none⟩ = some vF
  fd : w.frozen? ⟨b, 4, none⟩ = false
  ff : w.frozen? ⟨b, 5, none⟩ = false
  st : I.St w vP k z p T
  row : w.ownsRow 0 33 2 vF F.length (dC F)
  inB : M b
  inP : ∀ i, I.foot w vP i → M i ∨ w0.heap.size ≤ i
  inF : ∀ i, vF.ownBlock = some i → M i ∨ w0.heap.size ≤ i
  lt : ∀ i, M i → i < w0.heap.size
  apP : ¬ I.foot w vP b
  apF : vF.ownBlock ≠ some b
  ap : ∀ i, vF.ownBlock = some i → ¬ I.foot w vP i
  kept : Kept M w0 w
variable {I : PIm0} {M : Nat → Prop} {w0 w w' : World} {b : Nat} {vP vF : Value} {k z n : Nat} {dr : Int} {p q : PS} {T T' : List Nat} {F F' : List Drp}
theorem EK.blt (h : EK I M w0 w b vP vF k z n dr p T F) : b < w.heap.size := cell_lt h.ci
/-- All of it as it was. -/
theorem EK.keep (h : EK I M w0 w b vP vF k z n dr p T F) (hk : Kept M w0 w') (hs : w.heap.size ≤ w'.heap.size) (hb : w'.heap[b]? = w.heap[b]?) (hP : ∀ i, I.foot w vP i → w'.heap[i]? = w.heap[i]?) (hF : ∀ i, vF.ownBlock = some i → w'.heap[i]? = w.heap[i]?) : EK I M w0 w' b vP vF k z n dr p T F := by
  have hc : ∀ i, w'.cell? ⟨b, i, none⟩ = w.cell? ⟨b, i, none⟩ := fun i => World.cell?_of_block (w := w) hb
  have hf : ∀ i, w'.frozen? ⟨b, i, none⟩ = w.frozen? ⟨b, i, none⟩ := fun i => World.frozen?_of_block (w := w) hb
  have h1 := I.keep h.st hs hP
  exact ⟨(hc 0).trans h.ci, (hc 1).trans h.ck, (hc 2).trans h.cz, (hc 3).trans h.cn, (hc 4).trans h.cd, (hc 5).trans h.cf, (hf 4).trans h.fd, (hf 5).trans h.ff, h1.1, own_blk h.row hF, h.inB, fun i hi => h.inP i (h1.2 i hi), h.inF, h.lt, fun hi => h.apP (h1.2 b hi), h.apF, fun i e hi => h.ap i e (h1.2 i hi), hk⟩
theorem EK.below (h : EK I M w0 w b vP vF k z n dr p T F) (hb : Below w.heap.size w w') : EK I M w0 w' b vP vF k z n dr p T F :=
  h.keep (h.kept.below hb) hb.size (hb.block b h.blt) (fun i hi => hb.block i (I.foot_lt h.st i hi)) fun i e => hb.block i (h.row.lt i e).2
/-- Nothing of M is turned. -/
theorem EK.far (h : EK I M w w b vP vF k z n dr p T F) (hs : w.heap.size ≤ w'.heap.size) (hM : ∀ i, M i → w'.heap[i]? = w.heap[i]?) : EK I (fun i => M i) w' w' b vP vF k z n dr p T F := by
  have hP : ∀ i, I.foot w vP i → M i := fun i hi => (h.inP i hi).resolve_right fun e => by have := I.foot_lt h.st i hi; omega
  have hF : ∀ i, vF.ownBlock = some i → M i := fun i hi => (h.inF i hi).resolve_right fun e => by have := (h.row.lt i hi).2; omega
  have hb := hM b h.inB
  have hc : ∀ i, w'.cell? ⟨b, i, none⟩ = w.cell? ⟨b, i, none⟩ := fun i => World.cell?_of_block (w := w) hb
  have hf : ∀ i, w'.frozen? ⟨b, i, none⟩ = w.frozen? ⟨b, i, none⟩ := fun i => World.frozen?_of_block (w := w) hb
  have h1 := I.keep h.st hs fun i hi => hM i (hP i hi)
  exact ⟨(hc 0).trans h.ci, (hc 1).trans h.ck, (hc 2).trans h.cz, (hc 3).trans h.cn, (hc 4).trans h.cd, (hc 5).trans h.cf, (hf 4).trans h.fd, (hf 5).trans h.ff, h1.1, own_blk h.row fun i e => hM i (hF i e), h.inB, fun i hi => Or.inl (hP i (h1.2 i hi)), fun i e => Or.inl (hF i e), fun i hi => Nat.lt_of_lt_of_le (h.lt i hi) hs, fun hi => h.apP (h1.2 b hi), h.apF, fun i e hi => h.ap i e (h1.2 i hi), Kept.refl _ _⟩
/-- The Peeler has turned. -/
theorem EK.take (h : EK I M w0 w b vP vF k z n dr p T F) (hs : I.St w' vP k z q T') (hk : Kept (I.foot w vP) w w') (hf : ∀ i, I.foot w' vP i → I.foot w vP i ∨ w.heap.size ≤ i) : EK I M w0 w' b vP vF k z n dr q T' F := by
  have hb : w'.heap[b]? = w.heap[b]? := hk.block b h.blt h.apP
  have hc : ∀ i, w'.cell? ⟨b, i, none⟩ = w.cell? ⟨b, i, none⟩ := fun i => World.cell?_of_block (w := w) hb
  have hz : ∀ i, w'.frozen? ⟨b, i, none⟩ = w.frozen? ⟨b, i, none⟩ := fun i => World.frozen?_of_block (w := w) hb
  refine ⟨(hc 0).trans h.ci, (hc 1).trans h.ck, (hc 2).trans h.cz, (hc 3).trans h.cn, (hc 4).trans h.cd, (hc 5).trans h.cf, (hz 4).trans h.fd, (hz 5).trans h.ff, hs, own_blk h.row fun i e => hk.block i (h.row.lt i e).2 (h.ap i e), h.inB, fun i hi => ?_, h.inF, h.lt, fun hi => ?_, h.apF, fun i e hi => ?_, h.kept.trans hk fun i hi hf => (h.inP i hf).resolve_right (by omega)⟩
  · rcases hf i hi with h9 | h9
    · exact h.inP i h9
    · exact Or.inr (Nat.le_trans h.kept.size h9)
  · rcases hf b hi with h9 | h9
    · exact h.apP h9
    · have := h.blt; omega
  · rcases hf i hi with h9 | h9
    · exact h.ap i e h9
    · have := (h.row.lt i e).2; omega
/-- One number is stored: how many were heard. -/
theorem EK.tick (h : EK I M w0 w b vP vF k z n dr p T F) (m : Int) : EK I M w0 (w.setCell ⟨b, 4, none⟩ (.int .i64 m)) b vP vF k z n m p T F := by
  have hh : ∀ i, i ≠ b → (w.setCell ⟨b, 4, none⟩ (.int .i64 m)).heap[i]? = w.heap[i]? := fun i hi => Below.heap_setCell w ⟨b, 4, none⟩ _ i hi
  have hsz : w.heap.size ≤ (w.setCell ⟨b, 4, none⟩ (.int .i64 m)).heap.size := (show Below 0 w (w.setCell ⟨b, 4, none⟩ (.int .i64 m)) from (Below.refl 0 w).setCell (Nat.zero_le _) _).size
  have h1 := I.keep h.st hsz fun i hi => hh i fun e => h.apP (e ▸ hi)
  refine ⟨?_, ?_, ?_, ?_, World.cell?_setCell_same _ _ _ h.cd, ?_, by rw [frozen_set]; exact h.fd, by rw [frozen_set]; exact h.ff, h1.1, own_set h.row h.apF, h.inB, fun i hi => h.inP i (h1.2 i hi), h.inF, h.lt, fun hi => h.apP (h1.2 b hi), h.apF, fun i e hi => h.ap i e (h1.2 i hi), h.kept.setCell _ _ (Or.inl h.inB)⟩
  · rw [cell_set_off (by decide)]; exact h.ci
  · rw [cell_set_off (by decide)]; exact h.ck
  · rw [cell_set_off (by decide)]; exact h.cz
  · rw [cell_set_off (by decide)]; exact h.cn
  · rw [cell_set_off (by decide)]; exact h.cf
/-- A drop is put behind those that were new. -/
theorem EK.push {w1 : World} {v1 : Value} (h : EK I M w0 w b vP vF k z n dr p T F) (hg : w.grownBy w1 vF.ownBlock) (ho : w1.ownsRow 0 33 2 v1 F'.length (dC F')) (hat : v1.ownBlock = vF.ownBlock ∨ ∃ i, v1.ownBlock = some i ∧ w.heap.size ≤ i) : EK I M w0 (w1.setCell ⟨b, 5, none⟩ v1) b vP v1 k z n dr p T F' := by
  have hb1 : w1.heap[b]? = w.heap[b]? := hg.block b h.blt fun e => h.apF e.symm
  have hc : ∀ i, w1.cell? ⟨b, i, none⟩ = w.cell? ⟨b, i, none⟩ := fun i => World.cell?_of_block (w := w) hb1
  have hz : ∀ i, w1.frozen? ⟨b, i, none⟩ = w.frozen? ⟨b, i, none⟩ := fun i => World.frozen?_of_block (w := w) hb1
  have hh : ∀ i, i ≠ b → (w1.setCell ⟨b, 5, none⟩ v1).heap[i]? = w1.heap[i]? := fun i hi => Below.heap_setCell w1 ⟨b, 5, none⟩ v1 i hi
  have hsz : w1.heap.size ≤ (w1.setCell ⟨b, 5, none⟩ v1).heap.size := (show Below 0 w1 (w1.setCell ⟨b, 5, none⟩ v1) from (Below.refl 0 w1).setCell (Nat.zero_le _) _).size
  have h1 := I.keep h.st (Nat.le_trans hg.size hsz) fun i hi => (hh i fun e => h.apP (e ▸ hi)).trans (hg.block i (I.foot_lt h.st i hi) fun e => h.ap i e.symm hi)
  have hn : v1.ownBlock ≠ some b := fun e => by
    rcases hat with h9 | ⟨i, h9, hi⟩
    · exact h.apF (h9 ▸ e)
    · rw [e] at h9; cases h9; have := h.blt; omega
  refine ⟨?_, ?_, ?_, ?_, ?_, World.cell?_setCell_same _ _ _ ((hc 5).trans h.cf), ?_, ?_, h1.1, own_set ho hn, h.inB, fun i hi => h.inP i (h1.2 i hi), fun i e => ?_, h.lt, fun hi => h.apP (h1.2 b hi), hn, fun i e hi => ?_, (h.kept.grown hg fun i e => h.inF i e).setCell _ _ (Or.inl h.inB)⟩
  · rw [cell_set_off (by decide), hc]; exact h.ci
  · rw [cell_set_off (by decide), hc]; exact h.ck
  · rw [cell_set_off (by decide), hc]; exact h.cz
  · rw [cell_set_off (by decide), hc]; exact h.cn
  · rw [cell_set_off (by decide), hc]; exact h.cd
  · rw [frozen_set, hz]; exact h.fd
  · rw [frozen_set, hz]; exact h.ff
  · rcases hat with h9 | ⟨j, h9, hj⟩
    · exact h.inF i (h9 ▸ e)
    · rw [e] at h9; cases h9; exact Or.inr (Nat.le_trans h.kept.size hj)
  · have hi' := h1.2 i hi
    rcases hat with h9 | ⟨j, h9, hj⟩
    · exact h.ap i (h9 ▸ e) hi'
    · rw [e] at h9; cases h9; have := I.foot_lt h.st i hi'; omega
/-- Blocks, and those that came since. -/
def plusM (M : Nat → Prop) (w0 w : World) (i : Nat) : Prop := M i ∨ (w0.heap.size ≤ i ∧ i < w.heap.size)
theorem EK.now (h : EK I M w0 w b vP vF k z n dr p T F) : EK I (plusM M w0 w) w w b vP vF k z n dr p T F :=
  ⟨h.ci, h.ck, h.cz, h.cn, h.cd, h.cf, h.fd, h.ff, h.st, h.row, Or.inl h.inB, fun i hi => Or.inl ((h.inP i hi).imp id fun e => ⟨e, I.foot_lt h.st i hi⟩), fun i hi => Or.inl ((h.inF i hi).imp id fun e => ⟨e, (h.row.lt i hi).2⟩), fun i hi => hi.elim (fun e => Nat.lt_of_lt_of_le (h.lt i e) h.kept.size) fun e => e.2, h.apP, h.apF, h.ap, Kept.refl _ _⟩
/-- An Ear that heard dr drops, of which F were new; it lies within M. -/
def ESt (I : PIm0) (w : World) (v : Value) (k z n : Nat) (dr : Int) (F : List Drp) (M : Nat → Prop) : Prop :=
  ∃ b vP vF p, v = .pointer (some ⟨b, 0, none⟩) ∧ EK I M w w b vP vF k z n dr p (sds F) F ∧ Took (setL k) p F ∧ FOk k z n F
theorem ESt.ok {v : Value} (h : ESt I w v k z n dr F M) : FOk k z n F := by
  obtain ⟨b, vP, vF, p, _, _, _, h4⟩ := h
  exact h4
theorem ESt.lt {v : Value} (h : ESt I w v k z n dr F M) : ∀ i, M i → i < w.heap.size := by
  obtain ⟨b, vP, vF, p, _, h2, _, _⟩ := h
  exact h2.lt
theorem ESt.far {v : Value} (h : ESt I w v k z n dr F M) (hs : w.heap.size ≤ w'.heap.size) (hM : ∀ i, M i → w'.heap[i]? = w.heap[i]?) : ESt I w' v k z n dr F M := by
  obtain ⟨b, vP, vF, p, h1, h2, h3, h4⟩ := h
  exact ⟨b, vP, vF, p, h1, h2.far hs hM, h3, h4⟩
theorem ESt.below {v : Value} (h : ESt I w v k z n dr F M) (hb : Below w.heap.size w w') : ESt I w' v k z n dr F M := h.far hb.size fun i hi => hb.block i (h.lt i hi)
theorem ESt.kept {v : Value} {M' : Nat → Prop} (h : ESt I w v k z n dr F M) (hk : Kept M' w w') (hd : ∀ i, M i → ¬ M' i) : ESt I w' v k z n dr F M := h.far hk.size fun i hi => hk.block i (h.lt i hi) (hd i hi)
end Go.Proofs.YtjgifjkdgoijmaaGreatDoor

namespace Go.Proofs.YtjgifjkdgoijmaaGreatDoor
open Go.RowKit
set_option linter.unusedVariables false
set_option maxRecDepth 100000

set_option maxHeartbeats 1000000 in
theorem rin_no (b o n cap : Nat) (v : Int) (f : Nat → Int) (w : World) (hn : n ≤ maxLen)
    (hcell : ∀ i, i < n → w.cell? ⟨b, o + i, none⟩ = some (.int .i64 (f i))) (hs : ∀ i, i < n → f i ≠ v) :
    Calls Tryz.prog 11 #[.slice (some ⟨b, o, none⟩) n cap, .int .i64 v] w fun e w' => e = .returned (.bool false) ∧ w = w' := by
  unfold maxLen at hn
  have HC := hide hcell
  have HS := hide hs
  clear hcell hs
  go_enter Tryz.func11, Tryz.ntmps11
  go_wp2
  go_loop [5] (fun i => ∃ j : Nat, j ≤ n ∧ i = .int .i64 j) (fun i => n - (intOf i).toNat)
  case atStart => exact ⟨0, Nat.zero_le _, rfl⟩
  case round =>
    obtain ⟨j, hj, rfl⟩ := hrel
    by_cases hlt : j < n
    · have hc := HC.out j hlt
      have hz := HS.out j hlt
      have hz' : (f j == v) = false := by rw [beq_eq_false_iff_ne]; exact hz
      clear hz
      go_wp2
      go_round
      case rel => exact ⟨j + 1, by omega, by go_num⟩
      case measure => simp [intOf]; omega
    · go_wp2
      go_ret
      exact ⟨rfl, rfl⟩
set_option maxHeartbeats 1000000 in
theorem rin_yes (b o n cap : Nat) (v : Int) (f : Nat → Int) (w : World) (hn : n ≤ maxLen)
    (hcell : ∀ i, i < n → w.cell? ⟨b, o + i, none⟩ = some (.int .i64 (f i))) (q : Nat) (hq : q < n) (hs : f q = v) :
    Calls Tryz.prog 11 #[.slice (some ⟨b, o, none⟩) n cap, .int .i64 v] w fun e w' => e = .returned (.bool true) ∧ w = w' := by
  unfold maxLen at hn
  have HC := hide hcell
  have HS := hide hs
  clear hcell hs
  go_enter Tryz.func11, Tryz.ntmps11
  go_wp2
  go_loop [5] (fun i => ∃ j : Nat, j ≤ q ∧ i = .int .i64 j) (fun i => n - (intOf i).toNat)
  case atStart => exact ⟨0, Nat.zero_le _, rfl⟩
  case round =>
    obtain ⟨j, hj, rfl⟩ := hrel
    have hlt : j < n := by omega
    have hc := HC.out j hlt
    by_cases hz : f j = v
    · have hz' : (f j == v) = true := by rw [beq_iff_eq]; exact hz
      clear hz
      go_wp2
      go_ret
      exact ⟨rfl, rfl⟩
    · have hz' : (f j == v) = false := by rw [beq_eq_false_iff_ne]; exact hz
      have hne : j ≠ q := fun e => hz (by rw [e]; exact HS.out)
      have hlt2 : j < q := by omega
      clear hz hne
      go_wp2
      go_round
      case rel => exact ⟨j + 1, by omega, by go_num⟩
      case measure => simp [intOf]; omega
/-- 'in' as the list says it, whichever. -/
theorem rin_any (b o n cap : Nat) (v : Int) (f : Nat → Int) (w : World) (hn : n ≤ maxLen)
    (hcell : ∀ i, i < n → w.cell? ⟨b, o + i, none⟩ = some (.int .i64 (f i))) :
    ∃ r : Bool, (r = true ↔ ∃ q, q < n ∧ f q = v) ∧ Calls Tryz.prog 11 #[.slice (some ⟨b, o, none⟩) n cap, .int .i64 v] w fun e w' => e = .returned (.bool r) ∧ w = w' := by
  by_cases h : ∃ q, q < n ∧ f q = v
  · obtain ⟨q, hq, he⟩ := h
    exact ⟨true, by simp; exact ⟨q, hq, he⟩, rin_yes b o n cap v f w hn hcell q hq he⟩
  · exact ⟨false, by simp; exact fun q hq he => h ⟨q, hq, he⟩, rin_no b o n cap v f w hn hcell (fun i hi he => h ⟨i, hi, he⟩)⟩
end Go.Proofs.YtjgifjkdgoijmaaGreatDoor

namespace Go.Proofs.YtjgifjkdgoijmaaGreatDoor
open Go.RowKit
set_option linter.unusedVariables false
set_option maxRecDepth 100000

theorem rdeg (k n : Nat) (w : World) (hk : 1 ≤ k) (hk2 : k ≤ 16) (hn : n < 1000) : Calls Tryz.prog 84 #[.int .i64 k, .int .i64 n] w fun e w' => e = .returned (.int .i64 (deg k n)) ∧ w = w' := by
  obtain ⟨⟨p0, p1⟩, _⟩ := prods (d := 1) hk2 hn (by decide) (by decide)
  by_cases h1 : (n : Int) * (k : Int) < 1000
  · have HD : Hid (deg k n = 1) := by
      unfold Hid
      rcases Nat.lt_or_ge 1 k with h | h
      · exact degF_stop h (under_one.2 h1)
      · obtain rfl : k = 1 := by omega
        rfl
    go_enter Tryz.func84, Tryz.ntmps84
    go_wp2
    go_ret
    exact ⟨ret_int (by rw [HD.out]; rfl), rfl⟩
  · have hk1 : 2 ≤ k := by
      rcases Nat.lt_or_ge 1 k with h | h
      · exact h
      · obtain rfl : k = 1 := by omega
        exact absurd (by omega) h1
    have HD : Hid (deg k n = degF k n (k - 2) 2) := degF_on (d := 1) (by omega) (fun h => h1 (under_one.1 h))
    go_enter Tryz.func84, Tryz.ntmps84
    go_wp2
    go_loop [5] (fun i => ∃ d : Nat, 2 ≤ d ∧ d ≤ k ∧ i = .int .i64 d ∧ deg k n = degF k n (k - d) d) (fun i => k - (intOf i).toNat)
    case atStart => exact ⟨2, Nat.le_refl _, hk1, rfl, HD.out⟩
    case round =>
      obtain ⟨d, hd1, hd2, rfl, he⟩ := hrel
      have HE := hide he
      clear he
      by_cases hlt : d < k
      · obtain ⟨⟨a0, a1⟩, ⟨b0, b1⟩, c0, c1⟩ := prods (d := d) hk2 hn (by omega) (by omega)
        by_cases hu : Under k n d
        · have HS := hide (degF_stop hlt hu)
          unfold Under at hu
          go_wp2
          go_ret
          exact ⟨ret_int (by rw [HE.out, HS.out]), rfl⟩
        · have HS := hide (degF_on hlt hu)
          unfold Under at hu
          go_wp2
          go_round
          case rel => exact ⟨d + 1, by omega, by omega, by go_num, by rw [HE.out, HS.out]⟩
          case measure => simp [intOf]; omega
      · obtain rfl : d = k := by omega
        go_wp2
        go_ret
        exact ⟨ret_int (by rw [HE.out, degF_end]), rfl⟩
end Go.Proofs.YtjgifjkdgoijmaaGreatDoor

namespace Go.Proofs.YtjgifjkdgoijmaaGreatDoor
open Go.RowKit
set_option linter.unusedVariables false
set_option maxRecDepth 100000

theorem bit_step (X Y k : Nat) : (X ^^^ Y) % 2 ^ (k + 1) = (X ^^^ Y) % 2 ^ k + if X / 2 ^ k % 2 = Y / 2 ^ k % 2 then 0 else 2 ^ k := by
  rw [Nat.mod_pow_succ, ← Nat.toNat_testBit, Nat.testBit_xor, Nat.testBit_eq_decide_div_mod_eq, Nat.testBit_eq_decide_div_mod_eq]
  have hx := Nat.mod_two_eq_zero_or_one (X / 2 ^ k)
  have hy := Nat.mod_two_eq_zero_or_one (Y / 2 ^ k)
  rcases hx with hx | hx <;> rcases hy with hy | hy <;> simp [hx, hy]

theorem own_bytes {w : World} {B : Nat} {v : Value} {n : Nat} {f : Nat → UInt8} (h : w.ownsRow B 5 1 v n ((List.range n).map fun k : Nat => .int .u8 ((f k).toNat : Int))) (hn : 0 < n) :
    ∃ g cap, v = .slice (some ⟨g, 0, none⟩) n cap ∧ BRow w g n f := by
  have h' := h
  rcases h.2 with ⟨_, h0⟩ | ⟨g, cap, cur, hv, _, hg, h1, h2, hcs, hcur⟩
  · omega
  · rw [hv] at h'
    refine ⟨g, cap, hv, fun k hk => ⟨?_, h'.frozenAt k⟩⟩
    rw [h'.cellAt k (by omega)]
    simp [hk]

set_option maxHeartbeats 2000000 in
theorem rxor_ok (a b : ByteArray) (w : World) (ha : a.size ≤ 120) (h : b.size = a.size) :
    Calls Tryz.prog 81 #[.string a, .string b] w fun e w' => e = .returned (.string (xorB a b)) ∧ Below w.heap.size w w' := by
  obtain ⟨i0, hi, hz0, hzs, hzb⟩ := info_parts Tryz.infoU8
  have Hi := hide hi
  have Hz0 := hide hz0
  have Hzs := hide hzs
  have Hzb := hide hzb
  have HB := hide h
  clear hi hz0 hzs hzb h
  go_enter Tryz.func81, Tryz.ntmps81
  go_wp2
  go_loopw [5, 6, 7, 8, 9, 10, 11] (fun v i x y n p k wr => ∃ (j : Nat) (ao : Option Addr) (cv : Nat), j ≤ a.size ∧ i = .int .i64 j ∧ v = .slice ao j cv ∧ wr.ownsRow w.heap.size 5 1 v j ((List.range j).map fun k : Nat => .int .u8 ((atB a k ^^^ atB b k).toNat : Int)) ∧ Below w.heap.size w wr) (fun _ i _ _ _ _ _ _ => a.size - (intOf i).toNat)
  case atStart => exact ⟨0, none, 0, Nat.zero_le _, rfl, rfl, World.ownsRow_nil _ _ _ _, Below.refl _ _⟩
  case round =>
    obtain ⟨j, ao, cv, hj, rfl, rfl, hown, hb⟩ := hrel
    by_cases hlt : j < a.size
    · have hlb : j < b.size := by rw [HB.out]; exact hlt
      have HOwn := hide hown
      clear hown
      have hX := (a[j]).toNat_lt
      have hY := (b[j]).toNat_lt
      have hxy : Hid ((((a[j]).toNat ^^^ (b[j]).toNat : Nat)) = (atB a j ^^^ atB b j).toNat) := by
        unfold Hid; rw [atB_eq a j hlt, atB_eq b j hlb, UInt8.toNat_xor]
      go_wp2
      generalize (a[j]).toNat = X at *
      generalize (b[j]).toNat = Y at *
      go_loop [7, 8, 9, 10, 11] (fun x y n p k => ∃ q : Nat, q ≤ 8 ∧ k = .int .i64 q ∧ x = .int .i64 (X / 2 ^ q : Nat) ∧ y = .int .i64 (Y / 2 ^ q : Nat) ∧ n = .int .i64 ((X ^^^ Y) % 2 ^ q : Nat) ∧ p = .int .i64 (2 ^ q : Nat)) (fun _ _ _ _ k => 8 - (intOf k).toNat)
      case atStart => exact ⟨0, by decide, rfl, by simp, by simp, by simp [Nat.mod_one], rfl⟩
      case round =>
        obtain ⟨q, hq, rfl, rfl, rfl, rfl, rfl⟩ := hrel
        by_cases hq8 : q < 8
        · have hs := bit_step X Y q
          have e1 : X / 2 ^ (q + 1) = X / 2 ^ q / 2 := by rw [Nat.pow_succ, Nat.div_div_eq_div_mul]
          have e2 : Y / 2 ^ (q + 1) = Y / 2 ^ q / 2 := by rw [Nat.pow_succ, Nat.div_div_eq_div_mul]
          have e3 : 2 ^ (q + 1) = 2 * 2 ^ q := by rw [Nat.pow_succ, Nat.mul_comm]
          have l1 : X / 2 ^ q ≤ 255 := Nat.le_trans (Nat.div_le_self _ _) (by omega)
          have l2 : Y / 2 ^ q ≤ 255 := Nat.le_trans (Nat.div_le_self _ _) (by omega)
          have l3 : 2 ^ q ≤ 128 := Nat.pow_le_pow_right (n := 2) (by decide) (show q ≤ 7 by omega)
          have l4 : (X ^^^ Y) % 2 ^ q ≤ 128 := by
            have := Nat.mod_lt (X ^^^ Y) (show 2 ^ q > 0 from Nat.pow_pos (by decide))
            omega
          have E1 := hide e1
          have E2 := hide e2
          have E3 := hide e3
          have HS := hide hs
          clear e1 e2 e3 hs
          generalize X / 2 ^ q = xq at *
          generalize Y / 2 ^ q = yq at *
          generalize (X ^^^ Y) % 2 ^ q = nq at *
          generalize 2 ^ q = pq at *
          by_cases hxq : xq % 2 = yq % 2
          · have hne : ((xq : Int) % 2 != (yq : Int) % 2) = false := by
              have : (xq : Int) % 2 = (yq : Int) % 2 := by omega
              rw [this]; simp
            have HXQ := hide hxq
            clear hxq
            go_wp2
            go_round
            case rel => exact ⟨q + 1, by omega, by go_num, by rw [E1.out]; simp, by rw [E2.out]; simp, by rw [HS.out, if_pos HXQ.out, Nat.add_zero], by rw [E3.out]; simp⟩
            case measure => simp [intOf]; omega
          · have hne : ((xq : Int) % 2 != (yq : Int) % 2) = true := by rw [bne_iff_ne]; omega
            have HXQ := hide hxq
            clear hxq
            go_wp2
            go_round
            case rel => exact ⟨q + 1, by omega, by go_num, by rw [E1.out]; simp, by rw [E2.out]; simp, by rw [HS.out, if_neg HXQ.out]; simp, by rw [E3.out]; simp⟩
            case measure => simp [intOf]; omega
        · obtain rfl : q = 8 := by omega
          have hn8 : (X ^^^ Y) % 2 ^ 8 = (atB a j ^^^ atB b j).toNat := by
            rw [Nat.mod_eq_of_lt (Nat.xor_lt_two_pow (by omega) (by omega)), hxy.out]
          rw [hn8]
          have hU := (atB a j ^^^ atB b j).toNat_lt
          clear hn8 hxy
          generalize hu : atB a j ^^^ atB b j = u at *
          have HU := hide hu
          clear hu
          have hbs := hb.size
          go_wp2_with (at_builtin; refine wpList_append_lies _ rfl _ _ 124 rfl w.heap.size 5 i0 (.int .u8 0) 1 1 Tryz.underlying124 Hi.out Hz0.out Hzs.out Hzb.out rfl (by decide) _ _ _ rfl (HOwn.out.alloc _) ⟨wr.heap.size, 0, none⟩ 1 1 [.int .u8 (u.toNat : Int)] rfl rfl (cell_one_new _ _ _) (fun x hx => by simp at hx; subst hx; rfl) (by decide) (by unfold maxLen; omega) (by omega) (by simp; omega) _ rfl ?_; intro g3 cap3 w3 hown3 hgrow3 hat3 hlt3)
          go_roundw
          case rel =>
            have R : j + 1 ≤ a.size ∧ Value.int .i64 ((j : Int) + 1) = .int .i64 ((j + 1 : Nat) : Int) ∧ Value.slice (some ⟨g3, 0, none⟩) (j + 1) cap3 = .slice (some ⟨g3, 0, none⟩) (j + 1) cap3 ∧ w3.ownsRow w.heap.size 5 1 (.slice (some ⟨g3, 0, none⟩) (j + 1) cap3) (j + 1) ((List.range (j + 1)).map fun k : Nat => .int .u8 ((atB a k ^^^ atB b k).toNat : Int)) ∧ Below w.heap.size w w3 :=
              ⟨by omega, by simp, rfl, by rw [List.range_succ, List.map_append, List.map_singleton, HU.out]; exact hown3, (hb.alloc hbs _).grown hgrow3 (by simp; omega) (fun q hq => (HOwn.out.lt q hq).1)⟩
            first
              | exact ⟨j + 1, some ⟨g3, 0, none⟩, cap3, R⟩
              | ((repeat apply Exists.intro); exact ⟨⟨j + 1, some ⟨g3, 0, none⟩, cap3, R⟩, rfl⟩)
          case measure => simp [intOf]; omega
    · obtain rfl : j = a.size := by omega
      by_cases h0 : a.size = 0
      · have hx0 : ∀ f : Nat → UInt8, bytesB a.size f = ⟨#[]⟩ := fun f => by rw [h0]; rfl
        have HX : Hid (xorB a b = ⟨#[]⟩) := hx0 _
        rcases hown.2 with ⟨hv, _⟩ | ⟨g, cap, _, hv, _⟩
        · injection hv with e1 e2 e3
          subst e1 e3
          have hbk := run_convert_bytes_nil (P := Tryz.prog) wr 124 5 Tryz.underlying124 Tryz.underlying5 a.size 0 9 Tryz.underlying9
          have hbk0 := run_convert_bytes_nil (P := Tryz.prog) wr 124 5 Tryz.underlying124 Tryz.underlying5 0 0 9 Tryz.underlying9
          clear hown e2 h0 hx0
          go_wp2
          go_ret
          exact ⟨by rw [HX.out]; rfl, hb⟩
        · injection hv with e1 e2 e3
          subst e1 e3
          have hbk := back_row (cap := cv) (show BRow wr g a.size (fun _ => 0) from fun i hi => by omega)
          rw [hx0] at hbk
          clear hown e2 h0 hx0
          go_wp2
          go_ret
          exact ⟨by rw [HX.out]; rfl, hb⟩
      · obtain ⟨g, cap, hv, hr⟩ := own_bytes hown (by omega)
        injection hv with e1 e2 e3
        subst e1 e3
        have hbk := back_row (cap := cv) hr
        have HX : Hid (bytesB a.size (fun k => atB a k ^^^ atB b k) = xorB a b) := rfl
        clear hown e2 hr h0
        go_wp2
        go_ret
        exact ⟨rfl, hb⟩
end Go.Proofs.YtjgifjkdgoijmaaGreatDoor
