/-
  Lemmas for the law above, joined into one text (Split, EarN, EarRep). No statement is proved here.
-/
import Derived.Test.YtjgifjkdgoijmaaGreatEG9
import Derived.Deep.OwnRows
import Derived.Lib.IndexBytes
import Derived.Test.YtjgifjkdgoijmaaGreatEG7
import Derived.Shelf.Strings.Repeat
import Derived.Shelf.Strings.BuilderX
import Derived.Test.YtjgifjkdgoijmaaGreatEG0
import Derived.WalkKit
namespace Go.Proofs.YtjgifjkdgoijmaaGreat
open Go.RowKit
set_option linter.unusedVariables false
set_option maxRecDepth 100000

/-- Block i of n bytes. -/
def blkL (l : List UInt8) (n i : Nat) : List UInt8 := padL (l.drop (i * n)) n
theorem blkL_length (l : List UInt8) (n i : Nat) : (blkL l n i).length = n := padL_length _ _
def cntN (m n : Nat) : Nat := max 1 ((m + n - 1) / n)
theorem cut_le (m n i : Nat) (h1 : 1 ≤ n) (hi : i < cntN m n) : i * n ≤ m := by
  unfold cntN at hi
  have h2 := Nat.div_mul_le_self (m + n - 1) n
  rcases Nat.eq_zero_or_pos i with h | h
  · subst h; omega
  · have h3 : i + 1 ≤ (m + n - 1) / n := by omega
    have h4 := Nat.mul_le_mul_right n h3
    rw [Nat.add_mul] at h4
    omega

theorem split_full (s : ByteArray) (z : Int) (w : World) (h : 120 < s.size) (hm : s.size ≤ maxLen) :
    Calls Tryz.prog 6 #[.string s, .int .i64 z] w fun e w' => e = .returned (.tuple #[.slice none 0 0, .iface 54 (.int .i64 4)]) ∧ w = w' := by
  unfold maxLen at hm
  go_enter Tryz.func6, Tryz.ntmps6
  go_wp2
  go_ret2
  exact ⟨rfl, rfl⟩

theorem split_range (s : ByteArray) (z : Int) (w : World) (h : s.size ≤ 120) (hz : z < 1 ∨ 8 < z) :
    Calls Tryz.prog 6 #[.string s, .int .i64 z] w fun e w' => e = .returned (.tuple #[.slice none 0 0, .iface 54 (.int .i64 1)]) ∧ w = w' := by
  go_enter Tryz.func6, Tryz.ntmps6
  go_wp2_with (go_at_call 20; refine (fits_no _ _ hz).mono ?_; rintro e w' ⟨rfl, rfl⟩)
  go_ret2
  exact ⟨rfl, rfl⟩

theorem cast_cnt (m n : Nat) (h1 : 1 ≤ n) : max 1 (((m : Int) + (n : Int) - 1) / (n : Int)) = ((cntN m n : Nat) : Int) := by
  unfold cntN
  have e : (((m + n - 1 : Nat)) : Int) = (m : Int) + (n : Int) - 1 := by omega
  rw [← e, ← Int.natCast_ediv]
  omega

theorem split_many (s : ByteArray) (n : Nat) (w : World) (h : s.size ≤ 120) (h1 : 1 ≤ n) (h8 : n ≤ 8) (hk : 16 < cntN s.size n) :
    Calls Tryz.prog 6 #[.string s, .int .i64 n] w fun e w' => e = .returned (.tuple #[.slice none 0 0, .iface 54 (.int .i64 4)]) ∧ w = w' := by
  have hc := cast_cnt s.size n h1
  have HC : Hid (max 1 (((s.size : Int) + (n : Int) - 1) / (n : Int)) = ((cntN s.size n : Nat) : Int)) := hc
  clear hc
  go_enter Tryz.func6, Tryz.ntmps6
  go_wp2_with (first | (go_at_call 20; refine (fits_yes _ _ (by omega) (by omega)).mono ?_; rintro e w' ⟨rfl, rfl⟩) | (go_at_call 21; refine (count_any _ _ _ (by omega) (by omega) (by omega) (by omega)).mono ?_; rw [HC.out]; rintro e w' ⟨rfl, rfl⟩))
  go_ret2
  exact ⟨rfl, rfl⟩


set_option maxHeartbeats 1000000 in
theorem split_ok (s : ByteArray) (n : Nat) (w : World) (h : s.size ≤ 120) (h1 : 1 ≤ n) (h8 : n ≤ 8) (hk : cntN s.size n ≤ 16) :
    Calls Tryz.prog 6 #[.string s, .int .i64 n] w fun e w' => e = .returned (.tuple #[.slice (some ⟨w.heap.size, 0, none⟩) (cntN s.size n) (cntN s.size n), .nilIface])
      ∧ w'.rowIs w.heap.size 9 (cntN s.size n) (fun i => .string ⟨(blkL s.data.toList n i).toArray⟩) ∧ Below w.heap.size w w' := by
  have hc := cast_cnt s.size n h1
  have HC : Hid (max 1 (((s.size : Int) + (n : Int) - 1) / (n : Int)) = ((cntN s.size n : Nat) : Int)) := hc
  clear hc
  have hle := cut_le s.size n
  have HL : Hid (∀ i, 1 ≤ n → i < cntN s.size n → i * n ≤ s.size) := hle
  clear hle
  generalize cntN s.size n = k at *
  have hmk := run_make_row' (P := Tryz.prog) 24 9 (.string ⟨#[]⟩) 16 Tryz.underlying24 Tryz.infoStr rfl .i64 .i64 k (by omega) (by omega)
  go_enter Tryz.func6, Tryz.ntmps6
  go_wp2_with (first | (go_at_call 20; refine (fits_yes _ _ (by omega) (by omega)).mono ?_; rintro e w' ⟨rfl, rfl⟩) | (go_at_call 21; refine (count_any _ _ _ (by omega) (by omega) (by omega) (by omega)).mono ?_; rw [HC.out]; rintro e w' ⟨rfl, rfl⟩))
  go_loopw [28] (fun i wr => ∃ j : Nat, j ≤ k ∧ i = .int .i64 j ∧ wr.rowIs w.heap.size 9 k (fun i => if i < j then .string ⟨(blkL s.data.toList n i).toArray⟩ else .string ⟨#[]⟩) ∧ Below w.heap.size w wr) (fun i _ => k - (intOf i).toNat)
  case atStart => exact ⟨0, Nat.zero_le _, rfl, (World.rowIs_made _ _ _ _).congr (fun i _ => by simp), (Below.refl _ _).alloc (Nat.le_refl _) _⟩
  case round =>
    obtain ⟨j, hj, rfl, hrow, hb⟩ := hrel
    by_cases hlt : j < k
    · have hjn := HL.out j h1 hlt
      have hjn2 : (j : Int) * (n : Int) ≤ (s.size : Int) := by rw [← Int.natCast_mul]; omega
      have hjn0 : 0 ≤ (j : Int) * (n : Int) := by rw [← Int.natCast_mul]; omega
      go_wp2_with fail
      refine (padded_any _ _ _ (by omega) (by omega)).mono ?_
      rintro e w1 ⟨rfl, hb1⟩
      rw [Int.toNat_natCast]
      have hrow1 := hrow.of_block (hb1.block _ hrow.lt)
      have hb2 : Below w.heap.size w w1 := hb.trans (hb1.mono hb.size)
      have hcell : w1.cell? ⟨w.heap.size, j, none⟩ = some (.string ⟨#[]⟩) := by rw [hrow1.cell hlt, if_neg (Nat.lt_irrefl _)]
      have hfr := hrow1.frozen j
      have hset := hrow1.set j (.string ⟨(blkL s.data.toList n j).toArray⟩)
      have hex : padL (s.extract (j * n) s.size).data.toList n = blkL s.data.toList n j := by
        rw [blkL, Lib.extract_to_end]
      rw [hex]
      clear hrow1 hrow hb hb1 hex
      go_wp2
      go_roundw
      case rel =>
        refine ⟨j + 1, by omega, by go_num, hset.congr (fun i hi => ?_), hb2.setCell (Nat.le_refl _) _⟩
        by_cases e1 : i = j
        · subst e1; simp
        · by_cases e2 : i < j
          · simp [e1, e2, show i < j + 1 by omega]
          · simp [e1, e2, show ¬ i < j + 1 by omega]
      case measure => simp [intOf]; omega
    · go_wp2
      go_ret2
      obtain rfl : j = k := by omega
      exact ⟨rfl, hrow.congr (fun i hi => by simp [hi]), hb⟩
end Go.Proofs.YtjgifjkdgoijmaaGreat

namespace Go.Proofs.YtjgifjkdgoijmaaGreat
open Go.RowKit Go.Maps
set_option linter.unusedVariables false
set_option maxRecDepth 100000

/-- The seeds of drops. -/
abbrev sds (F : List Drp) : List Nat := F.map Prod.fst
/-- What is so of the numbers of an Ear, and of the drops that were new. -/
structure FOk (k z n : Nat) (F : List Drp) : Prop where
  nk : 1 ≤ k ∧ k ≤ 16
  nz : 1 ≤ z ∧ z ≤ 8
  nn : n ≤ 120
  cnt : cntN n z = k
  few : F.length ≤ 60
  good : ∀ d ∈ F, 1 ≤ d.1 ∧ d.1 ≤ 10000 ∧ d.2.size = z
  nd : (sds F).Nodup
theorem FOk.add {k z n : Nat} {F : List Drp} {s : Nat} {d : ByteArray} (h : FOk k z n F) (hf : fD k z (s : Int) d.size = 0) (h60 : F.length < 60) (hm : s ∉ sds F) : FOk k z n (F ++ [(s, d)]) := by
  obtain ⟨⟨_, _, h1, h2⟩, h3⟩ := fD_ok hf
  refine ⟨h.nk, h.nz, h.nn, h.cnt, by simp; omega, fun x hx => ?_, ?_⟩
  · rcases List.mem_append.1 hx with hx | hx
    · exact h.good x hx
    · obtain rfl := List.mem_singleton.1 hx
      exact ⟨by omega, by omega, by show d.size = z; omega⟩
  · unfold sds
    rw [List.map_append, List.nodup_append]
    refine ⟨h.nd, by simp, fun a ha b hb => ?_⟩
    obtain rfl : b = s := by simpa using hb
    exact fun e => hm (e ▸ ha)
/-- What the Ear answers to a drop: the fault's number. -/
def eF (k z : Nat) (F : List Drp) (seed : Int) (n : Nat) : Int := if fD k z seed n ≠ 0 then fD k z seed n else if 60 ≤ F.length then 4 else 0
/-- The drops that were new, with one that is heard. -/
def eAdd (F : List Drp) (s : Nat) (d : ByteArray) : List Drp := if s ∈ sds F then F else F ++ [(s, d)]

/-- The Ear at block b, that began in w0 within the blocks M. -/
structure EK (I : PIm0) (M : Nat → Prop) (w0 w : World) (b : Nat) (vP vF : Value) (k z n : Nat) (dr : Int) (p : PS) (T : List Nat) (F : List Drp) : Prop where
  ci : w.cell? ⟨b, 0, none⟩ = some vP
  ck : w.cell? ⟨b, 1, none⟩ = some (.int .i64 k)
  cz : w.cell? ⟨b, 2, none⟩ = some (.int .i64 z)
  cn : w.cell? ⟨b, 3, none⟩ = some (.int .i64 n)
  cd : w.cell? ⟨b, 4, none⟩ = some (.int .i64 dr)
  cf : w.cell? ⟨b, 5, none⟩ = some vF
  fd : w.frozen? ⟨b, 4, none⟩ = false
  ff : w.frozen? ⟨b, 5, none⟩ = false
  st : I.St w vP k z p T
  row : w.ownsRow 0 37 2 vF F.length (dC F)
  inB : M b
  inP : ∀ i, I.foot w vP i → M i ∨ w0.heap.size ≤ i
  inF : ∀ i, vF.ownBlock = some i → M i ∨ w0.heap.size ≤ i
  lt : ∀ i, M i → i < w0.heap.size
  apP : ¬ I.foot w vP b
  apF : vF.ownBlock ≠ some b
  ap : ∀ i, vF.ownBlock = some i → ¬ I.foot w vP i
  kept : Kept M w0 w
variable {I : PIm0} {M : Nat → Prop} {w0 w w' : World} {b : Nat} {vP vF : Value} {k z n : Nat} {dr : Int} {p q : PS} {T T' : List Nat} {F F' : List Drp}
theorem EK.blt (h : EK I M w0 w b vP vF k z n dr p T F) : b < w.heap.size := cell_lt h.ci
/-- All of it as it was. -/
theorem EK.keep (h : EK I M w0 w b vP vF k z n dr p T F) (hk : Kept M w0 w') (hs : w.heap.size ≤ w'.heap.size) (hb : w'.heap[b]? = w.heap[b]?) (hP : ∀ i, I.foot w vP i → w'.heap[i]? = w.heap[i]?) (hF : ∀ i, vF.ownBlock = some i → w'.heap[i]? = w.heap[i]?) : EK I M w0 w' b vP vF k z n dr p T F := by
  have hc : ∀ i, w'.cell? ⟨b, i, none⟩ = w.cell? ⟨b, i, none⟩ := fun i => World.cell?_of_block (w := w) hb
  have hf : ∀ i, w'.frozen? ⟨b, i, none⟩ = w.frozen? ⟨b, i, none⟩ := fun i => World.frozen?_of_block (w := w) hb
  have h1 := I.keep h.st hs hP
  exact ⟨(hc 0).trans h.ci, (hc 1).trans h.ck, (hc 2).trans h.cz, (hc 3).trans h.cn, (hc 4).trans h.cd, (hc 5).trans h.cf, (hf 4).trans h.fd, (hf 5).trans h.ff, h1.1, own_blk h.row hF, h.inB, fun i hi => h.inP i (h1.2 i hi), h.inF, h.lt, fun hi => h.apP (h1.2 b hi), h.apF, fun i e hi => h.ap i e (h1.2 i hi), hk⟩
theorem EK.below (h : EK I M w0 w b vP vF k z n dr p T F) (hb : Below w.heap.size w w') : EK I M w0 w' b vP vF k z n dr p T F :=
  h.keep (h.kept.below hb) hb.size (hb.block b h.blt) (fun i hi => hb.block i (I.foot_lt h.st i hi)) fun i e => hb.block i (h.row.lt i e).2
/-- Nothing of M is turned. -/
theorem EK.far (h : EK I M w w b vP vF k z n dr p T F) (hs : w.heap.size ≤ w'.heap.size) (hM : ∀ i, M i → w'.heap[i]? = w.heap[i]?) : EK I (fun i => M i) w' w' b vP vF k z n dr p T F := by
  have hP : ∀ i, I.foot w vP i → M i := fun i hi => (h.inP i hi).resolve_right fun e => by have := I.foot_lt h.st i hi; omega
  have hF : ∀ i, vF.ownBlock = some i → M i := fun i hi => (h.inF i hi).resolve_right fun e => by have := (h.row.lt i hi).2; omega
  have hb := hM b h.inB
  have hc : ∀ i, w'.cell? ⟨b, i, none⟩ = w.cell? ⟨b, i, none⟩ := fun i => World.cell?_of_block (w := w) hb
  have hf : ∀ i, w'.frozen? ⟨b, i, none⟩ = w.frozen? ⟨b, i, none⟩ := fun i => World.frozen?_of_block (w := w) hb
  have h1 := I.keep h.st hs fun i hi => hM i (hP i hi)
  exact ⟨(hc 0).trans h.ci, (hc 1).trans h.ck, (hc 2).trans h.cz, (hc 3).trans h.cn, (hc 4).trans h.cd, (hc 5).trans h.cf, (hf 4).trans h.fd, (hf 5).trans h.ff, h1.1, own_blk h.row fun i e => hM i (hF i e), h.inB, fun i hi => Or.inl (hP i (h1.2 i hi)), fun i e => Or.inl (hF i e), fun i hi => Nat.lt_of_lt_of_le (h.lt i hi) hs, fun hi => h.apP (h1.2 b hi), h.apF, fun i e hi => h.ap i e (h1.2 i hi), Kept.refl _ _⟩
/-- The Peeler has turned. -/
theorem EK.take (h : EK I M w0 w b vP vF k z n dr p T F) (hs : I.St w' vP k z q T') (hk : Kept (I.foot w vP) w w') (hf : ∀ i, I.foot w' vP i → I.foot w vP i ∨ w.heap.size ≤ i) : EK I M w0 w' b vP vF k z n dr q T' F := by
  have hb : w'.heap[b]? = w.heap[b]? := hk.block b h.blt h.apP
  have hc : ∀ i, w'.cell? ⟨b, i, none⟩ = w.cell? ⟨b, i, none⟩ := fun i => World.cell?_of_block (w := w) hb
  have hz : ∀ i, w'.frozen? ⟨b, i, none⟩ = w.frozen? ⟨b, i, none⟩ := fun i => World.frozen?_of_block (w := w) hb
  refine ⟨(hc 0).trans h.ci, (hc 1).trans h.ck, (hc 2).trans h.cz, (hc 3).trans h.cn, (hc 4).trans h.cd, (hc 5).trans h.cf, (hz 4).trans h.fd, (hz 5).trans h.ff, hs, own_blk h.row fun i e => hk.block i (h.row.lt i e).2 (h.ap i e), h.inB, fun i hi => ?_, h.inF, h.lt, fun hi => ?_, h.apF, fun i e hi => ?_, h.kept.trans hk fun i hi hf => (h.inP i hf).resolve_right (by omega)⟩
  · rcases hf i hi with h9 | h9
    · exact h.inP i h9
    · exact Or.inr (Nat.le_trans h.kept.size h9)
  · rcases hf b hi with h9 | h9
    · exact h.apP h9
    · have := h.blt; omega
  · rcases hf i hi with h9 | h9
    · exact h.ap i e h9
    · have := (h.row.lt i e).2; omega
/-- One number is stored: how many were heard. -/
theorem EK.tick (h : EK I M w0 w b vP vF k z n dr p T F) (m : Int) : EK I M w0 (w.setCell ⟨b, 4, none⟩ (.int .i64 m)) b vP vF k z n m p T F := by
  have hh : ∀ i, i ≠ b → (w.setCell ⟨b, 4, none⟩ (.int .i64 m)).heap[i]? = w.heap[i]? := fun i hi => Below.heap_setCell w ⟨b, 4, none⟩ _ i hi
  have hsz : w.heap.size ≤ (w.setCell ⟨b, 4, none⟩ (.int .i64 m)).heap.size := (show Below 0 w (w.setCell ⟨b, 4, none⟩ (.int .i64 m)) from (Below.refl 0 w).setCell (Nat.zero_le _) _).size
  have h1 := I.keep h.st hsz fun i hi => hh i fun e => h.apP (e ▸ hi)
  refine ⟨?_, ?_, ?_, ?_, World.cell?_setCell_same _ _ _ h.cd, ?_, by rw [frozen_set]; exact h.fd, by rw [frozen_set]; exact h.ff, h1.1, own_set h.row h.apF, h.inB, fun i hi => h.inP i (h1.2 i hi), h.inF, h.lt, fun hi => h.apP (h1.2 b hi), h.apF, fun i e hi => h.ap i e (h1.2 i hi), h.kept.setCell _ _ (Or.inl h.inB)⟩
  · rw [cell_set_off (by decide)]; exact h.ci
  · rw [cell_set_off (by decide)]; exact h.ck
  · rw [cell_set_off (by decide)]; exact h.cz
  · rw [cell_set_off (by decide)]; exact h.cn
  · rw [cell_set_off (by decide)]; exact h.cf
/-- A drop is put behind those that were new. -/
theorem EK.push {w1 : World} {v1 : Value} (h : EK I M w0 w b vP vF k z n dr p T F) (hg : w.grownBy w1 vF.ownBlock) (ho : w1.ownsRow 0 37 2 v1 F'.length (dC F')) (hat : v1.ownBlock = vF.ownBlock ∨ ∃ i, v1.ownBlock = some i ∧ w.heap.size ≤ i) : EK I M w0 (w1.setCell ⟨b, 5, none⟩ v1) b vP v1 k z n dr p T F' := by
  have hb1 : w1.heap[b]? = w.heap[b]? := hg.block b h.blt fun e => h.apF e.symm
  have hc : ∀ i, w1.cell? ⟨b, i, none⟩ = w.cell? ⟨b, i, none⟩ := fun i => World.cell?_of_block (w := w) hb1
  have hz : ∀ i, w1.frozen? ⟨b, i, none⟩ = w.frozen? ⟨b, i, none⟩ := fun i => World.frozen?_of_block (w := w) hb1
  have hh : ∀ i, i ≠ b → (w1.setCell ⟨b, 5, none⟩ v1).heap[i]? = w1.heap[i]? := fun i hi => Below.heap_setCell w1 ⟨b, 5, none⟩ v1 i hi
  have hsz : w1.heap.size ≤ (w1.setCell ⟨b, 5, none⟩ v1).heap.size := (show Below 0 w1 (w1.setCell ⟨b, 5, none⟩ v1) from (Below.refl 0 w1).setCell (Nat.zero_le _) _).size
  have h1 := I.keep h.st (Nat.le_trans hg.size hsz) fun i hi => (hh i fun e => h.apP (e ▸ hi)).trans (hg.block i (I.foot_lt h.st i hi) fun e => h.ap i e.symm hi)
  have hn : v1.ownBlock ≠ some b := fun e => by
    rcases hat with h9 | ⟨i, h9, hi⟩
    · exact h.apF (h9 ▸ e)
    · rw [e] at h9; cases h9; have := h.blt; omega
  refine ⟨?_, ?_, ?_, ?_, ?_, World.cell?_setCell_same _ _ _ ((hc 5).trans h.cf), ?_, ?_, h1.1, own_set ho hn, h.inB, fun i hi => h.inP i (h1.2 i hi), fun i e => ?_, h.lt, fun hi => h.apP (h1.2 b hi), hn, fun i e hi => ?_, (h.kept.grown hg fun i e => h.inF i e).setCell _ _ (Or.inl h.inB)⟩
  · rw [cell_set_off (by decide), hc]; exact h.ci
  · rw [cell_set_off (by decide), hc]; exact h.ck
  · rw [cell_set_off (by decide), hc]; exact h.cz
  · rw [cell_set_off (by decide), hc]; exact h.cn
  · rw [cell_set_off (by decide), hc]; exact h.cd
  · rw [frozen_set, hz]; exact h.fd
  · rw [frozen_set, hz]; exact h.ff
  · rcases hat with h9 | ⟨j, h9, hj⟩
    · exact h.inF i (h9 ▸ e)
    · rw [e] at h9; cases h9; exact Or.inr (Nat.le_trans h.kept.size hj)
  · have hi' := h1.2 i hi
    rcases hat with h9 | ⟨j, h9, hj⟩
    · exact h.ap i (h9 ▸ e) hi'
    · rw [e] at h9; cases h9; have := I.foot_lt h.st i hi'; omega
/-- Blocks, and those that came since. -/
def plusM (M : Nat → Prop) (w0 w : World) (i : Nat) : Prop := M i ∨ (w0.heap.size ≤ i ∧ i < w.heap.size)
theorem EK.now (h : EK I M w0 w b vP vF k z n dr p T F) : EK I (plusM M w0 w) w w b vP vF k z n dr p T F :=
  ⟨h.ci, h.ck, h.cz, h.cn, h.cd, h.cf, h.fd, h.ff, h.st, h.row, Or.inl h.inB, fun i hi => Or.inl ((h.inP i hi).imp id fun e => ⟨e, I.foot_lt h.st i hi⟩), fun i hi => Or.inl ((h.inF i hi).imp id fun e => ⟨e, (h.row.lt i hi).2⟩), fun i hi => hi.elim (fun e => Nat.lt_of_lt_of_le (h.lt i e) h.kept.size) fun e => e.2, h.apP, h.apF, h.ap, Kept.refl _ _⟩
/-- An Ear that heard dr drops, of which F were new; it lies within M. -/
def ESt (I : PIm0) (w : World) (v : Value) (k z n : Nat) (dr : Int) (F : List Drp) (M : Nat → Prop) : Prop :=
  ∃ b vP vF p, v = .pointer (some ⟨b, 0, none⟩) ∧ EK I M w w b vP vF k z n dr p (sds F) F ∧ Took (setL k) p F ∧ FOk k z n F
theorem ESt.ok {v : Value} (h : ESt I w v k z n dr F M) : FOk k z n F := by
  obtain ⟨b, vP, vF, p, _, _, _, h4⟩ := h
  exact h4
theorem ESt.lt {v : Value} (h : ESt I w v k z n dr F M) : ∀ i, M i → i < w.heap.size := by
  obtain ⟨b, vP, vF, p, _, h2, _, _⟩ := h
  exact h2.lt
theorem ESt.far {v : Value} (h : ESt I w v k z n dr F M) (hs : w.heap.size ≤ w'.heap.size) (hM : ∀ i, M i → w'.heap[i]? = w.heap[i]?) : ESt I w' v k z n dr F M := by
  obtain ⟨b, vP, vF, p, h1, h2, h3, h4⟩ := h
  exact ⟨b, vP, vF, p, h1, h2.far hs hM, h3, h4⟩
theorem ESt.below {v : Value} (h : ESt I w v k z n dr F M) (hb : Below w.heap.size w w') : ESt I w' v k z n dr F M := h.far hb.size fun i hi => hb.block i (h.lt i hi)
theorem ESt.kept {v : Value} {M' : Nat → Prop} (h : ESt I w v k z n dr F M) (hk : Kept M' w w') (hd : ∀ i, M i → ¬ M' i) : ESt I w' v k z n dr F M := h.far hk.size fun i hi => hk.block i (h.lt i hi) (hd i hi)
end Go.Proofs.YtjgifjkdgoijmaaGreat

namespace Go.Proofs.YtjgifjkdgoijmaaGreat
open Go.Shelf Go.RowKit
set_option linter.unusedVariables false
set_option maxRecDepth 100000
def renRep : Go.Shelf.Ren := ⟨fun | 99 => 75 | 105 => 47 | 165 => 76 | 166 => 77 | 169 => 79 | 170 => 78 | 206 => 96 | 212 => 74 | 240 => 97 | 241 => 98 | 263 => 94 | 264 => 95 | 276 => 109 | 277 => 110 | n => n,
  fun | 9 => 9 | 3 => 3 | 4 => 4 | 0 => 0 | 20 => 20 | 46 => 116 | 51 => 145 | 53 => 148 | 72 => 128 | 76 => 51 | 70 => 126 | 37 => 86 | 75 => 26 | 109 => 123 | 127 => 140 | 146 => 146 | 148 => 149 | 164 => 164 | 5 => 5 | 80 => 130 | n => n, fun | n => n⟩
theorem laysRep : Go.Proofs.Lays.n105 Tryz.prog renRep := by constructor <;> (intros; kernel_rfl)
theorem extraRep0 : Builder.X72 Tryz.prog renRep := by constructor <;> (intros; kernel_rfl)
theorem extraRep : Builder.Extra Tryz.prog renRep :=
  Builder.Extra.mk extraRep0 (by kernel_rfl) (fun _ => by kernel_rfl) (fun _ => by kernel_rfl) (fun _ => by kernel_rfl) (by kernel_rfl) (by kernel_rfl) (by kernel_rfl) (by decide)
/-- One byte, n times: a string of n bytes. -/
theorem repeat_one (a : UInt8) (n : Nat) (w : World) (hn : n ≤ 1000) :
    Calls Tryz.prog 47 #[.string ⟨#[a]⟩, .int .i64 n] w fun e w' => ∃ s : ByteArray, e = .returned (.string s) ∧ s.size = n ∧ Below w.heap.size w w' := by
  have h1 : (ByteArray.mk #[a]).size = 1 := rfl
  refine (Any.strings_Repeat laysRep extraRep ⟨#[a]⟩ n w (by omega) (by rw [h1]; omega)).mono ?_
  rintro e w' ⟨rfl, hb⟩
  refine ⟨_, rfl, ?_, hb⟩
  rw [Lib.size_eq, List.toList_toArray, Lib.repeatL_length]
  show n * 1 = n
  omega
end Go.Proofs.YtjgifjkdgoijmaaGreat
