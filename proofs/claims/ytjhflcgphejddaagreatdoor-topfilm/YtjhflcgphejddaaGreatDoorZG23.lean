/-
  Lemmas for the law above, joined into one text (PDel, Xor, PRest, PSt, SClone, PSort). No statement is proved here.
-/
import Derived.Test.YtjhflcgphejddaaGreatDoorZPIdx
import Derived.Test.YtjhflcgphejddaaGreatDoorZG18
import Derived.Test.YtjhflcgphejddaaGreatDoorZG2
import Derived.Test.YtjhflcgphejddaaGreatDoorZG16
import Derived.Test.YtjhflcgphejddaaGreatDoorZPWait
import Derived.Shelf.LaysM
import Derived.Shelf.Strconv.Clone
import Derived.Test.YtjhflcgphejddaaGreatDoorZG0
import Derived.Shelf.Sort.Plain
import Derived.Shelf.Slices.In.SortNone
import Derived.Sort.OwnSortedInts
import Derived.Test.YtjhflcgphejddaaGreatDoorZG17
namespace Go.Proofs.YtjhflcgphejddaaGreatDoor
open Go.RowKit Go.Maps
set_option linter.unusedVariables false
set_option maxRecDepth 100000

/-- A block that holds one that waits. -/
theorem wtr_new (w : World) (a b : Value) : (w.alloc (.cells #[a, b] 183)).cell? ⟨w.heap.size, 0, none⟩ = some a ∧ (w.alloc (.cells #[a, b] 183)).cell? ⟨w.heap.size, 0 + 1, none⟩ = some b := ⟨by simp, by simp⟩
theorem wAt_eq {X Y : List Wtr} {j : Nat} (h : Y[j]? = X[j]?) : wAt Y j = wAt X j := by unfold wAt; rw [List.getD, List.getD, h]

set_option maxHeartbeats 4000000 in
theorem delw_ok {w : World} (B c : Nat) {v : Value} {X : List Wtr} (q : Wtr → Bool) (h : w.ownsRow B 183 2 v X.length (wC X)) (hX : X.length ≤ 1000)
    (hK : ∀ W (x : Wtr), Kept (fun i => v.ownBlock = some i) w W → x ∈ X → Calls Tryz.prog 148 #[.agg #[.slice (some ⟨x.g, 0, none⟩) x.n x.c, .string x.d.2], .pointer (some ⟨c, 0, none⟩)] W fun e w' => e = .returned (.bool (q x)) ∧ Below W.heap.size W w') :
    Calls Tryz.prog 147 #[v, .func (.func 148) #[] #[.pointer (some ⟨c, 0, none⟩)]] w fun e w' => ∃ v', e = .returned v' ∧ w'.ownsRow B 183 2 v' (X.filter fun x => !q x).length (wC (X.filter fun x => !q x)) ∧ Kept (fun i => v.ownBlock = some i) w w' ∧ v'.ownBlock = v.ownBlock := by
  have IX := hide (idxN_ok B c q h fun W x hb hx => hK W x ((Kept.refl _ w).below hb) hx)
  obtain ⟨a, cap, rfl, h1, h2, h3, h4⟩ := own_wtrs h
  have HA := hide h3
  have H := hide h
  have K := hide hK
  clear h h3 h4 hK
  unfold maxLen at h2
  go_enter Tryz.func147, Tryz.ntmps147
  go_wp2_with fail
  refine (IX.out).mono ?_
  rintro e w1 ⟨i1, rfl, hi1, hb1⟩
  have HB1 := hide hb1
  clear hb1 IX
  rcases hi1 with ⟨rfl, hall⟩ | ⟨j0, rfl, hj0, hd0, hno⟩
  · have HN := hide hall
    clear hall
    go_wp2
    go_ret
    have e : (X.filter fun x => !q x) = X := List.filter_eq_self.2 fun x hx => by
      obtain ⟨p, hp, e⟩ := List.getElem_of_mem hx
      have h9 : q (wAt X p) = false := HN.out p hp
      have e2 : wAt X p = x := by rw [← e]; simp [wAt, List.getD, hp]
      rw [e2] at h9
      rw [h9]; rfl
    rw [e]
    exact ⟨_, rfl, own_under' H.out HB1.out, (Kept.refl _ w).below HB1.out, rfl⟩
  · obtain ⟨g, ha⟩ := HA.out (by omega)
    subst ha
    have HS := hide (KInv.start (del := q) (l := X) (j := j0) (fun p x hp hx => by have h9 : q (wAt X p) = false := hno p hp; simpa [wAt, List.getD, hx] using h9) (wAt_some hj0) hd0)
    have hne : ((j0 : Int) == -1) = false := by rw [beq_eq_false_iff_ne]; omega
    have hgl := (H.out.lt g rfl).2
    clear hno hd0
    go_wp2
    go_loopw [5, 6, 7] (fun s5 s6 _ wr => ∃ (i j : Nat) (Y : List Wtr), s5 = .int .i64 i ∧ s6 = .int .i64 j ∧ KInv q X i j Y ∧ wr.ownsRow B 183 2 (.slice (some ⟨g, 0, none⟩) X.length cap) X.length (wC Y) ∧ Kept (fun i => (Value.slice (some ⟨g, 0, none⟩) X.length cap).ownBlock = some i) w wr) (fun _ s6 _ _ => X.length - (intOf s6).toNat)
    case atStart => exact ⟨j0, j0 + 1, X, rfl, by go_num, HS.out, own_under' H.out HB1.out, (Kept.refl _ w).below HB1.out⟩
    case round =>
      obtain ⟨i, j, Y, rfl, rfl, hI, hO, hb⟩ := hrel
      have hij := hI.lt
      have hjl := hI.le
      have hYl := hI.len
      have HI := hide hI
      have HO := hide hO
      have HB := hide hb
      clear hI hO hb
      by_cases hlt : j < X.length
      · have hx := wAt_some hlt
        have hY := wC_at Y j (by omega)
        rw [wAt_eq HI.out.nth] at hY
        have hc1 := (HO.out.cellAt (j * 2) (by omega)).trans hY.1
        have hc2 := (HO.out.cellAt (j * 2 + 1) (by omega)).trans hY.2
        have hxm := wAt_mem hlt
        generalize hr : wAt X j = x at *
        have HX := hide hx
        have hba : Below wr.heap.size wr (wr.alloc (.cells #[.slice (some ⟨x.g, 0, none⟩) x.n x.c, .string x.d.2] 183)) := (Below.refl _ _).alloc (Nat.le_refl _) _
        have KC := hide (K.out _ x (HB.out.below hba) hxm)
        have HBA := hide hba
        clear hr hx hY hba hxm
        obtain ⟨gx, nx, cx, sx, bx⟩ := x
        simp only at hc1 hc2 KC HBA
        go_wp2_with fail
        refine (KC.out).mono ?_
        rintro e w2 ⟨rfl, hb2⟩
        have hn := wtr_new wr (.slice (some ⟨gx, 0, none⟩) nx cx) (.string bx)
        have hn1 := cell_below hb2 hn.1
        have hn2 := cell_below hb2 hn.2
        have HB2 := hide (below_two HBA.out hb2)
        have HO2 := hide (own_under' HO.out HB2.out)
        have hYi := wC_at Y i (by omega)
        have hi1 := (HO2.out.cellAt (i * 2) (by omega)).trans hYi.1
        have hi2 := (HO2.out.cellAt (i * 2 + 1) (by omega)).trans hYi.2
        have hf1 := HO2.out.frozenAt (i * 2)
        have hf2 := HO2.out.frozenAt (i * 2 + 1)
        clear hb2 hc1 hc2 KC hn hYi HBA
        generalize wAt Y i = y at *
        cases hq : q ⟨gx, nx, cx, sx, bx⟩ with
        | true =>
          have HQ := hide hq
          clear hq
          go_wp2
          go_roundw
          case rel => exact ⟨i, j + 1, Y, rfl, by go_num, HI.out.skip HX.out HQ.out, HO2.out, HB.out.below HB2.out⟩
          case measure => simp [intOf]; omega
        | false =>
          have HQ := hide hq
          clear hq
          go_wp2
          go_roundw
          case rel =>
            refine ⟨i + 1, j + 1, Y.set i ⟨gx, nx, cx, sx, bx⟩, by go_num, by go_num, HI.out.keep HX.out HQ.out, ?_, ((HB.out.below HB2.out).setCell ⟨g, i * 2, none⟩ _ (Or.inl rfl)).setCell ⟨g, i * 2 + 1, none⟩ _ (Or.inl rfl)⟩
            rw [wC_set]
            exact ((HO2.out.stored (i * 2) _).1.stored (i * 2 + 1) _).1
          case measure => simp [intOf]; omega
      · obtain rfl : j = X.length := by omega
        have hcl : ∀ ty, (Builtin.clear_ #[116] ty #[.slice (some ⟨g, i * 2, none⟩) (X.length - i) (cap - i)]).run Tryz.prog wr = .ok (.tuple #[]) (wr.setCells g (i * 2) (Builtin.zeroCells #[.slice none 0 0, .string ⟨#[]⟩] (X.length - i)).toList) :=
          fun ty => run_clear_two wr 116 183 ty _ _ Tryz.underlying116 (fun _ => by kernel_rfl) rfl rfl rfl g (i * 2) _ _ (by omega) (fun t ht => by
            rw [HO.out.cellAt (i * 2 + t) (by omega)]
            have h9 := wC_len Y
            simp [show i * 2 + t < (wC Y).length by omega]) (fun t ht => HO.out.frozenAt _)
        generalize hzc : (Builtin.zeroCells #[.slice none 0 0, .string ⟨#[]⟩] (X.length - i)).toList = zc at *
        clear hzc
        go_wp2
        go_ret
        obtain ⟨ys, hy1, hy2⟩ := own_sets zc (i * 2) wr _ HO.out
        have hc := own_cut hy1 (i := i) (by omega)
        have e : ys.take (i * 2) = wC (X.filter fun x => !q x) := by rw [hy2, wC_take, HI.out.done]
        have e2 : i = (X.filter fun x => !q x).length := by rw [← HI.out.done, List.length_take]; omega
        rw [e] at hc
        refine ⟨_, rfl, by rw [← e2]; exact hc, ?_, rfl⟩
        exact kept_sets HB.out zc (i * 2) rfl
end Go.Proofs.YtjhflcgphejddaaGreatDoor

namespace Go.Proofs.YtjhflcgphejddaaGreatDoor
open Go.RowKit
set_option linter.unusedVariables false
set_option maxRecDepth 100000

theorem xor_full (a b : ByteArray) (w : World) (ha : a.size ≤ maxLen) (hb : b.size ≤ maxLen) (h : 120 < a.size ∨ 120 < b.size) :
    Calls Tryz.prog 128 #[.string a, .string b] w fun e w' => e = .returned (.tuple #[.string ⟨#[]⟩, .iface 61 (.int .i64 4)]) ∧ w = w' := by
  unfold maxLen at ha hb
  by_cases h1 : 120 < a.size
  · go_enter Tryz.func128, Tryz.ntmps128
    go_wp2
    go_ret2
    exact ⟨rfl, rfl⟩
  · have h2 : 120 < b.size := by omega
    go_enter Tryz.func128, Tryz.ntmps128
    go_wp2
    go_ret2
    exact ⟨rfl, rfl⟩
theorem xor_shape (a b : ByteArray) (w : World) (ha : a.size ≤ 120) (hb : b.size ≤ 120) (h : a.size ≠ b.size) :
    Calls Tryz.prog 128 #[.string a, .string b] w fun e w' => e = .returned (.tuple #[.string ⟨#[]⟩, .iface 61 (.int .i64 3)]) ∧ w = w' := by
  have hne : ((a.size : Int) != (b.size : Int)) = true := by rw [bne_iff_ne]; omega
  clear h
  go_enter Tryz.func128, Tryz.ntmps128
  go_wp2
  go_ret2
  exact ⟨rfl, rfl⟩
set_option maxHeartbeats 1000000 in
theorem xor_ok (a b : ByteArray) (w : World) (ha : a.size ≤ 120) (h : b.size = a.size) :
    Calls Tryz.prog 128 #[.string a, .string b] w fun e w' => e = .returned (.tuple #[.string (xorB a b), .nilIface]) ∧ Below w.heap.size w w' := by
  have hne : ((a.size : Int) != (b.size : Int)) = false := by rw [h]; simp
  have hb : b.size ≤ 120 := by omega
  have hcv := run_bytes_of_string (P := Tryz.prog) w 9 74 5 a Tryz.underlying9 Tryz.underlying74 Tryz.underlying5
  have L := hide (lay_any w.heap.size a.size (grownCap w a.size 0 5) b (atB a) _ (by omega) h (row_new w a (grownCap w a.size 0 5) 5))
  clear h
  go_enter Tryz.func128, Tryz.ntmps128
  go_wp2_with fail
  refine (L.out).mono ?_
  rintro e w1 ⟨rfl, hr, hb1⟩
  have hbk := back_row (cap := grownCap w a.size 0 5) hr
  have hbb : Below w.heap.size w w1 := ((Below.refl _ w).drew.alloc (Nat.le_refl _) _).trans hb1
  clear hcv
  go_wp2
  go_ret2
  exact ⟨rfl, hbb⟩
end Go.Proofs.YtjhflcgphejddaaGreatDoor

namespace Go.Proofs.YtjhflcgphejddaaGreatDoor
open Go.RowKit Go.Maps
set_option linter.unusedVariables false
set_option maxRecDepth 100000

theorem outB_next {B : Nat → ByteArray} {x : Nat} {l : List Nat} {b : ByteArray} {j : Nat} (h : j < l.length) : outB B x (l.take (j + 1)) b = if l.getD j 0 = x then outB B x (l.take j) b else xorB (outB B x (l.take j) b) (B (l.getD j 0)) := by
  have e : l.take (j + 1) = l.take j ++ [l.getD j 0] := by rw [List.take_add_one]; simp [List.getD, h]
  rw [e]
  unfold outB
  rw [List.foldl_append]
  rfl

set_option maxHeartbeats 2000000 in
theorem rest_ok (b kb k seed x z : Nat) (kn : Nat → Bool) (B : Nat → ByteArray) (D : DataW Unit) (vo : Value) (data : ByteArray) (w : World) (hk : 1 ≤ k) (hk2 : k ≤ 16) (h1 : 1 ≤ seed) (h2 : seed ≤ 10000) (hz : z ≤ 8)
    (hc : w.cell? ⟨b, 3, none⟩ = some (.map (some kb))) (hM : MKn w kb k kn B D) (ho : Lst w vo (setL k seed)) (hx : lft (setL k) kn (seed, data) = [x]) (hd : data.size = z) (hB : ∀ r, kn r = true → (B r).size = z) :
    Calls Tryz.prog 153 #[.pointer (some ⟨b, 0, none⟩), .agg #[vo, .string data]] w fun e w' => e = .returned (.tuple #[.string (outB B x (setL k seed) data), .nilIface]) ∧ Below w.heap.size w w' := by
  have hb0 : Below w.heap.size w (w.alloc (.cells #[vo, .string data] 183)) := (Below.refl _ _).alloc (Nat.le_refl _) _
  have HB0 := hide hb0
  have hl : 0 < (setL k seed).length ∧ (setL k seed).length ≤ 16 := ⟨(setL_len hk hk2 h1 h2).1, Nat.le_trans (setL_len hk hk2 h1 h2).2 hk2⟩
  have HSL : Hid (∀ r ∈ setL k seed, r < k) := fun r hr => setL_lt hk h1 hr
  have HKn : Hid (∀ r ∈ setL k seed, kn r = true ↔ r ≠ x) := fun r hr => by
    have hxm : x ∈ lft (setL k) kn (seed, data) := by rw [hx]; simp
    constructor
    · rintro h rfl
      rw [(mem_lft.1 hxm).2] at h; cases h
    · intro hne
      cases e : kn r with
      | true => rfl
      | false =>
        have : r ∈ lft (setL k) kn (seed, data) := mem_lft.2 ⟨hr, e⟩
        rw [hx] at this
        exact absurd (List.mem_singleton.1 this) hne
  have HC := hide hc
  have HM := hide hM
  have HBz := hide hB
  have hOz : Hid (∀ j, (outB B x ((setL k seed).take j) data).size = z) := fun j => by rw [outB_size]; exact hd
  obtain ⟨g, cap, rfl, hq1, hq2, hq3⟩ := ho
  unfold maxLen at hq2
  have HQ := hide hq3
  clear hc hM hb0 hq3 hx hB
  generalize setL k seed = l at *
  go_enter Tryz.func153, Tryz.ntmps153
  go_wp2_with fail
  go_loopw [6, 18] (fun d i wr => ∃ j : Nat, j ≤ l.length ∧ i = .int .i64 j ∧ d = .string (outB B x (l.take j) data) ∧ Below w.heap.size w wr) (fun _ i _ => l.length - (intOf i).toNat)
  case atStart => exact ⟨0, Nat.zero_le _, rfl, rfl, HB0.out⟩
  case round =>
    obtain ⟨j, hj, rfl, rfl, hb⟩ := hrel
    have HB := hide hb
    have hbs := hb.size
    by_cases hlt : j < l.length
    · have hcj := cell_below hb (HQ.out j hlt)
      have hck := cell_below hb HC.out
      have HMj := hide (HM.out.below hb)
      have HO := hide (outB_next (B := B) (x := x) (b := data) hlt)
      have hrm := getD_mem hlt
      have hoz := hOz.out j
      have hr16 := HSL.out _ hrm
      have hkr := HKn.out _ hrm
      simp only [Nat.zero_add] at hcj
      clear hb hrm
      generalize hrr : l.getD j 0 = r at *
      generalize hob : outB B x (l.take j) data = ob at *
      clear hrr hob
      by_cases hrx : r = x
      · have hkf : kn r = false := by
          cases e : kn r with
          | false => rfl
          | true => exact absurd hrx (hkr.1 e)
        rw [Hid, if_pos hrx] at HO
        have HO' := hide HO
        have HKF := hide hkf
        clear HO hkr hrx
        go_wp2_with (first | (at_lookup; refine wpList_lookup_blk rfl _ _ rfl kb k r kn B D rfl rfl HMj.out (by omega) ?_; intro s hs; rw [HKF.out]) | fail)
        exact ⟨⟨j + 1, by omega, by simp, by rw [HO'.out], HB.out.alloc hbs _⟩, by simp [intOf]; omega⟩
      · have hkt : kn r = true := hkr.2 hrx
        rw [Hid, if_neg hrx] at HO
        have HO' := hide HO
        have HKT := hide hkt
        have X := hide (fun w1 => xor_ok ob (B r) w1 (by omega) (by rw [hoz]; exact HBz.out r hkt))
        clear HO hkr hrx hkt
        go_wp2_with (first | (at_lookup; refine wpList_lookup_blk rfl _ _ rfl kb k r kn B D rfl rfl HMj.out (by omega) ?_; intro s hs; rw [HKT.out, hs HKT.out]) | fail)
        refine (X.out _).mono ?_
        rintro e w1 ⟨rfl, hb1⟩
        have HB1 := hide (HB.out.alloc hbs (.cells #[.string (B r)] 229))
        have HB2 := hide (below_two HB1.out hb1)
        clear hb1 hcj hck
        generalize hxo : xorB ob (B r) = xo at *
        clear hxo
        go_wp2
        exact ⟨⟨j + 1, by omega, by simp, by rw [HO'.out], HB2.out⟩, by simp [intOf]; omega⟩
    · obtain rfl : j = l.length := by omega
      rw [List.take_length] at *
      go_wp2
      go_ret2
      exact ⟨rfl, HB.out⟩
end Go.Proofs.YtjhflcgphejddaaGreatDoor

namespace Go.Proofs.YtjhflcgphejddaaGreatDoor
open Go.RowKit Go.Maps
set_option linter.unusedVariables false
set_option maxRecDepth 100000

theorem MSet.of_block {w w' : World} {b : Nat} {l : List Nat} {D : DataW Unit} (h : MSet w b l D) (hb : w'.heap[b]? = w.heap[b]?) : MSet w' b l D := ⟨ownsMap_block h.1 hb, h.2⟩
theorem Lst.of_block {w w' : World} {g n c : Nat} {l : List Nat} (h : Lst w (.slice (some ⟨g, 0, none⟩) n c) l) (hb : w'.heap[g]? = w.heap[g]?) : Lst w' (.slice (some ⟨g, 0, none⟩) n c) l := by
  obtain ⟨g', cap, hv, h1, h2, h3⟩ := h
  have e : g = g' := by injection hv with e; injection e with e; injection e with e
  subst e
  exact ⟨g, cap, hv, h1, h2, fun i hi => (World.cell?_of_block (w := w) hb).trans (h3 i hi)⟩
structure PQ (w : World) (b tb kb k z : Nat) (p : PS) (T : List Nat) (vW : Value) (X : List Wtr) : Prop where
  ck : w.cell? ⟨b, 0, none⟩ = some (.int .i64 k)
  cz : w.cell? ⟨b, 1, none⟩ = some (.int .i64 z)
  ct : w.cell? ⟨b, 2, none⟩ = some (.map (some tb))
  cn : w.cell? ⟨b, 3, none⟩ = some (.map (some kb))
  cw : w.cell? ⟨b, 4, none⟩ = some vW
  cf : w.frozen? ⟨b, 4, none⟩ = false
  tk : ∃ D, MSet w tb T D
  kn : ∃ D, MKn w kb k p.known p.B D
  row : w.ownsRow 0 183 2 vW X.length (wC X)
  xs : X.map Wtr.d = p.L
  sets : ∀ x ∈ X, Lst w (.slice (some ⟨x.g, 0, none⟩) x.n x.c) (setL k x.d.1)
  good : Good z p
  few : p.L.length ≤ T.length ∧ T.length ≤ 60
  lt : ∀ r, p.known r = true → r < k
  nk : 1 ≤ k ∧ k ≤ 16
  nz : 1 ≤ z ∧ z ≤ 8
  nbt : b ≠ tb
  nbk : b ≠ kb
  ntk : tb ≠ kb
  apW : ∀ i, vW.ownBlock = some i → i ≠ b ∧ i ≠ tb ∧ i ≠ kb
  apX : ∀ x ∈ X, x.g ≠ b ∧ x.g ≠ tb ∧ x.g ≠ kb ∧ vW.ownBlock ≠ some x.g
/-- Its blocks. -/
def PF (b tb kb : Nat) (vW : Value) (X : List Wtr) (i : Nat) : Prop := i = b ∨ i = tb ∨ i = kb ∨ vW.ownBlock = some i ∨ ∃ x ∈ X, i = x.g
theorem PQ.seeds {w : World} {b tb kb k z : Nat} {p : PS} {T : List Nat} {vW : Value} {X : List Wtr} (h : PQ w b tb kb k z p T vW X) : ∀ x ∈ X, 1 ≤ x.d.1 ∧ x.d.1 ≤ 10000 ∧ x.d.2.size = z := fun x hx => h.good.1 x.d (by rw [← h.xs]; exact List.mem_map_of_mem hx)
theorem PQ.len {w : World} {b tb kb k z : Nat} {p : PS} {T : List Nat} {vW : Value} {X : List Wtr} (h : PQ w b tb kb k z p T vW X) : X.length = p.L.length := by rw [← h.xs, List.length_map]
theorem PQ.flt {w : World} {b tb kb k z : Nat} {p : PS} {T : List Nat} {vW : Value} {X : List Wtr} (h : PQ w b tb kb k z p T vW X) : ∀ i, PF b tb kb vW X i → i < w.heap.size := fun i hi => by
  rcases hi with rfl | rfl | rfl | e | ⟨x, hx, rfl⟩
  · exact cell_lt h.ck
  · obtain ⟨D, hD⟩ := h.tk
    exact hD.1.lt
  · obtain ⟨D, hD⟩ := h.kn
    exact hD.lt
  · exact (h.row.lt i e).2
  · obtain ⟨g, cap, hv, h1, h2, h3⟩ := h.sets x hx
    have e : x.g = g := by injection hv with e; injection e with e; injection e with e
    rw [e]
    exact cell_lt (h3 0 (setL_len h.nk.1 h.nk.2 (h.seeds x hx).1 (h.seeds x hx).2.1).1)
theorem PQ.keep {w w' : World} {b tb kb k z : Nat} {p : PS} {T : List Nat} {vW : Value} {X : List Wtr} (h : PQ w b tb kb k z p T vW X) (hb : ∀ i, PF b tb kb vW X i → w'.heap[i]? = w.heap[i]?) : PQ w' b tb kb k z p T vW X := by
  have hbb := hb b (Or.inl rfl)
  have hc : ∀ i, w'.cell? ⟨b, i, none⟩ = w.cell? ⟨b, i, none⟩ := fun i => World.cell?_of_block (w := w) hbb
  have hf : ∀ i, w'.frozen? ⟨b, i, none⟩ = w.frozen? ⟨b, i, none⟩ := fun i => World.frozen?_of_block (w := w) hbb
  obtain ⟨Dt, ht⟩ := h.tk
  obtain ⟨Dk, hk⟩ := h.kn
  exact ⟨(hc 0).trans h.ck, (hc 1).trans h.cz, (hc 2).trans h.ct, (hc 3).trans h.cn, (hc 4).trans h.cw, (hf 4).trans h.cf, ⟨Dt, ht.of_block (hb tb (Or.inr (Or.inl rfl)))⟩, ⟨Dk, hk.of_block (hb kb (Or.inr (Or.inr (Or.inl rfl))))⟩,
    own_blk h.row fun i e => hb i (Or.inr (Or.inr (Or.inr (Or.inl e)))), h.xs, fun x hx => (h.sets x hx).of_block (hb x.g (Or.inr (Or.inr (Or.inr (Or.inr ⟨x, hx, rfl⟩))))), h.good, h.few, h.lt, h.nk, h.nz, h.nbt, h.nbk, h.ntk, h.apW, h.apX⟩
theorem PQ.below {w w' : World} {b tb kb k z : Nat} {p : PS} {T : List Nat} {vW : Value} {X : List Wtr} (h : PQ w b tb kb k z p T vW X) (hb : Below w.heap.size w w') : PQ w' b tb kb k z p T vW X := h.keep fun i hi => hb.block i (h.flt i hi)
/-- What its two predicates read. -/
theorem PQ.read {w : World} {b tb kb k z c : Nat} {p : PS} {T : List Nat} {vW : Value} {X : List Wtr} (h : PQ w b tb kb k z p T vW X) (hc : w.cell? ⟨c, 0, none⟩ = some (.pointer (some ⟨b, 0, none⟩))) : ∃ D, PRead w c b kb k p.known p.B D X := by
  obtain ⟨D, hD⟩ := h.kn
  exact ⟨D, hc, h.cn, hD, fun x hx => ⟨h.sets x hx, (h.seeds x hx).1, (h.seeds x hx).2.1⟩⟩
theorem sift_map {k : Nat} {kn : Nat → Bool} (X : List Wtr) : (X.filter fun x => !(lfn k kn x == 0)).map Wtr.d = sift (setL k) kn (X.map Wtr.d) := by
  unfold sift
  rw [List.filter_map]
  rfl
/-- Those of which none is left wait no more. -/
theorem PQ.siftd {w w1 : World} {b tb kb k z : Nat} {p : PS} {T : List Nat} {vW v1 : Value} {X : List Wtr} (h : PQ w b tb kb k z p T vW X) (hk : Kept (fun i => vW.ownBlock = some i) w w1)
    (ho : w1.ownsRow 0 183 2 v1 (X.filter fun x => !(lfn k p.known x == 0)).length (wC (X.filter fun x => !(lfn k p.known x == 0)))) (he : v1.ownBlock = vW.ownBlock) :
    PQ (w1.setCell ⟨b, 4, none⟩ v1) b tb kb k z ⟨p.known, p.B, sift (setL k) p.known p.L⟩ T v1 (X.filter fun x => !(lfn k p.known x == 0)) := by
  have hw : ∀ i, i ≠ b → PF b tb kb vW X i → vW.ownBlock ≠ some i → (w1.setCell ⟨b, 4, none⟩ v1).heap[i]? = w.heap[i]? := fun i hi hp hn =>
    (Below.heap_setCell w1 ⟨b, 4, none⟩ v1 i hi).trans (hk.block i (h.flt i hp) hn)
  have hnb : vW.ownBlock ≠ some b := fun e => (h.apW b e).1 rfl
  have hb1 : w1.heap[b]? = w.heap[b]? := hk.block b (h.flt b (Or.inl rfl)) hnb
  have hc : ∀ i, w1.cell? ⟨b, i, none⟩ = w.cell? ⟨b, i, none⟩ := fun i => World.cell?_of_block (w := w) hb1
  have hf : ∀ i, w1.frozen? ⟨b, i, none⟩ = w.frozen? ⟨b, i, none⟩ := fun i => World.frozen?_of_block (w := w) hb1
  obtain ⟨Dt, ht⟩ := h.tk
  obtain ⟨Dk, hkn⟩ := h.kn
  have hsub : ∀ x ∈ (X.filter fun x => !(lfn k p.known x == 0)), x ∈ X := fun x hx => (List.mem_filter.1 hx).1
  have hsl : (sift (setL k) p.known p.L).length ≤ p.L.length := sift_len _
  refine ⟨?_, ?_, ?_, ?_, ?_, ?_, ⟨Dt, ht.of_block (hw tb h.nbt.symm (Or.inr (Or.inl rfl)) (fun e => (h.apW tb e).2.1 rfl))⟩, ⟨Dk, hkn.of_block (hw kb h.nbk.symm (Or.inr (Or.inr (Or.inl rfl))) (fun e => (h.apW kb e).2.2 rfl))⟩, own_set ho (by rw [he]; exact hnb), ?_, fun x hx => ?_, ⟨fun d hd => h.good.1 d (mem_sift.1 hd).1, h.good.2⟩, ⟨Nat.le_trans hsl h.few.1, h.few.2⟩, h.lt, h.nk, h.nz, h.nbt, h.nbk, h.ntk, fun i e => h.apW i (he ▸ e), fun x hx => ?_⟩
  · rw [cell_set_off (by decide), hc]; exact h.ck
  · rw [cell_set_off (by decide), hc]; exact h.cz
  · rw [cell_set_off (by decide), hc]; exact h.ct
  · rw [cell_set_off (by decide), hc]; exact h.cn
  · exact World.cell?_setCell_same _ _ _ ((hc 4).trans h.cw)
  · rw [frozen_set, hf]; exact h.cf
  · rw [sift_map, h.xs]
  · have hx' := hsub x hx
    exact (h.sets x hx').of_block (hw x.g (h.apX x hx').1 (Or.inr (Or.inr (Or.inr (Or.inr ⟨x, hx', rfl⟩)))) (h.apX x hx').2.2.2)
  · rw [he]; exact h.apX x (hsub x hx)
/-- A block has come to be known. -/
theorem PQ.tell {w w1 : World} {b tb kb k z x n : Nat} {p : PS} {T : List Nat} {vW : Value} {X : List Wtr} {D : DataW Unit} {s : ByteArray} (h : PQ w b tb kb k z p T vW X) (hg : w.grownBy w1 (some kb)) (hM : MKn w kb k p.known p.B D) (hx : p.known x = false) (hxk : x < k) (hs : s.size = z)
    (h' : w1.ownsMap Tryz.prog 3 blkElem kb n (D.put (.int .i64 x) (.lit (.string s.data.toList)))) : PQ w1 b tb kb k z ⟨upd p.known x true, upd p.B x s, p.L⟩ T vW X := by
  have hw : ∀ i, i ≠ kb → PF b tb kb vW X i → w1.heap[i]? = w.heap[i]? := fun i hi hp => hg.block i (h.flt i hp) (fun e => hi (Option.some.inj e))
  have hb1 := hw b h.nbk (Or.inl rfl)
  have hc : ∀ i, w1.cell? ⟨b, i, none⟩ = w.cell? ⟨b, i, none⟩ := fun i => World.cell?_of_block (w := w) hb1
  have hf : ∀ i, w1.frozen? ⟨b, i, none⟩ = w.frozen? ⟨b, i, none⟩ := fun i => World.frozen?_of_block (w := w) hb1
  obtain ⟨Dt, ht⟩ := h.tk
  refine ⟨(hc 0).trans h.ck, (hc 1).trans h.cz, (hc 2).trans h.ct, (hc 3).trans h.cn, (hc 4).trans h.cw, (hf 4).trans h.cf, ⟨Dt, ht.of_block (hw tb h.ntk (Or.inr (Or.inl rfl)))⟩, ⟨_, hM.put hx hxk h'⟩, own_blk h.row fun i e => hw i (h.apW i e).2.2 (Or.inr (Or.inr (Or.inr (Or.inl e)))), h.xs, fun y hy => (h.sets y hy).of_block (hw y.g (h.apX y hy).2.2.1 (Or.inr (Or.inr (Or.inr (Or.inr ⟨y, hy, rfl⟩))))), ⟨h.good.1, fun r hr => ?_⟩, h.few, fun r hr => ?_, h.nk, h.nz, h.nbt, h.nbk, h.ntk, h.apW, h.apX⟩
  · by_cases c : r = x
    · show (if r = x then _ else _ : ByteArray).size = z
      rw [if_pos c]; exact hs
    · show (if r = x then _ else p.B r : ByteArray).size = z
      rw [if_neg c]
      exact h.good.2 r (by have hr' : (if r = x then true else p.known r) = true := hr; rw [if_neg c] at hr'; exact hr')
  · by_cases c : r = x
    · rw [c]; exact hxk
    · exact h.lt r (by have hr' : (if r = x then true else p.known r) = true := hr; rw [if_neg c] at hr'; exact hr')
end Go.Proofs.YtjhflcgphejddaaGreatDoor

namespace Go.Proofs.YtjhflcgphejddaaGreatDoor
open Go.Shelf Go.RowKit
set_option linter.unusedVariables false
set_option maxRecDepth 100000

def renClone : Go.Shelf.Ren := ⟨fun | 316 => 72 | n => n, fun | 9 => 9 | 3 => 3 | 4 => 4 | 37 => 74 | 0 => 0 | 127 => 185 | 5 => 5 | n => n, fun | n => n⟩
theorem laysClone0 : Go.Proofs.Lays.n316 Tryz.prog renClone := by constructor <;> (intros; kernel_rfl)
theorem laysClone : Go.Proofs.LaysM.n316 Tryz.prog renClone := by constructor <;> first | exact laysClone0 | (intros; kernel_rfl)
theorem stringslite_Clone (s : ByteArray) (w : World) (hlim : s.size ≤ 281474976710656) :
    Calls Tryz.prog 72 #[.string s] w fun e w' => e = .returned (.string s) ∧ Below w.heap.size w w' :=
  Any.stringslite_Clone laysClone s w hlim
theorem strings_Clone (s : ByteArray) (w : World) (hlim : s.size ≤ 281474976710656) :
    Calls Tryz.prog 39 #[.string s] w fun e w' => e = .returned (.string s) ∧ Below w.heap.size w w' := by
  go_enter Tryz.func39, Tryz.ntmps39
  go_wp2_with fail
  refine (stringslite_Clone _ _ hlim).mono ?_
  rintro e w1 ⟨rfl, hb⟩
  go_wp2
  go_ret
  exact ⟨rfl, hb⟩
end Go.Proofs.YtjhflcgphejddaaGreatDoor

namespace Go.Proofs.YtjhflcgphejddaaGreatDoor
open Go.Shelf Go.RowKit
set_option linter.unusedVariables false
set_option maxRecDepth 100000

def renSort : Go.Shelf.Ren := ⟨fun | 125 => 154 | 128 => 161 | 129 => 162 | 189 => 152 | 215 => 180 | 216 => 171 | 257 => 160 | 294 => 165 | 295 => 166 | 296 => 167 | 297 => 168 | 298 => 169 | 299 => 170 | 300 => 172 | 301 => 173 | 328 => 175 | 329 => 176 | 330 => 177 | 331 => 178 | 332 => 179 | 343 => 181 | n => n,
  fun | 0 => 0 | 3 => 3 | 4 => 4 | 5 => 5 | 9 => 9 | 28 => 23 | 46 => 111 | 51 => 216 | 53 => 219 | 131 => 195 | 182 => 244 | 183 => 245 | 218 => 250 | 222 => 254 | 228 => 256 | 229 => 257 | n => n, fun | n => n⟩
theorem laysSort : Go.Proofs.Lays.n189 Tryz.prog renSort := by constructor <;> (intros; kernel_rfl)

theorem sort_same {l l' : List Nat} (hp : l.Perm l') (hs : l'.Pairwise (· < ·)) : (l.map fun r : Nat => (r : Int)).mergeSort (fun x y => decide (x ≤ y)) = l'.map fun r : Nat => (r : Int) := by
  refine List.Perm.eq_of_pairwise (le := fun x y : Int => x ≤ y) (fun a b _ _ h1 h2 => by omega) ?_ ?_ ((List.mergeSort_perm _ _).trans (hp.map _))
  · exact (List.pairwise_mergeSort (le := fun x y : Int => decide (x ≤ y)) (fun a b c h1 h2 => by simp at h1 h2 ⊢; omega) (fun a b => by simp; omega) _).imp (fun h => by simpa using h)
  · exact List.pairwise_map.2 (hs.imp (fun h => by omega))
theorem sort_ok {w : World} (B : Nat) {v : Value} {l l' : List Nat} (h : w.ownsRow B 3 1 v l.length (toV l)) (hl : l.length ≤ 16) (hp : l.Perm l') (hs : l'.Pairwise (· < ·)) :
    Calls Tryz.prog 152 #[v] w fun e w' => e = .returned (.tuple #[]) ∧ w'.ownsRow B 3 1 v l'.length (toV l') ∧ w.grownBy w' v.ownBlock := by
  have hle := hp.length_eq
  rcases Nat.eq_zero_or_pos l.length with h0 | h0
  · have e1 : l = [] := List.eq_nil_of_length_eq_zero h0
    have e2 : l' = [] := List.eq_nil_of_length_eq_zero (by omega)
    subst e1 e2
    have hv : ∃ a cap, v = .slice a 0 cap := by
      rcases h.2 with ⟨hv, _⟩ | ⟨g, cap, _, hv, _⟩
      · exact ⟨_, _, hv⟩
      · exact ⟨_, _, hv⟩
    obtain ⟨a, cap, rfl⟩ := hv
    refine (Any.slices_Sort_int_none laysSort a cap w).mono ?_
    rintro e w' ⟨rfl, rfl⟩
    exact ⟨rfl, h, ⟨rfl, rfl, rfl, Nat.le_refl _, fun _ _ _ => rfl⟩⟩
  · have h' := h
    rcases h'.2 with ⟨_, hz⟩ | ⟨g, cap, cur, rfl, hB, hb, h1, h2, h3, h4⟩
    · omega
    · have ht : cur.toList.take (l.map fun r : Nat => (r : Int)).length = (l.map fun r : Nat => (r : Int)).map (Value.int .i64) := by
        rw [List.length_map]
        rw [Nat.mul_one] at h4
        rw [h4]; unfold toV; rw [List.map_map]; rfl
      have hgl := (h.lt g rfl).2
      have hso := Any.slices_Sort_int laysSort g 0 cap (l.map fun r : Nat => (r : Int)) w (holds_of_blockI hb ht) hgl (by rw [List.length_map]; omega)
      rw [sort_same hp hs, List.length_map] at hso
      refine hso.mono ?_
      rintro e w' ⟨rfl, n, os, rfl⟩
      refine ⟨rfl, ?_, grownBy_sortedI _⟩
      have h9 := ownsRow_sortedI (n := n) (os := os) (ss := l.map fun r : Nat => (r : Int)) (ts := l'.map fun r : Nat => (r : Int)) (by simp [hle]) hB hb (by simpa using h1) h2 h3
      rw [List.length_map, List.map_map, hle] at h9
      rw [hle]
      exact h9
end Go.Proofs.YtjhflcgphejddaaGreatDoor
