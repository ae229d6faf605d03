/-
  Lemmas for the law above, joined into one text (DrC, PeelN, Fam, StN, ErrN, DropF, PIm0). No statement is proved here.
-/
import Derived.Test.YtjhflcgphejddaaGreatDoorZG3
import Derived.Test.YtjhflcgphejddaaGreatDoorZG7
import Derived.Test.YtjhflcgphejddaaGreatDoorZG16
import Derived.Laws.AppendOwnNone
import Derived.Deep.AppendLies
import Derived.Test.YtjhflcgphejddaaGreatDoorZG0
import Derived.Deep.QuietTactic
import Derived.BigQuiet
import Derived.Test.YtjhflcgphejddaaGreatDoorZG15
import Derived.Deep.RegionHeld3
import Derived.Deep.RegionLaw
import Derived.Deep.DrawnRows
namespace Go.Proofs.YtjhflcgphejddaaGreatDoor
open Go.RowKit Go.Maps
set_option linter.unusedVariables false
set_option maxRecDepth 100000

/-- A drop: its seed, its data. -/
abbrev Drp := Nat × ByteArray
/-- Drops as a slice holds them. -/
def dC (L : List Drp) : List Value := L.flatMap fun d => [.int .i64 (d.1 : Nat), .string d.2]
theorem dC_snoc (L : List Drp) (d : Drp) : dC (L ++ [d]) = dC L ++ [.int .i64 (d.1 : Nat), .string d.2] := by simp [dC]
theorem Tryz.infoDrop : (Tryz.prog.info? 43).map (fun i => (i.zero, i.size, i.bytes)) = some (some (.agg #[.int .i64 0, .string ⟨#[]⟩]), 2, 24) := by kernel_rfl

theorem off_ne {b i j : Nat} (h : i ≠ j) : (⟨b, i, none⟩ : Addr) ≠ ⟨b, j, none⟩ := fun e => h (by injection e)
theorem cell_set_off {w : World} {b i j : Nat} {u : Value} (h : i ≠ j) : (w.setCell ⟨b, i, none⟩ u).cell? ⟨b, j, none⟩ = w.cell? ⟨b, j, none⟩ := World.cell?_setCell_other _ _ _ _ (off_ne h)
theorem frozen_set {w : World} {a c : Addr} {u : Value} : (w.setCell a u).frozen? c = w.frozen? c := World.frozen?_setCell _ _ _ _
theorem own_set {w : World} {B e size n : Nat} {v u : Value} {xs : List Value} {a : Addr} (h : w.ownsRow B e size v n xs) (hne : v.ownBlock ≠ some a.block) : (w.setCell a u).ownsRow B e size v n xs := by
  refine ⟨h.1, ?_⟩
  rcases h.2 with hn | ⟨g, cap, cur, hv, h1, hgg, rest⟩
  · exact .inl hn
  · refine .inr ⟨g, cap, cur, hv, h1, ?_, rest⟩
    rw [Below.heap_setCell w a u g (fun e => hne (by rw [hv, ← e]; rfl))]
    exact hgg

/-- The drop at j. -/
def dAt (L : List Drp) (j : Nat) : Drp := L.getD j (0, ⟨#[]⟩)
theorem dAt_mem {L : List Drp} {j : Nat} (h : j < L.length) : dAt L j ∈ L := by
  unfold dAt; rw [show L.getD j (0, ⟨#[]⟩) = L[j] by simp [List.getD, h]]; exact List.getElem_mem h
theorem take_dAt {L : List Drp} {j : Nat} (h : j < L.length) : L.take (j + 1) = L.take j ++ [dAt L j] := by rw [List.take_add_one]; simp [dAt, List.getD, h]
theorem dC_at : ∀ (L : List Drp) (j : Nat), j < L.length → (dC L)[j * 2]? = some (.int .i64 ((dAt L j).1 : Nat)) ∧ (dC L)[j * 2 + 1]? = some (.string (dAt L j).2)
  | [], j, h => absurd h (Nat.not_lt_zero _)
  | d :: L, 0, _ => by simp [dC, dAt]
  | d :: L, j + 1, h => by
    have ih := dC_at L j (by simpa using h)
    have e : dC (d :: L) = [.int .i64 (d.1 : Nat), .string d.2] ++ dC L := by simp [dC]
    have e2 : dAt (d :: L) (j + 1) = dAt L j := by simp [dAt]
    rw [e, e2, show (j + 1) * 2 = 2 + j * 2 by omega, show 2 + j * 2 + 1 = 2 + (j * 2 + 1) by omega]
    rw [List.getElem?_append_right (by simp), List.getElem?_append_right (by simp)]
    simp only [List.length_cons, List.length_nil]
    rw [show 2 + j * 2 - (0 + 1 + 1) = j * 2 by omega, show 2 + (j * 2 + 1) - (0 + 1 + 1) = j * 2 + 1 by omega]
    exact ih
/-- Drops that are owned, opened. -/
theorem own_drops {w : World} {B : Nat} {v : Value} {L : List Drp} (h : w.ownsRow B 43 2 v L.length (dC L)) :
    ∃ a cap, v = .slice a L.length cap ∧ L.length ≤ cap ∧ cap ≤ maxLen ∧ (0 < L.length → ∃ g, a = some ⟨g, 0, none⟩) ∧ ∀ g, a = some ⟨g, 0, none⟩ → ∀ j, j < L.length → w.cell? ⟨g, j * 2, none⟩ = some (.int .i64 ((dAt L j).1 : Nat)) ∧ w.cell? ⟨g, j * 2 + 1, none⟩ = some (.string (dAt L j).2) := by
  have h' := h
  rcases h.2 with ⟨hv, h0⟩ | ⟨g, cap, cur, hv, _, hg, h1, h2, hcs, hcur⟩
  · exact ⟨none, 0, by rw [h0]; exact hv, by omega, by unfold maxLen; omega, fun h => by omega, fun g e => by cases e⟩
  · refine ⟨_, cap, hv, h1, h2, fun _ => ⟨g, rfl⟩, fun g' e j hj => ?_⟩
    cases e
    rw [hv] at h'
    rw [h'.cellAt (j * 2) (by omega), h'.cellAt (j * 2 + 1) (by omega)]
    exact dC_at L j hj
theorem own_mono {w : World} {B B' e size n : Nat} {v : Value} {xs : List Value} (h : w.ownsRow B e size v n xs) (hb : B' ≤ B) : w.ownsRow B' e size v n xs :=
  ⟨h.1, h.2.imp id fun ⟨g, cap, cur, h1, h2, h3⟩ => ⟨g, cap, cur, h1, Nat.le_trans hb h2, h3⟩⟩
theorem below_grown {w w' : World} (h : Below w.heap.size w w') : w.grownBy w' none := ⟨h.os, h.tape, h.output, h.size, fun i hi _ => h.block i hi⟩
theorem below_two' {w0 w w' : World} (h : Below w0.heap.size w0 w) (k : Below w.heap.size w w') : Below w0.heap.size w0 w' := below_two h k
theorem kept_below {M : Nat → Prop} {w0 w w' : World} (h : Below w0.heap.size w0 w) (k : Kept M w w') (hm : ∀ i, M i → w0.heap.size ≤ i) : Below w0.heap.size w0 w' :=
  ⟨k.os.trans h.os, k.tape.trans h.tape, k.output.trans h.output, Nat.le_trans h.size k.size, fun i hi => (k.block i (Nat.lt_of_lt_of_le hi h.size) (fun e => by have := hm i e; omega)).trans (h.block i hi)⟩
theorem own_blk {w w' : World} {B e size n : Nat} {v : Value} {xs : List Value} (h : w.ownsRow B e size v n xs) (hb : ∀ i, v.ownBlock = some i → w'.heap[i]? = w.heap[i]?) : w'.ownsRow B e size v n xs := by
  refine ⟨h.1, ?_⟩
  rcases h.2 with hn | ⟨g, cap, cur, hv, h1, hgg, rest⟩
  · exact .inl hn
  · exact .inr ⟨g, cap, cur, hv, h1, (hb g (by rw [hv]; rfl)).trans hgg, rest⟩

theorem Kept.mono {M M' : Nat → Prop} {w w' : World} (h : Kept M w w') (hm : ∀ i, M i → M' i) : Kept M' w w' := ⟨h.os, h.tape, h.output, h.size, fun i hi hn => h.block i hi fun e => hn (hm i e)⟩
theorem Kept.trans {M M' : Nat → Prop} {w w1 w2 : World} (h : Kept M w w1) (k : Kept M' w1 w2) (hm : ∀ i, i < w.heap.size → M' i → M i) : Kept M w w2 :=
  ⟨k.os.trans h.os, k.tape.trans h.tape, k.output.trans h.output, Nat.le_trans h.size k.size, fun i hi hn => (k.block i (Nat.lt_of_lt_of_le hi h.size) (fun e => hn (hm i hi e))).trans (h.block i hi hn)⟩
theorem dC_len (L : List Drp) : (dC L).length = L.length * 2 := by
  induction L with
  | nil => rfl
  | cons d L ih =>
    have e : dC (d :: L) = [.int .i64 (d.1 : Nat), .string d.2] ++ dC L := by simp [dC]
    rw [e, List.length_append, ih]; simp; omega
theorem dC_append (L M : List Drp) : dC (L ++ M) = dC L ++ dC M := by simp [dC]
theorem dC_take : ∀ (L : List Drp) (i : Nat), (dC L).take (i * 2) = dC (L.take i)
  | [], i => by simp [dC]
  | y :: L, 0 => by simp [dC]
  | y :: L, i + 1 => by
    have e : ∀ y Y, dC (y :: Y) = .int .i64 (y.1 : Nat) :: .string y.2 :: dC Y := fun y Y => by simp [dC]
    rw [List.take_succ_cons, e, e, show (i + 1) * 2 = i * 2 + 1 + 1 by omega]
    simp only [List.take_succ_cons]
    rw [dC_take L i]
theorem dC_drop : ∀ (L : List Drp) (i : Nat), (dC L).drop (i * 2) = dC (L.drop i)
  | [], i => by simp [dC]
  | y :: L, 0 => by simp
  | y :: L, i + 1 => by
    have e : ∀ y Y, dC (y :: Y) = .int .i64 (y.1 : Nat) :: .string y.2 :: dC Y := fun y Y => by simp [dC]
    rw [List.drop_succ_cons, e, show (i + 1) * 2 = i * 2 + 1 + 1 by omega]
    simp only [List.drop_succ_cons]
    rw [dC_drop L i]
theorem dC_one (L : List Drp) : ∀ u ∈ dC L, u.oneCell' = true := fun u hu => by
  obtain ⟨d, _, hd⟩ := List.mem_flatMap.1 hu
  rcases List.mem_cons.1 hd with rfl | hd
  · rfl
  · rw [List.mem_singleton.1 hd]; rfl
end Go.Proofs.YtjhflcgphejddaaGreatDoor

namespace Go.Proofs.YtjhflcgphejddaaGreatDoor
set_option linter.unusedVariables false
set_option maxRecDepth 100000

/-- What a peeler knows, and what waits. -/
structure PS where
  known : Nat → Bool
  B : Nat → ByteArray
  L : List Drp
/-- Which of a drop's blocks are not known. -/
def lft (S : Nat → List Nat) (kn : Nat → Bool) (d : Drp) : List Nat := (S d.1).filter fun r => !kn r
theorem mem_lft {S : Nat → List Nat} {kn : Nat → Bool} {d : Drp} {r : Nat} : r ∈ lft S kn d ↔ r ∈ S d.1 ∧ kn r = false := by simp [lft]
/-- Those that wait, without those of which none is left. -/
def sift (S : Nat → List Nat) (kn : Nat → Bool) (L : List Drp) : List Drp := L.filter fun d => (lft S kn d).length != 0
/-- The first of which just one is left. -/
def oneOf (S : Nat → List Nat) (p : PS) : Option Drp := (sift S p.known p.L).find? fun d => (lft S p.known d).length == 1
def upd {α : Type} (f : Nat → α) (x : Nat) (v : α) : Nat → α := fun r => if r = x then v else f r
/-- Its data with those that are known taken out. -/
def outB (B : Nat → ByteArray) (x : Nat) (s : List Nat) (b : ByteArray) : ByteArray := s.foldl (fun b r => if r = x then b else xorB b (B r)) b
def after (S : Nat → List Nat) (p : PS) (d : Drp) (x : Nat) : PS := ⟨upd p.known x true, upd p.B x (outB p.B x (S d.1) d.2), sift S p.known p.L⟩
/-- Again and again, till there is none such. -/
inductive Peels (S : Nat → List Nat) : PS → PS → Prop
  | done {p : PS} : oneOf S p = none → Peels S p ⟨p.known, p.B, sift S p.known p.L⟩
  | step {p p' : PS} {d : Drp} {x : Nat} : oneOf S p = some d → lft S p.known d = [x] → Peels S (after S p d x) p' → Peels S p p'
theorem Peels.det {S : Nat → List Nat} {p a b : PS} (h : Peels S p a) (k : Peels S p b) : a = b := by
  induction h with
  | done h1 =>
    cases k with
    | done _ => rfl
    | step h2 _ _ => rw [h1] at h2; cases h2
  | step h1 h2 h3 ih =>
    cases k with
    | done h4 => rw [h1] at h4; cases h4
    | step h4 h5 h6 =>
      rw [h1] at h4
      cases h4
      rw [h2] at h5
      cases h5
      exact ih h6
/-- No more is left where more is known. -/
theorem lft_sub {S : Nat → List Nat} {kn kn' : Nat → Bool} (h : ∀ r, kn r = true → kn' r = true) {d : Drp} {r : Nat} (hr : r ∈ lft S kn' d) : r ∈ lft S kn d := by
  rw [mem_lft] at hr ⊢
  refine ⟨hr.1, ?_⟩
  cases e : kn r with
  | false => rfl
  | true => rw [h r e] at hr; exact absurd hr.2 (by simp)
theorem lft_none {S : Nat → List Nat} {kn kn' : Nat → Bool} (h : ∀ r, kn r = true → kn' r = true) {d : Drp} (h0 : lft S kn d = []) : lft S kn' d = [] :=
  List.eq_nil_iff_forall_not_mem.2 fun r hr => by
    have := lft_sub h hr
    rw [h0] at this; cases this
theorem mem_sift {S : Nat → List Nat} {kn : Nat → Bool} {L : List Drp} {d : Drp} : d ∈ sift S kn L ↔ d ∈ L ∧ lft S kn d ≠ [] := by
  unfold sift
  rw [List.mem_filter]
  cases lft S kn d <;> simp
theorem upd_grows {kn : Nat → Bool} (x : Nat) : ∀ r, kn r = true → upd kn x true r = true := fun r h => by unfold upd; split <;> simp [h]
theorem Peels.grows {S : Nat → List Nat} {p a : PS} (h : Peels S p a) : ∀ r, p.known r = true → a.known r = true := by
  induction h with
  | done _ => exact fun r h => h
  | step _ _ _ ih => exact fun r h => ih r (upd_grows _ r h)
/-- Not one of them just one is left of. -/
def Shut (S : Nat → List Nat) (kn : Nat → Bool) (T : List Drp) : Prop := ∀ d ∈ T, (lft S kn d).length ≠ 1
theorem oneOf_mem {S : Nat → List Nat} {p : PS} {d : Drp} (h : oneOf S p = some d) : d ∈ p.L := (mem_sift.1 (List.mem_of_find?_eq_some h)).1
/-- What is known by peeling lies in whatever is shut. -/
theorem Peels.least {S : Nat → List Nat} {p a : PS} (h : Peels S p a) (K : Nat → Bool) (hs : (∀ s, (S s).Nodup)) (hK : Shut S K p.L) (hp : ∀ r, p.known r = true → K r = true) : ∀ r, a.known r = true → K r = true := by
  induction h with
  | done _ => exact hp
  | @step p p' d x h1 h2 h3 ih =>
    refine ih (fun e he => hK e (mem_sift.1 he).1) fun r hr => ?_
    have hr' : (if r = x then true else p.known r) = true := hr
    by_cases c : r = x
    · subst c
      have hd := oneOf_mem h1
      cases e : K r with
      | true => rfl
      | false =>
        refine absurd ?_ (hK d hd)
        have hx : r ∈ lft S p.known d := by rw [h2]; simp
        have hall : ∀ q ∈ lft S K d, q = r := fun q hq => by
          have := lft_sub hp hq
          rw [h2] at this
          exact List.mem_singleton.1 this
        have hin : r ∈ lft S K d := mem_lft.2 ⟨(mem_lft.1 hx).1, e⟩
        have hnd : (lft S K d).Nodup := (hs d.1).filter _
        revert hall hin hnd
        generalize lft S K d = l
        intro hall hin hnd
        match l, hall, hin, hnd with
        | [], _, hin, _ => cases hin
        | [q], _, _, _ => rfl
        | q :: q2 :: t, hall, _, hnd =>
          have e1 := hall q (by simp)
          have e2 := hall q2 (by simp)
          rw [e1, e2] at hnd
          simp at hnd
    · rw [if_neg c] at hr'
      exact hp r hr'
theorem Peels.shut {S : Nat → List Nat} {p a : PS} (h : Peels S p a) : Shut S a.known p.L := by
  induction h with
  | @done p h1 =>
    intro d hd h2
    have hm : d ∈ sift S p.known p.L := mem_sift.2 ⟨hd, fun e => by rw [e] at h2; cases h2⟩
    have := List.find?_eq_none.1 h1 d hm
    simp [h2] at this
  | @step p p' d x h1 h2 h3 ih =>
    intro e he h4
    by_cases c : lft S p.known e = []
    · have := lft_none (kn' := p'.known) (fun r hr => h3.grows r (upd_grows x r hr)) c
      rw [this] at h4; cases h4
    · exact ih e (mem_sift.2 ⟨he, c⟩) h4
theorem sift_sift {S : Nat → List Nat} {kn kn' : Nat → Bool} (h : ∀ r, kn r = true → kn' r = true) (L : List Drp) : sift S kn' (sift S kn L) = sift S kn' L := by
  unfold sift
  rw [List.filter_filter]
  refine List.filter_congr fun d _ => ?_
  cases e : lft S kn d with
  | nil => rw [lft_none h e]; rfl
  | cons => simp
theorem Peels.waits {S : Nat → List Nat} {p a : PS} (h : Peels S p a) : a.L = sift S a.known p.L := by
  induction h with
  | done _ => rfl
  | @step p p' d x h1 h2 h3 ih => rw [ih]; exact sift_sift (fun r hr => h3.grows r (upd_grows x r hr)) p.L

/-- A peeler that has taken just the drops T. -/
structure Took (S : Nat → List Nat) (p : PS) (T : List Drp) : Prop where
  waits : p.L = sift S p.known T
  shut : Shut S p.known T
  least : ∀ K, Shut S K T → ∀ r, p.known r = true → K r = true
theorem took_none (S : Nat → List Nat) (B : Nat → ByteArray) : Took S ⟨fun _ => false, B, []⟩ [] := ⟨rfl, fun d h => absurd h (by simp), fun K _ r h => absurd h (by simp)⟩
theorem Took.take {S : Nat → List Nat} (hs : ∀ s, (S s).Nodup) {p a : PS} {T : List Drp} (h : Took S p T) (d : Drp) (k : Peels S ⟨p.known, p.B, p.L ++ [d]⟩ a) : Took S a (T ++ [d]) := by
  have hg := k.grows
  refine ⟨?_, fun e he h1 => ?_, fun K hK => ?_⟩
  · rw [k.waits]
    show sift S a.known (p.L ++ [d]) = _
    rw [h.waits]
    unfold sift
    rw [List.filter_append, List.filter_append]
    congr 1
    exact sift_sift hg T
  · rcases List.mem_append.1 he with he | he
    · by_cases c : lft S p.known e = []
      · rw [lft_none hg c] at h1; cases h1
      · exact k.shut e (List.mem_append_left _ (by rw [h.waits]; exact mem_sift.2 ⟨he, c⟩)) h1
    · exact k.shut e (List.mem_append_right _ he) h1
  · refine k.least K hs (fun e he => ?_) (h.least K fun e he => hK e (List.mem_append_left _ he))
    rcases List.mem_append.1 he with he | he
    · rw [h.waits] at he
      exact hK e (List.mem_append_left _ (mem_sift.1 he).1)
    · exact hK e (List.mem_append_right _ he)
/-- In whatever order it is the same. -/
theorem Took.same {S : Nat → List Nat} {p q : PS} {T T' : List Drp} (h : Took S p T) (k : Took S q T') (hm : ∀ d, d ∈ T ↔ d ∈ T') : p.known = q.known := by
  funext r
  have h1 := h.least q.known (fun d hd => k.shut d ((hm d).1 hd)) r
  have h2 := k.least p.known (fun d hd => h.shut d ((hm d).2 hd)) r
  cases e : p.known r with
  | true => exact (h1 e).symm
  | false =>
    cases e2 : q.known r with
    | false => rfl
    | true => rw [h2 e2] at e; cases e
theorem Took.many {S : Nat → List Nat} {p q : PS} {T : List Drp} (h : Took S p T) (k : Took S q T.reverse) : p.L.length = q.L.length := by
  rw [h.waits, k.waits, h.same k (fun d => by simp)]
  unfold sift
  rw [List.filter_reverse, List.length_reverse]

/-! What is known is so. -/
/-- The bytes at i of the blocks of a list, one over the other. -/
def xl (g : Nat → ByteArray) (i : Nat) (s : List Nat) : UInt8 := s.foldr (fun r a => atB (g r) i ^^^ a) 0
theorem xl_snoc (g : Nat → ByteArray) (i r : Nat) : ∀ s : List Nat, xl g i (s ++ [r]) = xl g i s ^^^ atB (g r) i
  | [] => by simp [xl]
  | q :: s => by
    show atB (g q) i ^^^ xl g i (s ++ [r]) = (atB (g q) i ^^^ xl g i s) ^^^ atB (g r) i
    rw [xl_snoc g i r s, UInt8.xor_assoc]
theorem xsum_xl (g : Nat → ByteArray) (s : List Nat) (i : Nat) : ∀ m, m ≤ s.length → xsum g (fun j => ((s.getD j 0 : Nat) : Int)) m i = xl g i (s.take m)
  | 0, _ => by simp [xsum, xl]
  | m + 1, h => by
    have hm : m < s.length := by omega
    have e : s.take (m + 1) = s.take m ++ [s.getD m 0] := by rw [List.take_add_one]; simp [List.getD, hm]
    rw [e, xl_snoc, ← xsum_xl g s i m (by omega)]
    show _ ^^^ atB (g (((s.getD m 0 : Nat) : Int)).toNat) i = _
    rw [Int.toNat_natCast]
theorem outB_size (B : Nat → ByteArray) (x : Nat) : ∀ (s : List Nat) (b : ByteArray), (outB B x s b).size = b.size
  | [], b => rfl
  | r :: s, b => by
    show (outB B x s (if r = x then b else xorB b (B r))).size = _
    rw [outB_size B x s]
    split
    · rfl
    · exact xorB_size _ _
theorem outB_at (B : Nat → ByteArray) (x i : Nat) : ∀ (s : List Nat) (b : ByteArray), i < b.size → atB (outB B x s b) i = atB b i ^^^ xl B i (s.filter fun r => decide (r ≠ x))
  | [], b, _ => by simp [outB, xl]
  | r :: s, b, hi => by
    show atB (outB B x s (if r = x then b else xorB b (B r))) i = _
    by_cases c : r = x
    · rw [if_pos c, outB_at B x i s b hi, List.filter_cons_of_neg (by simp [c])]
    · rw [if_neg c, outB_at B x i s _ (by rw [xorB_size]; exact hi), xorB_at _ _ _ hi, List.filter_cons_of_pos (by simp [c])]
      show _ = atB b i ^^^ (atB (B r) i ^^^ xl B i _)
      rw [UInt8.xor_assoc]
theorem xl_congr {g B : Nat → ByteArray} {i : Nat} : ∀ {s : List Nat}, (∀ r ∈ s, B r = g r) → xl B i s = xl g i s
  | [], _ => rfl
  | r :: s, h => by
    show atB (B r) i ^^^ xl B i s = atB (g r) i ^^^ xl g i s
    rw [h r (by simp), xl_congr (s := s) (fun q hq => h q (by simp [hq]))]
theorem filter_all {s : List Nat} {x : Nat} (h : x ∉ s) : (s.filter fun r => decide (r ≠ x)) = s := List.filter_eq_self.2 fun r hr => decide_eq_true fun e => h (e ▸ hr)
theorem xl_split (g : Nat → ByteArray) (i x : Nat) : ∀ s : List Nat, s.Nodup → x ∈ s → xl g i s = atB (g x) i ^^^ xl g i (s.filter fun r => decide (r ≠ x))
  | [], _, h => by cases h
  | r :: s, hn, h => by
    have hr := (List.nodup_cons.1 hn).1
    have hs := (List.nodup_cons.1 hn).2
    by_cases c : r = x
    · subst c
      rw [List.filter_cons_of_neg (by simp), filter_all hr]
      rfl
    · have hx : x ∈ s := by
        rcases List.mem_cons.1 h with e | e
        · exact absurd e.symm c
        · exact e
      rw [List.filter_cons_of_pos (by simp [c])]
      show atB (g r) i ^^^ xl g i s = atB (g x) i ^^^ (atB (g r) i ^^^ xl g i _)
      rw [xl_split g i x s hs hx, ← UInt8.xor_assoc, UInt8.xor_comm (atB (g r) i), UInt8.xor_assoc]
/-- With all others taken out it is the one that is left. -/
theorem outB_one {g B : Nat → ByteArray} {k seed x : Nat} (hx : x ∈ setL k seed) (hz : (g x).size = (g 0).size) (hB : ∀ r ∈ setL k seed, r ≠ x → B r = g r) : outB B x (setL k seed) (dropB g k seed) = g x := by
  have hn : (setL k seed).Nodup := (setL_rise k seed).imp (fun h => by omega)
  have hd : (dropB g k seed).size = (g 0).size := dropB_size _ _ _
  refine bytes_ext (by rw [outB_size, hd, hz]) fun i hi => ?_
  rw [outB_size] at hi
  rw [outB_at B x i _ _ hi]
  have e1 : atB (dropB g k seed) i = xl g i (setL k seed) := by
    unfold dropB
    rw [sumB_at _ _ _ _ (by omega), xsum_xl g (setL k seed) i _ (Nat.le_refl _), List.take_length]
  rw [e1, xl_split g i x _ hn hx, xl_congr (B := B) (g := g) (fun r hr => by
    have := List.mem_filter.1 hr
    exact hB r this.1 (of_decide_eq_true this.2)), UInt8.xor_assoc, UInt8.xor_self, UInt8.xor_zero]
theorem Peels.sound {g : Nat → ByteArray} {k : Nat} (hk : 1 ≤ k) (hz : ∀ r, r < k → (g r).size = (g 0).size) {p a : PS} (h : Peels (setL k) p a) (hB : ∀ r, p.known r = true → p.B r = g r) (hL : ∀ d ∈ p.L, 1 ≤ d.1 ∧ d.2 = dropB g k d.1) : ∀ r, a.known r = true → a.B r = g r := by
  induction h with
  | done _ => exact hB
  | @step p p' d x h1 h2 h3 ih =>
    refine ih (fun r hr => ?_) (fun e he => hL e (mem_sift.1 he).1)
    have hd := hL d (oneOf_mem h1)
    have hx : x ∈ lft (setL k) p.known d := by rw [h2]; simp
    by_cases c : r = x
    · subst c
      show (if r = r then _ else _) = _
      rw [if_pos rfl, hd.2]
      refine outB_one (mem_lft.1 hx).1 (hz _ (setL_lt hk hd.1 (mem_lft.1 hx).1)) fun q hq hne => hB q ?_
      cases e : p.known q with
      | true => rfl
      | false =>
        have : q ∈ lft (setL k) p.known d := mem_lft.2 ⟨hq, e⟩
        rw [h2] at this
        exact absurd (List.mem_singleton.1 this) hne
    · show (if r = x then _ else p.B r) = _
      rw [if_neg c]
      exact hB r (by have hr' : (if r = x then true else p.known r) = true := hr; rw [if_neg c] at hr'; exact hr')
/-- What is known by that are blocks. -/
theorem Peels.lt {k : Nat} (hk : 1 ≤ k) {p a : PS} (h : Peels (setL k) p a) (hL : ∀ d ∈ p.L, 1 ≤ d.1) (hp : ∀ r, p.known r = true → r < k) : ∀ r, a.known r = true → r < k := by
  induction h with
  | done _ => exact hp
  | @step p p' d x h1 h2 h3 ih =>
    refine ih (fun e he => hL e (mem_sift.1 he).1) fun r hr => ?_
    have hr' : (if r = x then true else p.known r) = true := hr
    by_cases c : r = x
    · have hx : x ∈ lft (setL k) p.known d := by rw [h2]; simp
      rw [c]; exact setL_lt hk (hL d (oneOf_mem h1)) (mem_lft.1 hx).1
    · rw [if_neg c] at hr'; exact hp r hr'
/-- The blocks, of k, that are known, rising. -/
def knows (k : Nat) (kn : Nat → Bool) : List Nat := (List.range k).filter kn
/-- Those that came to be known, rising. -/
def came (k : Nat) (kn kn' : Nat → Bool) : List Nat := (List.range k).filter fun r => kn' r && !kn r
theorem came_len (kn kn' : Nat → Bool) (h : ∀ r, kn r = true → kn' r = true) : ∀ k, (knows k kn').length = (knows k kn).length + (came k kn kn').length
  | 0 => rfl
  | k + 1 => by
    have ih := came_len kn kn' h k
    unfold knows came at *
    rw [List.range_succ, List.filter_append, List.filter_append, List.filter_append, List.length_append, List.length_append, List.length_append, ih]
    cases e : kn k with
    | true => simp [e, h k e]; omega
    | false => cases e2 : kn' k <;> simp [e, e2] <;> omega
/-- A drop of one block that is not known, where none waits: it is known, and none waits. -/
theorem peels_alone {S : Nat → List Nat} {kn : Nat → Bool} {B : Nat → ByteArray} {d : Drp} {r : Nat} (hS : S d.1 = [r]) (hr : kn r = false) : Peels S ⟨kn, B, [d]⟩ ⟨upd kn r true, upd B r d.2, []⟩ := by
  have h1 : lft S kn d = [r] := by simp [lft, hS, hr]
  have h2 : sift S kn [d] = [d] := by simp [sift, h1]
  have h3 : lft S (upd kn r true) d = [] := by simp [lft, hS, upd]
  have h4 : sift S (upd kn r true) [d] = [] := by simp [sift, h3]
  have h5 : oneOf S ⟨kn, B, [d]⟩ = some d := by
    show (sift S kn [d]).find? _ = _
    rw [h2]; simp [h1]
  refine Peels.step h5 h1 ?_
  have e : after S ⟨kn, B, [d]⟩ d r = ⟨upd kn r true, upd B r d.2, [d]⟩ := by
    unfold after
    show PS.mk _ (upd B r (outB B r (S d.1) d.2)) (sift S kn [d]) = _
    rw [h2, hS]
    simp [outB]
  rw [e]
  have h6 := Peels.done (S := S) (p := ⟨upd kn r true, upd B r d.2, [d]⟩) (by
    show (sift S (upd kn r true) [d]).find? _ = _
    rw [h4]; rfl)
  have h7 : (⟨upd kn r true, upd B r d.2, sift S (upd kn r true) [d]⟩ : PS) = ⟨upd kn r true, upd B r d.2, []⟩ := by rw [h4]
  rw [h7] at h6
  exact h6
/-- How many blocks, of k, are not known. -/
def unk (k : Nat) (kn : Nat → Bool) : Nat := ((List.range k).filter fun r => !kn r).length
theorem unk_upd {kn : Nat → Bool} {x : Nat} (hx : kn x = false) : ∀ k, unk k (upd kn x true) = if x < k then unk k kn - 1 else unk k kn
  | 0 => rfl
  | k + 1 => by
    have ih := unk_upd hx k
    unfold unk at *
    rw [List.range_succ, List.filter_append, List.filter_append, List.length_append, List.length_append, ih]
    by_cases c : x < k
    · have hk : upd kn x true k = kn k := by unfold upd; rw [if_neg (by omega)]
      have hin : x ∈ (List.range k).filter fun r => !kn r := by simp [c, hx]
      have := List.length_pos_of_mem hin
      rw [if_pos c, if_pos (show x < k + 1 by omega)]
      simp only [List.filter_cons, List.filter_nil, hk]
      omega
    · by_cases e : x = k
      · subst e
        rw [if_neg c, if_pos (show x < x + 1 by omega)]
        simp [upd, hx]
      · have hk : upd kn x true k = kn k := by unfold upd; rw [if_neg (by omega)]
        rw [if_neg c, if_neg (show ¬ x < k + 1 by omega)]
        simp only [List.filter_cons, List.filter_nil, hk]
theorem unk_less {kn : Nat → Bool} {x k : Nat} (hx : kn x = false) (hk : x < k) : unk k (upd kn x true) < unk k kn := by
  have hin : x ∈ (List.range k).filter fun r => !kn r := by simp [hk, hx]
  have h1 : 0 < unk k kn := List.length_pos_of_mem hin
  rw [unk_upd hx, if_pos hk]
  omega
end Go.Proofs.YtjhflcgphejddaaGreatDoor

namespace Go.Proofs.YtjhflcgphejddaaGreatDoor
open Go.RowKit
set_option linter.unusedVariables false
set_option maxRecDepth 100000

/-- F runs through the worlds that are w below its size. -/
structure Fam (w : World) {ι : Type} (F : ι → World) : Prop where
  above : ∀ i, Below w.heap.size w (F i)
  all : ∀ w', Below w.heap.size w w' → ∃ i, w' = F i
  ne : Nonempty ι
theorem fam_some (w : World) : ∃ (ι : Type) (F : ι → World), Fam w F := ⟨{ w' // Below w.heap.size w w' }, Subtype.val, fun i => i.2, fun w' h => ⟨⟨w', h⟩, rfl⟩, ⟨⟨w, Below.refl _ _⟩⟩⟩
theorem Fam.cell {w : World} {ι : Type} {F : ι → World} (h : Fam w F) {a : Addr} {v : Value} (hc : w.cell? a = some v) : ∀ i, (F i).cell? a = some v := fun i => cell_below (h.above i) hc
theorem Fam.call {P : Program} {w : World} {ι : Type} {F : ι → World} (h : Fam w F) {f : FuncId} {args : Array Value} {i : ι} {v : Value}
    (hC : Calls P f args (F i) fun e w' => e = .returned v ∧ Below (F i).heap.size (F i) w') : Calls P f args (F i) fun e w' => e = .returned v ∧ ∃ m, w' = F m :=
  hC.mono fun e w' ⟨he, hb⟩ => ⟨he, h.all w' (below_two (h.above i) hb)⟩
theorem Fam.region {P : Program} {w : World} {ι : Type} {F : ι → World} (hF : Fam w F) {id : Nat} {Q : Exit → Act → World → Prop} {a : Act} {l : List Oper} (hm : P.follows .mixedOrders = true) (hB : Region.lexB .any l.toArray = true)
    (h : wpQuiet P l.toArray (fun w' => ∃ i, w' = F i) (fun a' => ∀ w', (∃ i, w' = F i) → Q .normal a' w') l a) : (Code.region id l.toArray true).wp P Q a w :=
  wp_region_quiet (C := fun w' => ∃ i, w' = F i) hm hB (hF.all _ ⟨rfl, rfl, rfl, Nat.le_refl _, fun _ _ => rfl⟩) (by simpa using h)
end Go.Proofs.YtjhflcgphejddaaGreatDoor

namespace Go.Proofs.YtjhflcgphejddaaGreatDoor
open Go.RowKit Go.Maps
set_option linter.unusedVariables false
set_option maxRecDepth 100000


theorem filt_snoc {s : List Nat} {p : Nat → Bool} {j : Nat} (h : j < s.length) : (s.take (j + 1)).filter p = (s.take j).filter p ++ if p (s.getD j 0) then [s.getD j 0] else [] := by
  have e : s.take (j + 1) = s.take j ++ [s.getD j 0] := by rw [List.take_add_one]; simp [List.getD, h]
  rw [e, List.filter_append]
  generalize s.getD j 0 = x
  congr 1
  by_cases c : p x = true
  · rw [List.filter_cons_of_pos c, if_pos c]; rfl
  · rw [List.filter_cons_of_neg c, if_neg c]; rfl

theorem DropIn.of_block {w w' : World} {b : Nat} {seed : Int} {s : ByteArray} (h : DropIn w b seed s) (hb : w'.heap[b]? = w.heap[b]?) : DropIn w' b seed s := by
  have hc : ∀ i, w'.cell? ⟨b, i, none⟩ = w.cell? ⟨b, i, none⟩ := fun i => World.cell?_of_block (w := w) hb
  have hf : ∀ i, w'.frozen? ⟨b, i, none⟩ = w.frozen? ⟨b, i, none⟩ := fun i => World.frozen?_of_block (w := w) hb
  unfold DropIn
  rw [hc, hf, hc, hf]
  exact h

theorem sift_snoc {S : Nat → List Nat} {kn : Nat → Bool} {L : List Drp} {j : Nat} (h : j < L.length) : sift S kn (L.take (j + 1)) = sift S kn (L.take j) ++ if (lft S kn (dAt L j)).length = 0 then [] else [dAt L j] := by
  unfold sift
  rw [take_dAt h, List.filter_append]
  congr 1
  by_cases c : (lft S kn (dAt L j)).length = 0
  · rw [if_pos c, List.filter_cons_of_neg (by simp [c])]; rfl
  · rw [if_neg c, List.filter_cons_of_pos (by simpa using c)]; rfl
theorem sift_len {S : Nat → List Nat} {kn : Nat → Bool} (L : List Drp) : (sift S kn L).length ≤ L.length := List.length_filter_le _ _
/-- All is right: seeds, sizes. -/
def Good (z : Nat) (p : PS) : Prop := (∀ d ∈ p.L, 1 ≤ d.1 ∧ d.1 ≤ 10000 ∧ d.2.size = z) ∧ ∀ r, p.known r = true → (p.B r).size = z
theorem Lst.set_far {w : World} {v : Value} {l : List Nat} (h : Lst w v l) {a : Addr} (hne : v.ownBlock ≠ some a.block) (u : Value) : Lst (w.setCell a u) v l := by
  obtain ⟨g, cap, hv, h1, h2, h3⟩ := h
  refine ⟨g, cap, hv, h1, h2, fun i hi => ?_⟩
  rw [World.cell?_setCell_other _ _ _ _ (fun e => hne (by rw [hv, e]; rfl))]
  exact h3 i hi
theorem Lsh.set_far {w : World} {v : Value} {l : List Nat} (h : Lsh w v l) {a : Addr} (hne : v.ownBlock ≠ some a.block) (u : Value) : Lsh (w.setCell a u) v l := by
  obtain ⟨b, cap, hv, h1, h2, h3⟩ := h
  exact ⟨b, cap, hv, h1, h2, fun h0 => (h3 h0).set_far hne u⟩
theorem find_first {L : List Drp} {P : Drp → Bool} : ∀ {j : Nat}, j < L.length → (∀ i, i < j → P (dAt L i) = false) → P (dAt L j) = true → L.find? P = some (dAt L j) := fun {j} hj h1 h2 => by
  induction L generalizing j with
  | nil => exact absurd hj (Nat.not_lt_zero _)
  | cons d L ih =>
    cases j with
    | zero =>
      have e : dAt (d :: L) 0 = d := by simp [dAt]
      rw [e] at h2 ⊢
      simp [List.find?, h2]
    | succ j =>
      have e : ∀ i, dAt (d :: L) (i + 1) = dAt L i := fun i => by simp [dAt]
      have h0 := h1 0 (by omega)
      have e0 : dAt (d :: L) 0 = d := by simp [dAt]
      rw [e0] at h0
      rw [e] at h2 ⊢
      simp only [List.find?, h0]
      exact ih (by simpa using hj) (fun i hi => by have := h1 (i + 1) (by omega); rwa [e] at this) h2
theorem find_none {L : List Drp} {P : Drp → Bool} (h : ∀ i, i < L.length → P (dAt L i) = false) : L.find? P = none := List.find?_eq_none.2 fun d hd => by
  obtain ⟨i, hi, rfl⟩ := List.getElem_of_mem hd
  have := h i hi
  rw [show dAt L i = L[i] by simp [dAt, List.getD, hi]] at this
  simp [this]
/-- One more has come. -/
theorem came_ins {k x : Nat} {kn kn' : Nat → Bool} (hx : x < k) (h1 : kn x = false) (h2 : kn' x = false) : ∃ A B, came k kn kn' = A ++ B ∧ came k kn (upd kn' x true) = A ++ x :: B ∧ (∀ a ∈ A, a < x) ∧ ∀ b ∈ B, x < b := by
  obtain ⟨B, hb1, hb2, hb3⟩ := filter_ins (fun r => kn' r && !kn r) x (by simp [h2]) k hx
  refine ⟨_, B, hb1, ?_, fun a ha => List.mem_range.1 (List.mem_filter.1 ha).1, hb3⟩
  rw [← hb2]
  refine List.filter_congr fun r _ => ?_
  by_cases c : r = x
  · subst c; simp [upd, h1]
  · have c' : ¬ x = r := fun e => c e.symm
    simp [upd, c, c']
theorem outB_snoc (B : Nat → ByteArray) (x r : Nat) (s : List Nat) (b : ByteArray) : outB B x (s ++ [r]) b = if r = x then outB B x s b else xorB (outB B x s b) (B r) := by unfold outB; rw [List.foldl_append]; rfl
theorem came_len16 (k : Nat) (kn kn' : Nat → Bool) : (came k kn kn').length ≤ k := Nat.le_trans (List.length_filter_le _ _) (by simp)
theorem came_some {k x : Nat} {kn kn' : Nat → Bool} (hx : x < k) (h1 : kn x = false) (h2 : kn' x = false) : came k kn (upd kn' x true) ≠ [] := by
  obtain ⟨A, B, hA1, hA2, hA3, hA4⟩ := came_ins hx h1 h2
  rw [hA2]; simp
theorem knows_succ (kn : Nat → Bool) (j : Nat) : knows (j + 1) kn = knows j kn ++ if kn j then [j] else [] := by
  unfold knows
  rw [List.range_succ, List.filter_append]
  congr 1
  by_cases c : kn j = true
  · rw [List.filter_cons_of_pos c, if_pos c]; rfl
  · rw [List.filter_cons_of_neg c, if_neg c]; rfl
theorem knows_len (k : Nat) (kn : Nat → Bool) : (knows k kn).length ≤ k := Nat.le_trans (List.length_filter_le _ _) (by simp)
end Go.Proofs.YtjhflcgphejddaaGreatDoor

namespace Go.Proofs.YtjhflcgphejddaaGreatDoor
open Go.RowKit
set_option linter.unusedVariables false
set_option maxRecDepth 100000

/-- The error that stands for the number x: none for 0. -/
def ErrIs (x : Int) (err : Value) : Prop := (x = 0 ∧ err = .nilIface) ∨ err = .iface 61 (.int .i64 x)
end Go.Proofs.YtjhflcgphejddaaGreatDoor

namespace Go.Proofs.YtjhflcgphejddaaGreatDoor
open Go.RowKit Go.Maps
set_option linter.unusedVariables false
set_option maxRecDepth 100000

/-- What is wrong with a Drop: its number. -/
def OkD (k size seed : Int) : Prop := (1 ≤ k ∧ k ≤ 16) ∧ (1 ≤ size ∧ size ≤ 8) ∧ 1 ≤ seed ∧ seed ≤ 10000
instance (k size seed : Int) : Decidable (OkD k size seed) := inferInstanceAs (Decidable (_ ∧ _))
def fD (k size seed : Int) (n : Nat) : Int := if OkD k size seed then (if (n : Int) = size then 0 else 3) else 1

theorem dcheck_any (k size seed : Int) (s : ByteArray) (w : World) :
    Calls Tryz.prog 36 #[.int .i64 k, .int .i64 size, dropV seed s] w fun e w' => ∃ err, e = .returned err ∧ ErrIs (fD k size seed s.size) err ∧ Below w.heap.size w w' := by
  unfold fD
  by_cases h : OkD k size seed
  · rw [if_pos h]
    by_cases c : (s.size : Int) = size
    · rw [if_pos c]; exact (dcheck_ok k size seed s w h.1 h.2.1 h.2.2 c).mono fun e w' ⟨he, hb⟩ => ⟨_, he, Or.inl ⟨rfl, rfl⟩, hb⟩
    · rw [if_neg c]; exact (dcheck_shape k size seed s w h.1 h.2.1 h.2.2 c).mono fun e w' ⟨he, hb⟩ => ⟨_, he, Or.inr rfl, hb⟩
  · rw [if_neg h]; exact (dcheck_range k size seed s w h).mono fun e w' ⟨he, hb⟩ => ⟨_, he, Or.inr rfl, hb⟩
/-- The error that tells the number x: none for 0. -/
def Tell (x : Int) : Value := if x = 0 then .nilIface else .iface 61 (.int .i64 x)
theorem tell_is (x : Int) : ErrIs x (Tell x) := by
  unfold Tell
  by_cases h : x = 0
  · rw [if_pos h]; exact Or.inl ⟨h, rfl⟩
  · rw [if_neg h]; exact Or.inr rfl
theorem dcheck_tell (k size seed : Int) (s : ByteArray) (w : World) :
    Calls Tryz.prog 36 #[.int .i64 k, .int .i64 size, .agg #[.int .i64 seed, .string s]] w fun e w' => e = .returned (Tell (fD k size seed s.size)) ∧ Below w.heap.size w w' := by
  unfold fD
  by_cases h : OkD k size seed
  · rw [if_pos h]
    by_cases c : (s.size : Int) = size
    · rw [if_pos c]; exact dcheck_ok k size seed s w h.1 h.2.1 h.2.2 c
    · rw [if_neg c]; exact dcheck_shape k size seed s w h.1 h.2.1 h.2.2 c
  · rw [if_neg h]; exact dcheck_range k size seed s w h
end Go.Proofs.YtjhflcgphejddaaGreatDoor

namespace Go.Proofs.YtjhflcgphejddaaGreatDoor
open Go.RowKit Go.Maps
set_option linter.unusedVariables false
set_option maxRecDepth 100000

/-- What Take finds: the fault's number. -/
def tF (k z : Nat) (T : List Nat) (seed : Int) (n : Nat) : Int := if fD k z seed n ≠ 0 then fD k z seed n else if seed.toNat ∈ T then 7 else if 60 ≤ T.length then 4 else 0
/-- One that knows nothing. -/
def p0 : PS := ⟨fun _ => false, fun _ => ⟨#[]⟩, []⟩

structure PIm0 where
  St : World → Value → Nat → Nat → PS → List Nat → Prop
  foot : World → Value → Nat → Prop
  foot_lt : ∀ {w : World} {v : Value} {k z : Nat} {p : PS} {T : List Nat}, St w v k z p T → ∀ i, foot w v i → i < w.heap.size
  keep : ∀ {w w' : World} {v : Value} {k z : Nat} {p : PS} {T : List Nat}, St w v k z p T → w.heap.size ≤ w'.heap.size → (∀ i, foot w v i → w'.heap[i]? = w.heap[i]?) → St w' v k z p T ∧ ∀ i, foot w' v i → foot w v i
  new_ok : ∀ (k z : Nat) (w : World), 1 ≤ k → k ≤ 16 → 1 ≤ z → z ≤ 8 → Calls Tryz.prog 31 #[.int .i64 k, .int .i64 z] w fun e w' => ∃ v, e = .returned (.tuple #[v, .nilIface]) ∧ St w' v k z p0 [] ∧ (∀ i, foot w' v i → w.heap.size ≤ i) ∧ Below w.heap.size w w'
  new_range : ∀ (k z : Int) (w : World), ¬ ((1 ≤ k ∧ k ≤ 16) ∧ 1 ≤ z ∧ z ≤ 8) → Calls Tryz.prog 31 #[.int .i64 k, .int .i64 z] w fun e w' => ∃ v, e = .returned (.tuple #[v, .iface 61 (.int .i64 1)]) ∧ Below w.heap.size w w'
  take_bad : ∀ {w : World} {v : Value} {k z : Nat} {p : PS} {T : List Nat}, St w v k z p T → ∀ (seed : Int) (data : ByteArray), data.size ≤ maxLen → tF k z T seed data.size ≠ 0 →
    Calls Tryz.prog 71 #[v, dropV seed data] w fun e w' => ∃ vs, e = .returned (.tuple #[vs, .iface 61 (.int .i64 (tF k z T seed data.size))]) ∧ Lsh w' vs [] ∧ St w' v k z p T ∧ Kept (foot w v) w w' ∧ ∀ i, foot w' v i → foot w v i ∨ w.heap.size ≤ i
  take_ok : ∀ {w : World} {v : Value} {k z : Nat} {p : PS} {T : List Nat}, St w v k z p T → ∀ (seed : Nat) (data : ByteArray), tF k z T seed data.size = 0 →
    Calls Tryz.prog 71 #[v, dropV seed data] w fun e w' => ∃ vs q, e = .returned (.tuple #[vs, .nilIface]) ∧ Peels (setL k) ⟨p.known, p.B, p.L ++ [(seed, data)]⟩ q ∧ Lsh w' vs (came k p.known q.known) ∧ St w' v k z q (T ++ [seed]) ∧ Kept (foot w v) w w' ∧ ∀ i, foot w' v i → foot w v i ∨ w.heap.size ≤ i
  knows_ok : ∀ {w : World} {v : Value} {k z : Nat} {p : PS} {T : List Nat}, St w v k z p T → Calls Tryz.prog 73 #[v] w fun e w' => ∃ vs, e = .returned vs ∧ Lsh w' vs (knows k p.known) ∧ Below w.heap.size w w'
theorem PIm0.below (I : PIm0) {w w' : World} {v : Value} {k z : Nat} {p : PS} {T : List Nat} (h : I.St w v k z p T) (hb : Below w.heap.size w w') : I.St w' v k z p T ∧ ∀ i, I.foot w' v i → I.foot w v i := I.keep h hb.size fun i hi => hb.block i (I.foot_lt h i hi)
theorem fD_ok {k z sj : Int} {n : Nat} (h : fD k z sj n = 0) : OkD k z sj ∧ (n : Int) = z := by
  unfold fD at h
  by_cases c : OkD k z sj
  · rw [if_pos c] at h
    by_cases c2 : (n : Int) = z
    · exact ⟨c, c2⟩
    · rw [if_neg c2] at h; cases h
  · rw [if_neg c] at h; cases h
end Go.Proofs.YtjhflcgphejddaaGreatDoor
