/-
  Lemmas for the law above, joined into one text (BmA, KeptT, BmK). No statement is proved here.
-/
import Derived.Test.YtjhflcgphejddaaDoorBG11
import Derived.Test.YtjhflcgphejddaaDoorBG8
import Derived.Test.YtjhflcgphejddaaDoorBG5
import Derived.Laws.MakeOwn
import Derived.Maps.AppendAt
import Derived.Test.YtjhflcgphejddaaDoorBG16
import Derived.Test.YtjhflcgphejddaaDoorBG20
import Derived.Test.YtjhflcgphejddaaDoorBG9
import Derived.Test.YtjhflcgphejddaaDoorBG7
namespace Go.Proofs.YtjhflcgphejddaaDoor
open Go.RowKit Go.Maps
set_option linter.unusedVariables false
set_option maxRecDepth 100000

/-- A bit of the bytes of a text. -/
def bitT (t : ByteArray) (j : Nat) : Int := unO (fun i => (atB t i).toNat) j
theorem bitT_in (t : ByteArray) (j : Nat) : bitT t j = 0 ∨ bitT t j = 1 := unO_in _ _

set_option maxHeartbeats 2000000 in
theorem apart_ok {w : World} (t : ByteArray) (ht : t.size ≤ 200) :
    Calls Tryd.prog 43 #[.string t] w fun e w' => ∃ g cp, e = .returned (.slice (some ⟨g, 0, none⟩) (8 * t.size) cp) ∧ w'.ownsRow w.heap.size 3 1 (.slice (some ⟨g, 0, none⟩) (8 * t.size) cp) (8 * t.size) (encI (lst (bitT t) (8 * t.size))) ∧ Below w.heap.size w w' := by
  obtain ⟨i0, hi0, hz0, hz1, hz2⟩ := info_parts Tryd.infoInt
  have Hi := hide hi0
  have Hz0 := hide hz0
  have Hz1 := hide hz1
  have Hz2 := hide hz2
  obtain ⟨n, hn⟩ : ∃ n, n = 8 * t.size := ⟨_, rfl⟩
  have hni : (8 : Int) * (t.size : Int) = (n : Int) := by omega
  have hn2 : n ≤ 1600 := by omega
  rw [← hn]
  have HN := hide hn
  clear hi0 hz0 hz1 hz2 hn
  go_enter Tryd.func43, Tryd.ntmps43
  go_wp2_with (at_make; refine wpList_make_own _ rfl _ _ 36 rfl w.heap.size 3 i0 (.int .i64 0) 1 Tryd.underlying36 Hi.out Hz0.out Hz1.out _ _ _ n rfl rfl rfl (by rw [Hz2.out]; omega) (by unfold maxLen; omega) (Nat.le_refl _) ?_; intro w1 hmk hgrow)
  have HB1 : Hid (Below w.heap.size w w1) := (Below.refl _ _).grown hgrow (Nat.le_refl _) (fun q hq => by cases hq)
  have HX1 := hide hmk
  clear hmk hgrow
  go_loopw [3, 12] (fun u i wr => ∃ (j g : Nat) (cp : Nat), j ≤ n ∧ i = .int .i64 j ∧ u = .slice (some ⟨g, 0, none⟩) j cp ∧ wr.ownsRow w.heap.size 3 1 u j (encI (lst (bitT t) j)) ∧ Below w.heap.size w wr) (fun _ i _ => n - (intOf i).toNat)
  case atStart => exact ⟨0, w.heap.size, n, Nat.zero_le _, rfl, rfl, HX1.out, HB1.out⟩
  case round =>
    obtain ⟨j, adr, cpr, hj, rfl, rfl, hY, hb⟩ := hrel
    have HY := hide hY
    have HB := hide hb
    have hsz := hb.size
    clear hY hb
    by_cases hlt : j < n
    · obtain ⟨p, r, hpr, hr8⟩ : ∃ p r, j = 8 * p + r ∧ r < 8 := ⟨j / 8, j % 8, by omega, by omega⟩
      have hpt : p < t.size := by have := HN.out; omega
      have d1 : ((j : Nat) : Int).tdiv 8 = (p : Int) := by rw [Int.tdiv_eq_ediv_of_nonneg (by omega)]; omega
      have d2 : ((j : Nat) : Int) / 8 = (p : Int) := by omega
      have d3 : ((j : Nat) : Int).tmod 8 = (r : Int) := by rw [Int.tmod_eq_emod_of_nonneg (by omega)]; omega
      have d4 : ((j : Nat) : Int) % 8 = (r : Int) := by omega
      obtain ⟨c, hc⟩ : ∃ c, c = 7 - r := ⟨_, rfl⟩
      have hc7 : c ≤ 7 := by omega
      have d5 : (7 : Int) - (r : Int) = (c : Int) := by omega
      obtain ⟨x, hx⟩ : ∃ x, x = (atB t p).toNat := ⟨_, rfl⟩
      have q3 : (t[p]'hpt).toNat = x := by rw [hx, atB_eq t p hpt]
      have hx8 : x < 256 := by rw [hx]; exact (atB t p).toNat_lt
      obtain ⟨Z, hZ⟩ : ∃ Z, Z = x / 2 ^ c := ⟨_, rfl⟩
      have hZ8 : Z < 256 := by rw [hZ]; exact Nat.lt_of_le_of_lt (Nat.div_le_self _ _) hx8
      have e1 : ((x : Nat) : Int) / 2 ^ c = ((Z : Nat) : Int) := by rw [hZ, Int.natCast_ediv, Int.natCast_pow]; rfl
      obtain ⟨z, hz⟩ : ∃ z, z = Z % 2 := ⟨_, rfl⟩
      have e2 : bits .and .u8 ((Z : Nat) : Int) 1 = ((z : Nat) : Int) := by
        have h9 := u8_and_nat Z 1 hZ8 (by omega)
        rw [Nat.and_one_is_mod, ← hz] at h9
        exact h9
      have hz1 : z ≤ 1 := by omega
      have HT : Hid (bitT t j = ((z : Nat) : Int)) := by
        unfold Hid bitT unO bitU
        show (((atB t (j / 8)).toNat / 2 ^ (7 - j % 8) % 2 : Nat) : Int) = _
        rw [show j / 8 = p by omega, show j % 8 = r by omega, ← hx, ← hc, ← hZ, ← hz]
      have u1 : IntKind.i64.wrap ((z : Nat) : Int) = ((z : Nat) : Int) := by rw [IntKind.wrap_i64]; omega
      have HS := hide (lst_succ (bitT t) j)
      have hpi : ((p : Nat) : Int) < (t.size : Int) := by omega
      clear hZ hz hc hx hpr
      go_wp2_with (at_builtin; refine wpList_append_lies _ rfl _ _ 36 rfl w.heap.size 3 i0 (.int .i64 0) 1 8 Tryd.underlying36 Hi.out Hz0.out Hz1.out Hz2.out rfl (by decide) _ _ _ rfl (HY.out.alloc _) ⟨wr.heap.size, 0, none⟩ 1 1 [.int .i64 ((z : Nat) : Int)] rfl rfl (cell_one_new _ _ _) (fun x hx => by simp at hx; subst hx; rfl) (by decide) (by unfold maxLen; omega) (by omega) (by simp; omega) _ rfl ?_; intro g3 cap3 w5 hown3 hgrow3 hat3 hlt3)
      go_roundw
      case rel =>
        have hB5 : Below w.heap.size wr w5 := ((Below.refl w.heap.size wr).alloc hsz _).grown hgrow3 (by simp; omega) (fun q hq => (HY.out.lt q hq).1)
        have R : j + 1 ≤ n ∧ Value.int .i64 ((j : Int) + 1) = .int .i64 ((j + 1 : Nat) : Int) ∧ Value.slice (some ⟨g3, 0, none⟩) (j + 1) cap3 = .slice (some ⟨g3, 0, none⟩) (j + 1) cap3
            ∧ w5.ownsRow w.heap.size 3 1 (.slice (some ⟨g3, 0, none⟩) (j + 1) cap3) (j + 1) (encI (lst (bitT t) (j + 1))) ∧ Below w.heap.size w w5 :=
          ⟨by omega, by simp, rfl, by rw [HS.out, encI_snoc, HT.out]; exact hown3, HB.out.trans hB5⟩
        first
          | exact ⟨j + 1, g3, cap3, R⟩
          | ((repeat apply Exists.intro); exact ⟨⟨j + 1, g3, cap3, R⟩, rfl⟩)
      case measure => simp [intOf]; omega
    · obtain rfl : j = n := by omega
      go_wp2
      go_ret
      exact ⟨adr, cpr, rfl, HY.out, HB.out⟩
end Go.Proofs.YtjhflcgphejddaaDoor

namespace Go.Proofs.YtjhflcgphejddaaDoor
open Go.RowKit
set_option linter.unusedVariables false
set_option maxRecDepth 100000

theorem Kept.to_below {M : Nat → Prop} {w w' : World} (h : Kept M w w') {B : Nat} (hB : B ≤ w.heap.size) (hM : ∀ i, i < B → ¬ M i) : Below B w w' :=
  ⟨h.os, h.tape, h.output, h.size, fun i hi => h.block i (by omega) (hM i hi)⟩
theorem Kept.trans_ {M : Nat → Prop} {w w1 w2 : World} (h : Kept M w w1) (k : Kept M w1 w2) : Kept M w w2 :=
  ⟨k.os.trans h.os, k.tape.trans h.tape, k.output.trans h.output, Nat.le_trans h.size k.size, fun i hi hm => (k.block i (Nat.lt_of_lt_of_le hi h.size) hm).trans (h.block i hi hm)⟩
end Go.Proofs.YtjhflcgphejddaaDoor

namespace Go.Proofs.YtjhflcgphejddaaDoor
open Go.RowKit
set_option linter.unusedVariables false
set_option maxRecDepth 100000

theorem own_kept {w W : World} {B n e size rb : Nat} {v : Value} {xs : List Value} (h : w.ownsRow B e size v n xs) (hB : rb < B) (hk : Kept (fun i => i = rb) w W) : W.ownsRow B e size v n xs := by
  refine ⟨h.1, ?_⟩
  rcases h.2 with hn | ⟨g, cap, cur, hv, h1, hgg, rest⟩
  · exact .inl hn
  · exact .inr ⟨g, cap, cur, hv, h1, (hk.block g (Array.getElem?_eq_some_iff.1 hgg).1 (by omega)).trans hgg, rest⟩
theorem own_set {w : World} {B n e size : Nat} {v : Value} {xs : List Value} (h : w.ownsRow B e size v n xs) {b : Nat} (hb : b < B) (o : Nat) (u : Value) : (w.setCell ⟨b, o, none⟩ u).ownsRow B e size v n xs := by
  refine ⟨h.1, ?_⟩
  rcases h.2 with hn | ⟨g, cap, cur, hv, h1, hgg, rest⟩
  · exact .inl hn
  · refine .inr ⟨g, cap, cur, hv, h1, ?_, rest⟩
    rw [Below.heap_setCell _ _ _ _ (by show g ≠ b; omega)]
    exact hgg
theorem RowS.kept {w W : World} {B rb : Nat} {e : TypeId} {z : Nat} {v : Value} {N : Nat} {hd : Nat → List Value} {S : Nat → Value} {n : Nat → Nat} {f : Nat → Nat → Int} (h : RowS w B e z v N hd S n f) (hB : rb < B) (hk : Kept (fun i => i = rb) w W) : RowS W B e z v N hd S n f :=
  ⟨own_kept h.own hB hk, h.hl, fun i hi => ints_other (h.ints i hi) (fun h0 k e => hk.block k (ints_lt (h.ints i hi) h0 k e) (by have := h.new i hi h0 k e; omega)), h.new, h.off⟩
theorem CodR.kept {w W : World} {B rb : Nat} {v : Value} {N : Nat} {C : Nat → Cd} (h : CodR w B v N C) (hB : rb < B) (hk : Kept (fun i => i = rb) w W) : CodR W B v N C := by
  obtain ⟨S, h⟩ := h; exact ⟨S, h.kept hB hk⟩
theorem CodR.congr {w : World} {B : Nat} {v : Value} {N : Nat} {C D : Nat → Cd} (h : CodR w B v N C) (e : ∀ i, i < N → C i = D i) : CodR w B v N D := by
  obtain ⟨S, h⟩ := h
  exact ⟨S, h.congr (fun i hi => by unfold codH; rw [e i hi]) (fun _ _ => rfl) (fun i hi => by rw [e i hi]) (fun i hi => by rw [e i hi])⟩
theorem CodIn.kept {w W : World} {b rb : Nat} {al : Bool} {x y : Int} {s : Value} (h : CodIn w b al x y s) (hne : b ≠ rb) (hk : Kept (fun i => i = rb) w W) : CodIn W b al x y s := by
  have hb := hk.block b h.lt hne
  have hc : ∀ o, W.cell? ⟨b, o, none⟩ = w.cell? ⟨b, o, none⟩ := fun o => World.cell?_of_block (w := w) hb
  have hf : ∀ o, W.frozen? ⟨b, o, none⟩ = w.frozen? ⟨b, o, none⟩ := fun o => World.frozen?_of_block (w := w) hb
  exact ⟨(hc 0).trans h.c0, (hc 1).trans h.c1, (hc 2).trans h.c2, (hc 3).trans h.c3, (hf 0).trans h.g0, (hf 1).trans h.g1, (hf 2).trans h.g2, (hf 3).trans h.g3⟩
theorem CodIn.setX {w : World} {b : Nat} {al : Bool} {x y : Int} {s : Value} (h : CodIn w b al x y s) (u : Int) : CodIn (w.setCell ⟨b, 1, none⟩ (.int .i64 u)) b al u y s := by
  refine ⟨?_, World.cell?_setCell_same _ _ _ h.c1, ?_, ?_, by rw [World.frozen?_setCell]; exact h.g0, by rw [World.frozen?_setCell]; exact h.g1, by rw [World.frozen?_setCell]; exact h.g2, by rw [World.frozen?_setCell]; exact h.g3⟩
  · rw [World.cell?_setCell_other _ _ _ _ (fun e => by cases e)]; exact h.c0
  · rw [World.cell?_setCell_other _ _ _ _ (fun e => by cases e)]; exact h.c2
  · rw [World.cell?_setCell_other _ _ _ _ (fun e => by cases e)]; exact h.c3
theorem CodIn.setY {w : World} {b : Nat} {al : Bool} {x y : Int} {s : Value} (h : CodIn w b al x y s) (u : Int) : CodIn (w.setCell ⟨b, 2, none⟩ (.int .i64 u)) b al x u s := by
  refine ⟨?_, ?_, World.cell?_setCell_same _ _ _ h.c2, ?_, by rw [World.frozen?_setCell]; exact h.g0, by rw [World.frozen?_setCell]; exact h.g1, by rw [World.frozen?_setCell]; exact h.g2, by rw [World.frozen?_setCell]; exact h.g3⟩
  · rw [World.cell?_setCell_other _ _ _ _ (fun e => by cases e)]; exact h.c0
  · rw [World.cell?_setCell_other _ _ _ _ (fun e => by cases e)]; exact h.c1
  · rw [World.cell?_setCell_other _ _ _ _ (fun e => by cases e)]; exact h.c3
end Go.Proofs.YtjhflcgphejddaaDoor
