/-
  Lemmas for the law above, joined into one text (FlI, FlL, FlLG, FlLH). No statement is proved here.
-/
import Derived.Test.YtjhflcgphejddaaDoorHG0
import Derived.Test.YtjhflcgphejddaaDoorHG15
import Derived.Test.YtjhflcgphejddaaDoorHG6
import Derived.Deep.MidRow
import Derived.Test.YtjhflcgphejddaaDoorHG4
import Derived.Laws.OwnMore
import Derived.Deep.AppendLies
namespace Go.Proofs.YtjhflcgphejddaaDoor
open Go.RowKit
set_option linter.unusedVariables false
set_option maxRecDepth 100000

theorem Tryd.infoPic : (Tryd.prog.info? 46).map (fun i => (i.zero, i.size, i.bytes)) = some (some (.agg #[.int .i64 0, .int .i64 0, .slice none 0 0]), 3, 40) := by kernel_rfl
theorem Tryd.infoCod : (Tryd.prog.info? 40).map (fun i => (i.zero, i.size, i.bytes)) = some (some (.agg #[.bool false, .int .i64 0, .int .i64 0, .slice none 0 0]), 4, 48) := by kernel_rfl
end Go.Proofs.YtjhflcgphejddaaDoor

namespace Go.Proofs.YtjhflcgphejddaaDoor
open Go.RowKit
set_option linter.unusedVariables false
set_option maxRecDepth 100000

theorem sets_belowF {B g : Nat} {a : World} (hb : B ≤ g) : ∀ (vs : List Value) (o : Nat) (w : World), Below B a w → Below B a (w.setCells g o vs)
  | [], _, _, h => h
  | v :: vs, o, w, h => sets_belowF hb vs (o + 1) _ (h.setCell (show B ≤ g from hb) v)
theorem range_below {w w' : World} {b o : Nat} {cs : List Value} (h : w.rangeAt b o cs) (hb : Below w.heap.size w w') : w'.rangeAt b o cs := fun j v hj => cell_below hb (h j v hj)
theorem there_new (w : World) (cs : Array Value) (t : TypeId) : (w.alloc (.cells cs t)).there w.heap.size 0 cs.size := fun j hj => by
  have hh := (MapKept.heap_alloc w (.cells cs t)).1
  rw [Nat.zero_add]
  refine ⟨?_, by simp only [World.frozen?, hh]; simp⟩
  rw [cell_of_row _ _ j _ t (0, 0) hh]
  simp [hj]
theorem there_below {w w' : World} {b o n : Nat} (h : w.there b o n) (hb : Below w.heap.size w w') : w'.there b o n := fun j hj => by
  obtain ⟨h1, h2⟩ := h j hj
  obtain ⟨u, hu⟩ := Option.isSome_iff_exists.1 h1
  exact ⟨by rw [cell_below hb hu]; rfl, (hb.frozen (cell_lt hu)).trans h2⟩
theorem run_assign {P : Program} {r : Operand → Value} {o : Oper} {x : Operand} {v : Value} (h : o.op = .assign x) (hx : r x = v) (w : World) : (execOp r o).run P w = .ok (.value v) w := by
  rw [← hx]; unfold execOp; simp only [h]; rfl
theorem run_extract {P : Program} {r : Operand → Value} {o : Oper} {x : Operand} {n : Nat} {ux v : Value} {w : World} (h : o.op = .extract x n) (hx : r x = ux) (hr : (Instr.extract ux n).run P w = .ok v w) : (execOp r o).run P w = .ok (.value v) w := by
  unfold execOp; simp only [h, hx, Sem.run_bind, hr, Result.andThen_ok, Sem.run_pure]
theorem run_alloc {P : Program} {r : Operand → Value} {o : Oper} {t : TypeId} {v : Value} {w w' : World} (h : o.op = .alloc t) (hr : (Instr.alloc t true (.tuple #[])).run P w = .ok v w') : (execOp r o).run P w = .ok (.value v) w' := by
  unfold execOp; simp only [h, Sem.run_bind, hr, Result.andThen_ok, Sem.run_pure]
theorem map_three {f : Operand → Value} {x y z : Operand} {u v t : Value} (hx : f x = u) (hy : f y = v) (hz : f z = t) : #[x, y, z].map f = #[u, v, t] := by simp [hx, hy, hz]
theorem map_four {f : Operand → Value} {x y z q : Operand} {u v t s : Value} (hx : f x = u) (hy : f y = v) (hz : f z = t) (hq : f q = s) : #[x, y, z, q].map f = #[u, v, t, s] := by simp [hx, hy, hz, hq]
theorem ext_fst (x y : Value) (P : Program) (w : World) : (Instr.extract (.tuple #[x, y]) 0).run P w = .ok x w := by go_simp
theorem ext_snd (x y : Value) (P : Program) (w : World) : (Instr.extract (.tuple #[x, y]) 1).run P w = .ok y w := by go_simp

theorem Tryd.sizePic : (Tryd.prog.info? 46).map (·.size) = some 3 := by kernel_rfl
theorem Tryd.sizeCod : (Tryd.prog.info? 40).map (·.size) = some 4 := by kernel_rfl
theorem idx_pic (bb o len cap j : Nat) (w : World) (hj : j < len) (hl : len ≤ 6) : (Instr.indexAt 41 (.slice (some ⟨bb, o, none⟩) len cap) (.int .i64 j)).run Tryd.prog w = .ok (.pointer (some ⟨bb, o + j * 3, none⟩)) w := by
  have h1 : (j : Int) < (len : Int) := by omega
  go_simp
theorem idx_pic0 (bb o len cap : Nat) (w : World) (hj : 0 < len) (hl : len ≤ 6) : (Instr.indexAt 41 (.slice (some ⟨bb, o, none⟩) len cap) (.int .i64 0)).run Tryd.prog w = .ok (.pointer (some ⟨bb, o, none⟩)) w := by
  have h1 : (0 : Int) < (len : Int) := by omega
  go_simp
theorem idx_cod (bb o len cap j : Nat) (w : World) (hj : j < len) (hl : len ≤ 6) : (Instr.indexAt 22 (.slice (some ⟨bb, o, none⟩) len cap) (.int .i64 j)).run Tryd.prog w = .ok (.pointer (some ⟨bb, o + j * 4, none⟩)) w := by
  have h1 : (j : Int) < (len : Int) := by omega
  go_simp
theorem fld_pic0 (bb o : Nat) (w : World) : (Instr.fieldAt 46 (.pointer (some ⟨bb, o, none⟩)) 0).run Tryd.prog w = .ok (.pointer (some ⟨bb, o, none⟩)) w := by
  go_simp
theorem fld_pic1 (bb o : Nat) (w : World) : (Instr.fieldAt 46 (.pointer (some ⟨bb, o, none⟩)) 1).run Tryd.prog w = .ok (.pointer (some ⟨bb, o + 1, none⟩)) w := by
  go_simp
theorem load_intF (g b : Nat) (x : Int) (w : World) (h : w.cell? ⟨g, b, none⟩ = some (.int .i64 x)) : (Instr.loadAt 3 (.pointer (some ⟨g, b, none⟩))).run Tryd.prog w = .ok (.int .i64 x) w := by
  go_simp
theorem load_pic (g b : Nat) (cs : Array Value) (w : World) (hcs : cs.size = 3) (h : w.rangeAt g b cs.toList) : (Instr.loadAt 46 (.pointer (some ⟨g, b, none⟩))).run Tryd.prog w = .ok (.agg cs) w := by
  have h9 := run_loadAt_mid (P := Tryd.prog) w g b 46 cs.toList _ h Tryd.underlying46 rfl (by rw [Array.length_toList, hcs]; exact Tryd.sizePic)
  rw [Array.toArray_toList] at h9
  exact h9
theorem load_cod (g b : Nat) (cs : Array Value) (w : World) (hcs : cs.size = 4) (h : w.rangeAt g b cs.toList) : (Instr.loadAt 40 (.pointer (some ⟨g, b, none⟩))).run Tryd.prog w = .ok (.agg cs) w := by
  have h9 := run_loadAt_mid (P := Tryd.prog) w g b 40 cs.toList _ h Tryd.underlying40 rfl (by rw [Array.length_toList, hcs]; exact Tryd.sizeCod)
  rw [Array.toArray_toList] at h9
  exact h9
theorem alloc_pic (w : World) : (Instr.alloc 46 true (.tuple #[])).run Tryd.prog w = .ok (.pointer (some ⟨w.heap.size, 0, none⟩)) (w.alloc (.cells #[.int .i64 0, .int .i64 0, .slice none 0 0] 46)) := by
  go_simp
theorem alloc_cod (w : World) : (Instr.alloc 40 true (.tuple #[])).run Tryd.prog w = .ok (.pointer (some ⟨w.heap.size, 0, none⟩)) (w.alloc (.cells #[.bool false, .int .i64 0, .int .i64 0, .slice none 0 0] 40)) := by
  go_simp

theorem agg_pic {w : World} {b o : Nat} {x y : Int} {s : Value} (h0 : w.cell? ⟨b, o, none⟩ = some (.int .i64 x)) (h1 : w.cell? ⟨b, o + 1, none⟩ = some (.int .i64 y)) (h2 : w.cell? ⟨b, o + 2, none⟩ = some s) : w.rangeAt b o (#[.int .i64 x, .int .i64 y, s] : Array Value).toList := fun j v hj => by
  match j, hj with
  | 0, hj => cases hj; exact h0
  | 1, hj => cases hj; exact h1
  | 2, hj => cases hj; exact h2
theorem agg_cod {w : World} {b o : Nat} {al : Bool} {x y : Int} {s : Value} (h0 : w.cell? ⟨b, o, none⟩ = some (.bool al)) (h1 : w.cell? ⟨b, o + 1, none⟩ = some (.int .i64 x)) (h2 : w.cell? ⟨b, o + 2, none⟩ = some (.int .i64 y)) (h3 : w.cell? ⟨b, o + 3, none⟩ = some s) : w.rangeAt b o (#[.bool al, .int .i64 x, .int .i64 y, s] : Array Value).toList := fun j v hj => by
  match j, hj with
  | 0, hj => cases hj; exact h0
  | 1, hj => cases hj; exact h1
  | 2, hj => cases hj; exact h2
  | 3, hj => cases hj; exact h3
theorem pic_agg {w : World} {b : Nat} {x y : Int} {s : Value} (h : w.rangeAt b 0 (#[.int .i64 x, .int .i64 y, s] : Array Value).toList) (ht : w.there b 0 3) : PicIn w b x y s :=
  ⟨⟨by simpa using h 0 _ rfl, by simpa using (ht 0 (by decide)).2⟩, ⟨by simpa using h 1 _ rfl, by simpa using (ht 1 (by decide)).2⟩, by simpa using h 2 _ rfl, by simpa using (ht 2 (by decide)).2⟩
theorem ints_sets {w : World} {x : Nat} {v : Value} {n : Nat} {f : Nat → Int} (hv : ∀ k, v.ownBlock = some k → k ≠ x) : ∀ (cs : List Value) (o : Nat) (w : World), IntsIn w v n f → IntsIn (w.setCells x o cs) v n f
  | [], _, _, h => h
  | c :: cs, o, w, h => by
    refine ints_sets (w := w) hv cs (o + 1) _ ?_
    rcases h with h | ⟨h0, g, og, c', rfl, hc⟩
    · exact Or.inl h
    · refine Or.inr ⟨h0, g, og, c', rfl, fun i hi => ?_⟩
      rw [World.cell?_setCell_other _ _ _ _ (fun e => hv g rfl (congrArg Addr.block e).symm)]
      exact hc i hi
end Go.Proofs.YtjhflcgphejddaaDoor

namespace Go.Proofs.YtjhflcgphejddaaDoor
open Go.RowKit
set_option linter.unusedVariables false
set_option maxRecDepth 100000

def opsGx0 : Oper := { dst := some 54, op := Op.load 46 (Operand.tmp 11), type := 46, pos := "film.go:49", after := #[], guard := none }
def opsGx1 : Oper := { dst := some 55, op := Op.move (Operand.tmp 3), type := 22, pos := "film.go:49", after := #[], guard := none }
def opsGx2 : Oper := { dst := some 56, op := Op.move (Operand.tmp 13), type := 3, pos := "film.go:49", after := #[], guard := none }
def opsGx3 : Oper := { dst := some 57, op := Op.indexAddr 22 (Operand.tmp 55) (Operand.tmp 56), type := 0, pos := "film.go:49", after := #[{ on := 1, ground := Ground.data }, { on := 2, ground := Ground.data }], guard := none }
def opsGx4 : Oper := { dst := some 58, op := Op.load 40 (Operand.tmp 57), type := 40, pos := "film.go:49", after := #[{ on := 3, ground := Ground.data }], guard := none }
def opsGx5 : Oper := { dst := some 59, op := Op.move (Operand.tmp 2), type := 3, pos := "film.go:49", after := #[], guard := none }
def opsGx6 : Oper := { dst := some 60, op := Op.call { callee := Callee.value (Operand.func 29), args := #[Operand.tmp 54, Operand.tmp 58, Operand.tmp 59], argTypes := #[46, 40, 3] }, type := 47, pos := "film.go:49", after := #[{ on := 0, ground := Ground.data }, { on := 4, ground := Ground.data }, { on := 5, ground := Ground.data }], guard := none }
def opsGx7 : Oper := { dst := some 53, op := Op.move (Operand.tmp 60), type := 47, pos := "film.go:49", after := #[{ on := 6, ground := Ground.data }], guard := none }
def opsGx8 : Oper := { dst := some 61, op := Op.extract (Operand.tmp 53) 0, type := 46, pos := "film.go:49", after := #[{ on := 7, ground := Ground.data }], guard := none }
def opsGx9 : Oper := { dst := some 62, op := Op.extract (Operand.tmp 53) 1, type := 26, pos := "film.go:49", after := #[{ on := 7, ground := Ground.data }, { on := 11, ground := Ground.gcOnly Departure.lateStores }], guard := none }
def opsGx10 : Oper := { dst := some 14, op := Op.alloc 46, type := 0, pos := "film.go:49", after := #[], guard := none }
def opsGx11 : Oper := { dst := none, op := Op.store 46 (Operand.tmp 14) (Operand.tmp 61), type := 0, pos := "film.go:49", after := #[{ on := 10, ground := Ground.data }, { on := 8, ground := Ground.data }, { on := 6, ground := Ground.chain }, { on := 0, ground := Ground.phase }, { on := 1, ground := Ground.phase }, { on := 2, ground := Ground.phase }, { on := 3, ground := Ground.phase }, { on := 4, ground := Ground.phase }, { on := 5, ground := Ground.phase }, { on := 6, ground := Ground.phase }, { on := 7, ground := Ground.phase }, { on := 8, ground := Ground.phase }, { on := 9, ground := Ground.textOnly Departure.lateStores }, { on := 10, ground := Ground.phase }], guard := none }
def opsGx12 : Oper := { dst := some 15, op := Op.assign (Operand.tmp 62), type := 26, pos := "film.go:49", after := #[{ on := 9, ground := Ground.data }, { on := 11, ground := Ground.chain }, { on := 0, ground := Ground.phase }, { on := 1, ground := Ground.phase }, { on := 2, ground := Ground.phase }, { on := 3, ground := Ground.phase }, { on := 4, ground := Ground.phase }, { on := 5, ground := Ground.phase }, { on := 6, ground := Ground.phase }, { on := 7, ground := Ground.phase }, { on := 8, ground := Ground.phase }, { on := 9, ground := Ground.phase }, { on := 10, ground := Ground.phase }, { on := 11, ground := Ground.phase }], guard := none }
def opsG : Array Oper := #[opsGx0, opsGx1, opsGx2, opsGx3, opsGx4, opsGx5, opsGx6, opsGx7, opsGx8, opsGx9, opsGx10, opsGx11, opsGx12]
theorem atopsGx0 : opsG[0]? = some opsGx0 := rfl
theorem atopsGx1 : opsG[1]? = some opsGx1 := rfl
theorem atopsGx2 : opsG[2]? = some opsGx2 := rfl
theorem atopsGx3 : opsG[3]? = some opsGx3 := rfl
theorem atopsGx4 : opsG[4]? = some opsGx4 := rfl
theorem atopsGx5 : opsG[5]? = some opsGx5 := rfl
theorem atopsGx6 : opsG[6]? = some opsGx6 := rfl
theorem atopsGx7 : opsG[7]? = some opsGx7 := rfl
theorem atopsGx8 : opsG[8]? = some opsGx8 := rfl
theorem atopsGx9 : opsG[9]? = some opsGx9 := rfl
theorem atopsGx10 : opsG[10]? = some opsGx10 := rfl
theorem atopsGx11 : opsG[11]? = some opsGx11 := rfl
theorem atopsGx12 : opsG[12]? = some opsGx12 := rfl

set_option maxHeartbeats 1000000 in
theorem regionG {Q : Exit → Act → World → Prop} {a : Act} {w : World} (bb o N cap j x11 : Nat) (st : Int) (ca ck : Array Value) (er : Value) (cc : Option Addr → Nat → Array Value) (R : World → World → Option Addr → Nat → Prop) (hs : a.tmps.size = 73)
    (h3 : a.eval (.tmp 3) = (.slice (some ⟨bb, o, none⟩) N cap)) (h2 : a.eval (.tmp 2) = .int .i64 st) (h11 : a.eval (.tmp 11) = .pointer (some ⟨x11, 0, none⟩)) (h13 : a.eval (.tmp 13) = .int .i64 j) (hj : j < N) (hN : N ≤ 6) (hca : ca.size = 3) (hck : ck.size = 4) (hra : w.rangeAt x11 0 ca.toList) (hrk : w.rangeAt bb (o + j * 4) ck.toList)
    (hcs : ∀ ad cp, (cc ad cp).size = 3) (hone : ∀ ad cp, (cc ad cp).all (·.oneCell') = true)
    (hR1 : ∀ W W1 W2 ad cp, R W W1 ad cp → Below W1.heap.size W1 W2 → R W W2 ad cp)
    (hR2 : ∀ W W1 ad cp (x : Nat) cells {W2 : World}, R W W1 ad cp → Below W1.heap.size W1 W2 → W.heap.size ≤ W1.heap.size → R W (W2.setCells W1.heap.size 0 cells) ad cp)
    (hR3 : ∀ W W1 ad cp (x : Nat) cells, R W W1 ad cp → x < W.heap.size → R W (W1.setCells x 0 cells) ad cp)
    (KC : ∀ W, Below w.heap.size w W → Calls Tryd.prog 29 #[.agg ca, .agg ck, .int .i64 st] W fun e w' => ∃ ad cp, e = .returned (.tuple #[.agg (cc ad cp), er]) ∧ R W w' ad cp ∧ Below W.heap.size W w')
    (hQ : ∀ c a (d : Tmp) v w, Q (.panic c) (Act.put a (some d) v) w → Q (.panic c) a w)
    (hend : ∀ W W0 ad cp x, Below w.heap.size w W → Below w.heap.size w W0 → w.heap.size ≤ x → W.rangeAt x 0 (cc ad cp).toList → W.there x 0 3 → R W0 W ad cp → Q .normal ((((((((((((a.put (some 54) (.agg ca)).put (some 55) (.slice (some ⟨bb, o, none⟩) N cap)).put (some 56) (.int .i64 j)).put (some 57) (.pointer (some ⟨bb, o + j * 4, none⟩))).put (some 58) (.agg ck)).put (some 59) (.int .i64 st)).put (some 60) (.tuple #[.agg (cc ad cp), er])).put (some 53) (.tuple #[.agg (cc ad cp), er])).put (some 61) (.agg (cc ad cp))).put (some 62) er).put (some 14) (.pointer (some ⟨x, 0, none⟩))).put (some 15) er) W) :
    (Code.region 13 opsG true).wp Tryd.prog Q a w := by
  refine wp_region_held (S := fun W => Below w.heap.size w W) (by kernel_rfl) ?_
  show wpAnyH _ _ _ _ _ 13 (Array.replicate 13 false) a w.drew
  have hb0 : Below w.heap.size w w.drew := (Below.refl _ _).drew
  generalize w.drew = w0 at *
  refine anyH_take (i := 0) (d := 54) (v := (.agg ca)) atopsGx0 rfl (by kernel_rfl) (by kernel_rfl) (by kernel_rfl) rfl hQ hb0 (fun W hW => (run_load rfl h11 (load_pic x11 0 ca W hca (range_below hra hW)))) ?_
  refine anyH_take (i := 1) (d := 55) (v := (.slice (some ⟨bb, o, none⟩) N cap)) atopsGx1 rfl (by kernel_rfl) (by kernel_rfl) (by kernel_rfl) rfl hQ hb0 (fun W hW => (run_move rfl (Act.ev_ne (by decide) h3) W)) ?_
  refine anyH_take (i := 2) (d := 56) (v := (.int .i64 j)) atopsGx2 rfl (by kernel_rfl) (by kernel_rfl) (by kernel_rfl) rfl hQ hb0 (fun W hW => (run_move rfl (Act.ev_ne (by decide) (Act.ev_ne (by decide) h13)) W)) ?_
  refine anyH_take (i := 3) (d := 57) (v := (.pointer (some ⟨bb, o + j * 4, none⟩))) atopsGx3 rfl (by kernel_rfl) (by kernel_rfl) (by kernel_rfl) rfl hQ hb0 (fun W hW => (run_index rfl (Act.ev_ne (by decide) (Act.ev_eq (Act.sz hs) (by decide))) (Act.ev_eq (Act.sz (Act.sz hs)) (by decide)) (idx_cod bb o N cap j W hj hN))) ?_
  refine anyH_take (i := 4) (d := 58) (v := (.agg ck)) atopsGx4 rfl (by kernel_rfl) (by kernel_rfl) (by kernel_rfl) rfl hQ hb0 (fun W hW => (run_load rfl (Act.ev_eq (Act.sz (Act.sz (Act.sz hs))) (by decide)) (load_cod bb (o + j * 4) ck W hck (range_below hrk hW)))) ?_
  refine anyH_take (i := 5) (d := 59) (v := (.int .i64 st)) atopsGx5 rfl (by kernel_rfl) (by kernel_rfl) (by kernel_rfl) rfl hQ hb0 (fun W hW => (run_move rfl (Act.ev_ne (by decide) (Act.ev_ne (by decide) (Act.ev_ne (by decide) (Act.ev_ne (by decide) (Act.ev_ne (by decide) h2))))) W)) ?_
  refine anyH_two (i := 6) (j := 10) (by kernel_rfl) atopsGx6 rfl atopsGx10 rfl (fun K hK => ?_) (fun K hK => ?_)
  · refine wp_call_at (R := fun v w' => ∃ ad cp, v = (.tuple #[.agg (cc ad cp), er]) ∧ R w0 w' ad cp ∧ Below w0.heap.size w0 w') #[.agg ca, .agg ck, .int .i64 st] (d := 60) rfl rfl (map_three (Act.ev_ne (by decide) (Act.ev_ne (by decide) (Act.ev_ne (by decide) (Act.ev_ne (by decide) (Act.ev_ne (by decide) (Act.ev_eq hs (by decide))))))) (Act.ev_ne (by decide) (Act.ev_eq (Act.sz (Act.sz (Act.sz (Act.sz hs)))) (by decide))) (Act.ev_eq (Act.sz (Act.sz (Act.sz (Act.sz (Act.sz hs))))) (by decide))) (by go_simp) ((KC w0 hb0).mono fun e w' h => by obtain ⟨ad, cp, he, hr, hb⟩ := h; exact ⟨_, he, ad, cp, rfl, hr, hb⟩) (fun v w1 hv => ?_)
    obtain ⟨ad, cp, rfl, hr, hb⟩ := hv
    have hbw1 := below_two hb0 hb
    refine hK _ _ hbw1 ?_
    clear hK
    refine anyH_take (i := 7) (d := 53) (v := (.tuple #[.agg (cc ad cp), er])) atopsGx7 rfl (by kernel_rfl) (by kernel_rfl) (by kernel_rfl) rfl hQ hbw1 (fun W hW => (run_move rfl (Act.ev_eq (Act.sz (Act.sz (Act.sz (Act.sz (Act.sz (Act.sz hs)))))) (by decide)) W)) ?_
    refine anyH_take (i := 8) (d := 61) (v := (.agg (cc ad cp))) atopsGx8 rfl (by kernel_rfl) (by kernel_rfl) (by kernel_rfl) rfl hQ hbw1 (fun W hW => (run_extract rfl (Act.ev_eq (Act.sz (Act.sz (Act.sz (Act.sz (Act.sz (Act.sz (Act.sz hs))))))) (by decide)) (ext_fst _ _ _ W))) ?_
    refine anyH_take (i := 9) (d := 62) (v := er) atopsGx9 rfl (by kernel_rfl) (by kernel_rfl) (by kernel_rfl) rfl hQ hbw1 (fun W hW => (run_extract rfl (Act.ev_ne (by decide) (Act.ev_eq (Act.sz (Act.sz (Act.sz (Act.sz (Act.sz (Act.sz (Act.sz hs))))))) (by decide))) (ext_snd _ _ _ W))) ?_
    refine anyH_one (i := 10) (by kernel_rfl) atopsGx10 rfl (fun K hK => ?_)
    have hba := (Below.refl w1.heap.size w1).alloc (Nat.le_refl _) (.cells #[.int .i64 0, .int .i64 0, .slice none 0 0] 46)
    have hbw2 := below_two hbw1 hba
    refine wp_value_to (d := 14) rfl (run_alloc rfl (alloc_pic w1)) (hK _ _ hbw2 ?_)
    clear hK K
    have ht := there_new w1 #[.int .i64 0, .int .i64 0, .slice none 0 0] 46
    have hr2 := hR1 _ _ _ _ _ hr hba
    have hx := hbw1.size
    have hle := hb.size
    have hr3 := fun cells => hR2 w0 _ ad cp w1.heap.size cells hr hba hle
    generalize w1.alloc (.cells #[.int .i64 0, .int .i64 0, .slice none 0 0] 46) = w2 at *
    refine anyH_one (i := 11) (by kernel_rfl) atopsGx11 rfl (fun K hK => ?_)
    refine wp_store_at 46 _ _ rfl rfl w1.heap.size 0 (cc ad cp) (Act.ev_eq (Act.sz (Act.sz (Act.sz (Act.sz (Act.sz (Act.sz (Act.sz (Act.sz (Act.sz (Act.sz hs)))))))))) (by decide)) (Act.ev_ne (by decide) (Act.ev_ne (by decide) (Act.ev_eq (Act.sz (Act.sz (Act.sz (Act.sz (Act.sz (Act.sz (Act.sz (Act.sz hs)))))))) (by decide)))) (by rw [hcs]; exact ht) (by rw [hcs]; exact Tryd.sizePic) (hone _ _) (hK _ _ (sets_belowF hx _ _ _ hbw2) ?_)
    clear hK K
    have hth : w2.there w1.heap.size 0 (cc ad cp).size := by rw [hcs]; exact ht
    have hrg := World.rangeAt_setCells_same w2 w1.heap.size 0 (cc ad cp).toList (by rw [Array.length_toList]; exact hth)
    have htt := World.there_setCells (ht) w1.heap.size 0 (cc ad cp).toList
    refine anyH_one (i := 12) (by kernel_rfl) atopsGx12 rfl (fun K hK => ?_)
    refine wp_value_at (d := 15) rfl (run_assign rfl (Act.ev_ne (by decide) (Act.ev_eq (Act.sz (Act.sz (Act.sz (Act.sz (Act.sz (Act.sz (Act.sz (Act.sz (Act.sz hs))))))))) (by decide))) _) (hK _ _ (sets_belowF hx _ _ _ hbw2) ?_)
    clear hK K
    exact wpAnyH_done (by kernel_rfl) (hend _ _ ad cp w1.heap.size (sets_belowF hx _ _ _ hbw2) hb0 hx hrg htt (hr3 _)) _
  · have hba := (Below.refl w0.heap.size w0).alloc (Nat.le_refl _) (.cells #[.int .i64 0, .int .i64 0, .slice none 0 0] 46)
    have hbw1 := below_two hb0 hba
    refine wp_value_to (d := 14) rfl (run_alloc rfl (alloc_pic w0)) (hK _ _ hbw1 ?_)
    clear hK
    have ht := there_new w0 #[.int .i64 0, .int .i64 0, .slice none 0 0] 46
    have hx := hb0.size
    have hlt : w0.heap.size < (w0.alloc (.cells #[.int .i64 0, .int .i64 0, .slice none 0 0] 46)).heap.size := by simp
    generalize w0.heap.size = x at *
    generalize w0.alloc (.cells #[.int .i64 0, .int .i64 0, .slice none 0 0] 46) = w1 at *
    refine anyH_one (i := 6) (by kernel_rfl) atopsGx6 rfl (fun K1 hK1 => ?_)
    refine wp_call_at (R := fun v w' => ∃ ad cp, v = (.tuple #[.agg (cc ad cp), er]) ∧ R w1 w' ad cp ∧ Below w1.heap.size w1 w') #[.agg ca, .agg ck, .int .i64 st] (d := 60) rfl rfl (map_three (Act.ev_ne (by decide) (Act.ev_ne (by decide) (Act.ev_ne (by decide) (Act.ev_ne (by decide) (Act.ev_ne (by decide) (Act.ev_ne (by decide) (Act.ev_eq hs (by decide)))))))) (Act.ev_ne (by decide) (Act.ev_ne (by decide) (Act.ev_eq (Act.sz (Act.sz (Act.sz (Act.sz hs)))) (by decide)))) (Act.ev_ne (by decide) (Act.ev_eq (Act.sz (Act.sz (Act.sz (Act.sz (Act.sz hs))))) (by decide)))) (by go_simp) ((KC w1 hbw1).mono fun e w' h => by obtain ⟨ad, cp, he, hr, hb⟩ := h; exact ⟨_, he, ad, cp, rfl, hr, hb⟩) (fun v w2 hv => ?_)
    obtain ⟨ad, cp, rfl, hr, hb⟩ := hv
    have hbw2 := below_two hbw1 hb
    refine hK1 _ _ hbw2 ?_
    clear hK1
    refine anyH_take (i := 7) (d := 53) (v := (.tuple #[.agg (cc ad cp), er])) atopsGx7 rfl (by kernel_rfl) (by kernel_rfl) (by kernel_rfl) rfl hQ hbw2 (fun W hW => (run_move rfl (Act.ev_eq (Act.sz (Act.sz (Act.sz (Act.sz (Act.sz (Act.sz (Act.sz hs))))))) (by decide)) W)) ?_
    refine anyH_take (i := 8) (d := 61) (v := (.agg (cc ad cp))) atopsGx8 rfl (by kernel_rfl) (by kernel_rfl) (by kernel_rfl) rfl hQ hbw2 (fun W hW => (run_extract rfl (Act.ev_eq (Act.sz (Act.sz (Act.sz (Act.sz (Act.sz (Act.sz (Act.sz (Act.sz hs)))))))) (by decide)) (ext_fst _ _ _ W))) ?_
    refine anyH_take (i := 9) (d := 62) (v := er) atopsGx9 rfl (by kernel_rfl) (by kernel_rfl) (by kernel_rfl) rfl hQ hbw2 (fun W hW => (run_extract rfl (Act.ev_ne (by decide) (Act.ev_eq (Act.sz (Act.sz (Act.sz (Act.sz (Act.sz (Act.sz (Act.sz (Act.sz hs)))))))) (by decide))) (ext_snd _ _ _ W))) ?_
    rw [Act.put_swap _ (.pointer (some ⟨x, 0, none⟩)) (.tuple #[.agg (cc ad cp), er]) (show (14 : Nat) ≠ 60 by decide), Act.put_swap _ (.pointer (some ⟨x, 0, none⟩)) (.tuple #[.agg (cc ad cp), er]) (show (14 : Nat) ≠ 53 by decide), Act.put_swap _ (.pointer (some ⟨x, 0, none⟩)) (.agg (cc ad cp)) (show (14 : Nat) ≠ 61 by decide), Act.put_swap _ (.pointer (some ⟨x, 0, none⟩)) er (show (14 : Nat) ≠ 62 by decide)]
    have ht2 := there_below ht hb
    have hr3 := fun cells => hR3 w1 w2 ad cp x cells hr hlt
    refine anyH_one (i := 11) (by kernel_rfl) atopsGx11 rfl (fun K hK => ?_)
    refine wp_store_at 46 _ _ rfl rfl x 0 (cc ad cp) (Act.ev_eq (Act.sz (Act.sz (Act.sz (Act.sz (Act.sz (Act.sz (Act.sz (Act.sz (Act.sz (Act.sz hs)))))))))) (by decide)) (Act.ev_ne (by decide) (Act.ev_ne (by decide) (Act.ev_eq (Act.sz (Act.sz (Act.sz (Act.sz (Act.sz (Act.sz (Act.sz (Act.sz hs)))))))) (by decide)))) (by rw [hcs]; exact ht2) (by rw [hcs]; exact Tryd.sizePic) (hone _ _) (hK _ _ (sets_belowF hx _ _ _ hbw2) ?_)
    clear hK K
    have hth : w2.there x 0 (cc ad cp).size := by rw [hcs]; exact ht2
    have hrg := World.rangeAt_setCells_same w2 x 0 (cc ad cp).toList (by rw [Array.length_toList]; exact hth)
    have htt := World.there_setCells (ht2) x 0 (cc ad cp).toList
    refine anyH_one (i := 12) (by kernel_rfl) atopsGx12 rfl (fun K hK => ?_)
    refine wp_value_at (d := 15) rfl (run_assign rfl (Act.ev_ne (by decide) (Act.ev_eq (Act.sz (Act.sz (Act.sz (Act.sz (Act.sz (Act.sz (Act.sz (Act.sz (Act.sz hs))))))))) (by decide))) _) (hK _ _ (sets_belowF hx _ _ _ hbw2) ?_)
    clear hK K
    exact wpAnyH_done (by kernel_rfl) (hend _ _ ad cp x (sets_belowF hx _ _ _ hbw2) hbw1 hx hrg htt (hr3 _)) _
end Go.Proofs.YtjhflcgphejddaaDoor

namespace Go.Proofs.YtjhflcgphejddaaDoor
open Go.RowKit
set_option linter.unusedVariables false
set_option maxRecDepth 100000

def opsHx0 : Oper := { dst := some 66, op := Op.move (Operand.tmp 12), type := 41, pos := "film.go:53", after := #[], guard := none }
def opsHx1 : Oper := { dst := some 67, op := Op.load 46 (Operand.tmp 14), type := 46, pos := "film.go:53", after := #[], guard := none }
def opsHx2 : Oper := { dst := some 68, op := Op.buildSlice 41 1 #[(0, Operand.tmp 67)], type := 41, pos := "film.go:53", after := #[{ on := 1, ground := Ground.data }], guard := none }
def opsHx3 : Oper := { dst := some 69, op := Op.call { callee := Callee.builtin Builtin.append, args := #[Operand.tmp 66, Operand.tmp 68], argTypes := #[41, 41] }, type := 41, pos := "film.go:53", after := #[{ on := 0, ground := Ground.data }, { on := 2, ground := Ground.data }], guard := none }
def opsHx4 : Oper := { dst := some 70, op := Op.load 46 (Operand.tmp 14), type := 46, pos := "film.go:53", after := #[{ on := 5, ground := Ground.gcOnly Departure.lateStores }], guard := none }
def opsHx5 : Oper := { dst := some 12, op := Op.assign (Operand.tmp 69), type := 41, pos := "film.go:53", after := #[{ on := 3, ground := Ground.data }, { on := 3, ground := Ground.chain }, { on := 0, ground := Ground.phase }, { on := 1, ground := Ground.phase }, { on := 2, ground := Ground.phase }, { on := 3, ground := Ground.phase }, { on := 4, ground := Ground.textOnly Departure.lateStores }], guard := none }
def opsHx6 : Oper := { dst := none, op := Op.store 46 (Operand.tmp 11) (Operand.tmp 70), type := 0, pos := "film.go:53", after := #[{ on := 4, ground := Ground.data }, { on := 5, ground := Ground.chain }, { on := 0, ground := Ground.phase }, { on := 1, ground := Ground.phase }, { on := 2, ground := Ground.phase }, { on := 3, ground := Ground.phase }, { on := 4, ground := Ground.phase }, { on := 5, ground := Ground.phase }], guard := none }
def opsH : Array Oper := #[opsHx0, opsHx1, opsHx2, opsHx3, opsHx4, opsHx5, opsHx6]
theorem atopsHx0 : opsH[0]? = some opsHx0 := rfl
theorem atopsHx1 : opsH[1]? = some opsHx1 := rfl
theorem atopsHx2 : opsH[2]? = some opsHx2 := rfl
theorem atopsHx3 : opsH[3]? = some opsHx3 := rfl
theorem atopsHx4 : opsH[4]? = some opsHx4 := rfl
theorem atopsHx5 : opsH[5]? = some opsHx5 := rfl
theorem atopsHx6 : opsH[6]? = some opsHx6 := rfl
theorem own_belowF {w w' : World} {B e size n : Nat} {v : Value} {xs : List Value} (h : w.ownsRow B e size v n xs) (hb : Below w.heap.size w w') : w'.ownsRow B e size v n xs := by
  refine ⟨h.1, ?_⟩
  rcases h.2 with hn | ⟨g, cap, cur, hv, h1, hgg, rest⟩
  · exact .inl hn
  · exact .inr ⟨g, cap, cur, hv, h1, (hb.block g (Array.getElem?_eq_some_iff.1 hgg).1).trans hgg, rest⟩
theorem build_opsH {r : Operand → Value} {qa qb : Int} {qd : Option Addr} {qn qc : Nat} (h67 : r (.tmp 67) = .agg #[.int .i64 qa, .int .i64 qb, .slice qd qn qc]) (w : World) : (execOp r opsHx2).run Tryd.prog w = .ok (.value (.slice (some ⟨w.heap.size, 0, none⟩) 1 1)) (w.alloc (.cells #[.int .i64 qa, .int .i64 qb, .slice qd qn qc] 46)) := by
  unfold execOp opsHx2
  simp only [List.map_toArray, List.map_cons, List.map_nil, h67]
  go_simp
set_option maxHeartbeats 1000000 in
theorem regionH {Q : Exit → Act → World → Prop} {a : Act} {w : World} (B x11 x14 j : Nat) (v : Value) (xs : List Value) (qa qb : Int) (qd : Option Addr) (qn qc : Nat) (hs : a.tmps.size = 73)
    (h12 : a.eval (.tmp 12) = v) (h14 : a.eval (.tmp 14) = .pointer (some ⟨x14, 0, none⟩)) (h11 : a.eval (.tmp 11) = .pointer (some ⟨x11, 0, none⟩)) (hown : w.ownsRow B 46 3 v j xs) (hB : B ≤ w.heap.size) (hj : j ≤ 6)
    (hR : w.rangeAt x14 0 (#[.int .i64 qa, .int .i64 qb, .slice qd qn qc] : Array Value).toList) (hth : w.there x11 0 3) (h14n : v.ownBlock ≠ some x14) (h11n : v.ownBlock ≠ some x11) (hap : x14 ≠ x11)
    (hQ : ∀ c a (d : Tmp) v w, Q (.panic c) (Act.put a (some d) v) w → Q (.panic c) a w)
    (hend : ∀ w1 w5 g cap n0, n0 = w.drew.heap.size → w1 = w.drew.alloc (.cells #[.int .i64 qa, .int .i64 qb, .slice qd qn qc] 46) → w5.ownsRow B 46 3 (.slice (some ⟨g, 0, none⟩) (j + 1) cap) (j + 1) (xs ++ [.int .i64 qa, .int .i64 qb, .slice qd qn qc]) → w1.grownBy w5 v.ownBlock → (v.ownBlock = some g ∨ g = w1.heap.size) → g < w5.heap.size → Q .normal ((((((a.put (some 66) v).put (some 67) (.agg #[.int .i64 qa, .int .i64 qb, .slice qd qn qc])).put (some 70) (.agg #[.int .i64 qa, .int .i64 qb, .slice qd qn qc])).put (some 68) (.slice (some ⟨n0, 0, none⟩) 1 1)).put (some 69) (.slice (some ⟨g, 0, none⟩) (j + 1) cap)).put (some 12) (.slice (some ⟨g, 0, none⟩) (j + 1) cap)) (w5.setCells x11 0 (#[.int .i64 qa, .int .i64 qb, .slice qd qn qc] : Array Value).toList)) :
    (Code.region 16 opsH true).wp Tryd.prog Q a w := by
  obtain ⟨i0, hi0, hz0, hz1, hz2⟩ := info_parts Tryd.infoPic
  refine wp_region_held (S := fun W => W.rangeAt x14 0 (#[.int .i64 qa, .int .i64 qb, .slice qd qn qc] : Array Value).toList) (by kernel_rfl) ?_
  show wpAnyH _ _ _ _ _ 7 (Array.replicate 7 false) a w.drew
  have hS0 : w.drew.rangeAt x14 0 (#[.int .i64 qa, .int .i64 qb, .slice qd qn qc] : Array Value).toList := (World.rangeAt_drew _ _ _ _).2 hR
  replace hth : w.drew.there x11 0 3 := (World.there_drew _ _ _ _).2 hth
  replace hown := own_belowF hown (Below.refl _ w).drew
  replace hB : B ≤ w.drew.heap.size := hB
  clear hR
  generalize w.drew = w0 at *
  refine anyH_take (i := 0) (d := 66) (v := v) atopsHx0 rfl (by kernel_rfl) (by kernel_rfl) (by kernel_rfl) rfl hQ hS0 (fun W hW => (run_move rfl h12 W)) ?_
  refine anyH_take (i := 1) (d := 67) (v := (.agg #[.int .i64 qa, .int .i64 qb, .slice qd qn qc])) atopsHx1 rfl (by kernel_rfl) (by kernel_rfl) (by kernel_rfl) rfl hQ hS0 (fun W hW => (run_load rfl (Act.ev_ne (by decide) h14) (load_pic x14 0 _ W rfl hW))) ?_
  refine anyH_take (i := 4) (d := 70) (v := (.agg #[.int .i64 qa, .int .i64 qb, .slice qd qn qc])) atopsHx4 rfl (by kernel_rfl) (by kernel_rfl) (by kernel_rfl) rfl hQ hS0 (fun W hW => (run_load rfl (Act.ev_ne (by decide) (Act.ev_ne (by decide) h14)) (load_pic x14 0 _ W rfl hW))) ?_
  have hba := (Below.refl w0.heap.size w0).alloc (Nat.le_refl _) (.cells #[.int .i64 qa, .int .i64 qb, .slice qd qn qc] 46)
  refine anyH_one (i := 2) (by kernel_rfl) atopsHx2 rfl (fun K hK => ?_)
  refine wp_value_to (d := 68) rfl (build_opsH (Act.ev_ne (by decide) (Act.ev_eq (Act.sz hs) (by decide))) w0) (hK _ _ (range_below hS0 hba) ?_)
  clear hK K
  have hlt14 : x14 < w0.heap.size := cell_lt (hS0 0 _ rfl)
  have hlt11 : x11 < w0.heap.size := by obtain ⟨u, hu⟩ := Option.isSome_iff_exists.1 (hth 0 (by decide)).1; exact cell_lt hu
  have hz : (w0.alloc (.cells #[.int .i64 qa, .int .i64 qb, .slice qd qn qc] 46)).heap.size = w0.heap.size + 1 := by simp
  have hnew := heap_alloc_new w0 (.cells #[.int .i64 qa, .int .i64 qb, .slice qd qn qc] 46)
  have hownA := hown.alloc (.cells #[.int .i64 qa, .int .i64 qb, .slice qd qn qc] 46)
  have hthA := there_below hth hba
  have hSA := range_below hS0 hba
  generalize hn0 : w0.heap.size = n0 at *
  generalize hw1 : w0.alloc (.cells #[.int .i64 qa, .int .i64 qb, .slice qd qn qc] 46) = w1 at *
  refine anyH_one (i := 3) (by kernel_rfl) atopsHx3 rfl (fun K hK => ⟨?_⟩)
  refine wp_append_lies _ (.tmp 66) (.tmp 68) 41 rfl B 46 i0 (.agg #[.int .i64 0, .int .i64 0, .slice none 0 0]) 3 40 Tryd.underlying41 hi0 hz0 hz1 hz2 rfl (by decide) v j xs (Act.ev_ne (by decide) (Act.ev_ne (by decide) (Act.ev_ne (by decide) (Act.ev_eq hs (by decide))))) hownA ⟨n0, 0, none⟩ 1 1 [.int .i64 qa, .int .i64 qb, .slice qd qn qc] (Act.ev_eq (Act.sz (Act.sz (Act.sz hs))) (by decide)) rfl (World.news_of_block (cs := #[.int .i64 qa, .int .i64 qb, .slice qd qn qc]) (t := 46) (fr := (0, 0)) hnew) (fun x hx => by simp at hx; rcases hx with rfl | rfl | rfl <;> rfl) (by decide) (by unfold maxLen; omega) (by omega) (by omega) w1.heap.size rfl (fun g cap w5 h1 h2 h3 h4 => hK _ _ ?_ ?_)
  · intro i u hu; rw [h2.cell_far ⟨x14, 0 + i, none⟩ (by show x14 < _; omega) (fun e => h14n e.symm)]; exact hSA i u hu
  have hS5 : w5.rangeAt x14 0 (#[.int .i64 qa, .int .i64 qb, .slice qd qn qc] : Array Value).toList := by intro i u hu; rw [h2.cell_far ⟨x14, 0 + i, none⟩ (by show x14 < _; omega) (fun e => h14n e.symm)]; exact hSA i u hu
  have hth5 : w5.there x11 0 3 := by intro i hi; rw [h2.cell_far ⟨x11, 0 + i, none⟩ (by show x11 < _; omega) (fun e => h11n e.symm), h2.frozen_far ⟨x11, 0 + i, none⟩ (by show x11 < _; omega) (fun e => h11n e.symm)]; exact hthA i hi
  clear hK K
  refine anyH_take (i := 5) (d := 12) (v := (.slice (some ⟨g, 0, none⟩) (j + 1) cap)) atopsHx5 rfl (by kernel_rfl) (by kernel_rfl) (by kernel_rfl) rfl hQ hS5 (fun W hW => (run_assign rfl (Act.ev_eq (Act.sz (Act.sz (Act.sz (Act.sz hs)))) (by decide)) W)) ?_
  refine anyH_one (i := 6) (by kernel_rfl) atopsHx6 rfl (fun K hK => ?_)
  refine wp_store_at 46 _ _ rfl rfl x11 0 #[.int .i64 qa, .int .i64 qb, .slice qd qn qc] (Act.ev_ne (by decide) (Act.ev_ne (by decide) (Act.ev_ne (by decide) (Act.ev_ne (by decide) (Act.ev_ne (by decide) (Act.ev_ne (by decide) h11)))))) (Act.ev_ne (by decide) (Act.ev_ne (by decide) (Act.ev_ne (by decide) (Act.ev_eq (Act.sz (Act.sz hs)) (by decide))))) hth5 Tryd.sizePic (all_oneCell_toArray (cs := [.int .i64 qa, .int .i64 qb, .slice qd qn qc]) (fun x hx => by simp at hx; rcases hx with rfl | rfl | rfl <;> rfl)) (hK _ _ ?_ ?_)
  · exact World.rangeAt_setCells_apart hS5 _ _ _ (Or.inl hap)
  · exact wpAnyH_done (by kernel_rfl) (hend w1 w5 g cap n0 rfl (by first | rfl | exact hw1.symm) h1 h2 h3 h4) _
end Go.Proofs.YtjhflcgphejddaaDoor
