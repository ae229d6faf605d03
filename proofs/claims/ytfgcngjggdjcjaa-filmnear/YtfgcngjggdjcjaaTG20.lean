/-
  Lemmas for the law above, joined into one text (FlL, FlLE, FlLF). No statement is proved here.
-/
import Derived.Test.YtfgcngjggdjcjaaTG19
import Derived.Test.YtfgcngjggdjcjaaTG6
import Derived.Deep.MidRow
namespace Go.Proofs.Ytfgcngjggdjcjaa
open Go.RowKit
set_option linter.unusedVariables false
set_option maxRecDepth 100000

theorem sets_belowF {B g : Nat} {a : World} (hb : B ≤ g) : ∀ (vs : List Value) (o : Nat) (w : World), Below B a w → Below B a (w.setCells g o vs)
  | [], _, _, h => h
  | v :: vs, o, w, h => sets_belowF hb vs (o + 1) _ (h.setCell (show B ≤ g from hb) v)
theorem range_below {w w' : World} {b o : Nat} {cs : List Value} (h : w.rangeAt b o cs) (hb : Below w.heap.size w w') : w'.rangeAt b o cs := fun j v hj => cell_below hb (h j v hj)
theorem there_new (w : World) (cs : Array Value) (t : TypeId) : (w.alloc (.cells cs t)).there w.heap.size 0 cs.size := fun j hj => by
  have hh := (MapKept.heap_alloc w (.cells cs t)).1
  rw [Nat.zero_add]
  refine ⟨?_, by simp only [World.frozen?, hh]; simp⟩
  rw [cell_of_row _ _ j _ t (0, 0) hh]
  simp [hj]
theorem there_below {w w' : World} {b o n : Nat} (h : w.there b o n) (hb : Below w.heap.size w w') : w'.there b o n := fun j hj => by
  obtain ⟨h1, h2⟩ := h j hj
  obtain ⟨u, hu⟩ := Option.isSome_iff_exists.1 h1
  exact ⟨by rw [cell_below hb hu]; rfl, (hb.frozen (cell_lt hu)).trans h2⟩
theorem run_assign {P : Program} {r : Operand → Value} {o : Oper} {x : Operand} {v : Value} (h : o.op = .assign x) (hx : r x = v) (w : World) : (execOp r o).run P w = .ok (.value v) w := by
  rw [← hx]; unfold execOp; simp only [h]; rfl
theorem run_extract {P : Program} {r : Operand → Value} {o : Oper} {x : Operand} {n : Nat} {ux v : Value} {w : World} (h : o.op = .extract x n) (hx : r x = ux) (hr : (Instr.extract ux n).run P w = .ok v w) : (execOp r o).run P w = .ok (.value v) w := by
  unfold execOp; simp only [h, hx, Sem.run_bind, hr, Result.andThen_ok, Sem.run_pure]
theorem run_alloc {P : Program} {r : Operand → Value} {o : Oper} {t : TypeId} {v : Value} {w w' : World} (h : o.op = .alloc t) (hr : (Instr.alloc t true (.tuple #[])).run P w = .ok v w') : (execOp r o).run P w = .ok (.value v) w' := by
  unfold execOp; simp only [h, Sem.run_bind, hr, Result.andThen_ok, Sem.run_pure]
theorem map_three {f : Operand → Value} {x y z : Operand} {u v t : Value} (hx : f x = u) (hy : f y = v) (hz : f z = t) : #[x, y, z].map f = #[u, v, t] := by simp [hx, hy, hz]
theorem map_four {f : Operand → Value} {x y z q : Operand} {u v t s : Value} (hx : f x = u) (hy : f y = v) (hz : f z = t) (hq : f q = s) : #[x, y, z, q].map f = #[u, v, t, s] := by simp [hx, hy, hz, hq]
theorem ext_fst (x y : Value) (P : Program) (w : World) : (Instr.extract (.tuple #[x, y]) 0).run P w = .ok x w := by go_simp
theorem ext_snd (x y : Value) (P : Program) (w : World) : (Instr.extract (.tuple #[x, y]) 1).run P w = .ok y w := by go_simp

theorem Try.sizePic : (Try.prog.info? 25).map (·.size) = some 3 := by kernel_rfl
theorem Try.sizeCod : (Try.prog.info? 36).map (·.size) = some 4 := by kernel_rfl
theorem idx_pic (bb o len cap j : Nat) (w : World) (hj : j < len) (hl : len ≤ 6) : (Instr.indexAt 22 (.slice (some ⟨bb, o, none⟩) len cap) (.int .i64 j)).run Try.prog w = .ok (.pointer (some ⟨bb, o + j * 3, none⟩)) w := by
  have h1 : (j : Int) < (len : Int) := by omega
  go_simp
theorem idx_pic0 (bb o len cap : Nat) (w : World) (hj : 0 < len) (hl : len ≤ 6) : (Instr.indexAt 22 (.slice (some ⟨bb, o, none⟩) len cap) (.int .i64 0)).run Try.prog w = .ok (.pointer (some ⟨bb, o, none⟩)) w := by
  have h1 : (0 : Int) < (len : Int) := by omega
  go_simp
theorem idx_cod (bb o len cap j : Nat) (w : World) (hj : j < len) (hl : len ≤ 6) : (Instr.indexAt 30 (.slice (some ⟨bb, o, none⟩) len cap) (.int .i64 j)).run Try.prog w = .ok (.pointer (some ⟨bb, o + j * 4, none⟩)) w := by
  have h1 : (j : Int) < (len : Int) := by omega
  go_simp
theorem fld_pic0 (bb o : Nat) (w : World) : (Instr.fieldAt 25 (.pointer (some ⟨bb, o, none⟩)) 0).run Try.prog w = .ok (.pointer (some ⟨bb, o, none⟩)) w := by
  go_simp
theorem fld_pic1 (bb o : Nat) (w : World) : (Instr.fieldAt 25 (.pointer (some ⟨bb, o, none⟩)) 1).run Try.prog w = .ok (.pointer (some ⟨bb, o + 1, none⟩)) w := by
  go_simp
theorem load_intF (g b : Nat) (x : Int) (w : World) (h : w.cell? ⟨g, b, none⟩ = some (.int .i64 x)) : (Instr.loadAt 3 (.pointer (some ⟨g, b, none⟩))).run Try.prog w = .ok (.int .i64 x) w := by
  go_simp
theorem load_pic (g b : Nat) (cs : Array Value) (w : World) (hcs : cs.size = 3) (h : w.rangeAt g b cs.toList) : (Instr.loadAt 25 (.pointer (some ⟨g, b, none⟩))).run Try.prog w = .ok (.agg cs) w := by
  have h9 := run_loadAt_mid (P := Try.prog) w g b 25 cs.toList _ h Try.underlying25 rfl (by rw [Array.length_toList, hcs]; exact Try.sizePic)
  rw [Array.toArray_toList] at h9
  exact h9
theorem load_cod (g b : Nat) (cs : Array Value) (w : World) (hcs : cs.size = 4) (h : w.rangeAt g b cs.toList) : (Instr.loadAt 36 (.pointer (some ⟨g, b, none⟩))).run Try.prog w = .ok (.agg cs) w := by
  have h9 := run_loadAt_mid (P := Try.prog) w g b 36 cs.toList _ h Try.underlying36 rfl (by rw [Array.length_toList, hcs]; exact Try.sizeCod)
  rw [Array.toArray_toList] at h9
  exact h9
theorem alloc_pic (w : World) : (Instr.alloc 25 true (.tuple #[])).run Try.prog w = .ok (.pointer (some ⟨w.heap.size, 0, none⟩)) (w.alloc (.cells #[.int .i64 0, .int .i64 0, .slice none 0 0] 25)) := by
  go_simp
theorem alloc_cod (w : World) : (Instr.alloc 36 true (.tuple #[])).run Try.prog w = .ok (.pointer (some ⟨w.heap.size, 0, none⟩)) (w.alloc (.cells #[.bool false, .int .i64 0, .int .i64 0, .slice none 0 0] 36)) := by
  go_simp

theorem agg_pic {w : World} {b o : Nat} {x y : Int} {s : Value} (h0 : w.cell? ⟨b, o, none⟩ = some (.int .i64 x)) (h1 : w.cell? ⟨b, o + 1, none⟩ = some (.int .i64 y)) (h2 : w.cell? ⟨b, o + 2, none⟩ = some s) : w.rangeAt b o (#[.int .i64 x, .int .i64 y, s] : Array Value).toList := fun j v hj => by
  match j, hj with
  | 0, hj => cases hj; exact h0
  | 1, hj => cases hj; exact h1
  | 2, hj => cases hj; exact h2
theorem agg_cod {w : World} {b o : Nat} {al : Bool} {x y : Int} {s : Value} (h0 : w.cell? ⟨b, o, none⟩ = some (.bool al)) (h1 : w.cell? ⟨b, o + 1, none⟩ = some (.int .i64 x)) (h2 : w.cell? ⟨b, o + 2, none⟩ = some (.int .i64 y)) (h3 : w.cell? ⟨b, o + 3, none⟩ = some s) : w.rangeAt b o (#[.bool al, .int .i64 x, .int .i64 y, s] : Array Value).toList := fun j v hj => by
  match j, hj with
  | 0, hj => cases hj; exact h0
  | 1, hj => cases hj; exact h1
  | 2, hj => cases hj; exact h2
  | 3, hj => cases hj; exact h3
theorem pic_agg {w : World} {b : Nat} {x y : Int} {s : Value} (h : w.rangeAt b 0 (#[.int .i64 x, .int .i64 y, s] : Array Value).toList) (ht : w.there b 0 3) : PicIn w b x y s :=
  ⟨⟨by simpa using h 0 _ rfl, by simpa using (ht 0 (by decide)).2⟩, ⟨by simpa using h 1 _ rfl, by simpa using (ht 1 (by decide)).2⟩, by simpa using h 2 _ rfl, by simpa using (ht 2 (by decide)).2⟩
theorem ints_sets {w : World} {x : Nat} {v : Value} {n : Nat} {f : Nat → Int} (hv : ∀ k, v.ownBlock = some k → k ≠ x) : ∀ (cs : List Value) (o : Nat) (w : World), IntsIn w v n f → IntsIn (w.setCells x o cs) v n f
  | [], _, _, h => h
  | c :: cs, o, w, h => by
    refine ints_sets (w := w) hv cs (o + 1) _ ?_
    rcases h with h | ⟨h0, g, og, c', rfl, hc⟩
    · exact Or.inl h
    · refine Or.inr ⟨h0, g, og, c', rfl, fun i hi => ?_⟩
      rw [World.cell?_setCell_other _ _ _ _ (fun e => hv g rfl (congrArg Addr.block e).symm)]
      exact hc i hi
end Go.Proofs.Ytfgcngjggdjcjaa

namespace Go.Proofs.Ytfgcngjggdjcjaa
open Go.RowKit
set_option linter.unusedVariables false
set_option maxRecDepth 100000

def opsEx0 : Oper := { dst := some 28, op := Op.move (Operand.tmp 0), type := 22, pos := "film.go:19", after := #[], guard := none }
def opsEx1 : Oper := { dst := some 29, op := Op.indexAddr 22 (Operand.tmp 28) (Operand.const (Value.int IntKind.i64 0)), type := 0, pos := "film.go:19", after := #[{ on := 0, ground := Ground.data }], guard := none }
def opsEx2 : Oper := { dst := some 30, op := Op.fieldAddr 25 (Operand.tmp 29) 0, type := 0, pos := "film.go:19", after := #[{ on := 1, ground := Ground.data }], guard := none }
def opsEx3 : Oper := { dst := some 31, op := Op.load 3 (Operand.tmp 30), type := 3, pos := "film.go:19", after := #[{ on := 2, ground := Ground.data }], guard := none }
def opsEx4 : Oper := { dst := some 32, op := Op.move (Operand.tmp 0), type := 22, pos := "film.go:19", after := #[], guard := none }
def opsEx5 : Oper := { dst := some 33, op := Op.indexAddr 22 (Operand.tmp 32) (Operand.const (Value.int IntKind.i64 0)), type := 0, pos := "film.go:19", after := #[{ on := 4, ground := Ground.data }], guard := none }
def opsEx6 : Oper := { dst := some 34, op := Op.fieldAddr 25 (Operand.tmp 33) 1, type := 0, pos := "film.go:19", after := #[{ on := 5, ground := Ground.data }], guard := none }
def opsEx7 : Oper := { dst := some 35, op := Op.load 3 (Operand.tmp 34), type := 3, pos := "film.go:19", after := #[{ on := 6, ground := Ground.data }], guard := none }
def opsEx8 : Oper := { dst := some 36, op := Op.call { callee := Callee.value (Operand.func 14), args := #[Operand.tmp 31, Operand.tmp 35], argTypes := #[3, 3] }, type := 25, pos := "film.go:19", after := #[{ on := 3, ground := Ground.data }, { on := 7, ground := Ground.data }], guard := none }
def opsEx9 : Oper := { dst := some 9, op := Op.alloc 25, type := 0, pos := "film.go:19", after := #[], guard := none }
def opsEx10 : Oper := { dst := none, op := Op.store 25 (Operand.tmp 9) (Operand.tmp 36), type := 0, pos := "film.go:19", after := #[{ on := 9, ground := Ground.data }, { on := 8, ground := Ground.data }, { on := 8, ground := Ground.chain }, { on := 0, ground := Ground.phase }, { on := 1, ground := Ground.phase }, { on := 2, ground := Ground.phase }, { on := 3, ground := Ground.phase }, { on := 4, ground := Ground.phase }, { on := 5, ground := Ground.phase }, { on := 6, ground := Ground.phase }, { on := 7, ground := Ground.phase }, { on := 8, ground := Ground.phase }, { on := 9, ground := Ground.phase }], guard := none }
def opsE : Array Oper := #[opsEx0, opsEx1, opsEx2, opsEx3, opsEx4, opsEx5, opsEx6, opsEx7, opsEx8, opsEx9, opsEx10]
theorem atopsEx0 : opsE[0]? = some opsEx0 := rfl
theorem atopsEx1 : opsE[1]? = some opsEx1 := rfl
theorem atopsEx2 : opsE[2]? = some opsEx2 := rfl
theorem atopsEx3 : opsE[3]? = some opsEx3 := rfl
theorem atopsEx4 : opsE[4]? = some opsEx4 := rfl
theorem atopsEx5 : opsE[5]? = some opsEx5 := rfl
theorem atopsEx6 : opsE[6]? = some opsEx6 := rfl
theorem atopsEx7 : opsE[7]? = some opsEx7 := rfl
theorem atopsEx8 : opsE[8]? = some opsEx8 := rfl
theorem atopsEx9 : opsE[9]? = some opsEx9 := rfl
theorem atopsEx10 : opsE[10]? = some opsEx10 := rfl

set_option maxHeartbeats 1000000 in
theorem regionE {Q : Exit → Act → World → Prop} {a : Act} {w : World} (bb o N cap : Nat) (pa pb : Int) (cc : Option Addr → Nat → Array Value) (R : World → World → Option Addr → Nat → Prop) (hs : a.tmps.size = 78)
    (h0 : a.eval (.tmp 0) = (.slice (some ⟨bb, o, none⟩) N cap)) (hj : 0 < N) (hN : N ≤ 6) (hc0 : w.cell? ⟨bb, o, none⟩ = some (.int .i64 pa)) (hc1 : w.cell? ⟨bb, o + 1, none⟩ = some (.int .i64 pb))
    (hcs : ∀ ad cp, (cc ad cp).size = 3) (hone : ∀ ad cp, (cc ad cp).all (·.oneCell') = true)
    (hR1 : ∀ W W1 W2 ad cp, R W W1 ad cp → Below W1.heap.size W1 W2 → R W W2 ad cp)
    (hR2 : ∀ W W1 ad cp (x : Nat) cells {W2 : World}, R W W1 ad cp → Below W1.heap.size W1 W2 → W.heap.size ≤ W1.heap.size → R W (W2.setCells W1.heap.size 0 cells) ad cp)
    (hR3 : ∀ W W1 ad cp (x : Nat) cells, R W W1 ad cp → x < W.heap.size → R W (W1.setCells x 0 cells) ad cp)
    (KC : ∀ W, Below w.heap.size w W → Calls Try.prog 14 #[.int .i64 pa, .int .i64 pb] W fun e w' => ∃ ad cp, e = .returned (.agg (cc ad cp)) ∧ R W w' ad cp ∧ Below W.heap.size W w')
    (hQ : ∀ c a (d : Tmp) v w, Q (.panic c) (Act.put a (some d) v) w → Q (.panic c) a w)
    (hend : ∀ W W0 ad cp x, Below w.heap.size w W → Below w.heap.size w W0 → w.heap.size ≤ x → W.rangeAt x 0 (cc ad cp).toList → W.there x 0 3 → R W0 W ad cp → Q .normal ((((((((((a.put (some 28) (.slice (some ⟨bb, o, none⟩) N cap)).put (some 29) (.pointer (some ⟨bb, o, none⟩))).put (some 30) (.pointer (some ⟨bb, o, none⟩))).put (some 32) (.slice (some ⟨bb, o, none⟩) N cap)).put (some 33) (.pointer (some ⟨bb, o, none⟩))).put (some 34) (.pointer (some ⟨bb, o + 1, none⟩))).put (some 31) (.int .i64 pa)).put (some 35) (.int .i64 pb)).put (some 36) (.agg (cc ad cp))).put (some 9) (.pointer (some ⟨x, 0, none⟩))) W) :
    (Code.region 6 opsE true).wp Try.prog Q a w := by
  refine wp_region_held (S := fun W => Below w.heap.size w W) (by kernel_rfl) ?_
  show wpAnyH _ _ _ _ _ 11 (Array.replicate 11 false) a w.drew
  have hb0 : Below w.heap.size w w.drew := (Below.refl _ _).drew
  generalize w.drew = w0 at *
  refine anyH_take (i := 0) (d := 28) (v := (.slice (some ⟨bb, o, none⟩) N cap)) atopsEx0 rfl (by kernel_rfl) (by kernel_rfl) (by kernel_rfl) rfl hQ hb0 (fun W hW => (run_move rfl h0 W)) ?_
  refine anyH_take (i := 1) (d := 29) (v := (.pointer (some ⟨bb, o, none⟩))) atopsEx1 rfl (by kernel_rfl) (by kernel_rfl) (by kernel_rfl) rfl hQ hb0 (fun W hW => (run_index rfl (Act.ev_eq hs (by decide)) rfl (idx_pic0 bb o N cap W hj hN))) ?_
  refine anyH_take (i := 2) (d := 30) (v := (.pointer (some ⟨bb, o, none⟩))) atopsEx2 rfl (by kernel_rfl) (by kernel_rfl) (by kernel_rfl) rfl hQ hb0 (fun W hW => (run_field rfl (Act.ev_eq (Act.sz hs) (by decide)) (fld_pic0 bb o W))) ?_
  refine anyH_take (i := 4) (d := 32) (v := (.slice (some ⟨bb, o, none⟩) N cap)) atopsEx4 rfl (by kernel_rfl) (by kernel_rfl) (by kernel_rfl) rfl hQ hb0 (fun W hW => (run_move rfl (Act.ev_ne (by decide) (Act.ev_ne (by decide) (Act.ev_ne (by decide) h0))) W)) ?_
  refine anyH_take (i := 5) (d := 33) (v := (.pointer (some ⟨bb, o, none⟩))) atopsEx5 rfl (by kernel_rfl) (by kernel_rfl) (by kernel_rfl) rfl hQ hb0 (fun W hW => (run_index rfl (Act.ev_eq (Act.sz (Act.sz (Act.sz hs))) (by decide)) rfl (idx_pic0 bb o N cap W hj hN))) ?_
  refine anyH_take (i := 6) (d := 34) (v := (.pointer (some ⟨bb, o + 1, none⟩))) atopsEx6 rfl (by kernel_rfl) (by kernel_rfl) (by kernel_rfl) rfl hQ hb0 (fun W hW => (run_field rfl (Act.ev_eq (Act.sz (Act.sz (Act.sz (Act.sz hs)))) (by decide)) (fld_pic1 bb o W))) ?_
  refine anyH_take (i := 3) (d := 31) (v := (.int .i64 pa)) atopsEx3 rfl (by kernel_rfl) (by kernel_rfl) (by kernel_rfl) rfl hQ hb0 (fun W hW => (run_load rfl (Act.ev_ne (by decide) (Act.ev_ne (by decide) (Act.ev_ne (by decide) (Act.ev_eq (Act.sz (Act.sz hs)) (by decide))))) (load_intF bb o pa W (cell_below hW hc0)))) ?_
  refine anyH_take (i := 7) (d := 35) (v := (.int .i64 pb)) atopsEx7 rfl (by kernel_rfl) (by kernel_rfl) (by kernel_rfl) rfl hQ hb0 (fun W hW => (run_load rfl (Act.ev_ne (by decide) (Act.ev_eq (Act.sz (Act.sz (Act.sz (Act.sz (Act.sz hs))))) (by decide))) (load_intF bb (o + 1) pb W (cell_below hW hc1)))) ?_
  refine anyH_two (i := 8) (j := 9) (by kernel_rfl) atopsEx8 rfl atopsEx9 rfl (fun K hK => ?_) (fun K hK => ?_)
  · refine wp_call_at (R := fun v w' => ∃ ad cp, v = (.agg (cc ad cp)) ∧ R w0 w' ad cp ∧ Below w0.heap.size w0 w') #[.int .i64 pa, .int .i64 pb] (d := 36) rfl rfl (map_two (Act.ev_ne (by decide) (Act.ev_eq (Act.sz (Act.sz (Act.sz (Act.sz (Act.sz (Act.sz hs)))))) (by decide))) (Act.ev_eq (Act.sz (Act.sz (Act.sz (Act.sz (Act.sz (Act.sz (Act.sz hs))))))) (by decide))) (by go_simp) ((KC w0 hb0).mono fun e w' h => by obtain ⟨ad, cp, he, hr, hb⟩ := h; exact ⟨_, he, ad, cp, rfl, hr, hb⟩) (fun v w1 hv => ?_)
    obtain ⟨ad, cp, rfl, hr, hb⟩ := hv
    have hbw1 := below_two hb0 hb
    refine hK _ _ hbw1 ?_
    clear hK
    refine anyH_one (i := 9) (by kernel_rfl) atopsEx9 rfl (fun K hK => ?_)
    have hba := (Below.refl w1.heap.size w1).alloc (Nat.le_refl _) (.cells #[.int .i64 0, .int .i64 0, .slice none 0 0] 25)
    have hbw2 := below_two hbw1 hba
    refine wp_value_to (d := 9) rfl (run_alloc rfl (alloc_pic w1)) (hK _ _ hbw2 ?_)
    clear hK K
    have ht := there_new w1 #[.int .i64 0, .int .i64 0, .slice none 0 0] 25
    have hr2 := hR1 _ _ _ _ _ hr hba
    have hx := hbw1.size
    have hle := hb.size
    have hr3 := fun cells => hR2 w0 _ ad cp w1.heap.size cells hr hba hle
    generalize w1.alloc (.cells #[.int .i64 0, .int .i64 0, .slice none 0 0] 25) = w2 at *
    refine anyH_one (i := 10) (by kernel_rfl) atopsEx10 rfl (fun K hK => ?_)
    refine wp_store_at 25 _ _ rfl rfl w1.heap.size 0 (cc ad cp) (Act.ev_eq (Act.sz (Act.sz (Act.sz (Act.sz (Act.sz (Act.sz (Act.sz (Act.sz (Act.sz hs))))))))) (by decide)) (Act.ev_ne (by decide) (Act.ev_eq (Act.sz (Act.sz (Act.sz (Act.sz (Act.sz (Act.sz (Act.sz (Act.sz hs)))))))) (by decide))) (by rw [hcs]; exact ht) (by rw [hcs]; exact Try.sizePic) (hone _ _) (hK _ _ (sets_belowF hx _ _ _ hbw2) ?_)
    clear hK K
    have hth : w2.there w1.heap.size 0 (cc ad cp).size := by rw [hcs]; exact ht
    have hrg := World.rangeAt_setCells_same w2 w1.heap.size 0 (cc ad cp).toList (by rw [Array.length_toList]; exact hth)
    have htt := World.there_setCells (ht) w1.heap.size 0 (cc ad cp).toList
    exact wpAnyH_done (by kernel_rfl) (hend _ _ ad cp w1.heap.size (sets_belowF hx _ _ _ hbw2) hb0 hx hrg htt (hr3 _)) _
  · have hba := (Below.refl w0.heap.size w0).alloc (Nat.le_refl _) (.cells #[.int .i64 0, .int .i64 0, .slice none 0 0] 25)
    have hbw1 := below_two hb0 hba
    refine wp_value_to (d := 9) rfl (run_alloc rfl (alloc_pic w0)) (hK _ _ hbw1 ?_)
    clear hK
    have ht := there_new w0 #[.int .i64 0, .int .i64 0, .slice none 0 0] 25
    have hx := hb0.size
    have hlt : w0.heap.size < (w0.alloc (.cells #[.int .i64 0, .int .i64 0, .slice none 0 0] 25)).heap.size := by simp
    generalize w0.heap.size = x at *
    generalize w0.alloc (.cells #[.int .i64 0, .int .i64 0, .slice none 0 0] 25) = w1 at *
    refine anyH_one (i := 8) (by kernel_rfl) atopsEx8 rfl (fun K1 hK1 => ?_)
    refine wp_call_at (R := fun v w' => ∃ ad cp, v = (.agg (cc ad cp)) ∧ R w1 w' ad cp ∧ Below w1.heap.size w1 w') #[.int .i64 pa, .int .i64 pb] (d := 36) rfl rfl (map_two (Act.ev_ne (by decide) (Act.ev_ne (by decide) (Act.ev_eq (Act.sz (Act.sz (Act.sz (Act.sz (Act.sz (Act.sz hs)))))) (by decide)))) (Act.ev_ne (by decide) (Act.ev_eq (Act.sz (Act.sz (Act.sz (Act.sz (Act.sz (Act.sz (Act.sz hs))))))) (by decide)))) (by go_simp) ((KC w1 hbw1).mono fun e w' h => by obtain ⟨ad, cp, he, hr, hb⟩ := h; exact ⟨_, he, ad, cp, rfl, hr, hb⟩) (fun v w2 hv => ?_)
    obtain ⟨ad, cp, rfl, hr, hb⟩ := hv
    have hbw2 := below_two hbw1 hb
    refine hK1 _ _ hbw2 ?_
    clear hK1
    rw [Act.put_swap _ (.pointer (some ⟨x, 0, none⟩)) (.agg (cc ad cp)) (show (9 : Nat) ≠ 36 by decide)]
    have ht2 := there_below ht hb
    have hr3 := fun cells => hR3 w1 w2 ad cp x cells hr hlt
    refine anyH_one (i := 10) (by kernel_rfl) atopsEx10 rfl (fun K hK => ?_)
    refine wp_store_at 25 _ _ rfl rfl x 0 (cc ad cp) (Act.ev_eq (Act.sz (Act.sz (Act.sz (Act.sz (Act.sz (Act.sz (Act.sz (Act.sz (Act.sz hs))))))))) (by decide)) (Act.ev_ne (by decide) (Act.ev_eq (Act.sz (Act.sz (Act.sz (Act.sz (Act.sz (Act.sz (Act.sz (Act.sz hs)))))))) (by decide))) (by rw [hcs]; exact ht2) (by rw [hcs]; exact Try.sizePic) (hone _ _) (hK _ _ (sets_belowF hx _ _ _ hbw2) ?_)
    clear hK K
    have hth : w2.there x 0 (cc ad cp).size := by rw [hcs]; exact ht2
    have hrg := World.rangeAt_setCells_same w2 x 0 (cc ad cp).toList (by rw [Array.length_toList]; exact hth)
    have htt := World.there_setCells (ht2) x 0 (cc ad cp).toList
    exact wpAnyH_done (by kernel_rfl) (hend _ _ ad cp x (sets_belowF hx _ _ _ hbw2) hbw1 hx hrg htt (hr3 _)) _
end Go.Proofs.Ytfgcngjggdjcjaa

namespace Go.Proofs.Ytfgcngjggdjcjaa
open Go.RowKit
set_option linter.unusedVariables false
set_option maxRecDepth 100000

def opsFx0 : Oper := { dst := some 46, op := Op.load 25 (Operand.tmp 9), type := 25, pos := "film.go:22", after := #[], guard := none }
def opsFx1 : Oper := { dst := some 47, op := Op.move (Operand.tmp 0), type := 22, pos := "film.go:22", after := #[], guard := none }
def opsFx2 : Oper := { dst := some 48, op := Op.move (Operand.tmp 11), type := 3, pos := "film.go:22", after := #[], guard := none }
def opsFx3 : Oper := { dst := some 49, op := Op.indexAddr 22 (Operand.tmp 47) (Operand.tmp 48), type := 0, pos := "film.go:22", after := #[{ on := 1, ground := Ground.data }, { on := 2, ground := Ground.data }], guard := none }
def opsFx4 : Oper := { dst := some 50, op := Op.load 25 (Operand.tmp 49), type := 25, pos := "film.go:22", after := #[{ on := 3, ground := Ground.data }], guard := none }
def opsFx5 : Oper := { dst := some 51, op := Op.move (Operand.tmp 11), type := 3, pos := "film.go:22", after := #[], guard := none }
def opsFx6 : Oper := { dst := some 52, op := Op.move (Operand.tmp 1), type := 3, pos := "film.go:22", after := #[], guard := none }
def opsFx7 : Oper := { dst := some 53, op := Op.binOp BinOp.rem 3 (Operand.tmp 51) (Operand.tmp 52) 3, type := 3, pos := "film.go:22", after := #[{ on := 5, ground := Ground.data }, { on := 6, ground := Ground.data }], guard := none }
def opsFx8 : Oper := { dst := some 54, op := Op.binOp BinOp.eql 3 (Operand.tmp 53) (Operand.const (Value.int IntKind.i64 0)) 3, type := 4, pos := "film.go:22", after := #[{ on := 7, ground := Ground.data }], guard := none }
def opsFx9 : Oper := { dst := some 55, op := Op.move (Operand.tmp 2), type := 3, pos := "film.go:22", after := #[], guard := none }
def opsFx10 : Oper := { dst := some 56, op := Op.call { callee := Callee.value (Operand.func 15), args := #[Operand.tmp 46, Operand.tmp 50, Operand.tmp 54, Operand.tmp 55], argTypes := #[25, 25, 4, 3] }, type := 49, pos := "film.go:22", after := #[{ on := 0, ground := Ground.data }, { on := 4, ground := Ground.data }, { on := 8, ground := Ground.data }, { on := 9, ground := Ground.data }], guard := none }
def opsFx11 : Oper := { dst := some 45, op := Op.move (Operand.tmp 56), type := 49, pos := "film.go:22", after := #[{ on := 10, ground := Ground.data }], guard := none }
def opsFx12 : Oper := { dst := some 57, op := Op.extract (Operand.tmp 45) 0, type := 36, pos := "film.go:22", after := #[{ on := 11, ground := Ground.data }], guard := none }
def opsFx13 : Oper := { dst := some 58, op := Op.extract (Operand.tmp 45) 1, type := 27, pos := "film.go:22", after := #[{ on := 11, ground := Ground.data }, { on := 15, ground := Ground.gcOnly Departure.lateStores }], guard := none }
def opsFx14 : Oper := { dst := some 12, op := Op.alloc 36, type := 0, pos := "film.go:22", after := #[], guard := none }
def opsFx15 : Oper := { dst := none, op := Op.store 36 (Operand.tmp 12) (Operand.tmp 57), type := 0, pos := "film.go:22", after := #[{ on := 14, ground := Ground.data }, { on := 12, ground := Ground.data }, { on := 10, ground := Ground.chain }, { on := 0, ground := Ground.phase }, { on := 1, ground := Ground.phase }, { on := 2, ground := Ground.phase }, { on := 3, ground := Ground.phase }, { on := 4, ground := Ground.phase }, { on := 5, ground := Ground.phase }, { on := 6, ground := Ground.phase }, { on := 7, ground := Ground.phase }, { on := 8, ground := Ground.phase }, { on := 9, ground := Ground.phase }, { on := 10, ground := Ground.phase }, { on := 11, ground := Ground.phase }, { on := 12, ground := Ground.phase }, { on := 13, ground := Ground.textOnly Departure.lateStores }, { on := 14, ground := Ground.phase }], guard := none }
def opsFx16 : Oper := { dst := some 13, op := Op.assign (Operand.tmp 58), type := 27, pos := "film.go:22", after := #[{ on := 13, ground := Ground.data }, { on := 15, ground := Ground.chain }, { on := 0, ground := Ground.phase }, { on := 1, ground := Ground.phase }, { on := 2, ground := Ground.phase }, { on := 3, ground := Ground.phase }, { on := 4, ground := Ground.phase }, { on := 5, ground := Ground.phase }, { on := 6, ground := Ground.phase }, { on := 7, ground := Ground.phase }, { on := 8, ground := Ground.phase }, { on := 9, ground := Ground.phase }, { on := 10, ground := Ground.phase }, { on := 11, ground := Ground.phase }, { on := 12, ground := Ground.phase }, { on := 13, ground := Ground.phase }, { on := 14, ground := Ground.phase }, { on := 15, ground := Ground.phase }], guard := none }
def opsF : Array Oper := #[opsFx0, opsFx1, opsFx2, opsFx3, opsFx4, opsFx5, opsFx6, opsFx7, opsFx8, opsFx9, opsFx10, opsFx11, opsFx12, opsFx13, opsFx14, opsFx15, opsFx16]
theorem atopsFx0 : opsF[0]? = some opsFx0 := rfl
theorem atopsFx1 : opsF[1]? = some opsFx1 := rfl
theorem atopsFx2 : opsF[2]? = some opsFx2 := rfl
theorem atopsFx3 : opsF[3]? = some opsFx3 := rfl
theorem atopsFx4 : opsF[4]? = some opsFx4 := rfl
theorem atopsFx5 : opsF[5]? = some opsFx5 := rfl
theorem atopsFx6 : opsF[6]? = some opsFx6 := rfl
theorem atopsFx7 : opsF[7]? = some opsFx7 := rfl
theorem atopsFx8 : opsF[8]? = some opsFx8 := rfl
theorem atopsFx9 : opsF[9]? = some opsFx9 := rfl
theorem atopsFx10 : opsF[10]? = some opsFx10 := rfl
theorem atopsFx11 : opsF[11]? = some opsFx11 := rfl
theorem atopsFx12 : opsF[12]? = some opsFx12 := rfl
theorem atopsFx13 : opsF[13]? = some opsFx13 := rfl
theorem atopsFx14 : opsF[14]? = some opsFx14 := rfl
theorem atopsFx15 : opsF[15]? = some opsFx15 := rfl
theorem atopsFx16 : opsF[16]? = some opsFx16 := rfl
theorem rem_opsF {r : Operand → Value} {j E q : Nat} (h51 : r (.tmp 51) = .int .i64 j) (h52 : r (.tmp 52) = .int .i64 E) (hE : 1 ≤ E) (hE6 : E ≤ 6) (hj : j < 6) (hq : (j : Int).tmod (E : Int) = (q : Nat)) (w : World) : (execOp r opsFx7).run Try.prog w = .ok (.value (.int .i64 q)) w := by
  have h1 : ¬ (E : Int) = 0 := by omega
  have h2 : ((E : Int) == 0) = false := by rw [beq_eq_false_iff_ne]; omega
  have h3 : q < 6 := by have h := Int.emod_lt_of_pos (j : Int) (show (0 : Int) < (E : Int) by omega); rw [Int.tmod_eq_emod_of_nonneg (by omega)] at hq; omega
  unfold execOp opsFx7
  simp only [h51, h52]
  go_simp
  omega
theorem eql_opsF {r : Operand → Value} {q : Nat} {lone : Bool} (h53 : r (.tmp 53) = .int .i64 q) (hc : r (.const (.int .i64 0)) = .int .i64 0) (hl : ((q : Int) == 0) = lone) (w : World) : (execOp r opsFx8).run Try.prog w = .ok (.value (.bool lone)) w := by
  rw [← hl]
  unfold execOp opsFx8
  simp only [h53, hc]
  go_simp

set_option maxHeartbeats 1000000 in
theorem regionF {Q : Exit → Act → World → Prop} {a : Act} {w : World} (bb o N cap j E x9 q : Nat) (lone : Bool) (st : Int) (ca cp0 : Array Value) (er : Value) (cc : Option Addr → Nat → Array Value) (R : World → World → Option Addr → Nat → Prop) (hs : a.tmps.size = 78)
    (h0 : a.eval (.tmp 0) = (.slice (some ⟨bb, o, none⟩) N cap)) (h1 : a.eval (.tmp 1) = .int .i64 E) (h2 : a.eval (.tmp 2) = .int .i64 st) (h9 : a.eval (.tmp 9) = .pointer (some ⟨x9, 0, none⟩)) (h11 : a.eval (.tmp 11) = .int .i64 j) (hj : j < N) (hN : N ≤ 6) (hE : 1 ≤ E) (hE6 : E ≤ 6) (hq : (j : Int).tmod (E : Int) = (q : Nat)) (hl : ((q : Int) == 0) = lone) (hca : ca.size = 3) (hcp : cp0.size = 3) (hra : w.rangeAt x9 0 ca.toList) (hrp : w.rangeAt bb (o + j * 3) cp0.toList)
    (hcs : ∀ ad cp, (cc ad cp).size = 4) (hone : ∀ ad cp, (cc ad cp).all (·.oneCell') = true)
    (hR1 : ∀ W W1 W2 ad cp, R W W1 ad cp → Below W1.heap.size W1 W2 → R W W2 ad cp)
    (hR2 : ∀ W W1 ad cp (x : Nat) cells {W2 : World}, R W W1 ad cp → Below W1.heap.size W1 W2 → W.heap.size ≤ W1.heap.size → R W (W2.setCells W1.heap.size 0 cells) ad cp)
    (hR3 : ∀ W W1 ad cp (x : Nat) cells, R W W1 ad cp → x < W.heap.size → R W (W1.setCells x 0 cells) ad cp)
    (KC : ∀ W, Below w.heap.size w W → Calls Try.prog 15 #[.agg ca, .agg cp0, .bool lone, .int .i64 st] W fun e w' => ∃ ad cp, e = .returned (.tuple #[.agg (cc ad cp), er]) ∧ R W w' ad cp ∧ Below W.heap.size W w')
    (hQ : ∀ c a (d : Tmp) v w, Q (.panic c) (Act.put a (some d) v) w → Q (.panic c) a w)
    (hend : ∀ W W0 ad cp x, Below w.heap.size w W → Below w.heap.size w W0 → w.heap.size ≤ x → W.rangeAt x 0 (cc ad cp).toList → W.there x 0 4 → R W0 W ad cp → Q .normal ((((((((((((((((a.put (some 46) (.agg ca)).put (some 47) (.slice (some ⟨bb, o, none⟩) N cap)).put (some 48) (.int .i64 j)).put (some 49) (.pointer (some ⟨bb, o + j * 3, none⟩))).put (some 50) (.agg cp0)).put (some 51) (.int .i64 j)).put (some 52) (.int .i64 E)).put (some 53) (.int .i64 q)).put (some 54) (.bool lone)).put (some 55) (.int .i64 st)).put (some 56) (.tuple #[.agg (cc ad cp), er])).put (some 45) (.tuple #[.agg (cc ad cp), er])).put (some 57) (.agg (cc ad cp))).put (some 58) er).put (some 12) (.pointer (some ⟨x, 0, none⟩))).put (some 13) er) W) :
    (Code.region 11 opsF true).wp Try.prog Q a w := by
  refine wp_region_held (S := fun W => Below w.heap.size w W) (by kernel_rfl) ?_
  show wpAnyH _ _ _ _ _ 17 (Array.replicate 17 false) a w.drew
  have hb0 : Below w.heap.size w w.drew := (Below.refl _ _).drew
  generalize w.drew = w0 at *
  refine anyH_take (i := 0) (d := 46) (v := (.agg ca)) atopsFx0 rfl (by kernel_rfl) (by kernel_rfl) (by kernel_rfl) rfl hQ hb0 (fun W hW => (run_load rfl h9 (load_pic x9 0 ca W hca (range_below hra hW)))) ?_
  refine anyH_take (i := 1) (d := 47) (v := (.slice (some ⟨bb, o, none⟩) N cap)) atopsFx1 rfl (by kernel_rfl) (by kernel_rfl) (by kernel_rfl) rfl hQ hb0 (fun W hW => (run_move rfl (Act.ev_ne (by decide) h0) W)) ?_
  refine anyH_take (i := 2) (d := 48) (v := (.int .i64 j)) atopsFx2 rfl (by kernel_rfl) (by kernel_rfl) (by kernel_rfl) rfl hQ hb0 (fun W hW => (run_move rfl (Act.ev_ne (by decide) (Act.ev_ne (by decide) h11)) W)) ?_
  refine anyH_take (i := 3) (d := 49) (v := (.pointer (some ⟨bb, o + j * 3, none⟩))) atopsFx3 rfl (by kernel_rfl) (by kernel_rfl) (by kernel_rfl) rfl hQ hb0 (fun W hW => (run_index rfl (Act.ev_ne (by decide) (Act.ev_eq (Act.sz hs) (by decide))) (Act.ev_eq (Act.sz (Act.sz hs)) (by decide)) (idx_pic bb o N cap j W hj hN))) ?_
  refine anyH_take (i := 4) (d := 50) (v := (.agg cp0)) atopsFx4 rfl (by kernel_rfl) (by kernel_rfl) (by kernel_rfl) rfl hQ hb0 (fun W hW => (run_load rfl (Act.ev_eq (Act.sz (Act.sz (Act.sz hs))) (by decide)) (load_pic bb (o + j * 3) cp0 W hcp (range_below hrp hW)))) ?_
  refine anyH_take (i := 5) (d := 51) (v := (.int .i64 j)) atopsFx5 rfl (by kernel_rfl) (by kernel_rfl) (by kernel_rfl) rfl hQ hb0 (fun W hW => (run_move rfl (Act.ev_ne (by decide) (Act.ev_ne (by decide) (Act.ev_ne (by decide) (Act.ev_ne (by decide) (Act.ev_ne (by decide) h11))))) W)) ?_
  refine anyH_take (i := 6) (d := 52) (v := (.int .i64 E)) atopsFx6 rfl (by kernel_rfl) (by kernel_rfl) (by kernel_rfl) rfl hQ hb0 (fun W hW => (run_move rfl (Act.ev_ne (by decide) (Act.ev_ne (by decide) (Act.ev_ne (by decide) (Act.ev_ne (by decide) (Act.ev_ne (by decide) (Act.ev_ne (by decide) h1)))))) W)) ?_
  refine anyH_take (i := 7) (d := 53) (v := (.int .i64 q)) atopsFx7 rfl (by kernel_rfl) (by kernel_rfl) (by kernel_rfl) rfl hQ hb0 (fun W hW => (rem_opsF (Act.ev_ne (by decide) (Act.ev_eq (Act.sz (Act.sz (Act.sz (Act.sz (Act.sz hs))))) (by decide))) (Act.ev_eq (Act.sz (Act.sz (Act.sz (Act.sz (Act.sz (Act.sz hs)))))) (by decide)) hE hE6 (by omega) hq W)) ?_
  refine anyH_take (i := 8) (d := 54) (v := (.bool lone)) atopsFx8 rfl (by kernel_rfl) (by kernel_rfl) (by kernel_rfl) rfl hQ hb0 (fun W hW => (eql_opsF (Act.ev_eq (Act.sz (Act.sz (Act.sz (Act.sz (Act.sz (Act.sz (Act.sz hs))))))) (by decide)) rfl hl W)) ?_
  refine anyH_take (i := 9) (d := 55) (v := (.int .i64 st)) atopsFx9 rfl (by kernel_rfl) (by kernel_rfl) (by kernel_rfl) rfl hQ hb0 (fun W hW => (run_move rfl (Act.ev_ne (by decide) (Act.ev_ne (by decide) (Act.ev_ne (by decide) (Act.ev_ne (by decide) (Act.ev_ne (by decide) (Act.ev_ne (by decide) (Act.ev_ne (by decide) (Act.ev_ne (by decide) (Act.ev_ne (by decide) h2))))))))) W)) ?_
  refine anyH_two (i := 10) (j := 14) (by kernel_rfl) atopsFx10 rfl atopsFx14 rfl (fun K hK => ?_) (fun K hK => ?_)
  · refine wp_call_at (R := fun v w' => ∃ ad cp, v = (.tuple #[.agg (cc ad cp), er]) ∧ R w0 w' ad cp ∧ Below w0.heap.size w0 w') #[.agg ca, .agg cp0, .bool lone, .int .i64 st] (d := 56) rfl rfl (map_four (Act.ev_ne (by decide) (Act.ev_ne (by decide) (Act.ev_ne (by decide) (Act.ev_ne (by decide) (Act.ev_ne (by decide) (Act.ev_ne (by decide) (Act.ev_ne (by decide) (Act.ev_ne (by decide) (Act.ev_ne (by decide) (Act.ev_eq hs (by decide))))))))))) (Act.ev_ne (by decide) (Act.ev_ne (by decide) (Act.ev_ne (by decide) (Act.ev_ne (by decide) (Act.ev_ne (by decide) (Act.ev_eq (Act.sz (Act.sz (Act.sz (Act.sz hs)))) (by decide))))))) (Act.ev_ne (by decide) (Act.ev_eq (Act.sz (Act.sz (Act.sz (Act.sz (Act.sz (Act.sz (Act.sz (Act.sz hs)))))))) (by decide))) (Act.ev_eq (Act.sz (Act.sz (Act.sz (Act.sz (Act.sz (Act.sz (Act.sz (Act.sz (Act.sz hs))))))))) (by decide))) (by go_simp) ((KC w0 hb0).mono fun e w' h => by obtain ⟨ad, cp, he, hr, hb⟩ := h; exact ⟨_, he, ad, cp, rfl, hr, hb⟩) (fun v w1 hv => ?_)
    obtain ⟨ad, cp, rfl, hr, hb⟩ := hv
    have hbw1 := below_two hb0 hb
    refine hK _ _ hbw1 ?_
    clear hK
    refine anyH_take (i := 11) (d := 45) (v := (.tuple #[.agg (cc ad cp), er])) atopsFx11 rfl (by kernel_rfl) (by kernel_rfl) (by kernel_rfl) rfl hQ hbw1 (fun W hW => (run_move rfl (Act.ev_eq (Act.sz (Act.sz (Act.sz (Act.sz (Act.sz (Act.sz (Act.sz (Act.sz (Act.sz (Act.sz hs)))))))))) (by decide)) W)) ?_
    refine anyH_take (i := 12) (d := 57) (v := (.agg (cc ad cp))) atopsFx12 rfl (by kernel_rfl) (by kernel_rfl) (by kernel_rfl) rfl hQ hbw1 (fun W hW => (run_extract rfl (Act.ev_eq (Act.sz (Act.sz (Act.sz (Act.sz (Act.sz (Act.sz (Act.sz (Act.sz (Act.sz (Act.sz (Act.sz hs))))))))))) (by decide)) (ext_fst _ _ _ W))) ?_
    refine anyH_take (i := 13) (d := 58) (v := er) atopsFx13 rfl (by kernel_rfl) (by kernel_rfl) (by kernel_rfl) rfl hQ hbw1 (fun W hW => (run_extract rfl (Act.ev_ne (by decide) (Act.ev_eq (Act.sz (Act.sz (Act.sz (Act.sz (Act.sz (Act.sz (Act.sz (Act.sz (Act.sz (Act.sz (Act.sz hs))))))))))) (by decide))) (ext_snd _ _ _ W))) ?_
    refine anyH_one (i := 14) (by kernel_rfl) atopsFx14 rfl (fun K hK => ?_)
    have hba := (Below.refl w1.heap.size w1).alloc (Nat.le_refl _) (.cells #[.bool false, .int .i64 0, .int .i64 0, .slice none 0 0] 36)
    have hbw2 := below_two hbw1 hba
    refine wp_value_to (d := 12) rfl (run_alloc rfl (alloc_cod w1)) (hK _ _ hbw2 ?_)
    clear hK K
    have ht := there_new w1 #[.bool false, .int .i64 0, .int .i64 0, .slice none 0 0] 36
    have hr2 := hR1 _ _ _ _ _ hr hba
    have hx := hbw1.size
    have hle := hb.size
    have hr3 := fun cells => hR2 w0 _ ad cp w1.heap.size cells hr hba hle
    generalize w1.alloc (.cells #[.bool false, .int .i64 0, .int .i64 0, .slice none 0 0] 36) = w2 at *
    refine anyH_one (i := 15) (by kernel_rfl) atopsFx15 rfl (fun K hK => ?_)
    refine wp_store_at 36 _ _ rfl rfl w1.heap.size 0 (cc ad cp) (Act.ev_eq (Act.sz (Act.sz (Act.sz (Act.sz (Act.sz (Act.sz (Act.sz (Act.sz (Act.sz (Act.sz (Act.sz (Act.sz (Act.sz (Act.sz hs)))))))))))))) (by decide)) (Act.ev_ne (by decide) (Act.ev_ne (by decide) (Act.ev_eq (Act.sz (Act.sz (Act.sz (Act.sz (Act.sz (Act.sz (Act.sz (Act.sz (Act.sz (Act.sz (Act.sz (Act.sz hs)))))))))))) (by decide)))) (by rw [hcs]; exact ht) (by rw [hcs]; exact Try.sizeCod) (hone _ _) (hK _ _ (sets_belowF hx _ _ _ hbw2) ?_)
    clear hK K
    have hth : w2.there w1.heap.size 0 (cc ad cp).size := by rw [hcs]; exact ht
    have hrg := World.rangeAt_setCells_same w2 w1.heap.size 0 (cc ad cp).toList (by rw [Array.length_toList]; exact hth)
    have htt := World.there_setCells (ht) w1.heap.size 0 (cc ad cp).toList
    refine anyH_one (i := 16) (by kernel_rfl) atopsFx16 rfl (fun K hK => ?_)
    refine wp_value_at (d := 13) rfl (run_assign rfl (Act.ev_ne (by decide) (Act.ev_eq (Act.sz (Act.sz (Act.sz (Act.sz (Act.sz (Act.sz (Act.sz (Act.sz (Act.sz (Act.sz (Act.sz (Act.sz (Act.sz hs))))))))))))) (by decide))) _) (hK _ _ (sets_belowF hx _ _ _ hbw2) ?_)
    clear hK K
    exact wpAnyH_done (by kernel_rfl) (hend _ _ ad cp w1.heap.size (sets_belowF hx _ _ _ hbw2) hb0 hx hrg htt (hr3 _)) _
  · have hba := (Below.refl w0.heap.size w0).alloc (Nat.le_refl _) (.cells #[.bool false, .int .i64 0, .int .i64 0, .slice none 0 0] 36)
    have hbw1 := below_two hb0 hba
    refine wp_value_to (d := 12) rfl (run_alloc rfl (alloc_cod w0)) (hK _ _ hbw1 ?_)
    clear hK
    have ht := there_new w0 #[.bool false, .int .i64 0, .int .i64 0, .slice none 0 0] 36
    have hx := hb0.size
    have hlt : w0.heap.size < (w0.alloc (.cells #[.bool false, .int .i64 0, .int .i64 0, .slice none 0 0] 36)).heap.size := by simp
    generalize w0.heap.size = x at *
    generalize w0.alloc (.cells #[.bool false, .int .i64 0, .int .i64 0, .slice none 0 0] 36) = w1 at *
    refine anyH_one (i := 10) (by kernel_rfl) atopsFx10 rfl (fun K1 hK1 => ?_)
    refine wp_call_at (R := fun v w' => ∃ ad cp, v = (.tuple #[.agg (cc ad cp), er]) ∧ R w1 w' ad cp ∧ Below w1.heap.size w1 w') #[.agg ca, .agg cp0, .bool lone, .int .i64 st] (d := 56) rfl rfl (map_four (Act.ev_ne (by decide) (Act.ev_ne (by decide) (Act.ev_ne (by decide) (Act.ev_ne (by decide) (Act.ev_ne (by decide) (Act.ev_ne (by decide) (Act.ev_ne (by decide) (Act.ev_ne (by decide) (Act.ev_ne (by decide) (Act.ev_ne (by decide) (Act.ev_eq hs (by decide)))))))))))) (Act.ev_ne (by decide) (Act.ev_ne (by decide) (Act.ev_ne (by decide) (Act.ev_ne (by decide) (Act.ev_ne (by decide) (Act.ev_ne (by decide) (Act.ev_eq (Act.sz (Act.sz (Act.sz (Act.sz hs)))) (by decide)))))))) (Act.ev_ne (by decide) (Act.ev_ne (by decide) (Act.ev_eq (Act.sz (Act.sz (Act.sz (Act.sz (Act.sz (Act.sz (Act.sz (Act.sz hs)))))))) (by decide)))) (Act.ev_ne (by decide) (Act.ev_eq (Act.sz (Act.sz (Act.sz (Act.sz (Act.sz (Act.sz (Act.sz (Act.sz (Act.sz hs))))))))) (by decide)))) (by go_simp) ((KC w1 hbw1).mono fun e w' h => by obtain ⟨ad, cp, he, hr, hb⟩ := h; exact ⟨_, he, ad, cp, rfl, hr, hb⟩) (fun v w2 hv => ?_)
    obtain ⟨ad, cp, rfl, hr, hb⟩ := hv
    have hbw2 := below_two hbw1 hb
    refine hK1 _ _ hbw2 ?_
    clear hK1
    refine anyH_take (i := 11) (d := 45) (v := (.tuple #[.agg (cc ad cp), er])) atopsFx11 rfl (by kernel_rfl) (by kernel_rfl) (by kernel_rfl) rfl hQ hbw2 (fun W hW => (run_move rfl (Act.ev_eq (Act.sz (Act.sz (Act.sz (Act.sz (Act.sz (Act.sz (Act.sz (Act.sz (Act.sz (Act.sz (Act.sz hs))))))))))) (by decide)) W)) ?_
    refine anyH_take (i := 12) (d := 57) (v := (.agg (cc ad cp))) atopsFx12 rfl (by kernel_rfl) (by kernel_rfl) (by kernel_rfl) rfl hQ hbw2 (fun W hW => (run_extract rfl (Act.ev_eq (Act.sz (Act.sz (Act.sz (Act.sz (Act.sz (Act.sz (Act.sz (Act.sz (Act.sz (Act.sz (Act.sz (Act.sz hs)))))))))))) (by decide)) (ext_fst _ _ _ W))) ?_
    refine anyH_take (i := 13) (d := 58) (v := er) atopsFx13 rfl (by kernel_rfl) (by kernel_rfl) (by kernel_rfl) rfl hQ hbw2 (fun W hW => (run_extract rfl (Act.ev_ne (by decide) (Act.ev_eq (Act.sz (Act.sz (Act.sz (Act.sz (Act.sz (Act.sz (Act.sz (Act.sz (Act.sz (Act.sz (Act.sz (Act.sz hs)))))))))))) (by decide))) (ext_snd _ _ _ W))) ?_
    rw [Act.put_swap _ (.pointer (some ⟨x, 0, none⟩)) (.tuple #[.agg (cc ad cp), er]) (show (12 : Nat) ≠ 56 by decide), Act.put_swap _ (.pointer (some ⟨x, 0, none⟩)) (.tuple #[.agg (cc ad cp), er]) (show (12 : Nat) ≠ 45 by decide), Act.put_swap _ (.pointer (some ⟨x, 0, none⟩)) (.agg (cc ad cp)) (show (12 : Nat) ≠ 57 by decide), Act.put_swap _ (.pointer (some ⟨x, 0, none⟩)) er (show (12 : Nat) ≠ 58 by decide)]
    have ht2 := there_below ht hb
    have hr3 := fun cells => hR3 w1 w2 ad cp x cells hr hlt
    refine anyH_one (i := 15) (by kernel_rfl) atopsFx15 rfl (fun K hK => ?_)
    refine wp_store_at 36 _ _ rfl rfl x 0 (cc ad cp) (Act.ev_eq (Act.sz (Act.sz (Act.sz (Act.sz (Act.sz (Act.sz (Act.sz (Act.sz (Act.sz (Act.sz (Act.sz (Act.sz (Act.sz (Act.sz hs)))))))))))))) (by decide)) (Act.ev_ne (by decide) (Act.ev_ne (by decide) (Act.ev_eq (Act.sz (Act.sz (Act.sz (Act.sz (Act.sz (Act.sz (Act.sz (Act.sz (Act.sz (Act.sz (Act.sz (Act.sz hs)))))))))))) (by decide)))) (by rw [hcs]; exact ht2) (by rw [hcs]; exact Try.sizeCod) (hone _ _) (hK _ _ (sets_belowF hx _ _ _ hbw2) ?_)
    clear hK K
    have hth : w2.there x 0 (cc ad cp).size := by rw [hcs]; exact ht2
    have hrg := World.rangeAt_setCells_same w2 x 0 (cc ad cp).toList (by rw [Array.length_toList]; exact hth)
    have htt := World.there_setCells (ht2) x 0 (cc ad cp).toList
    refine anyH_one (i := 16) (by kernel_rfl) atopsFx16 rfl (fun K hK => ?_)
    refine wp_value_at (d := 13) rfl (run_assign rfl (Act.ev_ne (by decide) (Act.ev_eq (Act.sz (Act.sz (Act.sz (Act.sz (Act.sz (Act.sz (Act.sz (Act.sz (Act.sz (Act.sz (Act.sz (Act.sz (Act.sz hs))))))))))))) (by decide))) _) (hK _ _ (sets_belowF hx _ _ _ hbw2) ?_)
    clear hK K
    exact wpAnyH_done (by kernel_rfl) (hend _ _ ad cp x (sets_belowF hx _ _ _ hbw2) hbw1 hx hrg htt (hr3 _)) _
end Go.Proofs.Ytfgcngjggdjcjaa
