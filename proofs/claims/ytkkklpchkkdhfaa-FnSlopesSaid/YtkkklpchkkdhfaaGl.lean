/-
  The program's gluing: two arrays and a number, by value; gluingOf, surface.
-/
import Derived.Test.YtkkklpchkkdhfaaRg
import Derived.Test.YtkkklpchkkdhfaaSfn
import Derived.Test.YtkkklpchkkdhfaaRen
import Derived.Test.YtkkklpchkkdhfaaMA
import Derived.Laws.Tables
import Derived.Deep.MidRow
namespace Go.Proofs.Ytkkklpchkkdhfaa.gl
open Go.ChangeShapes Go.WideShapes Go.ChangeAt Go.RowKit
open Go.Proofs.Ytkkklpchkkdhfaa.mem Go.Proofs.Ytkkklpchkkdhfaa.ints Go.Proofs.Ytkkklpchkkdhfaa.arr Go.Proofs.Ytkkklpchkkdhfaa.pm Go.Proofs.Ytkkklpchkkdhfaa.permOk Go.Proofs.Ytkkklpchkkdhfaa.permOf Go.Proofs.Ytkkklpchkkdhfaa.inv Go.Proofs.Ytkkklpchkkdhfaa.fns Go.Proofs.Ytkkklpchkkdhfaa.sf
set_option linter.unusedVariables false
set_option maxRecDepth 100000

/-- Right, Up and the number of squares, in one row. -/
def gl (p q : List Int) (n : Nat) : List Int := p ++ q ++ [(n : Int)]
def zero49 : List Int := List.replicate 49 0
theorem gl_len {p q : List Int} (hp : p.length = 24) (hq : q.length = 24) (n : Nat) : (gl p q n).length = 49 := by simp [gl, hp, hq]
theorem zero49_len : zero49.length = 49 := by simp [zero49]
theorem info49 : (Try.prog.info? 64).map (·.size) = some 49 := by kernel_rfl
theorem size49 {l : List Int} (h : l.length = 49) : (Try.prog.info? 64).map (·.size) = some (V l).toArray.size := by rw [info49]; simp [V, h]
theorem list24 {l : List Int} (h : l.length = 24) : ∃ a0 a1 a2 a3 a4 a5 a6 a7 a8 a9 b0 b1 b2 b3 b4 b5 b6 b7 b8 b9 c0 c1 c2 c3, l = [a0, a1, a2, a3, a4, a5, a6, a7, a8, a9, b0, b1, b2, b3, b4, b5, b6, b7, b8, b9, c0, c1, c2, c3] := by
  match l, h with
  | [a0, a1, a2, a3, a4, a5, a6, a7, a8, a9, b0, b1, b2, b3, b4, b5, b6, b7, b8, b9, c0, c1, c2, c3], _ => exact ⟨a0, a1, a2, a3, a4, a5, a6, a7, a8, a9, b0, b1, b2, b3, b4, b5, b6, b7, b8, b9, c0, c1, c2, c3, rfl⟩
theorem built_gl {p q : List Int} (hp : p.length = 24) (hq : q.length = 24) (n : Nat) :
    Try.prog.built 64 [(0, .agg (V p).toArray), (1, .agg (V q).toArray), (2, .int .i64 n)] = some (V (gl p q n)).toArray := by
  obtain ⟨a0, a1, a2, a3, a4, a5, a6, a7, a8, a9, b0, b1, b2, b3, b4, b5, b6, b7, b8, b9, c0, c1, c2, c3, rfl⟩ := list24 hp
  obtain ⟨a0', a1', a2', a3', a4', a5', a6', a7', a8', a9', b0', b1', b2', b3', b4', b5', b6', b7', b8', b9', c0', c1', c2', c3', rfl⟩ := list24 hq
  kernel_rfl
theorem built_zero : Try.prog.built 64 [] = some (V zero49).toArray := by kernel_rfl
theorem wpList_build {P : Program} {ops : Array Oper} {rest : List Oper} {o : Oper} {a : Act} {w : World} {Q : Exit → Act → World → Prop} (hgd : o.guard = none) (t : TypeId) (parts : Array (Nat × Operand)) (ho : o.op = .build t parts)
    (l : List (Nat × Value)) (hl : (parts.toList.map fun p => (p.1, a.eval p.2)) = l) (cells : Array Value) (hb : P.built t l = some cells)
    (h : wpList P ops Q rest (a.put o.dst (.agg cells)) w) : wpList P ops Q (o :: rest) a w := by
  have hb' : P.built t (parts.map fun (i, x) => (i, a.eval x)).toList = some cells := by
    rw [Array.toList_map]
    subst hl
    exact hb
  refine wpList_plain hgd fun K hK => wp_build t parts ho (by rw [hb']; rfl) ?_
  rw [hb']
  exact hK _ _ h
theorem gl_right {w : World} {b : Nat} {p q : List Int} {n : Nat} {t : TypeId} (hp : p.length = 24) (h : Arr w b (V (gl p q n)) t) : w.rangeAt b 0 (V p) := fun j v hv => by
  have hj : j < 24 := by have := (List.getElem?_eq_some_iff.1 hv).1; simpa [V, hp] using this
  rw [Nat.zero_add]
  refine h.cell ?_
  rw [← hv]
  simp only [gl, V, List.map_append, List.append_assoc]
  rw [List.getElem?_append_left (by simp; omega)]
theorem gl_up {w : World} {b : Nat} {p q : List Int} {n : Nat} {t : TypeId} (hp : p.length = 24) (hq : q.length = 24) (h : Arr w b (V (gl p q n)) t) : w.rangeAt b 24 (V q) := fun j v hv => by
  have hj : j < 24 := by have := (List.getElem?_eq_some_iff.1 hv).1; simpa [V, hq] using this
  refine h.cell ?_
  rw [← hv]
  simp only [gl, V, List.map_append, List.append_assoc]
  rw [List.getElem?_append_right (by simp; omega), List.getElem?_append_left (by simp; omega)]
  congr 1; simp; omega
theorem gl_count {w : World} {b : Nat} {p q : List Int} {n : Nat} {t : TypeId} (hp : p.length = 24) (hq : q.length = 24) (h : Arr w b (V (gl p q n)) t) : w.cell? ⟨b, 48, none⟩ = some (.int .i64 n) := by
  refine h.cell ?_
  simp only [gl, V, List.map_append]
  rw [List.getElem?_append_right (by simp; omega)]
  simp [hp, hq]
theorem right_at {p q : List Int} {n k : Nat} (hp : p.length = 24) (hk : k < 24) : (gl p q n).getD k 0 = p.getD k 0 := by
  simp only [gl, List.append_assoc, List.getD]
  rw [List.getElem?_append_left (by omega)]
theorem up_at {p q : List Int} {n k : Nat} (hp : p.length = 24) (hq : q.length = 24) (hk : k < 24) : (gl p q n).getD (24 + k) 0 = q.getD k 0 := by
  simp only [gl, List.append_assoc, List.getD]
  rw [List.getElem?_append_right (by omega), List.getElem?_append_left (by omega)]
  congr 2; omega

theorem Srd.fst {w : World} {hi : Nat} {P Q : Option Addr} {n c m d : Nat} {r u : List Int} (h : Srd w hi (.agg #[.slice P n c, .slice Q m d]) r u) : Rd w hi P n (V r) := by
  obtain ⟨P', n', c', Q', m', d', e, a, b, _⟩ := h
  simp at e
  obtain ⟨⟨rfl, rfl, rfl⟩, rfl, rfl, rfl⟩ := e
  exact a
theorem Srd.snd {w : World} {hi : Nat} {P Q : Option Addr} {n c m d : Nat} {r u : List Int} (h : Srd w hi (.agg #[.slice P n c, .slice Q m d]) r u) : Rd w hi Q m (V u) := by
  obtain ⟨P', n', c', Q', m', d', e, a, b, _⟩ := h
  simp at e
  obtain ⟨⟨rfl, rfl, rfl⟩, rfl, rfl, rfl⟩ := e
  exact b
/-- What gluingOf gives. -/
def glv (r u : List Int) : List Int := if transB r u then gl (ext r) (ext u) r.length else zero49
theorem glv_len (r u : List Int) : (glv r u).length = 49 := by unfold glv; split; exact gl_len (ext_len _) (ext_len _) _; exact zero49_len
theorem glv_yes {r u : List Int} (h : transB r u = true) : glv r u = gl (ext r) (ext u) r.length := by simp [glv, h]
theorem glv_no {r u : List Int} (h : transB r u = false) : glv r u = zero49 := by simp [glv, h]
def GPost (r u : List Int) (w : World) (e : Ending) (w' : World) : Prop := e = .returned (.tuple #[.agg (V (glv r u)).toArray, .bool (transB r u)]) ∧ Below w.heap.size w w'
theorem gpost {r u l : List Int} {w w' : World} {b : Bool} (h : transB r u = b) (hl : glv r u = l) (hb : Below w.heap.size w w') : GPost r u w (.returned (.tuple #[.agg (V l).toArray, .bool b])) w' := by
  subst h; subst hl; exact ⟨rfl, hb⟩

set_option maxHeartbeats 4000000 in
theorem gluingOf_any (v : Value) (r u : List Int) (hi : Nat) (w : World) (hx : Srd w hi v r u) (hn : r.length ≤ 1048576) (hm : u.length ≤ 1048576) :
    Calls Try.prog 67 #[v] w (GPost r u w) := by
  have HX := Lib.hid hx; clear hx
  obtain ⟨P, n, c, Q, m, d, rfl, q1, q2, e1, e2, ht, HR⟩ := HX.out.open
  have L1 := Lib.hid q1
  have N0 := Lib.hid (fun o => Arr.new (w.alloc o) (V zero49) 64 (g := w.heap.size + 1) (by simp))
  have B0 : Hid (∀ a b, Below w.heap.size w ((w.alloc a).alloc b)) := Lib.hid (fun a b => ((Below.refl _ _).alloc (Nat.le_refl _) _).alloc (by simp) _)
  go_enter Try.func67, Try.ntmps67
  go_wp2_with fail
  refine (ok_impl _ r u hi _ (HX.out.keep (((Below.refl hi w).alloc ht _).alloc (by simp; omega) _) (Nat.le_refl _)) hn hm).mono ?_
  rintro e w1 ⟨rfl, b1⟩
  have hs1 : w.heap.size + 2 ≤ w1.heap.size := by have := b1.size; simpa using this
  have A0 := Lib.hid (((Arr.new w [.slice P n c, .slice Q m d] 32 rfl).alloc _).keep b1 (by simp <;> omega))
  have A1 := Lib.hid ((N0.out _).keep b1 (by simp))
  have B1 : Hid (Below w.heap.size w w1) := Lib.hid ((B0.out _ _).trans (b1.mono (by simp <;> omega)))
  clear b1 N0
  cases hq : transB r u
  · have HQ := Lib.hid hq; clear hq
    have HG := Lib.hid (glv_no HQ.out)
    go_wp2_with (first | (refine wpList_build rfl 64 _ rfl [] rfl (V zero49).toArray built_zero ?_) | (refine wpList_store_row rfl 64 _ _ rfl (w.heap.size + 1) (V zero49).toArray rfl rfl 64 (V zero49).toArray A1.out (size49 zero49_len) rfl (one_V _) ?_))
    exact bodyPost_ret (v := .tuple #[.agg (V zero49).toArray, .bool false]) (permOf.results_cell_tmp rfl _ _ (w.heap.size + 1) 64 (V zero49).toArray (0, 0) _ _ rfl rfl A1.out.row Try.underlying64 rfl (size49 zero49_len)) rfl (gpost HQ.out HG.out (below_setRow B1.out (by omega) _))
  · have hok := (transB_iff.1 hq)
    have HQ := Lib.hid hq; clear hq
    have HG := Lib.hid (glv_yes HQ.out)
    have HB : Hid (okBB r u = true) := Lib.hid (okBB_iff.2 ⟨hok.r.b, hok.u.b, by rw [hok.lu]⟩)
    have HS := Lib.hid hok; clear hok
    have c0 := A0.out.cell (k := 0) rfl
    have c1 := A0.out.cell (k := 1) rfl
    go_wp2_with fail
    refine (permsOf_any P n c Q m d r u hi hi _ (Srd.fst (HX.out.keep (B1.out.mono (by omega)) (Nat.le_refl _))) (Srd.snd (HX.out.keep (B1.out.mono (by omega)) (Nat.le_refl _))) (by omega) (by omega) (by omega) (by omega)).mono ?_
    rintro e w2 ⟨rfl, b2⟩
    rw [HB.out, if_pos rfl, if_pos rfl]
    have hs2 := b2.size
    replace A0 := Lib.hid (A0.out.keep b2 A0.out.lt)
    replace A1 := Lib.hid (A1.out.keep b2 A1.out.lt)
    replace B1 : Hid (Below w.heap.size w w2) := Lib.hid (B1.out.trans (b2.mono B1.out.size))
    clear b2 c0 c1
    go_wp2_with (first | (refine wpList_store_row rfl 62 (.tmp 4) (.tmp 17) rfl w2.heap.size (V (ext r)).toArray rfl rfl 62 (V zeros).toArray ((Arr.new w2 (V zeros) _ rfl).alloc _) (size_V (ext_len _)) (by simp [V_len, ext_len, zeros]) (one_V _) ?_; generalize hw3 : ((w2.alloc (.cells #[.int .i64 0, .int .i64 0, .int .i64 0, .int .i64 0, .int .i64 0, .int .i64 0, .int .i64 0, .int .i64 0, .int .i64 0, .int .i64 0, .int .i64 0, .int .i64 0, .int .i64 0, .int .i64 0, .int .i64 0, .int .i64 0, .int .i64 0, .int .i64 0, .int .i64 0, .int .i64 0, .int .i64 0, .int .i64 0, .int .i64 0, .int .i64 0] 62)).alloc (.cells #[.int .i64 0, .int .i64 0, .int .i64 0, .int .i64 0, .int .i64 0, .int .i64 0, .int .i64 0, .int .i64 0, .int .i64 0, .int .i64 0, .int .i64 0, .int .i64 0, .int .i64 0, .int .i64 0, .int .i64 0, .int .i64 0, .int .i64 0, .int .i64 0, .int .i64 0, .int .i64 0, .int .i64 0, .int .i64 0, .int .i64 0, .int .i64 0] 62)).setRow w2.heap.size (V (ext r)).toArray = w3; have S1 : Hid (Arr w3 w2.heap.size (V (ext r)) 62) := Lib.hid (by rw [← hw3]; exact ((Arr.new w2 (V zeros) _ rfl).alloc _).row); have S2 : Hid (Arr w3 (w2.heap.size + 1) (V zeros) 62) := Lib.hid (by rw [← hw3]; exact (Arr.new _ (V zeros) _ (by simp)).rowOther (by omega)); have b3 : Below w2.heap.size w2 w3 := (by rw [← hw3]; exact arr.below_setRow (((Below.refl _ _).alloc (Nat.le_refl _) _).alloc (by simp) _) (Nat.le_refl _) _); replace A0 := Lib.hid (A0.out.keep b3 A0.out.lt); replace A1 := Lib.hid (A1.out.keep b3 A1.out.lt); replace B1 : Hid (Below w.heap.size w w3) := Lib.hid (B1.out.trans (b3.mono B1.out.size)); clear hw3 b3) | (refine wpList_store_row rfl 62 (.tmp 5) (.tmp 18) rfl (w2.heap.size + 1) (V (ext u)).toArray rfl rfl 62 (V zeros).toArray S2.out (size_V (ext_len _)) (by simp [V_len, ext_len, zeros]) (one_V _) ?_; generalize hw4 : w3.setRow (w2.heap.size + 1) (V (ext u)).toArray = w4; have T1 : Hid (Arr w4 w2.heap.size (V (ext r)) 62) := Lib.hid (by rw [← hw4]; exact S1.out.rowOther (by omega)); have T2 : Hid (Arr w4 (w2.heap.size + 1) (V (ext u)) 62) := Lib.hid (by rw [← hw4]; exact S2.out.row); have b4 : Below w2.heap.size w3 w4 := (by rw [← hw4]; exact arr.below_setRow (Below.refl _ _) (by omega) _); replace A0 := Lib.hid (A0.out.keep b4 (by omega)); replace A1 := Lib.hid (A1.out.keep b4 (by omega)); replace B1 : Hid (Below w.heap.size w w4) := Lib.hid (B1.out.trans (b4.mono (by omega))); have c0 := A0.out.cell (k := 0) rfl; clear hw4 S1 S2 b4) | (refine wpList_load_row rfl 62 (.tmp 4) rfl w2.heap.size rfl 62 (V (ext r)).toArray (0, 0) _ T1.out Try.underlying62 rfl (size_V (ext_len _)) ?_) | (refine wpList_load_row rfl 62 (.tmp 5) rfl (w2.heap.size + 1) rfl 62 (V (ext u)).toArray (0, 0) _ T2.out Try.underlying62 rfl (size_V (ext_len _)) ?_) | (refine wpList_build rfl 64 _ rfl [(0, .agg (V (ext r)).toArray), (1, .agg (V (ext u)).toArray), (2, .int .i64 n)] rfl (V (gl (ext r) (ext u) n)).toArray (built_gl (ext_len _) (ext_len _) n) ?_) | (refine wpList_store_row rfl 64 _ _ rfl (w.heap.size + 1) (V (gl (ext r) (ext u) n)).toArray rfl rfl 64 (V zero49).toArray A1.out (size49 (gl_len (ext_len _) (ext_len _) n)) (by simp [V_len, gl_len, ext_len, zero49]) (one_V _) ?_))
    exact bodyPost_ret (v := .tuple #[.agg (V (gl (ext r) (ext u) n)).toArray, .bool true]) (permOf.results_cell_tmp rfl _ _ (w.heap.size + 1) 64 (V (gl (ext r) (ext u) n)).toArray (0, 0) _ _ rfl rfl A1.out.row Try.underlying64 rfl (size49 (gl_len (ext_len _) (ext_len _) n))) rfl (gpost HQ.out (by rw [HG.out, L1.out]) (below_setRow B1.out (by omega) _))
end Go.Proofs.Ytkkklpchkkdhfaa.gl
