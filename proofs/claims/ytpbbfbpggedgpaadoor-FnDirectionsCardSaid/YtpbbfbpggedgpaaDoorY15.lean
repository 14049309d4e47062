import Derived.Test.YtpbbfbpggedgpaaDoorY10
import Derived.Test.YtpbbfbpggedgpaaDoorY14
import Derived.Test.YtpbbfbpggedgpaaDoorY12
import Derived.Test.YtpbbfbpggedgpaaDoorY05
import Derived.Test.YtpbbfbpggedgpaaDoorY13
/-
  Contracts of the model's AroundOf, CornersOf, AnglesOf, StratumOf, GenusOf, IsRegularCorner.
-/
namespace Go.Proofs.YtpbbfbpggedgpaaDoor.gl
open Go.ChangeShapes Go.WideShapes Go.ChangeAt Go.RowKit
open Go.Proofs.YtpbbfbpggedgpaaDoor.mem Go.Proofs.YtpbbfbpggedgpaaDoor.ints Go.Proofs.YtpbbfbpggedgpaaDoor.arr Go.Proofs.YtpbbfbpggedgpaaDoor.pm Go.Proofs.YtpbbfbpggedgpaaDoor.permOk Go.Proofs.YtpbbfbpggedgpaaDoor.permOf Go.Proofs.YtpbbfbpggedgpaaDoor.inv Go.Proofs.YtpbbfbpggedgpaaDoor.fns Go.Proofs.YtpbbfbpggedgpaaDoor.sf Go.Proofs.YtpbbfbpggedgpaaDoor.mat
set_option linter.unusedVariables false
set_option maxRecDepth 100000

theorem gives_eq {r r' : List Int} {w w' : World} {e : Ending} (h : r' = r) (g : Gives r w e w') : Gives r' w e w' := h ▸ g
theorem mgives_eq {r r' : List (List Int)} {w w' : World} {e : Ending} (h : r' = r) (g : MGives r w e w') : MGives r' w e w' := h ▸ g

theorem angF_range (r u : List Int) : ∀ x ∈ angF r u, 0 ≤ x ∧ x ≤ 24 := by
  intro x hx
  have h := (sortD_perm _).mem_iff.1 hx
  obtain ⟨c, hc, rfl⟩ := List.mem_map.1 h
  have h2 := (corF_small r u).2
  have h3 : c.length ≤ ((corF r u).map List.length).sum := by
    obtain ⟨k, hk⟩ := List.getElem?_of_mem hc
    exact tot_row hk
  omega
/-- The stratum that grows: from the block behind the box on. -/
structure Sg (w w1 wr : World) (v : Value) (l : List Int) : Prop where
  own : wr.ownsRow (w.heap.size + 1) 3 1 v l.length (V l)
  out : Out (w.heap.size + 1) (w.heap.size + 2) w1 wr
  at_ : ∀ b, v.ownBlock = some b → b = w.heap.size + 1 ∨ w1.heap.size ≤ b
theorem Sg.next {w w1 wr w' : World} {v v' : Value} {l : List Int} {z : Int} {n : Nat} (h : Sg w w1 wr v l) (ho : w'.ownsRow (w.heap.size + 1) 3 1 v' (n + 1) (V l ++ [.int .i64 z])) (hn : n = l.length)
    (hg : wr.grownBy w' v.ownBlock) (hb : v'.ownBlock = v.ownBlock ∨ ∃ k, v'.ownBlock = some k ∧ wr.heap.size + 1 ≤ k) : Sg w w1 w' v' (l ++ [z]) := by
  subst hn
  have e : V (l ++ [z]) = V l ++ [.int .i64 z] := by simp [V]
  have hs := h.out.size
  refine ⟨by rw [e]; simpa using ho, ⟨hg.os.trans h.out.os, hg.tape.trans h.out.tape, hg.output.trans h.out.output, Nat.le_trans hs hg.size, fun k hk hne => ?_⟩, fun b hq => ?_⟩
  · refine (hg.block k (by omega) (fun e => ?_)).trans (h.out.block k hk hne)
    have := h.at_ k e.symm
    omega
  · rcases hb with q | ⟨k, q, hk⟩
    · exact h.at_ b (by rw [← q]; exact hq)
    · rw [q] at hq; injection hq with hq; omega

end Go.Proofs.YtpbbfbpggedgpaaDoor.gl

/-
  RowsOf: what it answers; contracts of the specification's and of the program's.
-/
namespace Go.Proofs.YtpbbfbpggedgpaaDoor.cy
open Go.ChangeShapes Go.WideShapes Go.ChangeAt Go.RowKit
open Go.Proofs.YtpbbfbpggedgpaaDoor.mem Go.Proofs.YtpbbfbpggedgpaaDoor.ints Go.Proofs.YtpbbfbpggedgpaaDoor.arr Go.Proofs.YtpbbfbpggedgpaaDoor.pm Go.Proofs.YtpbbfbpggedgpaaDoor.permOk Go.Proofs.YtpbbfbpggedgpaaDoor.permOf Go.Proofs.YtpbbfbpggedgpaaDoor.inv Go.Proofs.YtpbbfbpggedgpaaDoor.fns Go.Proofs.YtpbbfbpggedgpaaDoor.sf Go.Proofs.YtpbbfbpggedgpaaDoor.mat Go.Proofs.YtpbbfbpggedgpaaDoor.gl Go.Proofs.YtpbbfbpggedgpaaDoor.lp
set_option linter.unusedVariables false
set_option maxRecDepth 100000

def rowF (r u : List Int) : List (List Int) := if transB r u then cycF r else []
theorem rowF_yes {r u : List Int} (h : transB r u = true) : rowF r u = cycF r := by simp [rowF, h]
theorem rowF_no {r u : List Int} (h : transB r u = false) : rowF r u = [] := by simp [rowF, h]
theorem rowF_bnd (r u : List Int) : (rowF r u).length ≤ 1048576 ∧ tot (rowF r u) ≤ 1048576 := by
  unfold rowF
  split
  · exact cycF_small r
  · simp [tot]
theorem cycF_gl {r u : List Int} {n : Nat} (h : transB r u = true) (hn : r.length = n) : cycF r = cso (ext r) n n := by
  have s := transB_iff.1 h
  rw [← hn, cycF_ext s.r, cycF, s.r.b, if_pos rfl]

set_option maxHeartbeats 2000000 in
theorem ro_impl (v : Value) (r u : List Int) (hi : Nat) (w : World) (hx : Srd w hi v r u) (hn : r.length ≤ 1048576) (hm : u.length ≤ 1048576) :
    Calls Tryd.prog 15 #[v] w (MGives (rowF r u) w) := by
  have HX := Lib.hid hx; clear hx
  obtain ⟨P, n, c, Q, m, d, rfl, q1, q2, e1, e2, ht, HR⟩ := HX.out.open
  have L1 := Lib.hid q1
  clear HR
  go_enter Tryd.func15, Tryd.ntmps15
  go_wp2_with fail
  refine (gluingOf_any _ r u hi _ (HX.out.keep ((Below.refl hi w).alloc ht _) (Nat.le_refl _)) hn hm).mono ?_
  rintro e w1 ⟨rfl, b1⟩
  have B1 := Lib.hid (below1 _ _ b1); clear b1
  cases hq : transB r u
  · have HF := Lib.hid (rowF_no hq); clear hq
    go_wp2_with (refine wpList_store_row rfl 69 _ _ rfl w1.heap.size (V (glv r u)).toArray rfl rfl 69 (V zero49).toArray (Arr.new w1 (V zero49) _ rfl) (size49 (glv_len _ _)) (by simp [V_len, glv_len, zero49]) (one_V _) ?_; generalize hw_ : (w1.alloc (.cells #[.int .i64 0, .int .i64 0, .int .i64 0, .int .i64 0, .int .i64 0, .int .i64 0, .int .i64 0, .int .i64 0, .int .i64 0, .int .i64 0, .int .i64 0, .int .i64 0, .int .i64 0, .int .i64 0, .int .i64 0, .int .i64 0, .int .i64 0, .int .i64 0, .int .i64 0, .int .i64 0, .int .i64 0, .int .i64 0, .int .i64 0, .int .i64 0, .int .i64 0, .int .i64 0, .int .i64 0, .int .i64 0, .int .i64 0, .int .i64 0, .int .i64 0, .int .i64 0, .int .i64 0, .int .i64 0, .int .i64 0, .int .i64 0, .int .i64 0, .int .i64 0, .int .i64 0, .int .i64 0, .int .i64 0, .int .i64 0, .int .i64 0, .int .i64 0, .int .i64 0, .int .i64 0, .int .i64 0, .int .i64 0, .int .i64 0] 69)).setRow w1.heap.size (V (glv r u)).toArray = w2; have A2 : Hid (Arr w2 w1.heap.size (V (glv r u)) 69) := Lib.hid (by rw [← hw_]; exact (Arr.new w1 (V zero49) _ rfl).row); have b1 : Below w1.heap.size w1 w2 := (by rw [← hw_]; exact arr.below_setRow ((Below.refl _ _).alloc (Nat.le_refl _) _) (Nat.le_refl _) _); have t_ : w1.heap.size + 1 ≤ w2.heap.size := (by rw [← hw_]; simp); clear hw_; replace B1 := Lib.hid (B1.out.trans (b1.mono B1.out.size)); clear b1)
    go_ret
    exact mgives_eq HF.out (mgives_nil B1.out)
  · have HS : Hid (Sf n r u) := Lib.hid (by have := transB_iff.1 hq; rwa [L1.out] at this)
    have HF : Hid (rowF r u = cso (ext r) n n) := Lib.hid (by rw [rowF_yes hq, cycF_gl hq L1.out])
    have HG : Hid (glv r u = gl (ext r) (ext u) n) := Lib.hid (by rw [glv_yes hq, L1.out])
    have hn24 : n ≤ 24 := HS.out.small
    have HB : Hid (Bij n (ext r)) := Lib.hid (by have := HS.out.r.bijExt; rwa [HS.out.lr] at this)
    clear hq
    rw [HG.out]
    go_wp2_with (first | (refine wpList_store_row rfl 69 _ _ rfl w1.heap.size (V (gl (ext r) (ext u) n)).toArray rfl rfl 69 (V zero49).toArray (Arr.new w1 (V zero49) _ rfl) (size49 (gl_len (ext_len _) (ext_len _) n)) (by simp [V_len, gl_len, ext_len, zero49]) (one_V _) ?_; generalize hw_ : (w1.alloc (.cells #[.int .i64 0, .int .i64 0, .int .i64 0, .int .i64 0, .int .i64 0, .int .i64 0, .int .i64 0, .int .i64 0, .int .i64 0, .int .i64 0, .int .i64 0, .int .i64 0, .int .i64 0, .int .i64 0, .int .i64 0, .int .i64 0, .int .i64 0, .int .i64 0, .int .i64 0, .int .i64 0, .int .i64 0, .int .i64 0, .int .i64 0, .int .i64 0, .int .i64 0, .int .i64 0, .int .i64 0, .int .i64 0, .int .i64 0, .int .i64 0, .int .i64 0, .int .i64 0, .int .i64 0, .int .i64 0, .int .i64 0, .int .i64 0, .int .i64 0, .int .i64 0, .int .i64 0, .int .i64 0, .int .i64 0, .int .i64 0, .int .i64 0, .int .i64 0, .int .i64 0, .int .i64 0, .int .i64 0, .int .i64 0, .int .i64 0] 69)).setRow w1.heap.size (V (gl (ext r) (ext u) n)).toArray = w2; have A2 : Hid (Arr w2 w1.heap.size (V (gl (ext r) (ext u) n)) 69) := Lib.hid (by rw [← hw_]; exact (Arr.new w1 (V zero49) _ rfl).row); have b1 : Below w1.heap.size w1 w2 := (by rw [← hw_]; exact arr.below_setRow ((Below.refl _ _).alloc (Nat.le_refl _) _) (Nat.le_refl _) _); have t_ : w1.heap.size + 1 ≤ w2.heap.size := (by rw [← hw_]; simp); clear hw_; replace B1 := Lib.hid (B1.out.trans (b1.mono B1.out.size)); clear b1; have hct := gl_count (ext_len r) (ext_len u) A2.out) | (refine wpList_load_part rfl 67 (.tmp 12) rfl w1.heap.size 0 rfl (V (ext r)) _ (fun j v hv => gl_right (ext_len r) A2.out j v hv) Tryd.underlying67 rfl (by rw [size_V (ext_len r)]; simp) ?_))
    refine (cycles_any (ext r) n _ (ext_len _) HB.out hn24).mono ?_
    rintro e w4 hg
    obtain ⟨P3, c3, rfl, o3, b3⟩ := mgives_eq HF.out (mgives_later B1.out hg)
    have O3 := Lib.hid o3; have BB := Lib.hid b3; clear o3 b3 hg
    go_wp2_with fail
    go_ret
    exact ⟨P3, c3, rfl, O3.out, BB.out⟩
end Go.Proofs.YtpbbfbpggedgpaaDoor.cy

/-
  spec.l08Row, spec.l08Above.
-/
namespace Go.Proofs.YtpbbfbpggedgpaaDoor.cy
open Go.ChangeShapes Go.WideShapes Go.ChangeAt Go.RowKit
open Go.Proofs.YtpbbfbpggedgpaaDoor.mem Go.Proofs.YtpbbfbpggedgpaaDoor.ints Go.Proofs.YtpbbfbpggedgpaaDoor.arr Go.Proofs.YtpbbfbpggedgpaaDoor.pm Go.Proofs.YtpbbfbpggedgpaaDoor.permOk Go.Proofs.YtpbbfbpggedgpaaDoor.permOf Go.Proofs.YtpbbfbpggedgpaaDoor.inv Go.Proofs.YtpbbfbpggedgpaaDoor.fns Go.Proofs.YtpbbfbpggedgpaaDoor.sf Go.Proofs.YtpbbfbpggedgpaaDoor.mat Go.Proofs.YtpbbfbpggedgpaaDoor.gl Go.Proofs.YtpbbfbpggedgpaaDoor.lp
set_option linter.unusedVariables false
set_option maxRecDepth 100000

theorem regB_take {c xs : List Int} {j : Nat} {x : Int} (h : xs[j]? = some x) : regB c (xs.take (j + 1)) = (regB c (xs.take j) && decide (c.getD x.toNat 0 = x)) := by
  rw [List.take_add_one, h]
  simp [regB]
theorem abF_take {c u : List Int} {rr : List (List Int)} {k : Nat} : (abF c u rr).take (k + 1) = (abF c u rr).take k ++ [at_ (abF c u rr) k] ∨ rr.length ≤ k := by
  by_cases h : k < rr.length
  · left
    have hl : k < (abF c u rr).length := by rw [abF_len]; exact h
    rw [List.take_add_one, List.getElem?_eq_getElem hl]
    simp [at_, List.getD, List.getElem?_eq_getElem hl]
  · right; omega
/-- What the walk over the rows needs to know of the surface. -/
structure Sw (n : Nat) (r u : List Int) (rr : List (List Int)) : Prop where
  sf : Sf n r u
  rw : Rws n r rr
theorem get_D {l : List Int} {i : Nat} (h : i < l.length) : l[i]? = some (l.getD i 0) := by simp [List.getD, List.getElem?_eq_getElem h]
theorem Sw.first {n : Nat} {r u : List Int} {rr : List (List Int)} (h : Sw n r u rr) {k : Nat} {xs : List Int} (hx : rr[k]? = some xs) : ∃ f z : Nat, xs[0]? = some (f : Int) ∧ xs.getD 0 0 = f ∧ f < n ∧ u[f]? = some (z : Int) ∧ u.getD f 0 = z ∧ 0 < xs.length := by
  obtain ⟨h1, h2⟩ := h.rw.head hx
  obtain ⟨a, b⟩ := h.rw.rng hx h2
  have e0 : xs[0]? = some (xs.getD 0 0) := get_D h1
  have hz := h.sf.bu.maps (xs.getD 0 0).toNat (by omega)
  have lu := h.sf.lu
  have e1 : u[(xs.getD 0 0).toNat]? = some (u.getD (xs.getD 0 0).toNat 0) := get_D (by omega)
  refine ⟨(xs.getD 0 0).toNat, (u.getD (xs.getD 0 0).toNat 0).toNat, by rw [e0]; congr 1; omega, by omega, by omega, by rw [e1]; congr 1; omega, by omega, h1⟩
theorem Sw.elem {n : Nat} {r u : List Int} {rr : List (List Int)} (h : Sw n r u rr) {k j : Nat} {xs : List Int} (hx : rr[k]? = some xs) (hj : j < xs.length) : ∃ x z : Nat, xs[j]? = some (x : Int) ∧ x < n ∧ (comm r u)[x]? = some (z : Int) ∧ z < n := by
  have e := List.getElem?_eq_getElem hj
  obtain ⟨a, b⟩ := h.rw.rng hx (List.mem_of_getElem? e)
  have lc := h.sf.comm.2
  have hm := h.sf.commB.maps xs[j].toNat (by omega)
  refine ⟨xs[j].toNat, ((comm r u).getD xs[j].toNat 0).toNat, by rw [e]; congr 1; omega, by omega, ?_, by omega⟩
  rw [List.getElem?_eq_getElem (show xs[j].toNat < (comm r u).length by omega)]
  simp only [List.getD, List.getElem?_eq_getElem (show xs[j].toNat < (comm r u).length by omega), Option.getD_some] at hm ⊢
  congr 1; omega

end Go.Proofs.YtpbbfbpggedgpaaDoor.cy

/-
  spec.RowAbove.
-/
namespace Go.Proofs.YtpbbfbpggedgpaaDoor.cy
open Go.ChangeShapes Go.WideShapes Go.ChangeAt Go.RowKit
open Go.Proofs.YtpbbfbpggedgpaaDoor.mem Go.Proofs.YtpbbfbpggedgpaaDoor.ints Go.Proofs.YtpbbfbpggedgpaaDoor.arr Go.Proofs.YtpbbfbpggedgpaaDoor.pm Go.Proofs.YtpbbfbpggedgpaaDoor.permOk Go.Proofs.YtpbbfbpggedgpaaDoor.permOf Go.Proofs.YtpbbfbpggedgpaaDoor.inv Go.Proofs.YtpbbfbpggedgpaaDoor.fns Go.Proofs.YtpbbfbpggedgpaaDoor.sf Go.Proofs.YtpbbfbpggedgpaaDoor.mat Go.Proofs.YtpbbfbpggedgpaaDoor.gl Go.Proofs.YtpbbfbpggedgpaaDoor.lp
set_option linter.unusedVariables false
set_option maxRecDepth 100000

def raG (ab : List Int) (rr : List (List Int)) (a : Int) : Int := if at_ ab (rix rr a).toNat < 0 then -1 else (rr.getD (at_ ab (rix rr a).toNat).toNat []).getD 0 0
def raF (r u : List Int) (a : Int) : Int := if transB r u = true ∧ 0 ≤ a ∧ a < r.length then raG (abF (comm r u) u (cycF r)) (cycF r) a else -1
theorem raF_no {r u : List Int} {a : Int} (h : transB r u = false ∨ a < 0 ∨ (r.length : Int) ≤ a) : raF r u a = -1 := by
  unfold raF
  rw [if_neg]
  rintro ⟨h1, h2, h3⟩
  rcases h with h | h | h
  · rw [h1] at h; cases h
  · omega
  · omega
theorem raF_yes {r u : List Int} {a : Int} (h : transB r u = true) (h0 : 0 ≤ a) (h1 : a < r.length) : raF r u a = raG (abF (comm r u) u (cycF r)) (cycF r) a := by
  unfold raF
  rw [if_pos ⟨h, h0, h1⟩]
theorem cycF_rows {r u : List Int} {n : Nat} (h : transB r u = true) (hn : r.length = n) : Sw n r u (cycF r) := by
  have s := transB_iff.1 h
  rw [hn] at s
  refine ⟨s, ?_⟩
  rw [cycF, s.r.b, if_pos rfl, s.lr]
  exact Rws.of s.br

end Go.Proofs.YtpbbfbpggedgpaaDoor.cy

/-
  Contract of the program's AroundOf.
-/
namespace Go.Proofs.YtpbbfbpggedgpaaDoor.gl
open Go.ChangeShapes Go.WideShapes Go.ChangeAt Go.RowKit
open Go.Proofs.YtpbbfbpggedgpaaDoor.mem Go.Proofs.YtpbbfbpggedgpaaDoor.ints Go.Proofs.YtpbbfbpggedgpaaDoor.arr Go.Proofs.YtpbbfbpggedgpaaDoor.pm Go.Proofs.YtpbbfbpggedgpaaDoor.permOk Go.Proofs.YtpbbfbpggedgpaaDoor.permOf Go.Proofs.YtpbbfbpggedgpaaDoor.inv Go.Proofs.YtpbbfbpggedgpaaDoor.fns Go.Proofs.YtpbbfbpggedgpaaDoor.sf
set_option linter.unusedVariables false
set_option maxRecDepth 100000

theorem gives_eqi {r r' : List Int} {w w' : World} {e : Ending} (h : r' = r) (g : Gives r w e w') : Gives r' w e w' := h ▸ g

end Go.Proofs.YtpbbfbpggedgpaaDoor.gl

/-
  The program's rows in memory: a box each, pointers to the rows above and below; isRegular.
-/
namespace Go.Proofs.YtpbbfbpggedgpaaDoor.cy
open Go.ChangeShapes Go.WideShapes Go.ChangeAt Go.RowKit
open Go.Proofs.YtpbbfbpggedgpaaDoor.mem Go.Proofs.YtpbbfbpggedgpaaDoor.ints Go.Proofs.YtpbbfbpggedgpaaDoor.arr Go.Proofs.YtpbbfbpggedgpaaDoor.pm Go.Proofs.YtpbbfbpggedgpaaDoor.permOk Go.Proofs.YtpbbfbpggedgpaaDoor.permOf Go.Proofs.YtpbbfbpggedgpaaDoor.inv Go.Proofs.YtpbbfbpggedgpaaDoor.fns Go.Proofs.YtpbbfbpggedgpaaDoor.sf Go.Proofs.YtpbbfbpggedgpaaDoor.mat Go.Proofs.YtpbbfbpggedgpaaDoor.gl Go.Proofs.YtpbbfbpggedgpaaDoor.lp
set_option linter.unusedVariables false
set_option maxRecDepth 100000

def ptrV (bs : Nat → Nat) (z : Int) : Value := if z < 0 then .pointer none else .pointer (some ⟨bs z.toNat, 0, none⟩)
theorem ptrV_no {bs : Nat → Nat} {z : Int} (h : z < 0) : ptrV bs z = .pointer none := by rw [ptrV, if_pos h]
theorem ptrV_yes (bs : Nat → Nat) (k : Nat) : ptrV bs (k : Int) = .pointer (some ⟨bs k, 0, none⟩) := by rw [ptrV, if_neg (by omega), Int.toNat_natCast]
def ptrs (bs : Nat → Nat) (k : Nat) : List Value := (List.range k).map fun i => Value.pointer (some ⟨bs i, 0, none⟩)
theorem ptrs_len (bs : Nat → Nat) (k : Nat) : (ptrs bs k).length = k := by simp [ptrs]
theorem ptrs_at {bs : Nat → Nat} {k i : Nat} (h : i < k) : (ptrs bs k)[i]? = some (.pointer (some ⟨bs i, 0, none⟩)) := by simp [ptrs, h]
theorem infoPR : (Tryd.prog.info? 102).map (fun i => (i.zero, i.size, i.bytes)) = some (some (.pointer none), 1, 8) := by kernel_rfl
/-- The cells of a row's box. -/
def rowC (P : Option Addr) (n c : Nat) (a b : Value) (m : Bool) : List Value := [.slice P n c, a, b, .bool m]
/-- While the program lays out its rows. -/
structure Ph (w3 wr : World) (R : Nat) (rr : List (List Int)) (bs : Nat → Nat) (v : Value) (k : Nat) (pv : List Value) (a b : Nat → Value) : Prop where
  out : Out R (R + 1) w3 wr
  rlt : R < w3.heap.size
  rof : Arr wr R pv 108
  own : wr.ownsRow w3.heap.size 102 1 v k (ptrs bs k)
  box : ∀ (i : Nat) (xs : List Int), i < k → rr[i]? = some xs → ∃ P c, Arr wr (bs i) (rowC P xs.length c (a i) (b i) false) 104 ∧ Row wr (R + 1) w3.heap.size P xs.length (V xs)
  all : k ≤ rr.length
  ge : ∀ i, i < k → w3.heap.size ≤ bs i
  inj : ∀ i j, i < k → j < k → bs i = bs j → i = j
  sep : ∀ g, v.ownBlock = some g → ∀ i, i < k → g ≠ bs i
theorem own_keepB' {w w' : World} {base B : Nat} {e : TypeId} {size n : Nat} {v : Value} {xs : List Value} (h : w.ownsRow base e size v n xs) (hb : Below B w w') (hB : ∀ b, v.ownBlock = some b → b < B) : w'.ownsRow base e size v n xs := by
  refine ⟨h.1, ?_⟩
  rcases h.2 with h0 | ⟨g, cap, cur, h1, h2, h3, h4⟩
  · exact .inl h0
  · refine .inr ⟨g, cap, cur, h1, h2, ?_, h4⟩
    rw [hb.block g (hB g (by subst h1; rfl))]
    exact h3
theorem Mat.in_ {w : World} {lo hi n k : Nat} {A : Option Addr} {xss : List (List Int)} {xs : List Int} (h : Mat w lo hi A n xss) (hx : xss[k]? = some xs) :
    ∃ G off A' c, A = some ⟨G, off, none⟩ ∧ w.cell? ⟨G, off + k, none⟩ = some (.slice A' xs.length c) ∧ Row w lo hi A' xs.length (V xs) := by
  obtain ⟨h1, h2, hs, bl, G, h3, h4⟩ := h
  have hk : k < n := by have := (List.getElem?_eq_some_iff.1 hx).1; omega
  obtain ⟨q1, q2, q3⟩ := h4 (by omega)
  obtain ⟨A', c, l, u, e, hr, hp, hz⟩ := h3.one hx
  obtain ⟨g, off, v, rfl, g1, g2, hv, hc, _⟩ := q3.at_ hk
  rw [e] at hv
  obtain rfl := Option.some.inj hv
  refine ⟨g, off, A', c, rfl, hc, ?_⟩
  rcases Nat.eq_zero_or_pos xs.length with x0 | x0
  · exact ⟨hr.1, h2, fun q => by omega⟩
  · obtain ⟨b1, b2, b3, b4, b5⟩ := hp x0
    exact hr.wider b1 b2 h2
theorem Row.lows {w w' : World} {lo hi n : Nat} {P : Option Addr} {xs : List Value} (h : Row w lo hi P n xs) (hs : w.heap.size ≤ w'.heap.size) (hb : ∀ k, k < hi → w'.heap[k]? = w.heap[k]?) : Row w' lo hi P n xs := by
  refine ⟨h.1, Nat.le_trans h.2.1 hs, fun hn => ?_⟩
  obtain ⟨g, off, e, hg, hlt, hc⟩ := h.2.2 hn
  refine ⟨g, off, e, hg, hlt, fun j hj => ?_⟩
  rw [World.cell?_of_block (w := w) (a := ⟨g, off + j, none⟩) (hb g hlt), World.frozen?_of_block (w := w) (a := ⟨g, off + j, none⟩) (hb g hlt)]
  exact hc j hj
/-- Whatever stands behind: a new world in which the blocks that matter are as they were. -/
theorem Ph.keep {w3 wr w' : World} {R k : Nat} {rr : List (List Int)} {bs : Nat → Nat} {v : Value} {pv : List Value} {a b : Nat → Value} (h : Ph w3 wr R rr bs v k pv a b) (hb : Below wr.heap.size wr w') : Ph w3 w' R rr bs v k pv a b := by
  have hz := h.out.size
  refine ⟨h.out.trans (Out.of_below hb), h.rlt, h.rof.keep hb h.rof.lt, own_keepB' h.own hb (fun g e => (h.own.lt g e).2), fun i xs hi hx => ?_, h.all, h.ge, h.inj, h.sep⟩
  obtain ⟨P, c, q1, q2⟩ := h.box i xs hi hx
  exact ⟨P, c, q1.keep hb q1.lt, q2.keep hb hz⟩
theorem Ph.start {w3 : World} {R : Nat} {rr : List (List Int)} {pv : List Value} (hR : Arr w3 R pv 108) (bs : Nat → Nat) (a b : Nat → Value) : Ph w3 w3 R rr bs (.slice none 0 0) 0 pv a b :=
  ⟨Out.refl _ _ _, hR.lt, hR, ⟨rfl, .inl ⟨rfl, rfl⟩⟩, fun i xs hi => by omega, Nat.zero_le _, fun i hi => by omega, fun i j hi => by omega, fun g e i hi => by omega⟩
theorem ptrs_push (bs : Nat → Nat) (k g : Nat) : ptrs bs k ++ [Value.pointer (some ⟨g, 0, none⟩)] = ptrs (fun i => if i = k then g else bs i) (k + 1) := by
  unfold ptrs
  rw [List.range_succ, List.map_append]
  congr 1
  · refine List.map_congr_left fun i hi => ?_
    have := List.mem_range.1 hi
    show _ = Value.pointer (some ⟨if i = k then g else bs i, 0, none⟩)
    rw [if_neg (by omega)]
  · simp
theorem Ph.push {w3 wr w' W : World} {R k g cap : Nat} {rr : List (List Int)} {bs : Nat → Nat} {v : Value} {pv : List Value} {a b : Nat → Value} {xs : List Int} {P : Option Addr} {c : Nat} (h : Ph w3 wr R rr bs v k pv a b)
    (hx : rr[k]? = some xs) (ha : a k = .pointer none) (hb0 : b k = .pointer none) (hP : Row wr (R + 1) w3.heap.size P xs.length (V xs))
    (hW : W = (wr.alloc (.cells (rowC P xs.length c (.pointer none) (.pointer none) false).toArray 104)).alloc (.cells #[.pointer (some ⟨wr.heap.size, 0, none⟩)] 102))
    (ho : w'.ownsRow w3.heap.size 102 1 (.slice (some ⟨g, 0, none⟩) (k + 1) cap) (k + 1) (ptrs bs k ++ [.pointer (some ⟨wr.heap.size, 0, none⟩)])) (hg : W.grownBy w' v.ownBlock) (hb : v.ownBlock = some g ∨ g = W.heap.size) :
    Ph w3 w' R rr (fun i => if i = k then wr.heap.size else bs i) (.slice (some ⟨g, 0, none⟩) (k + 1) cap) (k + 1) pv a b := by
  have hz := h.out.size
  have sW : W.heap.size = wr.heap.size + 2 := by rw [hW]; simp
  have bW : Below wr.heap.size wr W := by rw [hW]; exact ((Below.refl _ _).alloc (Nat.le_refl _) _).alloc (by simp) _
  have hk := h.keep bW
  have hsz := hg.size
  have far : ∀ q, q < W.heap.size → v.ownBlock ≠ some q → w'.heap[q]? = W.heap[q]? := fun q h1 h2 => hg.block q h1 (fun e => h2 e.symm)
  have ol : ∀ q, v.ownBlock = some q → w3.heap.size ≤ q ∧ q < wr.heap.size := fun q e => h.own.lt q e
  have lo3 : ∀ q, q < w3.heap.size → w'.heap[q]? = W.heap[q]? := fun q hq => far q (by omega) (fun e => by have := ol q e; omega)
  refine ⟨⟨hg.os.trans hk.out.os, hg.tape.trans hk.out.tape, hg.output.trans hk.out.output, Nat.le_trans hk.out.size hsz, fun q h1 h2 => (lo3 q h1).trans (hk.out.block q h1 h2)⟩, h.rlt, ?_, by rw [← ptrs_push]; exact ho, fun i ys hi hy => ?_, ?_, fun i hi => ?_, fun i j hi hj e => ?_, fun q e i hi => ?_⟩
  · exact (lo3 R h.rlt).trans hk.rof
  · by_cases e : i = k
    · subst e
      have : ys = xs := by rw [hx] at hy; exact (Option.some.inj hy).symm
      subst this
      simp only [if_true]
      rw [ha, hb0]
      refine ⟨P, c, ?_, Row.lows (hP.keep bW hz) hsz lo3⟩
      have hn : Arr W wr.heap.size (rowC P ys.length c (.pointer none) (.pointer none) false) 104 := by rw [hW]; exact (Arr.new wr _ _ rfl).alloc _
      exact (far _ (by omega) (fun e => by have := ol _ e; omega)).trans hn
    · rw [if_neg e]
      obtain ⟨P', c', q1, q2⟩ := hk.box i ys (by omega) hy
      exact ⟨P', c', (far _ q1.lt (fun e2 => h.sep _ e2 i (by omega) rfl)).trans q1, Row.lows q2 hsz lo3⟩
  · have := (List.getElem?_eq_some_iff.1 hx).1; omega
  · show _ ≤ (if i = k then wr.heap.size else bs i)
    split
    · exact hz
    · exact h.ge i (by omega)
  · have lt : ∀ i, i < k → bs i < wr.heap.size := fun i hi => by
      obtain ⟨P', c', q1, q2⟩ := h.box i _ hi (List.getElem?_eq_getElem (by have := h.all; omega))
      exact q1.lt
    have e : (if i = k then wr.heap.size else bs i) = (if j = k then wr.heap.size else bs j) := e
    split at e <;> split at e
    · omega
    · have := lt j (by omega); omega
    · have := lt i (by omega); omega
    · exact h.inj i j (by omega) (by omega) e
  · have e2 : g = q := by simpa [Value.ownBlock] using e
    show q ≠ (if i = k then wr.heap.size else bs i)
    split
    · rcases hb with q1 | q1
      · have := ol g q1; omega
      · omega
    · have lt : bs i < wr.heap.size := by
        obtain ⟨P', c', q1, q2⟩ := h.box i _ (show i < k by omega) (List.getElem?_eq_getElem (by have := h.all; omega))
        exact q1.lt
      rcases hb with q1 | q1
      · rw [← e2]; exact h.sep g q1 i (by omega)
      · omega
theorem Ph.out_ {w3 wr : World} {R k : Nat} {rr : List (List Int)} {bs : Nat → Nat} {v : Value} {pv : List Value} {a b : Nat → Value} (h : Ph w3 wr R rr bs v k pv a b) (x : Nat) (p : Value) : Ph w3 (wr.setCell ⟨R, x, none⟩ p) R rr bs v k (pv.set x p) a b := by
  have hR := h.rlt
  refine ⟨h.out.set_ (Nat.le_refl _) (Nat.lt_succ_self _) _, h.rlt, h.rof.set_ x p, ownsRow_setCell_below h.own hR p, fun i xs hi hx => ?_, h.all, h.ge, h.inj, h.sep⟩
  obtain ⟨P, c, q1, q2⟩ := h.box i xs hi hx
  have := h.ge i hi
  exact ⟨P, c, q1.other (by omega) p, q2.out (Out.set_ (Out.refl R (R + 1) wr) (Nat.le_refl _) (Nat.lt_succ_self _) p) (.inr (Nat.le_refl _))⟩
/-- A pointer of a row's box is written. -/
theorem Ph.ptr {w3 wr : World} {R k m y : Nat} {rr : List (List Int)} {bs : Nat → Nat} {v : Value} {pv : List Value} {a b a' b' : Nat → Value} (h : Ph w3 wr R rr bs v k pv a b) (hm : m < k) (p : Value)
    (hc : ∀ P n c, (rowC P n c (a m) (b m) false).set y p = rowC P n c (a' m) (b' m) false) (hr : ∀ i, i ≠ m → a' i = a i ∧ b' i = b i) : Ph w3 (wr.setCell ⟨bs m, y, none⟩ p) R rr bs v k pv a' b' := by
  have hR := h.rlt
  have hg := h.ge m hm
  have bl : Below w3.heap.size wr (wr.setCell ⟨bs m, y, none⟩ p) := (Below.refl w3.heap.size wr).setCell hg p
  refine ⟨⟨h.out.os, h.out.tape, h.out.output, by simpa [World.setCell] using h.out.size, fun q h1 h2 => (bl.block q h1).trans (h.out.block q h1 h2)⟩, h.rlt, h.rof.other (by omega) p, ownsRow_setCell_other h.own (fun e => h.sep _ e m hm rfl) p, fun i xs hi hx => ?_, h.all, h.ge, h.inj, h.sep⟩
  obtain ⟨P, c, q1, q2⟩ := h.box i xs hi hx
  by_cases e : i = m
  · subst e
    exact ⟨P, c, by rw [← hc]; exact q1.set_ y p, q2.keep bl (Nat.le_refl _)⟩
  · rw [(hr i e).1, (hr i e).2]
    exact ⟨P, c, q1.other (fun e2 => e (h.inj i m hi hm e2)) p, q2.keep bl (Nat.le_refl _)⟩

set_option maxHeartbeats 1000000 in
theorem isReg_any (b n c lo hi : Nat) (P : Option Addr) (x y : Value) (t : Bool) (xs cs : List Int) (w : World) (hb : Arr w b (rowC P n c x y t) 104) (hx : Row w lo hi P n (V xs)) (hl : cs.length = 24) (hn : n ≤ 24) (hxs : ∀ z ∈ xs, 0 ≤ z ∧ z < 24) :
    Calls Tryd.prog 69 #[.pointer (some ⟨b, 0, none⟩), .agg (V cs).toArray] w fun e w' => e = .returned (.bool (regB cs xs)) ∧ Below w.heap.size w w' := by
  have LX : Hid (xs.length = n) := Lib.hid (by simpa [V] using hx.1)
  have HX := Lib.hid hx; have HB := Lib.hid hb; have HL := Lib.hid hl; have HS := Lib.hid hxs; clear hx hb hl hxs
  have hbl : b < w.heap.size := HB.out.lt
  have NA := Lib.hid (Arr.new w (V cs) 67 rfl)
  have B0 := Lib.hid (HB.out.alloc (.cells (V cs).toArray 67))
  have X0 := Lib.hid (HX.out.keep ((Below.refl w.heap.size w).alloc (Nat.le_refl _) (.cells (V cs).toArray 67)) HX.out.2.1)
  have c0 := B0.out.cell (k := 0) rfl
  go_enter Tryd.func69, Tryd.ntmps69
  go_wp2
  have BW : Hid (Below w.heap.size w (w.alloc (.cells (V cs).toArray 67))) := Lib.hid ((Below.refl _ _).alloc (Nat.le_refl _) _)
  generalize w.alloc (.cells (V cs).toArray 67) = w1 at *
  go_loop [12] (fun i => ∃ k : Nat, k ≤ n ∧ i = .int .i64 k ∧ Hid (regB cs (xs.take k) = true)) (fun i => n - (intOf i).toNat)
  case atStart => exact ⟨0, Nat.zero_le _, rfl, Lib.hid (by simp [regB])⟩
  case round =>
    obtain ⟨k, hk, rfl, HN⟩ := hrel
    by_cases hlt : k < n
    · obtain ⟨g, off, u, rfl, _, _, hxu, hcx, _⟩ := X0.out.at_ hlt
      obtain ⟨s, hxs, rfl⟩ := V_at hxu
      obtain ⟨s0, s1⟩ := HS.out s (List.mem_of_getElem? hxs)
      obtain ⟨sn, rfl⟩ : ∃ sn : Nat, s = sn := ⟨s.toNat, by omega⟩
      have hcs : w1.cell? ⟨w.heap.size, sn, none⟩ = some (.int .i64 (cs.getD sn 0)) := NA.out.cell (V_get (get_D (by rw [HL.out]; omega)))
      have TK : Hid (regB cs (xs.take (k + 1)) = decide (cs.getD sn 0 = sn)) := Lib.hid (by rw [regB_take hxs, HN.out, Int.toNat_natCast, Bool.true_and])
      have RF : Hid (¬ cs.getD sn 0 = sn → regB cs xs = false) := Lib.hid (fun q => by
        unfold regB
        rw [List.all_eq_false]
        exact ⟨(sn : Int), List.mem_of_getElem? hxs, by simpa using q⟩)
      clear hxu hxs
      generalize cs.getD sn 0 = z at *
      by_cases hz : z = (sn : Int)
      · have hb : (z != (sn : Int)) = false := by simp [hz]
        have TK2 : Hid (regB cs (xs.take (k + 1)) = true) := Lib.hid (by rw [TK.out]; simp [hz])
        clear hz TK RF
        go_wp2
        go_round
        case rel => exact ⟨k + 1, by omega, by go_num, TK2⟩
        case measure => simp [intOf]; omega
      · have hb : (z != (sn : Int)) = true := by simp [hz]
        have RF2 := Lib.hid (RF.out hz)
        clear hz TK RF
        go_wp2
        go_ret
        exact ⟨ret_bool RF2.out.symm, BW.out⟩
    · have HE : Hid (regB cs xs = true) := Lib.hid (by have h := HN.out; rwa [List.take_of_length_le (by rw [LX.out]; omega)] at h)
      go_wp2
      go_ret
      exact ⟨ret_bool HE.out.symm, BW.out⟩
end Go.Proofs.YtpbbfbpggedgpaaDoor.cy

/-
  The program's rows: laid out, and linked.
-/
namespace Go.Proofs.YtpbbfbpggedgpaaDoor.cy
open Go.ChangeShapes Go.WideShapes Go.ChangeAt Go.RowKit
open Go.Proofs.YtpbbfbpggedgpaaDoor.mem Go.Proofs.YtpbbfbpggedgpaaDoor.ints Go.Proofs.YtpbbfbpggedgpaaDoor.arr Go.Proofs.YtpbbfbpggedgpaaDoor.pm Go.Proofs.YtpbbfbpggedgpaaDoor.permOk Go.Proofs.YtpbbfbpggedgpaaDoor.permOf Go.Proofs.YtpbbfbpggedgpaaDoor.inv Go.Proofs.YtpbbfbpggedgpaaDoor.fns Go.Proofs.YtpbbfbpggedgpaaDoor.sf Go.Proofs.YtpbbfbpggedgpaaDoor.mat Go.Proofs.YtpbbfbpggedgpaaDoor.gl Go.Proofs.YtpbbfbpggedgpaaDoor.lp
set_option linter.unusedVariables false
set_option maxRecDepth 100000

/-- The last place before i whose row above is j. -/
def blw (ab : List Int) : Nat → Nat → Int
  | 0, _ => -1
  | i + 1, j => if at_ ab i = j then i else blw ab i j
theorem blw_mem {ab : List Int} : ∀ {i j k : Nat}, blw ab i j = k → k < i ∧ at_ ab k = j
  | 0, j, k, h => by simp [blw] at h
  | i + 1, j, k, h => by
    rw [blw] at h
    split at h
    · have : i = k := by omega
      subst this
      exact ⟨by omega, by assumption⟩
    · have := blw_mem h
      exact ⟨by omega, this.2⟩
theorem blw_of {N : Nat} {ab : List Int} (h : Inj N ab) : ∀ {i j k : Nat}, i ≤ N → k < i → at_ ab k = j → blw ab i j = k
  | 0, j, k, _, hk, _ => by omega
  | i + 1, j, k, hi, hk, e => by
    rw [blw]
    split
    · rename_i q
      have := h.inj i k j (by omega) (by omega) q e
      omega
    · rename_i q
      have : k ≠ i := fun z => q (z ▸ e)
      exact blw_of h (by omega) (by omega) e
theorem blw_low {ab : List Int} : ∀ (i j : Nat), -1 ≤ blw ab i j ∧ blw ab i j < i
  | 0, j => by simp [blw]
  | i + 1, j => by
    rw [blw]
    have := blw_low (ab := ab) i j
    split <;> omega
def backL (ab : List Int) (N : Nat) : List Int := (List.range N).map fun j => blw ab N j
theorem backL_at {ab : List Int} {N j : Nat} (h : j < N) : at_ (backL ab N) j = blw ab N j := by simp [at_, backL, h]
theorem back_ok {N : Nat} {ab : List Int} (h : Inj N ab) : Back N ab (backL ab N) := by
  refine ⟨by simp [backL], fun i hi => ?_, fun i hi => ?_, fun x k hx hk => ?_⟩
  · rw [backL_at hi]; exact (blw_low _ _).2
  · rw [backL_at hi]; exact (blw_low _ _).1
  · rw [backL_at hx]
    exact ⟨fun q => (blw_mem q).2, fun q => blw_of h (Nat.le_refl _) hk q⟩

/-- The rows, laid out: M tells which are counted. -/
structure Rm (w : World) (B H0 : Nat) (A : Option Addr) (N : Nat) (rr : List (List Int)) (bs : Nat → Nat) (ab bl : List Int) (M : List Bool) : Prop where
  ptr : 0 < N → ∃ g, A = some ⟨g, 0, none⟩ ∧ B ≤ g ∧ g < w.heap.size ∧ (∀ j, j < N → g ≠ bs j) ∧ ∀ i, i < N → w.cell? ⟨g, i, none⟩ = some (.pointer (some ⟨bs i, 0, none⟩))
  box : ∀ (i : Nat) (xs : List Int), rr[i]? = some xs → ∃ P c, Arr w (bs i) (rowC P xs.length c (ptrV bs (at_ ab i)) (ptrV bs (at_ bl i)) (M.getD i false)) 104 ∧ Row w B H0 P xs.length (V xs)
  ge : ∀ i, i < N → H0 ≤ bs i
  inj : ∀ i j, i < N → j < N → bs i = bs j → i = j
  len : rr.length = N
  low : B ≤ H0
theorem Rm.keep {w w' : World} {B H0 N : Nat} {A : Option Addr} {rr : List (List Int)} {bs : Nat → Nat} {ab bl : List Int} {M : List Bool} (h : Rm w B H0 A N rr bs ab bl M) (hb : Below w.heap.size w w') : Rm w' B H0 A N rr bs ab bl M := by
  refine ⟨fun hN => ?_, fun i xs hx => ?_, h.ge, h.inj, h.len, h.low⟩
  · obtain ⟨g, e, q0, q1, q2, q3⟩ := h.ptr hN
    exact ⟨g, e, q0, Nat.lt_of_lt_of_le q1 hb.size, q2, fun i hi => by rw [hb.cell (p := ⟨g, i, none⟩) q1]; exact q3 i hi⟩
  · obtain ⟨P, c, q1, q2⟩ := h.box i xs hx
    exact ⟨P, c, q1.keep hb q1.lt, q2.keep hb q2.2.1⟩
theorem Rm.mark {w : World} {B H0 N m : Nat} {A : Option Addr} {rr : List (List Int)} {bs : Nat → Nat} {ab bl : List Int} {M : List Bool} (h : Rm w B H0 A N rr bs ab bl M) (hm : m < N) (hM : M.length = N) : Rm (w.setCell ⟨bs m, 3, none⟩ (.bool true)) B H0 A N rr bs ab bl (M.set m true) := by
  have hg := h.ge m hm
  refine ⟨fun hN => ?_, fun i xs hx => ?_, h.ge, h.inj, h.len, h.low⟩
  · obtain ⟨g, e, q0, q1, q2, q3⟩ := h.ptr hN
    refine ⟨g, e, q0, by simpa [World.setCell] using q1, q2, fun i hi => ?_⟩
    rw [World.cell?_setCell_other w _ _ _ (by intro e2; injection e2 with e3; exact q2 m hm e3.symm)]
    exact q3 i hi
  · obtain ⟨P, c, q1, q2⟩ := h.box i xs hx
    have hi : i < N := by have := (List.getElem?_eq_some_iff.1 hx).1; have := h.len; omega
    have r2 : Row (w.setCell ⟨bs m, 3, none⟩ (.bool true)) B H0 P xs.length (V xs) := q2.keep ((Below.refl H0 w).setCell hg _) (Nat.le_refl _)
    by_cases e : i = m
    · subst e
      refine ⟨P, c, ?_, r2⟩
      have hv : (M.set i true).getD i false = true := by simp [List.getD, hM, hi]
      rw [hv]
      exact q1.set_ 3 (.bool true)
    · refine ⟨P, c, ?_, r2⟩
      have hv : (M.set m true).getD i false = M.getD i false := by simp [List.getD, List.getElem?_set_ne (Ne.symm e)]
      rw [hv]
      exact q1.other (fun e2 => e (h.inj i m hi hm e2)) _
theorem Rm.lt {w : World} {B H0 N i : Nat} {A : Option Addr} {rr : List (List Int)} {bs : Nat → Nat} {ab bl : List Int} {M : List Bool} (h : Rm w B H0 A N rr bs ab bl M) (hi : i < N) : bs i < w.heap.size := by
  obtain ⟨P, c, q1, q2⟩ := h.box i _ (List.getElem?_eq_getElem (by have := h.len; omega))
  exact q1.lt

def nils : List Value := List.replicate 24 (.pointer none)
def pvF (bs : Nat → Nat) (rr : List (List Int)) (k : Nat) : List Value := (List.range 24).map fun (y : Nat) => ptrV bs (rix (rr.take k) (y : Int))
def pvI (bs : Nat → Nat) (rr : List (List Int)) (k b : Nat) (ys : List Int) : List Value := (List.range 24).map fun (y : Nat) => if (y : Int) ∈ ys then Value.pointer (some ⟨b, 0, none⟩) else ptrV bs (rix (rr.take k) (y : Int))
theorem pvF_zero (bs : Nat → Nat) (rr : List (List Int)) : pvF bs rr 0 = nils := by
  unfold pvF nils
  refine List.ext_getElem? fun i => ?_
  by_cases hi : i < 24
  · rw [List.getElem?_replicate, if_pos hi]; simp [hi, rix, ptrV]
  · rw [List.getElem?_eq_none (by simp; omega), List.getElem?_eq_none (by simp; omega)]
theorem ptrV_congr {bs bs' : Nat → Nat} {z : Int} {k : Nat} (hz : z < k) (h : ∀ i, i < k → bs' i = bs i) : ptrV bs' z = ptrV bs z := by
  unfold ptrV
  split
  · rfl
  · rw [h z.toNat (by omega)]
theorem pvI_nil {bs bs' : Nat → Nat} {rr : List (List Int)} {k b : Nat} (hk : k ≤ rr.length) (h : ∀ i, i < k → bs' i = bs i) : pvI bs' rr k b [] = pvF bs rr k := by
  unfold pvI pvF
  refine List.map_congr_left fun y hy => ?_
  rw [if_neg (by simp)]
  exact ptrV_congr (k := k) (by have := (rix_low (rr.take k) (y : Int)).2; simp at this; omega) h
theorem pvI_set {bs : Nat → Nat} {rr : List (List Int)} {k b x : Nat} {ys : List Int} (hx : x < 24) : (pvI bs rr k b ys).set x (.pointer (some ⟨b, 0, none⟩)) = pvI bs rr k b (ys ++ [(x : Int)]) := by
  unfold pvI
  refine List.ext_getElem? fun i => ?_
  by_cases hi : i < 24
  · by_cases e : i = x
    · subst e; rw [List.getElem?_set_self (by simp; omega)]; simp [hi]
    · rw [List.getElem?_set_ne (Ne.symm e)]
      have : ¬ ((i : Int) = (x : Int)) := by omega
      simp [hi, this]
  · rw [List.getElem?_eq_none (by simp; omega), List.getElem?_eq_none (by simp; omega)]
theorem rix_snoc {rr : List (List Int)} {k : Nat} {xs : List Int} {y : Int} (hk : rr[k]? = some xs) (hd : y ∈ xs → ∀ j, j < k → ∀ zs, rr[j]? = some zs → ¬ y ∈ zs) : rix (rr.take (k + 1)) y = if y ∈ xs then (k : Int) else rix (rr.take k) y := by
  have hkl := (List.getElem?_eq_some_iff.1 hk).1
  split
  · rename_i q
    refine rix_at (xs := xs) (by rw [List.getElem?_take, if_pos (by omega)]; exact hk) q fun j hj zs hz => ?_
    rw [List.getElem?_take, if_pos (by omega)] at hz
    exact hd q j hj zs hz
  · rename_i q
    have lo := rix_low (rr.take k) y
    by_cases hn : rix (rr.take k) y < 0
    · have hnone : ∀ (j : Nat) (zs : List Int), (rr.take (k + 1))[j]? = some zs → ¬ y ∈ zs := by
        intro j zs hz hy
        rw [List.getElem?_take] at hz
        split at hz
        · by_cases e : j = k
          · subst e; rw [hk] at hz; obtain rfl := Option.some.inj hz; exact q hy
          · -- the first row that holds y has a place
            have hex : ∃ m : Nat, rix (rr.take k) y = m := by
              have hgen : ∀ (L : List (List Int)) (i : Nat) (zs : List Int), L[i]? = some zs → y ∈ zs → 0 ≤ rix L y := by
                intro L
                induction L with
                | nil => intro i zs h; simp at h
                | cons a t ih =>
                  intro i zs h hy
                  rw [rix]
                  split
                  · omega
                  · rename_i na
                    cases i with
                    | zero => obtain rfl : a = zs := by simpa using h
                              exact absurd hy na
                    | succ i =>
                      have := ih i zs (by simpa using h) hy
                      split <;> omega
              have := hgen (rr.take k) j zs (by rw [List.getElem?_take, if_pos (by omega)]; exact hz) hy
              omega
            obtain ⟨m, hm⟩ := hex
            omega
        · cases hz
      rw [rix_none hnone]; omega
    · obtain ⟨m, hm⟩ : ∃ m : Nat, rix (rr.take k) y = m := ⟨(rix (rr.take k) y).toNat, by omega⟩
      obtain ⟨zs, h1, h2⟩ := rix_mem hm
      have hmk : m < k := by have := lo.2; simp at this; omega
      rw [hm]
      -- the same first place in the longer list
      have hgen : ∀ (L : List (List Int)) (a : List Int), rix L y = (m : Int) → rix (L ++ [a]) y = (m : Int) := by
        intro L a
        induction L generalizing m with
        | nil => intro h; simp [rix] at h
        | cons b t ih =>
          intro h
          rw [rix] at h
          rw [List.cons_append, rix]
          split at h
          · rename_i qb; rw [if_pos qb]; exact h
          · rename_i qb
            rw [if_neg qb]
            split at h
            · omega
            · rename_i q2
              have e : rix t y = ((m - 1 : Nat) : Int) := by omega
              have h3 : rix (t ++ [a]) y = ((m - 1 : Nat) : Int) := by
                have aux : ∀ (L : List (List Int)) (j : Nat), rix L y = (j : Int) → rix (L ++ [a]) y = (j : Int) := by
                  intro L
                  induction L with
                  | nil => intro j h; simp [rix] at h
                  | cons c s ihs =>
                    intro j h
                    rw [rix] at h
                    rw [List.cons_append, rix]
                    split at h
                    · rename_i qc; rw [if_pos qc]; exact h
                    · rename_i qc
                      rw [if_neg qc]
                      split at h
                      · omega
                      · have := ihs (j - 1) (by omega)
                        rw [this, if_neg (by omega)]
                        omega
                exact aux t _ e
              rw [h3, if_neg (by omega)]
              omega
      rw [List.take_add_one, hk]
      exact hgen _ _ hm
theorem pvF_next {bs : Nat → Nat} {rr : List (List Int)} {k b : Nat} {xs : List Int} (hk : rr[k]? = some xs) (hb : bs k = b) (hd : ∀ y : Int, y ∈ xs → ∀ j, j < k → ∀ zs, rr[j]? = some zs → ¬ y ∈ zs) : pvI bs rr k b xs = pvF bs rr (k + 1) := by
  unfold pvI pvF
  refine List.map_congr_left fun y hy => ?_
  rw [rix_snoc hk (hd (y : Int))]
  split
  · rw [ptrV_yes, hb]
  · rfl
theorem pvF_at {bs : Nat → Nat} {rr : List (List Int)} {k y : Nat} (hy : y < 24) : (pvF bs rr k)[y]? = some (ptrV bs (rix (rr.take k) (y : Int))) := by simp [pvF, hy]
end Go.Proofs.YtpbbfbpggedgpaaDoor.cy
