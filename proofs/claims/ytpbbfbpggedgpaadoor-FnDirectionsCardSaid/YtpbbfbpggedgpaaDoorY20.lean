import Derived.Test.YtpbbfbpggedgpaaDoorY12
import Derived.Test.YtpbbfbpggedgpaaDoorY08
import Derived.Test.YtpbbfbpggedgpaaDoorY04
import Derived.Test.YtpbbfbpggedgpaaDoorY05
import Derived.Shelf.Abstract
import Derived.StillTailTactics
/-
  The model's letters t, S and s: l05Unshear, l05Turn, l05Unturn.
-/
namespace Go.Proofs.YtpbbfbpggedgpaaDoor.mk
open Go.ChangeShapes Go.WideShapes Go.ChangeAt Go.RowKit
open Go.Proofs.YtpbbfbpggedgpaaDoor.mem Go.Proofs.YtpbbfbpggedgpaaDoor.ints Go.Proofs.YtpbbfbpggedgpaaDoor.arr Go.Proofs.YtpbbfbpggedgpaaDoor.pm Go.Proofs.YtpbbfbpggedgpaaDoor.permOk Go.Proofs.YtpbbfbpggedgpaaDoor.permOf Go.Proofs.YtpbbfbpggedgpaaDoor.inv Go.Proofs.YtpbbfbpggedgpaaDoor.fns Go.Proofs.YtpbbfbpggedgpaaDoor.sf Go.Proofs.YtpbbfbpggedgpaaDoor.gl
set_option linter.unusedVariables false
set_option maxRecDepth 100000
/-- A row that begins at a block's first cell lies in that block alone. -/
theorem _root_.Go.Proofs.YtpbbfbpggedgpaaDoor.mem.Row.one {w : World} {lo hi g n : Nat} {xs : List Value} (h : Row w lo hi (some ⟨g, 0, none⟩) n xs) (hg : g < w.heap.size) : Row w g (g + 1) (some ⟨g, 0, none⟩) n xs :=
  ⟨h.1, hg, fun hn => by
    obtain ⟨g', o', e, _, _, hc⟩ := h.2.2 hn
    injection e with e; injection e with e1 e2 e3
    subst e1; subst e2
    exact ⟨_, _, rfl, Nat.le_refl _, Nat.lt_succ_self _, hc⟩⟩
theorem own_keep {w w' : World} {base B : Nat} {e : TypeId} {g n c : Nat} {xs : List Value} (h : w.ownsRow base e 1 (.slice (some ⟨g, 0, none⟩) n c) n xs) (hb : Below B w w') (hB : g < B) : w'.ownsRow base e 1 (.slice (some ⟨g, 0, none⟩) n c) n xs := by
  refine ⟨h.1, ?_⟩
  rcases h.2 with ⟨h0, _⟩ | ⟨g', cap, cur, q1, q2, q3, q4⟩
  · exact absurd h0 (by simp)
  · refine .inr ⟨g', cap, cur, q1, q2, ?_, q4⟩
    injection q1 with q1 _ _; injection q1 with q1; injection q1 with q1 _ _
    subst q1
    rw [hb.block _ hB]; exact q3
theorem row_far {w w' : World} {base : Nat} {e : TypeId} {size n : Nat} {v : Value} {xs : List Value} {lo hi k : Nat} {A : Option Addr} {ys : List Value} (_ : w.ownsRow base e size v n xs) (hg : w.grownBy w' v.ownBlock)
    (h : Row w lo hi A k ys) (hf : ∀ b, v.ownBlock = some b → b < lo ∨ hi ≤ b) : Row w' lo hi A k ys := by
  refine ⟨h.1, Nat.le_trans h.2.1 hg.size, fun hn => ?_⟩
  obtain ⟨g, off, e, h1, h2, hc⟩ := h.2.2 hn
  refine ⟨g, off, e, h1, h2, fun j hj => ?_⟩
  have hne : some g ≠ v.ownBlock := fun q => by rcases hf g q.symm with h | h <;> omega
  have hb := hg.block g (by have := h.2.1; omega) hne
  obtain ⟨a, b⟩ := hc j hj
  exact ⟨by rw [← a]; exact World.cell?_of_block (a := ⟨g, off + j, none⟩) hb, by rw [← b]; simp only [World.frozen?, hb]⟩
theorem mk3 {w : World} {lo : Nat} {A B : Option Addr} {n m c d l1 h1 l2 h2 : Nat} {r u : List Int} (a : Row w l1 h1 A n (V r)) (b : Row w l2 h2 B m (V u)) (hc : n ≤ c) (hd : m ≤ d) (q1 : lo ≤ l1) (q2 : lo ≤ l2) (hx : h1 ≤ l2 ∨ h2 ≤ l1) :
    Svl w lo w.heap.size (.agg #[.slice A n c, .slice B m d]) r u :=
  ⟨A, n, c, B, m, d, l1, h1, l2, h2, rfl, a, b, hc, hd, q1, a.2.1, q2, b.2.1, hx, Nat.le_refl _⟩
end Go.Proofs.YtpbbfbpggedgpaaDoor.mk

/-
  RenameSurface of the program.
-/
namespace Go.Proofs.YtpbbfbpggedgpaaDoor.gl
open Go.ChangeShapes Go.WideShapes Go.ChangeAt Go.RowKit
open Go.Proofs.YtpbbfbpggedgpaaDoor.mem Go.Proofs.YtpbbfbpggedgpaaDoor.ints Go.Proofs.YtpbbfbpggedgpaaDoor.arr Go.Proofs.YtpbbfbpggedgpaaDoor.pm Go.Proofs.YtpbbfbpggedgpaaDoor.permOk Go.Proofs.YtpbbfbpggedgpaaDoor.permOf Go.Proofs.YtpbbfbpggedgpaaDoor.inv Go.Proofs.YtpbbfbpggedgpaaDoor.fns Go.Proofs.YtpbbfbpggedgpaaDoor.sf
set_option linter.unusedVariables false
set_option maxRecDepth 100000

theorem take_ren24 {n : Nat} {xs ys : List Int} (h : Ok xs) (h' : Ok ys) (lx : xs.length = n) (ly : ys.length = n) : (ren24 (ext xs) (ext ys)).take n = renTo n xs ys n := by
  rw [ren24_ext h h' lx ly]
  have e := ext_take (renTo n xs ys n) (by rw [renTo_len]; have := h.len; omega)
  rwa [renTo_len] at e

end Go.Proofs.YtpbbfbpggedgpaaDoor.gl

/-
  What the letters answer (any lists); ShearSurface, UnshearSurface, TurnSurface, UnturnSurface of the model.
-/
namespace Go.Proofs.YtpbbfbpggedgpaaDoor.lw
open Go.ChangeShapes Go.WideShapes Go.ChangeAt Go.RowKit
open Go.Proofs.YtpbbfbpggedgpaaDoor.mem Go.Proofs.YtpbbfbpggedgpaaDoor.ints Go.Proofs.YtpbbfbpggedgpaaDoor.arr Go.Proofs.YtpbbfbpggedgpaaDoor.pm Go.Proofs.YtpbbfbpggedgpaaDoor.permOk Go.Proofs.YtpbbfbpggedgpaaDoor.permOf Go.Proofs.YtpbbfbpggedgpaaDoor.inv Go.Proofs.YtpbbfbpggedgpaaDoor.fns Go.Proofs.YtpbbfbpggedgpaaDoor.sf Go.Proofs.YtpbbfbpggedgpaaDoor.gl Go.Proofs.YtpbbfbpggedgpaaDoor.mk
set_option linter.unusedVariables false
set_option maxRecDepth 100000
/-- What a function on surfaces answers: the empty surface, if the lists are no surface. -/
def acR (f : Sur → Sur) (r u : List Int) : List Int := if transB r u then (f (r, u)).1 else []
def acU (f : Sur → Sur) (r u : List Int) : List Int := if transB r u then (f (r, u)).2 else []
theorem ac_yes (f : Sur → Sur) {r u : List Int} (h : transB r u = true) : acR f r u = (f (r, u)).1 ∧ acU f r u = (f (r, u)).2 := by simp [acR, acU, h]
theorem ac_no (f : Sur → Sur) {r u : List Int} (h : transB r u = false) : acR f r u = [] ∧ acU f r u = [] := by simp [acR, acU, h]
/-- It keeps surfaces. -/
def Keeps (f : Sur → Sur) : Prop := ∀ n R U, Sf n R U → Sf n (f (R, U)).1 (f (R, U)).2
theorem acR_le {f : Sur → Sur} (hf : Keeps f) (r u : List Int) : (acR f r u).length ≤ 1048576 := by
  unfold acR; split
  · rename_i h; have s := hf _ _ _ (transB_iff.1 h); have := s.r.len; omega
  · simp
theorem acU_le {f : Sur → Sur} (hf : Keeps f) (r u : List Int) : (acU f r u).length ≤ 1048576 := by
  unfold acU; split
  · rename_i h; have s := hf _ _ _ (transB_iff.1 h); have := s.u.len; omega
  · simp
theorem sh_keeps : Keeps shearS := fun n R U s => shear_sf s
def shR (r u : List Int) : List Int := acR shearS r u
def shU (r u : List Int) : List Int := acU shearS r u
theorem shR_len (r u : List Int) : (shR r u).length ≤ 1048576 := acR_le sh_keeps r u
theorem shU_len (r u : List Int) : (shU r u).length ≤ 1048576 := acU_le sh_keeps r u
theorem us_keeps : Keeps unshearS := fun n R U s => unshear_sf s
def usR (r u : List Int) : List Int := acR unshearS r u
def usU (r u : List Int) : List Int := acU unshearS r u
theorem usR_len (r u : List Int) : (usR r u).length ≤ 1048576 := acR_le us_keeps r u
theorem usU_len (r u : List Int) : (usU r u).length ≤ 1048576 := acU_le us_keeps r u
theorem tu_keeps : Keeps turnS := fun n R U s => turn_sf s
def tuR (r u : List Int) : List Int := acR turnS r u
def tuU (r u : List Int) : List Int := acU turnS r u
theorem tuR_len (r u : List Int) : (tuR r u).length ≤ 1048576 := acR_le tu_keeps r u
theorem tuU_len (r u : List Int) : (tuU r u).length ≤ 1048576 := acU_le tu_keeps r u
theorem ut_keeps : Keeps unturnS := fun n R U s => unturn_sf s
def utR (r u : List Int) : List Int := acR unturnS r u
def utU (r u : List Int) : List Int := acU unturnS r u
theorem utR_len (r u : List Int) : (utR r u).length ≤ 1048576 := acR_le ut_keeps r u
theorem utU_len (r u : List Int) : (utU r u).length ≤ 1048576 := acU_le ut_keeps r u
end Go.Proofs.YtpbbfbpggedgpaaDoor.lw

/-
  The program's letters: the function literals of its table, each on a gluing.
-/
namespace Go.Proofs.YtpbbfbpggedgpaaDoor.la
open Go.ChangeShapes Go.WideShapes Go.ChangeAt Go.RowKit
open Go.Proofs.YtpbbfbpggedgpaaDoor.mem Go.Proofs.YtpbbfbpggedgpaaDoor.ints Go.Proofs.YtpbbfbpggedgpaaDoor.arr Go.Proofs.YtpbbfbpggedgpaaDoor.pm Go.Proofs.YtpbbfbpggedgpaaDoor.permOk Go.Proofs.YtpbbfbpggedgpaaDoor.permOf Go.Proofs.YtpbbfbpggedgpaaDoor.inv Go.Proofs.YtpbbfbpggedgpaaDoor.fns Go.Proofs.YtpbbfbpggedgpaaDoor.sf Go.Proofs.YtpbbfbpggedgpaaDoor.gl Go.Proofs.YtpbbfbpggedgpaaDoor.mk Go.Proofs.YtpbbfbpggedgpaaDoor.lw
set_option linter.unusedVariables false
set_option maxRecDepth 100000
set_option maxHeartbeats 8000000 in
theorem lit1 (r u : List Int) (n : Nat) (w : World) (hs : Sf n r u) :
    Calls Tryd.prog 63 #[.agg (V (gl (ext r) (ext u) n)).toArray] w fun e w' => e = .returned (.agg (V (gl (ext r) (ext (thn (Inv r) u)) n)).toArray) ∧ Below w.heap.size w w' := by
  have HS := Lib.hid hs
  have RS := Lib.hid hs.r.sq; have US := Lib.hid hs.u.sq
  have ER := Lib.hid (inv_ext hs.r); have EU := Lib.hid (inv_ext hs.u)
  clear hs
  go_enter Tryd.func63, Tryd.ntmps63
  go_wp2_with fail
  generalize hw1 : (w.alloc (.cells (V (gl (ext r) (ext u) n)).toArray 69)).alloc (.cells #[.int .i64 0, .int .i64 0, .int .i64 0, .int .i64 0, .int .i64 0, .int .i64 0, .int .i64 0, .int .i64 0, .int .i64 0, .int .i64 0, .int .i64 0, .int .i64 0, .int .i64 0, .int .i64 0, .int .i64 0, .int .i64 0, .int .i64 0, .int .i64 0, .int .i64 0, .int .i64 0, .int .i64 0, .int .i64 0, .int .i64 0, .int .i64 0, .int .i64 0, .int .i64 0, .int .i64 0, .int .i64 0, .int .i64 0, .int .i64 0, .int .i64 0, .int .i64 0, .int .i64 0, .int .i64 0, .int .i64 0, .int .i64 0, .int .i64 0, .int .i64 0, .int .i64 0, .int .i64 0, .int .i64 0, .int .i64 0, .int .i64 0, .int .i64 0, .int .i64 0, .int .i64 0, .int .i64 0, .int .i64 0, .int .i64 0] 69) = w1
  have A0 : Hid (Arr w1 w.heap.size (V (gl (ext r) (ext u) n)) 69) := Lib.hid (by rw [← hw1]; exact (Arr.new w _ _ rfl).alloc _)
  have A1 : Hid (Arr w1 (w.heap.size + 1) (V zero49) 69) := Lib.hid (by rw [← hw1]; exact Arr.new _ (V zero49) _ (by simp))
  have B1 : Hid (Below w.heap.size w w1) := Lib.hid (by rw [← hw1]; exact ((Below.refl _ _).alloc (Nat.le_refl _) _).alloc (by simp) _)
  have s1 : w1.heap.size = w.heap.size + 2 := by rw [← hw1]; simp
  clear hw1
  refine wp_region_held_drew (S := Hld w.heap.size w1.heap.size w1 [(w.heap.size, (V (gl (ext r) (ext u) n)))]) (by kernel_rfl) ((Hld.start1 A0.out).lower (by omega)) (fun hHeld => ?_)
  have b1 : Below w1.heap.size w1 w1.drew := ⟨rfl, rfl, rfl, Nat.le_refl _, fun _ _ => rfl⟩
  generalize w1.drew = w2 at *
  have s2 := b1.size
  replace A1 := Lib.hid (A1.out.keep b1 A1.out.lt)
  replace B1 := Lib.hid (B1.out.trans (b1.mono B1.out.size))
  clear b1 A0
  refine wpAnyH_take (i := 0) (v := .pointer (some ⟨w.heap.size, 0, none⟩)) rfl (by kernel_rfl) (by kernel_rfl) (by kernel_rfl) (fun _ _ _ h => h) (Or.inl ⟨by rfl, fun w hSw => by go_simp⟩) hHeld ?_
  refine wpAnyH_take (i := 2) (v := .pointer (some ⟨w.heap.size, 0, none⟩)) rfl (by kernel_rfl) (by kernel_rfl) (by kernel_rfl) (fun _ _ _ h => h) (Or.inl ⟨by rfl, fun w hSw => by go_simp⟩) hHeld ?_
  refine wpAnyH_take (i := 5) (v := .pointer (some ⟨w.heap.size, 24, none⟩)) rfl (by kernel_rfl) (by kernel_rfl) (by kernel_rfl) (fun _ _ _ h => h) (Or.inl ⟨by rfl, fun w hSw => by go_simp⟩) hHeld ?_
  refine wpAnyH_take (i := 8) (v := .pointer (some ⟨w.heap.size, 48, none⟩)) rfl (by kernel_rfl) (by kernel_rfl) (by kernel_rfl) (fun _ _ _ h => h) (Or.inl ⟨by rfl, fun w hSw => by go_simp⟩) hHeld ?_
  refine wpAnyH_take (i := 1) (v := .agg (V (ext r)).toArray) rfl (by kernel_rfl) (by kernel_rfl) (by kernel_rfl) (fun _ _ _ h => h) (yieldsIf_load_mid (by rfl) _ _ rfl (w.heap.size) 0 rfl (V (ext r)) _ (fun w h => rg_right (ext_len _) h.fst) Tryd.underlying67 rfl (hi24 (ext_len _))) hHeld ?_
  refine wpAnyH_take (i := 3) (v := .agg (V (ext r)).toArray) rfl (by kernel_rfl) (by kernel_rfl) (by kernel_rfl) (fun _ _ _ h => h) (yieldsIf_load_mid (by rfl) _ _ rfl (w.heap.size) 0 rfl (V (ext r)) _ (fun w h => rg_right (ext_len _) h.fst) Tryd.underlying67 rfl (hi24 (ext_len _))) hHeld ?_
  refine wpAnyH_take (i := 6) (v := .agg (V (ext u)).toArray) rfl (by kernel_rfl) (by kernel_rfl) (by kernel_rfl) (fun _ _ _ h => h) (yieldsIf_load_mid (by rfl) _ _ rfl (w.heap.size) 24 rfl (V (ext u)) _ (fun w h => rg_up (ext_len _) (ext_len _) h.fst) Tryd.underlying67 rfl (hi24 (ext_len _))) hHeld ?_
  refine wpAnyH_take (i := 9) (v := .int .i64 n) rfl (by kernel_rfl) (by kernel_rfl) (by kernel_rfl) (fun _ _ _ h => h) (Or.inl ⟨by rfl, fun w hSw => by have := rg_count (ext_len _) (ext_len _) hSw.fst; go_simp⟩) hHeld ?_
  refine wpAnyH_ready (rs := [4]) (by kernel_rfl) (by simp) (AllReadyH.cons rfl (fun K hK => ?_) AllReadyH.nil)
  go_simp
  refine (inverse_any (ext r) _ RS.out).mono ?_
  rintro e w' ⟨rfl, b1⟩
  rw [ER.out]
  replace A1 := Lib.hid (A1.out.keep b1 A1.out.lt)
  replace B1 := Lib.hid (B1.out.trans (b1.mono B1.out.size))
  go_wp2_with fail
  have hHeld2 := hHeld.later b1 (by omega); clear b1 hHeld
  refine hK.out _ _ hHeld2 (fun hHeld => ?_)
  clear hK K hHeld2
  refine wpAnyH_ready (rs := [7]) (by kernel_rfl) (by simp) (AllReadyH.cons rfl (fun K hK => ?_) AllReadyH.nil)
  go_simp
  refine (inv.then_any (ext (Inv r)) (ext u) _ (Inv_ok HS.out.r).sq US.out).mono ?_
  rintro e w' ⟨rfl, b1⟩
  rw [thn_ext (Inv_ok HS.out.r) HS.out.u (by rw [Inv_len, HS.out.lr, HS.out.lu])]
  replace A1 := Lib.hid (A1.out.keep b1 A1.out.lt)
  replace B1 := Lib.hid (B1.out.trans (b1.mono B1.out.size))
  go_wp2_with fail
  have hHeld2 := hHeld.later b1 (by omega); clear b1 hHeld
  refine hK.out _ _ hHeld2 (fun hHeld => ?_)
  clear hK K hHeld2
  refine wpAnyH_ready (rs := [10]) (by kernel_rfl) (by simp) (AllReadyH.cons rfl (fun K hK => ?_) AllReadyH.nil)
  refine step_build rfl 69 _ rfl [(0, .agg (V (ext r)).toArray), (1, .agg (V (ext (thn (Inv r) u))).toArray), (2, .int .i64 n)] rfl (V (gl (ext r) (ext (thn (Inv r) u)) n)).toArray (built_gl (ext_len _) (ext_len _) n) ?_
  refine hK.out _ _ hHeld (fun hHeld2 => ?_)
  clear hK K hHeld2
  refine wpAnyH_ready (rs := [11]) (by kernel_rfl) (by simp) (AllReadyH.cons rfl (fun K hK => ?_) AllReadyH.nil)
  refine step_store_row rfl 69 _ _ rfl (w.heap.size + 1) (V (gl (ext r) (ext (thn (Inv r) u)) n)).toArray rfl rfl 69 (V zero49).toArray A1.out (size49 (gl_len (ext_len _) (ext_len _) n)) (by simp [V_len, gl_len, ext_len, zero49]) (one_V _) ?_
  refine hK.out _ _ (hHeld.other (by omega) (by simp) _) (fun hHeld2 => ?_)
  clear hK K hHeld2
  refine wpAnyH_done (by kernel_rfl) ?_ _
  go_wp2_with fail
  exact bodyPost_ret (v := .agg (V (gl (ext r) (ext (thn (Inv r) u)) n)).toArray) (results_cell_row rfl _ _ (w.heap.size + 1) 69 (V (gl (ext r) (ext (thn (Inv r) u)) n)).toArray (0, 0) _ rfl A1.out.row Tryd.underlying69 rfl (size49 (gl_len (ext_len _) (ext_len _) n))) rfl ⟨rfl, below_setRow B1.out (by omega) _⟩
set_option maxHeartbeats 8000000 in
theorem lit2 (r u : List Int) (n : Nat) (w : World) (hs : Sf n r u) :
    Calls Tryd.prog 65 #[.agg (V (gl (ext r) (ext u) n)).toArray] w fun e w' => e = .returned (.agg (V (gl (ext r) (ext (thn r u)) n)).toArray) ∧ Below w.heap.size w w' := by
  have HS := Lib.hid hs
  have RS := Lib.hid hs.r.sq; have US := Lib.hid hs.u.sq
  have ER := Lib.hid (inv_ext hs.r); have EU := Lib.hid (inv_ext hs.u)
  clear hs
  go_enter Tryd.func65, Tryd.ntmps65
  go_wp2_with fail
  generalize hw1 : (w.alloc (.cells (V (gl (ext r) (ext u) n)).toArray 69)).alloc (.cells #[.int .i64 0, .int .i64 0, .int .i64 0, .int .i64 0, .int .i64 0, .int .i64 0, .int .i64 0, .int .i64 0, .int .i64 0, .int .i64 0, .int .i64 0, .int .i64 0, .int .i64 0, .int .i64 0, .int .i64 0, .int .i64 0, .int .i64 0, .int .i64 0, .int .i64 0, .int .i64 0, .int .i64 0, .int .i64 0, .int .i64 0, .int .i64 0, .int .i64 0, .int .i64 0, .int .i64 0, .int .i64 0, .int .i64 0, .int .i64 0, .int .i64 0, .int .i64 0, .int .i64 0, .int .i64 0, .int .i64 0, .int .i64 0, .int .i64 0, .int .i64 0, .int .i64 0, .int .i64 0, .int .i64 0, .int .i64 0, .int .i64 0, .int .i64 0, .int .i64 0, .int .i64 0, .int .i64 0, .int .i64 0, .int .i64 0] 69) = w1
  have A0 : Hid (Arr w1 w.heap.size (V (gl (ext r) (ext u) n)) 69) := Lib.hid (by rw [← hw1]; exact (Arr.new w _ _ rfl).alloc _)
  have A1 : Hid (Arr w1 (w.heap.size + 1) (V zero49) 69) := Lib.hid (by rw [← hw1]; exact Arr.new _ (V zero49) _ (by simp))
  have B1 : Hid (Below w.heap.size w w1) := Lib.hid (by rw [← hw1]; exact ((Below.refl _ _).alloc (Nat.le_refl _) _).alloc (by simp) _)
  have s1 : w1.heap.size = w.heap.size + 2 := by rw [← hw1]; simp
  clear hw1
  refine wp_region_held_drew (S := Hld w.heap.size w1.heap.size w1 [(w.heap.size, (V (gl (ext r) (ext u) n)))]) (by kernel_rfl) ((Hld.start1 A0.out).lower (by omega)) (fun hHeld => ?_)
  have b1 : Below w1.heap.size w1 w1.drew := ⟨rfl, rfl, rfl, Nat.le_refl _, fun _ _ => rfl⟩
  generalize w1.drew = w2 at *
  have s2 := b1.size
  replace A1 := Lib.hid (A1.out.keep b1 A1.out.lt)
  replace B1 := Lib.hid (B1.out.trans (b1.mono B1.out.size))
  clear b1 A0
  refine wpAnyH_take (i := 0) (v := .pointer (some ⟨w.heap.size, 0, none⟩)) rfl (by kernel_rfl) (by kernel_rfl) (by kernel_rfl) (fun _ _ _ h => h) (Or.inl ⟨by rfl, fun w hSw => by go_simp⟩) hHeld ?_
  refine wpAnyH_take (i := 2) (v := .pointer (some ⟨w.heap.size, 0, none⟩)) rfl (by kernel_rfl) (by kernel_rfl) (by kernel_rfl) (fun _ _ _ h => h) (Or.inl ⟨by rfl, fun w hSw => by go_simp⟩) hHeld ?_
  refine wpAnyH_take (i := 4) (v := .pointer (some ⟨w.heap.size, 24, none⟩)) rfl (by kernel_rfl) (by kernel_rfl) (by kernel_rfl) (fun _ _ _ h => h) (Or.inl ⟨by rfl, fun w hSw => by go_simp⟩) hHeld ?_
  refine wpAnyH_take (i := 7) (v := .pointer (some ⟨w.heap.size, 48, none⟩)) rfl (by kernel_rfl) (by kernel_rfl) (by kernel_rfl) (fun _ _ _ h => h) (Or.inl ⟨by rfl, fun w hSw => by go_simp⟩) hHeld ?_
  refine wpAnyH_take (i := 1) (v := .agg (V (ext r)).toArray) rfl (by kernel_rfl) (by kernel_rfl) (by kernel_rfl) (fun _ _ _ h => h) (yieldsIf_load_mid (by rfl) _ _ rfl (w.heap.size) 0 rfl (V (ext r)) _ (fun w h => rg_right (ext_len _) h.fst) Tryd.underlying67 rfl (hi24 (ext_len _))) hHeld ?_
  refine wpAnyH_take (i := 3) (v := .agg (V (ext r)).toArray) rfl (by kernel_rfl) (by kernel_rfl) (by kernel_rfl) (fun _ _ _ h => h) (yieldsIf_load_mid (by rfl) _ _ rfl (w.heap.size) 0 rfl (V (ext r)) _ (fun w h => rg_right (ext_len _) h.fst) Tryd.underlying67 rfl (hi24 (ext_len _))) hHeld ?_
  refine wpAnyH_take (i := 5) (v := .agg (V (ext u)).toArray) rfl (by kernel_rfl) (by kernel_rfl) (by kernel_rfl) (fun _ _ _ h => h) (yieldsIf_load_mid (by rfl) _ _ rfl (w.heap.size) 24 rfl (V (ext u)) _ (fun w h => rg_up (ext_len _) (ext_len _) h.fst) Tryd.underlying67 rfl (hi24 (ext_len _))) hHeld ?_
  refine wpAnyH_take (i := 8) (v := .int .i64 n) rfl (by kernel_rfl) (by kernel_rfl) (by kernel_rfl) (fun _ _ _ h => h) (Or.inl ⟨by rfl, fun w hSw => by have := rg_count (ext_len _) (ext_len _) hSw.fst; go_simp⟩) hHeld ?_
  refine wpAnyH_ready (rs := [6]) (by kernel_rfl) (by simp) (AllReadyH.cons rfl (fun K hK => ?_) AllReadyH.nil)
  go_simp
  refine (inv.then_any (ext r) (ext u) _ RS.out US.out).mono ?_
  rintro e w' ⟨rfl, b1⟩
  rw [thn_ext HS.out.r HS.out.u (by rw [HS.out.lr, HS.out.lu])]
  replace A1 := Lib.hid (A1.out.keep b1 A1.out.lt)
  replace B1 := Lib.hid (B1.out.trans (b1.mono B1.out.size))
  go_wp2_with fail
  have hHeld2 := hHeld.later b1 (by omega); clear b1 hHeld
  refine hK.out _ _ hHeld2 (fun hHeld => ?_)
  clear hK K hHeld2
  refine wpAnyH_ready (rs := [9]) (by kernel_rfl) (by simp) (AllReadyH.cons rfl (fun K hK => ?_) AllReadyH.nil)
  refine step_build rfl 69 _ rfl [(0, .agg (V (ext r)).toArray), (1, .agg (V (ext (thn r u))).toArray), (2, .int .i64 n)] rfl (V (gl (ext r) (ext (thn r u)) n)).toArray (built_gl (ext_len _) (ext_len _) n) ?_
  refine hK.out _ _ hHeld (fun hHeld2 => ?_)
  clear hK K hHeld2
  refine wpAnyH_ready (rs := [10]) (by kernel_rfl) (by simp) (AllReadyH.cons rfl (fun K hK => ?_) AllReadyH.nil)
  refine step_store_row rfl 69 _ _ rfl (w.heap.size + 1) (V (gl (ext r) (ext (thn r u)) n)).toArray rfl rfl 69 (V zero49).toArray A1.out (size49 (gl_len (ext_len _) (ext_len _) n)) (by simp [V_len, gl_len, ext_len, zero49]) (one_V _) ?_
  refine hK.out _ _ (hHeld.other (by omega) (by simp) _) (fun hHeld2 => ?_)
  clear hK K hHeld2
  refine wpAnyH_done (by kernel_rfl) ?_ _
  go_wp2_with fail
  exact bodyPost_ret (v := .agg (V (gl (ext r) (ext (thn r u)) n)).toArray) (results_cell_row rfl _ _ (w.heap.size + 1) 69 (V (gl (ext r) (ext (thn r u)) n)).toArray (0, 0) _ rfl A1.out.row Tryd.underlying69 rfl (size49 (gl_len (ext_len _) (ext_len _) n))) rfl ⟨rfl, below_setRow B1.out (by omega) _⟩
set_option maxHeartbeats 8000000 in
theorem lit3 (r u : List Int) (n : Nat) (w : World) (hs : Sf n r u) :
    Calls Tryd.prog 66 #[.agg (V (gl (ext r) (ext u) n)).toArray] w fun e w' => e = .returned (.agg (V (gl (ext (Inv u)) (ext r) n)).toArray) ∧ Below w.heap.size w w' := by
  have HS := Lib.hid hs
  have RS := Lib.hid hs.r.sq; have US := Lib.hid hs.u.sq
  have ER := Lib.hid (inv_ext hs.r); have EU := Lib.hid (inv_ext hs.u)
  clear hs
  go_enter Tryd.func66, Tryd.ntmps66
  go_wp2_with fail
  generalize hw1 : (w.alloc (.cells (V (gl (ext r) (ext u) n)).toArray 69)).alloc (.cells #[.int .i64 0, .int .i64 0, .int .i64 0, .int .i64 0, .int .i64 0, .int .i64 0, .int .i64 0, .int .i64 0, .int .i64 0, .int .i64 0, .int .i64 0, .int .i64 0, .int .i64 0, .int .i64 0, .int .i64 0, .int .i64 0, .int .i64 0, .int .i64 0, .int .i64 0, .int .i64 0, .int .i64 0, .int .i64 0, .int .i64 0, .int .i64 0, .int .i64 0, .int .i64 0, .int .i64 0, .int .i64 0, .int .i64 0, .int .i64 0, .int .i64 0, .int .i64 0, .int .i64 0, .int .i64 0, .int .i64 0, .int .i64 0, .int .i64 0, .int .i64 0, .int .i64 0, .int .i64 0, .int .i64 0, .int .i64 0, .int .i64 0, .int .i64 0, .int .i64 0, .int .i64 0, .int .i64 0, .int .i64 0, .int .i64 0] 69) = w1
  have A0 : Hid (Arr w1 w.heap.size (V (gl (ext r) (ext u) n)) 69) := Lib.hid (by rw [← hw1]; exact (Arr.new w _ _ rfl).alloc _)
  have A1 : Hid (Arr w1 (w.heap.size + 1) (V zero49) 69) := Lib.hid (by rw [← hw1]; exact Arr.new _ (V zero49) _ (by simp))
  have B1 : Hid (Below w.heap.size w w1) := Lib.hid (by rw [← hw1]; exact ((Below.refl _ _).alloc (Nat.le_refl _) _).alloc (by simp) _)
  have s1 : w1.heap.size = w.heap.size + 2 := by rw [← hw1]; simp
  clear hw1
  refine wp_region_held_drew (S := Hld w.heap.size w1.heap.size w1 [(w.heap.size, (V (gl (ext r) (ext u) n)))]) (by kernel_rfl) ((Hld.start1 A0.out).lower (by omega)) (fun hHeld => ?_)
  have b1 : Below w1.heap.size w1 w1.drew := ⟨rfl, rfl, rfl, Nat.le_refl _, fun _ _ => rfl⟩
  generalize w1.drew = w2 at *
  have s2 := b1.size
  replace A1 := Lib.hid (A1.out.keep b1 A1.out.lt)
  replace B1 := Lib.hid (B1.out.trans (b1.mono B1.out.size))
  clear b1 A0
  refine wpAnyH_take (i := 0) (v := .pointer (some ⟨w.heap.size, 24, none⟩)) rfl (by kernel_rfl) (by kernel_rfl) (by kernel_rfl) (fun _ _ _ h => h) (Or.inl ⟨by rfl, fun w hSw => by go_simp⟩) hHeld ?_
  refine wpAnyH_take (i := 3) (v := .pointer (some ⟨w.heap.size, 0, none⟩)) rfl (by kernel_rfl) (by kernel_rfl) (by kernel_rfl) (fun _ _ _ h => h) (Or.inl ⟨by rfl, fun w hSw => by go_simp⟩) hHeld ?_
  refine wpAnyH_take (i := 5) (v := .pointer (some ⟨w.heap.size, 48, none⟩)) rfl (by kernel_rfl) (by kernel_rfl) (by kernel_rfl) (fun _ _ _ h => h) (Or.inl ⟨by rfl, fun w hSw => by go_simp⟩) hHeld ?_
  refine wpAnyH_take (i := 1) (v := .agg (V (ext u)).toArray) rfl (by kernel_rfl) (by kernel_rfl) (by kernel_rfl) (fun _ _ _ h => h) (yieldsIf_load_mid (by rfl) _ _ rfl (w.heap.size) 24 rfl (V (ext u)) _ (fun w h => rg_up (ext_len _) (ext_len _) h.fst) Tryd.underlying67 rfl (hi24 (ext_len _))) hHeld ?_
  refine wpAnyH_take (i := 4) (v := .agg (V (ext r)).toArray) rfl (by kernel_rfl) (by kernel_rfl) (by kernel_rfl) (fun _ _ _ h => h) (yieldsIf_load_mid (by rfl) _ _ rfl (w.heap.size) 0 rfl (V (ext r)) _ (fun w h => rg_right (ext_len _) h.fst) Tryd.underlying67 rfl (hi24 (ext_len _))) hHeld ?_
  refine wpAnyH_take (i := 6) (v := .int .i64 n) rfl (by kernel_rfl) (by kernel_rfl) (by kernel_rfl) (fun _ _ _ h => h) (Or.inl ⟨by rfl, fun w hSw => by have := rg_count (ext_len _) (ext_len _) hSw.fst; go_simp⟩) hHeld ?_
  refine wpAnyH_ready (rs := [2]) (by kernel_rfl) (by simp) (AllReadyH.cons rfl (fun K hK => ?_) AllReadyH.nil)
  go_simp
  refine (inverse_any (ext u) _ US.out).mono ?_
  rintro e w' ⟨rfl, b1⟩
  rw [EU.out]
  replace A1 := Lib.hid (A1.out.keep b1 A1.out.lt)
  replace B1 := Lib.hid (B1.out.trans (b1.mono B1.out.size))
  go_wp2_with fail
  have hHeld2 := hHeld.later b1 (by omega); clear b1 hHeld
  refine hK.out _ _ hHeld2 (fun hHeld => ?_)
  clear hK K hHeld2
  refine wpAnyH_ready (rs := [7]) (by kernel_rfl) (by simp) (AllReadyH.cons rfl (fun K hK => ?_) AllReadyH.nil)
  refine step_build rfl 69 _ rfl [(0, .agg (V (ext (Inv u))).toArray), (1, .agg (V (ext r)).toArray), (2, .int .i64 n)] rfl (V (gl (ext (Inv u)) (ext r) n)).toArray (built_gl (ext_len _) (ext_len _) n) ?_
  refine hK.out _ _ hHeld (fun hHeld2 => ?_)
  clear hK K hHeld2
  refine wpAnyH_ready (rs := [8]) (by kernel_rfl) (by simp) (AllReadyH.cons rfl (fun K hK => ?_) AllReadyH.nil)
  refine step_store_row rfl 69 _ _ rfl (w.heap.size + 1) (V (gl (ext (Inv u)) (ext r) n)).toArray rfl rfl 69 (V zero49).toArray A1.out (size49 (gl_len (ext_len _) (ext_len _) n)) (by simp [V_len, gl_len, ext_len, zero49]) (one_V _) ?_
  refine hK.out _ _ (hHeld.other (by omega) (by simp) _) (fun hHeld2 => ?_)
  clear hK K hHeld2
  refine wpAnyH_done (by kernel_rfl) ?_ _
  go_wp2_with fail
  exact bodyPost_ret (v := .agg (V (gl (ext (Inv u)) (ext r) n)).toArray) (results_cell_row rfl _ _ (w.heap.size + 1) 69 (V (gl (ext (Inv u)) (ext r) n)).toArray (0, 0) _ rfl A1.out.row Tryd.underlying69 rfl (size49 (gl_len (ext_len _) (ext_len _) n))) rfl ⟨rfl, below_setRow B1.out (by omega) _⟩
set_option maxHeartbeats 8000000 in
theorem lit4 (r u : List Int) (n : Nat) (w : World) (hs : Sf n r u) :
    Calls Tryd.prog 67 #[.agg (V (gl (ext r) (ext u) n)).toArray] w fun e w' => e = .returned (.agg (V (gl (ext u) (ext (Inv r)) n)).toArray) ∧ Below w.heap.size w w' := by
  have HS := Lib.hid hs
  have RS := Lib.hid hs.r.sq; have US := Lib.hid hs.u.sq
  have ER := Lib.hid (inv_ext hs.r); have EU := Lib.hid (inv_ext hs.u)
  clear hs
  go_enter Tryd.func67, Tryd.ntmps67
  go_wp2_with fail
  generalize hw1 : (w.alloc (.cells (V (gl (ext r) (ext u) n)).toArray 69)).alloc (.cells #[.int .i64 0, .int .i64 0, .int .i64 0, .int .i64 0, .int .i64 0, .int .i64 0, .int .i64 0, .int .i64 0, .int .i64 0, .int .i64 0, .int .i64 0, .int .i64 0, .int .i64 0, .int .i64 0, .int .i64 0, .int .i64 0, .int .i64 0, .int .i64 0, .int .i64 0, .int .i64 0, .int .i64 0, .int .i64 0, .int .i64 0, .int .i64 0, .int .i64 0, .int .i64 0, .int .i64 0, .int .i64 0, .int .i64 0, .int .i64 0, .int .i64 0, .int .i64 0, .int .i64 0, .int .i64 0, .int .i64 0, .int .i64 0, .int .i64 0, .int .i64 0, .int .i64 0, .int .i64 0, .int .i64 0, .int .i64 0, .int .i64 0, .int .i64 0, .int .i64 0, .int .i64 0, .int .i64 0, .int .i64 0, .int .i64 0] 69) = w1
  have A0 : Hid (Arr w1 w.heap.size (V (gl (ext r) (ext u) n)) 69) := Lib.hid (by rw [← hw1]; exact (Arr.new w _ _ rfl).alloc _)
  have A1 : Hid (Arr w1 (w.heap.size + 1) (V zero49) 69) := Lib.hid (by rw [← hw1]; exact Arr.new _ (V zero49) _ (by simp))
  have B1 : Hid (Below w.heap.size w w1) := Lib.hid (by rw [← hw1]; exact ((Below.refl _ _).alloc (Nat.le_refl _) _).alloc (by simp) _)
  have s1 : w1.heap.size = w.heap.size + 2 := by rw [← hw1]; simp
  clear hw1
  refine wp_region_held_drew (S := Hld w.heap.size w1.heap.size w1 [(w.heap.size, (V (gl (ext r) (ext u) n)))]) (by kernel_rfl) ((Hld.start1 A0.out).lower (by omega)) (fun hHeld => ?_)
  have b1 : Below w1.heap.size w1 w1.drew := ⟨rfl, rfl, rfl, Nat.le_refl _, fun _ _ => rfl⟩
  generalize w1.drew = w2 at *
  have s2 := b1.size
  replace A1 := Lib.hid (A1.out.keep b1 A1.out.lt)
  replace B1 := Lib.hid (B1.out.trans (b1.mono B1.out.size))
  clear b1 A0
  refine wpAnyH_take (i := 0) (v := .pointer (some ⟨w.heap.size, 24, none⟩)) rfl (by kernel_rfl) (by kernel_rfl) (by kernel_rfl) (fun _ _ _ h => h) (Or.inl ⟨by rfl, fun w hSw => by go_simp⟩) hHeld ?_
  refine wpAnyH_take (i := 2) (v := .pointer (some ⟨w.heap.size, 0, none⟩)) rfl (by kernel_rfl) (by kernel_rfl) (by kernel_rfl) (fun _ _ _ h => h) (Or.inl ⟨by rfl, fun w hSw => by go_simp⟩) hHeld ?_
  refine wpAnyH_take (i := 5) (v := .pointer (some ⟨w.heap.size, 48, none⟩)) rfl (by kernel_rfl) (by kernel_rfl) (by kernel_rfl) (fun _ _ _ h => h) (Or.inl ⟨by rfl, fun w hSw => by go_simp⟩) hHeld ?_
  refine wpAnyH_take (i := 1) (v := .agg (V (ext u)).toArray) rfl (by kernel_rfl) (by kernel_rfl) (by kernel_rfl) (fun _ _ _ h => h) (yieldsIf_load_mid (by rfl) _ _ rfl (w.heap.size) 24 rfl (V (ext u)) _ (fun w h => rg_up (ext_len _) (ext_len _) h.fst) Tryd.underlying67 rfl (hi24 (ext_len _))) hHeld ?_
  refine wpAnyH_take (i := 3) (v := .agg (V (ext r)).toArray) rfl (by kernel_rfl) (by kernel_rfl) (by kernel_rfl) (fun _ _ _ h => h) (yieldsIf_load_mid (by rfl) _ _ rfl (w.heap.size) 0 rfl (V (ext r)) _ (fun w h => rg_right (ext_len _) h.fst) Tryd.underlying67 rfl (hi24 (ext_len _))) hHeld ?_
  refine wpAnyH_take (i := 6) (v := .int .i64 n) rfl (by kernel_rfl) (by kernel_rfl) (by kernel_rfl) (fun _ _ _ h => h) (Or.inl ⟨by rfl, fun w hSw => by have := rg_count (ext_len _) (ext_len _) hSw.fst; go_simp⟩) hHeld ?_
  refine wpAnyH_ready (rs := [4]) (by kernel_rfl) (by simp) (AllReadyH.cons rfl (fun K hK => ?_) AllReadyH.nil)
  go_simp
  refine (inverse_any (ext r) _ RS.out).mono ?_
  rintro e w' ⟨rfl, b1⟩
  rw [ER.out]
  replace A1 := Lib.hid (A1.out.keep b1 A1.out.lt)
  replace B1 := Lib.hid (B1.out.trans (b1.mono B1.out.size))
  go_wp2_with fail
  have hHeld2 := hHeld.later b1 (by omega); clear b1 hHeld
  refine hK.out _ _ hHeld2 (fun hHeld => ?_)
  clear hK K hHeld2
  refine wpAnyH_ready (rs := [7]) (by kernel_rfl) (by simp) (AllReadyH.cons rfl (fun K hK => ?_) AllReadyH.nil)
  refine step_build rfl 69 _ rfl [(0, .agg (V (ext u)).toArray), (1, .agg (V (ext (Inv r))).toArray), (2, .int .i64 n)] rfl (V (gl (ext u) (ext (Inv r)) n)).toArray (built_gl (ext_len _) (ext_len _) n) ?_
  refine hK.out _ _ hHeld (fun hHeld2 => ?_)
  clear hK K hHeld2
  refine wpAnyH_ready (rs := [8]) (by kernel_rfl) (by simp) (AllReadyH.cons rfl (fun K hK => ?_) AllReadyH.nil)
  refine step_store_row rfl 69 _ _ rfl (w.heap.size + 1) (V (gl (ext u) (ext (Inv r)) n)).toArray rfl rfl 69 (V zero49).toArray A1.out (size49 (gl_len (ext_len _) (ext_len _) n)) (by simp [V_len, gl_len, ext_len, zero49]) (one_V _) ?_
  refine hK.out _ _ (hHeld.other (by omega) (by simp) _) (fun hHeld2 => ?_)
  clear hK K hHeld2
  refine wpAnyH_done (by kernel_rfl) ?_ _
  go_wp2_with fail
  exact bodyPost_ret (v := .agg (V (gl (ext u) (ext (Inv r)) n)).toArray) (results_cell_row rfl _ _ (w.heap.size + 1) 69 (V (gl (ext u) (ext (Inv r)) n)).toArray (0, 0) _ rfl A1.out.row Tryd.underlying69 rfl (size49 (gl_len (ext_len _) (ext_len _) n))) rfl ⟨rfl, below_setRow B1.out (by omega) _⟩
/-- The table of letters. -/
def fTab : List Value := [.func (.func 63) #[] #[], .func (.func 65) #[] #[], .func (.func 66) #[] #[], .func (.func 67) #[] #[]]
theorem sizeF : (Tryd.prog.info? 98).map (·.size) = some fTab.toArray.size := by kernel_rfl
set_option maxHeartbeats 1000000 in
theorem acts_any (w : World) : Calls Tryd.prog 56 #[] w fun e w' => e = .returned (.agg fTab.toArray) ∧ Below w.heap.size w w' := by
  go_enter Tryd.func56, Tryd.ntmps56
  go_wp2_with (refine wpList_store_row rfl 98 _ _ rfl w.heap.size fTab.toArray rfl rfl 98 #[.nilFunc, .nilFunc, .nilFunc, .nilFunc] (Arr.new w [.nilFunc, .nilFunc, .nilFunc, .nilFunc] _ rfl) sizeF rfl (by simp [fTab, Value.oneCell']) ?_)
  exact bodyPost_ret (v := .agg fTab.toArray) (results_cell_row rfl _ _ w.heap.size 98 fTab.toArray (0, 0) _ rfl (Arr.new w [.nilFunc, .nilFunc, .nilFunc, .nilFunc] 98 rfl).row Tryd.underlying98 rfl sizeF) rfl ⟨rfl, below_setRow ((Below.refl _ _).alloc (Nat.le_refl _) _) (Nat.le_refl _) _⟩
/-- The letter of a number; a list of them, one after another. -/
def letN (z : Int) (s : Sur) : Sur := if z = 0 then shearS s else if z = 1 then unshearS s else if z = 2 then turnS s else unturnS s
def runN (L : List Int) (s : Sur) : Sur := L.foldl (fun s z => letN z s) s
theorem letN_sf {n : Nat} {R U : List Int} (s : Sf n R U) (z : Int) : Sf n (letN z (R, U)).1 (letN z (R, U)).2 := by
  unfold letN
  split
  · exact shear_sf s
  · split
    · exact unshear_sf s
    · split
      · exact turn_sf s
      · exact unturn_sf s
theorem runN_sf {n : Nat} : ∀ (L : List Int) (s : Sur), Sf n s.1 s.2 → Sf n (runN L s).1 (runN L s).2 := by
  intro L
  induction L with
  | nil => intro s h; exact h
  | cons c L ih => intro s h; exact ih (letN c s) (letN_sf (R := s.1) (U := s.2) h c)
theorem runN_keeps (L : List Int) : Keeps (runN L) := fun n R U s => runN_sf L (R, U) s
theorem runN_take {L : List Int} {k : Nat} {x : Int} (hx : L[k]? = some x) (s : Sur) : runN (L.take (k + 1)) s = letN x (runN (L.take k) s) := by
  unfold runN
  rw [List.take_add_one, hx, List.foldl_append]
  rfl
theorem letN_num {c : UInt8} (h : isL c = true) (s : Sur) : letN (wd.num c) s = letS c s := by
  rcases wd.num_cases h with ⟨a, b⟩ | ⟨a, b⟩ | ⟨a, b⟩ | ⟨a, b⟩ <;> rw [b] <;> simp [letN, letS, a]
theorem runN_nums : ∀ (l : List UInt8) (s : Sur), l.all isL = true → runN (l.map wd.num) s = runS l s := by
  intro l
  induction l with
  | nil => intro s _; rfl
  | cons c l ih =>
    intro s h
    simp only [List.all_cons, Bool.and_eq_true] at h
    show runN (l.map wd.num) (letN (wd.num c) s) = runS l (letS c s)
    rw [letN_num h.1, ih _ h.2]
/-- One letter of the table, on a gluing. -/
theorem lit_any (z : Nat) (hz : z ≤ 3) (r u : List Int) (n : Nat) (w : World) (hs : Sf n r u) :
    ∃ f : Nat, fTab[z]? = some (.func (.func f) #[] #[]) ∧ (∀ args W, (callFunc f args).run Tryd.prog W = .ok (.enter f args) W) ∧ Calls Tryd.prog f #[.agg (V (gl (ext r) (ext u) n)).toArray] w fun e w' => e = .returned (.agg (V (gl (ext (letN (z : Int) (r, u)).1) (ext (letN (z : Int) (r, u)).2) n)).toArray) ∧ Below w.heap.size w w' := by
  match z, hz with
  | 0, _ => exact ⟨_, rfl, enters_of Tryd.func63 (by kernel_rfl) rfl, lit1 r u n w hs⟩
  | 1, _ => exact ⟨_, rfl, enters_of Tryd.func65 (by kernel_rfl) rfl, lit2 r u n w hs⟩
  | 2, _ => exact ⟨_, rfl, enters_of Tryd.func66 (by kernel_rfl) rfl, lit3 r u n w hs⟩
  | 3, _ => exact ⟨_, rfl, enters_of Tryd.func67 (by kernel_rfl) rfl, lit4 r u n w hs⟩
/-- An operation whose value is known is walked so at the head of a region with a forced tail. -/
theorem still_take {P : Program} {ops : Array Oper} {w : World} {Q : Act → Prop} {a : Act} {o : Oper} {rest : List Oper} {v : Value} (hy : YieldsIf P ops (fun W => W = w) o v a) (h : wpStill P ops w Q rest (a.put o.dst v)) : wpStill P ops w Q (o :: rest) a := by
  unfold wpStill
  rcases hy with ⟨hw, hv⟩ | ⟨hw, rfl⟩
  · rw [if_pos hw]
    unfold Oper.still
    rw [hv w rfl, Oper.stillUpon_value]
    exact h
  · rw [if_neg (by rw [hw]; decide)]
    exact h
/-- Between two letters. -/
structure AR (w wr : World) (B5 : Nat) (p : List Int) : Prop where
  g : Arr wr w.heap.size (V p) 69
  res : Arr wr (w.heap.size + 1) (V zero49) 69
  tab : Arr wr B5 fTab 98
  hB : w.heap.size + 1 < B5
  bel : Below w.heap.size w wr
set_option maxHeartbeats 4000000 in
theorem after_any (r u : List Int) (n : Nat) (A : Option Addr) (m c : Nat) (L : List Int) (hi : Nat) (w : World) (hL : Rd w hi A m (V L)) (hh : hi ≤ w.heap.size) (h3 : ∀ l ∈ L, 0 ≤ l ∧ l ≤ 3) (hs : Sf n r u) (hm : m ≤ 40) :
    Calls Tryd.prog 46 #[.agg (V (gl (ext r) (ext u) n)).toArray, .slice A m c] w fun e w' => e = .returned (.agg (V (gl (ext (runN L (r, u)).1) (ext (runN L (r, u)).2) n)).toArray) ∧ Below w.heap.size w w' := by
  have HS := Lib.hid hs; have HL := Lib.hid hL; have H3 := Lib.hid h3; have LL : Hid (L.length = m) := Lib.hid (by simpa [V] using hL.1)
  clear hs hL h3
  go_enter Tryd.func46, Tryd.ntmps46
  go_wp2_with fail
  generalize hw1 : (w.alloc (.cells (V (gl (ext r) (ext u) n)).toArray 69)).alloc (.cells #[.int .i64 0, .int .i64 0, .int .i64 0, .int .i64 0, .int .i64 0, .int .i64 0, .int .i64 0, .int .i64 0, .int .i64 0, .int .i64 0, .int .i64 0, .int .i64 0, .int .i64 0, .int .i64 0, .int .i64 0, .int .i64 0, .int .i64 0, .int .i64 0, .int .i64 0, .int .i64 0, .int .i64 0, .int .i64 0, .int .i64 0, .int .i64 0, .int .i64 0, .int .i64 0, .int .i64 0, .int .i64 0, .int .i64 0, .int .i64 0, .int .i64 0, .int .i64 0, .int .i64 0, .int .i64 0, .int .i64 0, .int .i64 0, .int .i64 0, .int .i64 0, .int .i64 0, .int .i64 0, .int .i64 0, .int .i64 0, .int .i64 0, .int .i64 0, .int .i64 0, .int .i64 0, .int .i64 0, .int .i64 0, .int .i64 0] 69) = w1
  have A0 : Hid (Arr w1 w.heap.size (V (gl (ext r) (ext u) n)) 69) := Lib.hid (by rw [← hw1]; exact (Arr.new w _ _ rfl).alloc _)
  have A1 : Hid (Arr w1 (w.heap.size + 1) (V zero49) 69) := Lib.hid (by rw [← hw1]; exact Arr.new _ (V zero49) _ (by simp))
  have B1 : Hid (Below w.heap.size w w1) := Lib.hid (by rw [← hw1]; exact ((Below.refl _ _).alloc (Nat.le_refl _) _).alloc (by simp) _)
  have s1 : w1.heap.size = w.heap.size + 2 := by rw [← hw1]; simp
  clear hw1
  refine (acts_any _).mono ?_
  rintro e w2 ⟨rfl, b1⟩
  have s2 := b1.size
  replace A0 := Lib.hid (A0.out.keep b1 A0.out.lt)
  replace A1 := Lib.hid (A1.out.keep b1 A1.out.lt)
  replace B1 := Lib.hid (B1.out.trans (b1.mono B1.out.size))
  clear b1
  go_wp2_with (refine wpList_store_row rfl 98 _ _ rfl w2.heap.size fTab.toArray rfl rfl 98 #[.nilFunc, .nilFunc, .nilFunc, .nilFunc] (Arr.new w2 [.nilFunc, .nilFunc, .nilFunc, .nilFunc] _ rfl) sizeF rfl (by simp [fTab, Value.oneCell']) ?_)
  generalize hw3 : (w2.alloc (.cells #[.nilFunc, .nilFunc, .nilFunc, .nilFunc] 98)).setRow w2.heap.size fTab.toArray = w3
  have A5 : Hid (Arr w3 w2.heap.size fTab 98) := Lib.hid (by rw [← hw3]; exact (Arr.new w2 [.nilFunc, .nilFunc, .nilFunc, .nilFunc] _ rfl).row)
  have b1 : Below w2.heap.size w2 w3 := by rw [← hw3]; exact below_setRow ((Below.refl _ _).alloc (Nat.le_refl _) _) (Nat.le_refl _) _
  clear hw3
  have hAR : AR w w3 w2.heap.size (gl (ext r) (ext u) n) := ⟨A0.out.keep b1 A0.out.lt, A1.out.keep b1 A1.out.lt, A5.out, by omega, B1.out.trans (b1.mono B1.out.size)⟩
  clear A0 A1 A5 B1 b1
  have HAR := Lib.hid hAR; clear hAR
  go_loopw [11] (fun i wr => ∃ k : Nat, k ≤ m ∧ i = .int .i64 k ∧ AR w wr w2.heap.size (gl (ext (runN (L.take k) (r, u)).1) (ext (runN (L.take k) (r, u)).2) n)) (fun i _ => m - (intOf i).toNat)
  case atStart => exact ⟨0, Nat.zero_le _, rfl, HAR.out⟩
  case round =>
    clear HAR
    obtain ⟨k, hk, rfl, hr⟩ := hrel
    have HR := Lib.hid hr; clear hr
    by_cases hlt : k < m
    · obtain ⟨x, hx⟩ : ∃ x, L[k]? = some x := ⟨L[k]'(by rw [LL.out]; exact hlt), List.getElem?_eq_getElem _⟩
      have h03 := H3.out x (List.mem_of_getElem? hx)
      obtain ⟨z, rfl⟩ := Int.eq_ofNat_of_zero_le h03.1
      have hz3 : z ≤ 3 := by have := h03.2; omega
      have ST := Lib.hid (runN_take hx (r, u))
      have SK := Lib.hid (runN_sf (L.take k) (r, u) HS.out)
      have RD := HL.out.keep HR.out.bel hh
      obtain ⟨go, oo, uo, rfl, hgo, huo, hco⟩ := RD.at_ hlt
      rw [V_get hx] at huo
      obtain rfl := Option.some.inj huo
      clear RD huo h03 hx
      obtain ⟨rk, hrk⟩ : ∃ q, q = runN (L.take k) (r, u) := ⟨_, rfl⟩
      rw [← hrk] at HR ST SK
      clear hrk
      obtain ⟨ru, uu⟩ := rk
      have hBw : w2.heap.size < wr.heap.size := HR.out.tab.lt
      have hB := HR.out.hB
      obtain ⟨f, hf, hen, hc⟩ := lit_any z hz3 ru uu n wr.drew SK.out
      have HC := Lib.hid hc; have HF := Lib.hid hf; have HE := Lib.hid hen; clear hf hc hen
      go_wp2_with fail
      refine wp_region_still_tail 4 (by kernel_rfl) (by kernel_rfl) ?_
      simp only [List.take_succ_cons, List.take_zero, List.drop_succ_cons, List.drop_zero]
      have b1 : Below wr.heap.size wr wr.drew := ⟨rfl, rfl, rfl, Nat.le_refl _, fun _ _ => rfl⟩
      change wpStill _ _ wr.drew _ _ _
      have AF : Hid (AR w wr.drew w2.heap.size (gl (ext ru) (ext uu) n)) := Lib.hid ⟨HR.out.g.keep b1 HR.out.g.lt, HR.out.res.keep b1 HR.out.res.lt, HR.out.tab.keep b1 HR.out.tab.lt, hB, HR.out.bel.trans (b1.mono HR.out.bel.size)⟩
      have s_ := b1.size
      generalize hw4 : wr.drew = w4 at *
      clear b1 HR
      refine still_take (v := .int .i64 (z : Int)) (Or.inl ⟨by rfl, fun w hSw => by go_simp⟩) ?_
      refine still_take (v := .pointer (some ⟨w2.heap.size, z, none⟩)) (Or.inl ⟨by rfl, fun w hSw => by go_simp; intro h4; exact absurd h4 (by omega)⟩) ?_
      refine still_take (v := .func (.func f) #[] #[]) (Or.inl ⟨by rfl, fun W hSw => by subst hSw; have hc := AF.out.tab.cell HF.out; go_simp⟩) ?_
      refine still_take (v := .agg (V (gl (ext ru) (ext uu) n)).toArray) (yieldsIf_load_mid (by rfl) _ _ rfl (w.heap.size) 0 rfl (V (gl (ext ru) (ext uu) n)) _ (fun W h => by subst h; exact fun j v hv => by rw [Nat.zero_add]; exact AF.out.g.cell hv) Tryd.underlying69 rfl (hi49 (gl_len (ext_len _) (ext_len _) _))) ?_
      refine wpStill_nil ?_
      change wpList _ _ _ _ _ wr.drew
      rw [hw4]
      clear hw4
      have hE := HE.out
      go_wp2_with fail
      refine HC.out.mono ?_
      rintro e w5 ⟨rfl, b1⟩
      have s5 := b1.size
      have GL := Lib.hid (gl_len (ext_len (letN (z : Int) (ru, uu)).1) (ext_len (letN (z : Int) (ru, uu)).2) n)
      replace AF : Hid (AR w w5 w2.heap.size (gl (ext ru) (ext uu) n)) := Lib.hid ⟨AF.out.g.keep b1 AF.out.g.lt, AF.out.res.keep b1 AF.out.res.lt, AF.out.tab.keep b1 AF.out.tab.lt, hB, AF.out.bel.trans (b1.mono AF.out.bel.size)⟩
      clear b1 hE HE HC HF
      go_wp2_with (refine wpList_store_row rfl 69 _ _ rfl w.heap.size (V (gl (ext (letN (z : Int) (ru, uu)).1) (ext (letN (z : Int) (ru, uu)).2) n)).toArray rfl rfl 69 (V (gl (ext ru) (ext uu) n)).toArray AF.out.g (size49 GL.out) (by simp [V_len, GL.out, gl_len, ext_len]) (one_V _) ?_)
      have HN : Hid (AR w (w5.setRow w.heap.size (V (gl (ext (letN (z : Int) (ru, uu)).1) (ext (letN (z : Int) (ru, uu)).2) n)).toArray) w2.heap.size (gl (ext (runN (L.take (k + 1)) (r, u)).1) (ext (runN (L.take (k + 1)) (r, u)).2) n)) := Lib.hid (by
        rw [ST.out]
        exact ⟨AF.out.g.row, AF.out.res.rowOther (by omega), AF.out.tab.rowOther (by omega), hB, below_setRow AF.out.bel (Nat.le_refl _) _⟩)
      generalize w5.setRow w.heap.size (V (gl (ext (letN (z : Int) (ru, uu)).1) (ext (letN (z : Int) (ru, uu)).2) n)).toArray = w6 at *
      clear AF
      go_wp2_with fail
      go_roundw
      case rel => exact ⟨k + 1, by omega, by go_num, HN.out⟩
      case measure => simp [intOf]; omega
    · obtain rfl : k = m := by omega
      have e : L.take k = L := List.take_of_length_le (by rw [LL.out]; exact Nat.le_refl _)
      rw [e] at HR; clear e
      have GL := Lib.hid (gl_len (ext_len (runN L (r, u)).1) (ext_len (runN L (r, u)).2) n)
      go_wp2_with (first | (refine wpList_load_row rfl 69 _ rfl w.heap.size rfl 69 (V (gl (ext (runN L (r, u)).1) (ext (runN L (r, u)).2) n)).toArray (0, 0) _ HR.out.g Tryd.underlying69 rfl (size49 GL.out) ?_) | (refine wpList_store_row rfl 69 _ _ rfl (w.heap.size + 1) (V (gl (ext (runN L (r, u)).1) (ext (runN L (r, u)).2) n)).toArray rfl rfl 69 (V zero49).toArray HR.out.res (size49 GL.out) (by simp [V_len, GL.out, zero49]) (one_V _) ?_))
      exact bodyPost_ret (v := .agg (V (gl (ext (runN L (r, u)).1) (ext (runN L (r, u)).2) n)).toArray) (results_cell_row rfl _ _ (w.heap.size + 1) 69 (V (gl (ext (runN L (r, u)).1) (ext (runN L (r, u)).2) n)).toArray (0, 0) _ rfl HR.out.res.row Tryd.underlying69 rfl (size49 GL.out)) rfl ⟨rfl, below_setRow HR.out.bel (by omega) _⟩
end Go.Proofs.YtpbbfbpggedgpaaDoor.la
