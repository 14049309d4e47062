import Derived.Test.YtafpbnjfmieamaaY08
import Derived.Test.YtafpbnjfmieamaaY23
import Derived.Test.YtafpbnjfmieamaaY03
import Derived.Test.YtafpbnjfmieamaaY06
import Derived.Test.YtafpbnjfmieamaaY17
import Derived.Test.YtafpbnjfmieamaaY21
/-
  The round about the corners: of the program's gluing, of the model.
-/
namespace Go.Proofs.Ytafpbnjfmieamaa.gl
open Go.ChangeShapes Go.WideShapes Go.ChangeAt Go.RowKit
open Go.Proofs.Ytafpbnjfmieamaa.mem Go.Proofs.Ytafpbnjfmieamaa.ints Go.Proofs.Ytafpbnjfmieamaa.arr Go.Proofs.Ytafpbnjfmieamaa.pm Go.Proofs.Ytafpbnjfmieamaa.permOk Go.Proofs.Ytafpbnjfmieamaa.permOf Go.Proofs.Ytafpbnjfmieamaa.inv Go.Proofs.Ytafpbnjfmieamaa.fns Go.Proofs.Ytafpbnjfmieamaa.sf
set_option linter.unusedVariables false
set_option maxRecDepth 100000

set_option maxHeartbeats 8000000 in
theorem around_any (p q : List Int) (n : Nat) (w : World) (hp : Sq p) (hq : Sq q) :
    Calls Try.prog 98 #[.agg (V (gl p q n)).toArray] w fun e w' => e = .returned (.agg (V (ar24 p q)).toArray) ∧ Below w.heap.size w w' := by
  have HP := Lib.hid hp; have HQ := Lib.hid hq; clear hp hq
  go_enter Try.func98, Try.ntmps98
  go_wp2_with fail
  generalize hw1 : (w.alloc (.cells (V (gl p q n)).toArray 62)).alloc (.cells #[.int .i64 0, .int .i64 0, .int .i64 0, .int .i64 0, .int .i64 0, .int .i64 0, .int .i64 0, .int .i64 0, .int .i64 0, .int .i64 0, .int .i64 0, .int .i64 0, .int .i64 0, .int .i64 0, .int .i64 0, .int .i64 0, .int .i64 0, .int .i64 0, .int .i64 0, .int .i64 0, .int .i64 0, .int .i64 0, .int .i64 0, .int .i64 0] 60) = w1
  have A2 : Hid (Arr w1 w.heap.size (V (gl p q n)) 62) := Lib.hid (by rw [← hw1]; exact (Arr.new w _ _ rfl).alloc _)
  have A4 : Hid (Arr w1 (w.heap.size + 1) (V zeros) 60) := Lib.hid (by rw [← hw1]; exact Arr.new _ (V zeros) _ (by simp))
  have B1 : Hid (Below w.heap.size w w1) := Lib.hid (by rw [← hw1]; exact ((Below.refl _ _).alloc (Nat.le_refl _) _).alloc (by simp) _)
  have s1 : w1.heap.size = w.heap.size + 2 := by rw [← hw1]; simp
  clear hw1
  refine wp_region_held_drew (S := Hld w.heap.size w1.heap.size w1 [(w.heap.size, V (gl p q n))]) (by kernel_rfl) ((Hld.start1 A2.out).lower (by omega)) (fun hHeld => ?_)
  have b1 : Below w1.heap.size w1 w1.drew := ⟨rfl, rfl, rfl, Nat.le_refl _, fun _ _ => rfl⟩
  generalize w1.drew = w4 at *
  have s4 := b1.size
  replace A4 := Lib.hid (A4.out.keep b1 A4.out.lt)
  replace B1 := Lib.hid (B1.out.trans (b1.mono B1.out.size))
  clear b1 A2
  refine wpAnyH_take (i := 0) (v := .pointer (some ⟨w.heap.size, 0, none⟩)) rfl (by kernel_rfl) (by kernel_rfl) (by kernel_rfl) (fun _ _ _ h => h) (Or.inl ⟨by rfl, fun w hSw => by go_simp⟩) hHeld ?_
  refine wpAnyH_take (i := 2) (v := .pointer (some ⟨w.heap.size, 24, none⟩)) rfl (by kernel_rfl) (by kernel_rfl) (by kernel_rfl) (fun _ _ _ h => h) (Or.inl ⟨by rfl, fun w hSw => by go_simp⟩) hHeld ?_
  refine wpAnyH_take (i := 5) (v := .pointer (some ⟨w.heap.size, 0, none⟩)) rfl (by kernel_rfl) (by kernel_rfl) (by kernel_rfl) (fun _ _ _ h => h) (Or.inl ⟨by rfl, fun w hSw => by go_simp⟩) hHeld ?_
  refine wpAnyH_take (i := 9) (v := .pointer (some ⟨w.heap.size, 24, none⟩)) rfl (by kernel_rfl) (by kernel_rfl) (by kernel_rfl) (fun _ _ _ h => h) (Or.inl ⟨by rfl, fun w hSw => by go_simp⟩) hHeld ?_
  refine wpAnyH_take (i := 1) (v := .agg (V p).toArray) rfl (by kernel_rfl) (by kernel_rfl) (by kernel_rfl) (fun _ _ _ h => h) (yieldsIf_load_mid (by rfl) _ _ rfl (w.heap.size) 0 rfl (V p) _ (fun w h => rg_right HP.out.len h.fst) Try.underlying60 rfl (hi24 HP.out.len)) hHeld ?_
  refine wpAnyH_take (i := 3) (v := .agg (V q).toArray) rfl (by kernel_rfl) (by kernel_rfl) (by kernel_rfl) (fun _ _ _ h => h) (yieldsIf_load_mid (by rfl) _ _ rfl (w.heap.size) 24 rfl (V q) _ (fun w h => rg_up HP.out.len HQ.out.len h.fst) Try.underlying60 rfl (hi24 HQ.out.len)) hHeld ?_
  refine wpAnyH_take (i := 6) (v := .agg (V p).toArray) rfl (by kernel_rfl) (by kernel_rfl) (by kernel_rfl) (fun _ _ _ h => h) (yieldsIf_load_mid (by rfl) _ _ rfl (w.heap.size) 0 rfl (V p) _ (fun w h => rg_right HP.out.len h.fst) Try.underlying60 rfl (hi24 HP.out.len)) hHeld ?_
  refine wpAnyH_take (i := 10) (v := .agg (V q).toArray) rfl (by kernel_rfl) (by kernel_rfl) (by kernel_rfl) (fun _ _ _ h => h) (yieldsIf_load_mid (by rfl) _ _ rfl (w.heap.size) 24 rfl (V q) _ (fun w h => rg_up HP.out.len HQ.out.len h.fst) Try.underlying60 rfl (hi24 HQ.out.len)) hHeld ?_
  refine wpAnyH_ready (rs := [4]) (by kernel_rfl) (by simp) (AllReadyH.cons rfl (fun K hK => ?_) AllReadyH.nil)
  go_simp
  refine (inv.then_any p q _ HP.out HQ.out).mono ?_
  rintro e w' ⟨rfl, b1⟩
  replace A4 := Lib.hid (A4.out.keep b1 A4.out.lt)
  replace B1 := Lib.hid (B1.out.trans (b1.mono B1.out.size))
  go_wp2_with fail
  have hHeld2 := hHeld.later b1 (by omega); clear b1 hHeld
  refine hK.out _ _ hHeld2 (fun hHeld => ?_)
  clear hK K hHeld2
  refine wpAnyH_ready (rs := [7]) (by kernel_rfl) (by simp) (AllReadyH.cons rfl (fun K hK => ?_) AllReadyH.nil)
  go_simp
  refine (inverse_any p _ HP.out).mono ?_
  rintro e w' ⟨rfl, b1⟩
  replace A4 := Lib.hid (A4.out.keep b1 A4.out.lt)
  replace B1 := Lib.hid (B1.out.trans (b1.mono B1.out.size))
  go_wp2_with fail
  have hHeld2 := hHeld.later b1 (by omega); clear b1 hHeld
  refine hK.out _ _ hHeld2 (fun hHeld => ?_)
  clear hK K hHeld2
  refine wpAnyH_ready (rs := [8]) (by kernel_rfl) (by simp) (AllReadyH.cons rfl (fun K hK => ?_) AllReadyH.nil)
  go_simp
  refine (inv.then_any (thenL p q) (invTo 24 p 24) _ (then_sq HP.out HQ.out) (inv_sq _)).mono ?_
  rintro e w' ⟨rfl, b1⟩
  replace A4 := Lib.hid (A4.out.keep b1 A4.out.lt)
  replace B1 := Lib.hid (B1.out.trans (b1.mono B1.out.size))
  go_wp2_with fail
  have hHeld2 := hHeld.later b1 (by omega); clear b1 hHeld
  refine hK.out _ _ hHeld2 (fun hHeld => ?_)
  clear hK K hHeld2
  refine wpAnyH_ready (rs := [11]) (by kernel_rfl) (by simp) (AllReadyH.cons rfl (fun K hK => ?_) AllReadyH.nil)
  go_simp
  refine (inverse_any q _ HQ.out).mono ?_
  rintro e w' ⟨rfl, b1⟩
  replace A4 := Lib.hid (A4.out.keep b1 A4.out.lt)
  replace B1 := Lib.hid (B1.out.trans (b1.mono B1.out.size))
  go_wp2_with fail
  have hHeld2 := hHeld.later b1 (by omega); clear b1 hHeld
  refine hK.out _ _ hHeld2 (fun hHeld => ?_)
  clear hK K hHeld2
  refine wpAnyH_ready (rs := [12]) (by kernel_rfl) (by simp) (AllReadyH.cons rfl (fun K hK => ?_) AllReadyH.nil)
  go_simp
  refine (inv.then_any (thenL (thenL p q) (invTo 24 p 24)) (invTo 24 q 24) _ (then_sq (then_sq HP.out HQ.out) (inv_sq _)) (inv_sq _)).mono ?_
  rintro e w' ⟨rfl, b1⟩
  replace A4 := Lib.hid (A4.out.keep b1 A4.out.lt)
  replace B1 := Lib.hid (B1.out.trans (b1.mono B1.out.size))
  go_wp2_with fail
  have hHeld2 := hHeld.later b1 (by omega); clear b1 hHeld
  refine hK.out _ _ hHeld2 (fun hHeld => ?_)
  clear hK K hHeld2
  have HA : Hid (thenL (thenL (thenL p q) (invTo 24 p 24)) (invTo 24 q 24) = ar24 p q) := Lib.hid rfl
  rw [HA.out]
  have HL := Lib.hid (ar24_len p q)
  generalize haa : ar24 p q = a at *
  have HAA := Lib.hid haa; clear haa
  clear HA
  refine wpAnyH_ready (rs := [13]) (by kernel_rfl) (by simp) (AllReadyH.cons rfl (fun K hK => ?_) AllReadyH.nil)
  refine step_store_row rfl 60 _ _ rfl (w.heap.size + 1) (V a).toArray rfl rfl 60 (V zeros).toArray A4.out (size_V HL.out) (by simp [V_len, HL.out, zeros]) (one_V _) ?_
  refine hK.out _ _ (hHeld.other (by omega) (by simp) _) (fun hHeld2 => ?_)
  clear hK K hHeld2
  refine wpAnyH_done (by kernel_rfl) ?_ _
  go_wp2_with fail
  exact bodyPost_ret (v := .agg (V a).toArray) (results_cell_row rfl _ _ (w.heap.size + 1) 60 (V a).toArray (0, 0) _ rfl A4.out.row Try.underlying60 rfl (size_V HL.out)) rfl ⟨by rw [HAA.out], below_setRow B1.out (by omega) _⟩

theorem l02inv_gives (A : Option Addr) (n c : Nat) (xs : List Int) (hi : Nat) (w : World) (hx : Rd w hi A n (V xs)) (ok : Ok xs) (hn : xs.length = n) :
    Calls Try.prog 93 #[.slice A n c] w (Gives (Inv xs) w) := by
  subst hn; exact l02inv_any A _ c xs hi w hx ok
theorem _root_.Go.Proofs.Ytafpbnjfmieamaa.sf.Hld.c0 {base top a : Nat} {w W : World} {x y : Value} {l : List (Nat × List Value)} (h : Hld base top w ((a, [x, y]) :: l) W) : W.cell? ⟨a, 0, none⟩ = some x := by simpa using h.fst 0 x rfl
theorem _root_.Go.Proofs.Ytafpbnjfmieamaa.sf.Hld.c1 {base top a : Nat} {w W : World} {x y : Value} {l : List (Nat × List Value)} (h : Hld base top w ((a, [x, y]) :: l) W) : W.cell? ⟨a, 1, none⟩ = some y := by simpa using h.fst 1 y rfl
set_option maxHeartbeats 4000000 in
theorem around_spec (v : Value) (r u : List Int) (hi : Nat) (w : World) (hx : Srd w hi v r u) (hs : Sf r.length r u) :
    Calls Try.prog 121 #[v] w (Gives (comm r u) w) := by
  have HX := Lib.hid hx; clear hx
  have HS := Lib.hid hs; clear hs
  obtain ⟨P, n, c, Q, m, d, rfl, q1, q2, e1, e2, ht, HR⟩ := HX.out.open
  have RU : Hid (r.length = u.length) := Lib.hid (HS.out.lu ▸ rfl)
  have HI : Hid (n = m) := Lib.hid (by rw [← q1, ← q2]; exact RU.out)
  have Q1 := Lib.hid q1; have Q2 := Lib.hid q2; clear q1 q2
  go_enter Try.func121, Try.ntmps121
  go_wp2_with fail
  refine (l02then_any P n c Q m d r u _ _ _ (HR.out _).1 (HR.out _).2 HS.out.r HI.out).mono ?_
  rintro e w1 hg
  obtain ⟨v1, rfl, o1, b1⟩ := hg
  obtain ⟨P1, c1, rfl⟩ := own_form o1
  have hs1 : w.heap.size + 1 ≤ w1.heap.size := by have := b1.size; simpa using this
  have A0 := Lib.hid ((Arr.new w [.slice P n c, .slice Q m d] 33 rfl).keep b1 (by simp))
  have R1 := Lib.hid (Row.of_own o1)
  have B1 := Lib.hid (below1 _ _ b1)
  have X1 : Hid (Srd w1 hi (.agg #[.slice P n c, .slice Q m d]) r u) := Lib.hid (HX.out.keep (B1.out.mono ht) (Nat.le_refl _))
  clear o1 b1 HR
  go_wp2_with fail
  refine wp_region_held_drew (S := Hld w1.heap.size w1.heap.size w1 [(w.heap.size, [.slice P n c, .slice Q m d])]) (by kernel_rfl) (Hld.start1 A0.out) (fun hHeld => ?_)
  have b1 : Below w1.heap.size w1 w1.drew := ⟨rfl, rfl, rfl, Nat.le_refl _, fun _ _ => rfl⟩
  generalize w1.drew = w2 at *
  have s_ := b1.size; replace R1 := Lib.hid (R1.out.keep b1 R1.out.2.1); replace X1 := Lib.hid (X1.out.keep b1 X1.out.top); replace B1 := Lib.hid (B1.out.trans (b1.mono B1.out.size))
  replace A0 := Lib.hid (A0.out.keep b1 A0.out.lt); clear b1 s_
  refine wpAnyH_take (i := 0) (v := .pointer (some ⟨w.heap.size, 0, none⟩)) rfl (by kernel_rfl) (by kernel_rfl) (by kernel_rfl) (fun _ _ _ h => h) (Or.inl ⟨by rfl, fun w hSw => by go_simp⟩) hHeld ?_
  refine wpAnyH_take (i := 3) (v := .pointer (some ⟨w.heap.size, 1, none⟩)) rfl (by kernel_rfl) (by kernel_rfl) (by kernel_rfl) (fun _ _ _ h => h) (Or.inl ⟨by rfl, fun w hSw => by go_simp⟩) hHeld ?_
  refine wpAnyH_take (i := 1) (v := .slice P n c) rfl (by kernel_rfl) (by kernel_rfl) (by kernel_rfl) (fun _ _ _ h => h) (Or.inl ⟨by rfl, fun w hSw => by have := hSw.c0; go_simp⟩) hHeld ?_
  refine wpAnyH_take (i := 4) (v := .slice Q m d) rfl (by kernel_rfl) (by kernel_rfl) (by kernel_rfl) (fun _ _ _ h => h) (Or.inl ⟨by rfl, fun w hSw => by have := hSw.c1; go_simp⟩) hHeld ?_
  refine wpAnyH_ready (rs := [2]) (by kernel_rfl) (by simp) (AllReadyH.cons rfl (fun K hK => ?_) AllReadyH.nil)
  go_simp
  refine (l02inv_gives P n c r hi _ (Srd.fst X1.out) HS.out.r Q1.out).mono ?_
  rintro e w3 ⟨v3, rfl, o3, b1⟩
  obtain ⟨P3, c3, rfl⟩ := own_form o3
  have s_ := b1.size; replace R1 := Lib.hid (R1.out.keep b1 R1.out.2.1); replace X1 := Lib.hid (X1.out.keep b1 X1.out.top); replace B1 := Lib.hid (B1.out.trans (b1.mono B1.out.size))
  have R3 := Lib.hid (Row.of_own o3); clear o3 s_
  go_wp2_with fail
  have hHeld2 := hHeld.later b1 (by omega); clear b1 hHeld
  refine hK.out _ _ hHeld2 (fun hHeld => ?_)
  clear hK K hHeld2
  refine wpAnyH_ready (rs := [5]) (by kernel_rfl) (by simp) (AllReadyH.cons rfl (fun K hK => ?_) AllReadyH.nil)
  go_simp
  refine (l02inv_gives Q m d u hi _ (Srd.snd X1.out) HS.out.u Q2.out).mono ?_
  rintro e w4 ⟨v4, rfl, o4, b1⟩
  obtain ⟨P4, c4, rfl⟩ := own_form o4
  have s_ := b1.size; replace R1 := Lib.hid (R1.out.keep b1 R1.out.2.1); replace X1 := Lib.hid (X1.out.keep b1 X1.out.top); replace B1 := Lib.hid (B1.out.trans (b1.mono B1.out.size))
  replace R3 := Lib.hid (R3.out.keep b1 R3.out.2.1)
  have R4 := Lib.hid (Row.of_own o4); clear o4 s_
  go_wp2_with fail
  have hHeld2 := hHeld.later b1 (by omega); clear b1 hHeld
  refine hK.out _ _ hHeld2 (fun hHeld => ?_)
  clear hK K hHeld2
  refine wpAnyH_ready (rs := [6]) (by kernel_rfl) (by simp) (AllReadyH.cons rfl (fun K hK => ?_) AllReadyH.nil)
  go_simp
  refine (l02then_any P3 _ c3 P4 _ c4 (Inv r) (Inv u) _ _ _ R3.out.rd R4.out.rd (Inv_ok HS.out.r) (by rw [Inv_len, Inv_len]; exact RU.out)).mono ?_
  rintro e w5 ⟨v5, rfl, o5, b1⟩
  obtain ⟨P5, c5, rfl⟩ := own_form o5
  have s_ := b1.size; replace R1 := Lib.hid (R1.out.keep b1 R1.out.2.1); replace X1 := Lib.hid (X1.out.keep b1 X1.out.top); replace B1 := Lib.hid (B1.out.trans (b1.mono B1.out.size))
  replace R3 := Lib.hid (R3.out.keep b1 R3.out.2.1)
  replace R4 := Lib.hid (R4.out.keep b1 R4.out.2.1)
  have R5 := Lib.hid (Row.of_own o5); clear o5 s_
  go_wp2_with fail
  have hHeld2 := hHeld.later b1 (by omega); clear b1 hHeld
  refine hK.out _ _ hHeld2 (fun hHeld => ?_)
  clear hK K hHeld2
  refine wpAnyH_ready (rs := [7]) (by kernel_rfl) (by simp) (AllReadyH.cons rfl (fun K hK => ?_) AllReadyH.nil)
  go_simp
  refine hK.out _ _ hHeld (fun hHeld2 => ?_)
  clear hK K hHeld hHeld2
  refine wpAnyH_done (by kernel_rfl) ?_ _
  go_wp2_with fail
  refine (l02then_any P1 _ c1 P5 _ c5 (thn r u) (thn (Inv r) (Inv u)) _ _ _ R1.out.rd R5.out.rd (thn_ok HS.out.r HS.out.u RU.out) (by rw [thn_len, thn_len, Inv_len])).mono ?_
  rintro e w6 hg
  obtain ⟨v6, rfl, o6, b6⟩ := gives_later B1.out hg
  have O6 := Lib.hid o6; have B6 := Lib.hid b6; clear o6 b6 hg
  have HC : Hid (comm r u = thn (thn r u) (thn (Inv r) (Inv u))) := Lib.hid rfl
  rw [HC.out]
  go_wp2_with fail
  go_ret
  exact ⟨v6, rfl, O6.out, B6.out⟩
end Go.Proofs.Ytafpbnjfmieamaa.gl

/-
  Contracts of the laws' same, sorted, lengths.
-/
namespace Go.Proofs.Ytafpbnjfmieamaa.fns
open Go.ChangeShapes Go.WideShapes Go.ChangeAt Go.RowKit
open Go.Proofs.Ytafpbnjfmieamaa.mem Go.Proofs.Ytafpbnjfmieamaa.ints Go.Proofs.Ytafpbnjfmieamaa.arr Go.Proofs.Ytafpbnjfmieamaa.pm Go.Proofs.Ytafpbnjfmieamaa.mat
set_option linter.unusedVariables false
set_option maxRecDepth 100000

theorem Grows.set_ {w wr : World} {b cc : Nat} {l : List Int} (h : Grows w wr (.slice (some ⟨b, 0, none⟩) l.length cc) l) (k : Nat) (z : Int) : Grows w (wr.setCell ⟨b, k, none⟩ (.int .i64 z)) (.slice (some ⟨b, 0, none⟩) (l.set k z).length cc) (l.set k z) := by
  have hb := h.own.lt b rfl
  have := (h.own.stored k (.int .i64 z)).1
  rw [V_set] at this
  exact ⟨by simpa using this, h.below.setCell hb.1 _⟩

def lensF (xss : List (List Int)) : List Int := xss.map fun xs => (xs.length : Int)
end Go.Proofs.Ytafpbnjfmieamaa.fns

/-
  The model's descending order (as the laws' own): contracts of l04Down and l04Lengths.
-/
namespace Go.Proofs.Ytafpbnjfmieamaa.fns
open Go.ChangeShapes Go.WideShapes Go.ChangeAt Go.RowKit
open Go.Proofs.Ytafpbnjfmieamaa.mem Go.Proofs.Ytafpbnjfmieamaa.ints Go.Proofs.Ytafpbnjfmieamaa.arr Go.Proofs.Ytafpbnjfmieamaa.pm Go.Proofs.Ytafpbnjfmieamaa.mat
set_option linter.unusedVariables false
set_option maxRecDepth 100000

set_option maxHeartbeats 1000000 in
theorem down_any (A : Option Addr) (n c : Nat) (xs : List Int) (hi : Nat) (w : World) (hx : Rd w hi A n (V xs)) (hn : n ≤ 1048576) :
    Calls Try.prog 119 #[.slice A n c] w (Gives (sortD xs) w) := by
  obtain ⟨i0, hi0, hz0, hz1, hz2⟩ := info_parts infoI
  have lx : xs.length = n := by simpa [V] using hx.1
  have LX := Lib.hid lx; clear lx
  have HX := Lib.hid hx; clear hx
  go_enter Try.func119, Try.ntmps119
  go_wp2
  go_loopw [3, 10] (fun v i wr => ∃ j : Nat, j ≤ n ∧ i = .int .i64 j ∧ Grows w wr v (sortD (xs.take j))) (fun _ i _ => n - (intOf i).toNat)
  case atStart => exact ⟨0, Nat.zero_le _, rfl, Grows.empty w⟩
  case round =>
    obtain ⟨j, hj, rfl, hm⟩ := hrel
    obtain ⟨wo, rfl⟩ : ∃ wo : World, wo = wr := ⟨_, rfl⟩
    obtain ⟨C, cc, rfl⟩ := hm.form
    have HLN : Hid ((sortD (xs.take j)).length = j) := Lib.hid (by rw [sortD_len]; have := LX.out; simp; omega)
    have HR := Lib.hid hm; clear hm
    by_cases hlt : j < n
    · obtain ⟨g, off, u, rfl, hgl, hxu, hcx⟩ := HX.out.at_ hlt
      obtain ⟨x, hxs, rfl⟩ := V_at hxu
      have hgw : g < w.heap.size := Nat.lt_of_lt_of_le hgl HX.out.2.1
      rw [← HR.out.below.cell (p := ⟨g, off + j, none⟩) hgw] at hcx
      have NX : Hid (sortD (xs.take (j + 1)) = insD x (sortD (xs.take j))) := Lib.hid (by rw [List.take_add_one, hxs]; exact sortD_snoc _ _)
      have hsz := HR.out.below.size
      clear hxu hxs
      generalize sortD (xs.take j) = l at *
      have hl : l.length ≤ 1048576 := by rw [HLN.out]; omega
      go_wp2_with (at_builtin; refine wpList_append_one wo _ _ rfl _ _ 23 rfl w.heap.size 3 i0 _ 8 Try.underlying23 hi0 hz0 hz1 hz2 rfl _ _ _ rfl HR.out.own rfl rfl ?c4 (by decide) hsz ?_)
      case c4 => omega
      intro v' w' ho hg
      have G1 := HR.out.next ho rfl hg
      rw [← ins_end] at G1
      clear ho hg HR hcx
      obtain ⟨C', cc', rfl⟩ := own_form G1.own
      obtain ⟨b, rfl⟩ : ∃ b, C' = some ⟨b, 0, none⟩ := by
        rcases G1.own.2 with ⟨h0, hn0⟩ | ⟨b, cap, cur, q1, _⟩
        · simp [ins_end] at hn0
        · injection q1 with q1; exact ⟨b, q1⟩
      rw [ins_len _ _ (Nat.le_refl _)]
      have HG := Lib.hid G1; clear G1
      go_wp2
      go_loopw [6] (fun i wr => ∃ (k : Nat) (y : Int), k ≤ l.length ∧ i = .int .i64 k ∧ Grows w wr (.slice (some ⟨b, 0, none⟩) (ins y l k).length cc') (ins y l k) ∧ Hid (posD x l k = posD x l l.length)) (fun i _ => (intOf i).toNat)
      case atStart => exact ⟨l.length, 0, Nat.le_refl _, by go_num, HG.out, Lib.hid rfl⟩
      case round =>
        obtain ⟨k, y, hk, rfl, hg, HPOS⟩ := hrel
        have IL := Lib.hid (ins_len y l hk)
        have GG := Lib.hid hg; clear hg HG
        have fk := GG.out.own.frozenAt k
        have hck : wr.cell? ⟨b, k, none⟩ = some (.int .i64 ((ins y l k).getD k 0)) := by rw [GG.out.own.cellAt k (by rw [IL.out]; omega)]; exact V_getD (by rw [IL.out]; omega)
        cases k with
        | zero =>
          have G2 : Hid (Grows w (wr.setCell ⟨b, 0, none⟩ (.int .i64 x)) (.slice (some ⟨b, 0, none⟩) (l.length + 1) cc') (insD x l)) := Lib.hid (by
            have := GG.out.set_ 0 x
            rw [ins_set _ _ _ hk] at this
            unfold insD
            rw [← HPOS.out]
            rw [ins_len _ _ hk] at this
            exact this)
          go_wp2
          go_roundw
          case rel => exact ⟨j + 1, by omega, by go_num, by rw [NX.out]; exact G2.out⟩
          case measure => simp [intOf]; omega
        | succ k =>
          have hcl : wr.cell? ⟨b, k, none⟩ = some (.int .i64 (l.getD k 0)) := by rw [GG.out.own.cellAt k (by rw [IL.out]; omega), V_getD (by rw [IL.out]; omega), ins_at _ _ (by omega) hk]
          by_cases hd : l.getD k 0 < x
          · have G2 := GG.out.set_ (k + 1) (l.getD k 0)
            rw [ins_move _ _ (by omega)] at G2
            have HP2 : Hid (posD x l k = posD x l l.length) := Lib.hid (by rw [← HPOS.out, posD, if_pos hd])
            generalize l.getD k 0 = z at *
            have HG2 := Lib.hid G2; clear G2
            go_wp2
            go_roundw
            case rel => exact ⟨k, z, by omega, by go_num, HG2.out, HP2⟩
            case measure => simp [intOf]
          · have G2 : Hid (Grows w (wr.setCell ⟨b, k + 1, none⟩ (.int .i64 x)) (.slice (some ⟨b, 0, none⟩) (l.length + 1) cc') (insD x l)) := Lib.hid (by
              have := GG.out.set_ (k + 1) x
              rw [ins_set _ _ _ hk] at this
              unfold insD
              rw [← HPOS.out, posD, if_neg hd]
              rw [ins_len _ _ hk] at this
              exact this)
            generalize l.getD k 0 = z at *
            have hdd : decide (z < x) = false := by simp; omega
            clear hd
            go_wp2
            go_roundw
            case rel => exact ⟨j + 1, by omega, by go_num, by rw [NX.out]; exact G2.out⟩
            case measure => simp [intOf]; omega
    · obtain rfl : j = n := by omega
      go_wp2
      go_ret
      have := HR.out
      rw [List.take_of_length_le (by rw [LX.out]; exact Nat.le_refl _)] at this ⊢
      exact this.gives

set_option maxHeartbeats 1000000 in
theorem lens_spec (A : Option Addr) (n c : Nat) (xss : List (List Int)) (lo hi : Nat) (w : World) (hx : Mat w lo hi A n xss) (hn : n ≤ 1048576) (tx : tot xss ≤ 1048576) :
    Calls Try.prog 104 #[.slice A n c] w (Gives (sortD (lensF xss)) w) := by
  obtain ⟨i0, hi0, hz0, hz1, hz2⟩ := info_parts infoI
  have LX := Lib.hid hx.1
  have HX := Lib.hid hx; clear hx
  go_enter Try.func104, Try.ntmps104
  go_wp2
  go_loopw [3, 9] (fun v i wr => ∃ j : Nat, j ≤ n ∧ i = .int .i64 j ∧ Grows w wr v (lensF (xss.take j))) (fun _ i _ => n - (intOf i).toNat)
  case atStart => exact ⟨0, Nat.zero_le _, rfl, Grows.empty w⟩
  case round =>
    obtain ⟨j, hj, rfl, hm⟩ := hrel
    obtain ⟨C, cc, rfl⟩ := hm.form
    have HLN : Hid ((lensF (xss.take j)).length = j) := Lib.hid (by have := LX.out; simp [lensF]; omega)
    have HR := Lib.hid hm; clear hm
    by_cases hlt : j < n
    · obtain ⟨G, off, A1, c1, xs, l, u, rfl, hxk, hcx, rx, _⟩ := (HX.out.keep HR.out.below HX.out.2.1).at_ hlt
      have NX : Hid (lensF (xss.take (j + 1)) = lensF (xss.take j) ++ [(xs.length : Int)]) := Lib.hid (by rw [List.take_add_one, hxk]; simp [lensF])
      have hsz := HR.out.below.size
      have b1 := tot_row hxk
      clear hxk rx
      generalize lensF (xss.take j) = l1 at *
      have hl : l1.length ≤ 1048576 := by rw [HLN.out]; omega
      go_wp2_with (at_builtin; refine wpList_append_one wr _ _ rfl _ _ 23 rfl w.heap.size 3 i0 _ 8 Try.underlying23 hi0 hz0 hz1 hz2 rfl _ _ _ rfl HR.out.own rfl rfl ?c4 (by decide) hsz ?_)
      case c4 => omega
      intro v' w' ho hg
      have HN : Hid (Grows w w' v' (lensF (xss.take (j + 1)))) := Lib.hid (by rw [NX.out]; exact HR.out.next ho rfl hg)
      clear ho hg HR hcx
      go_wp2
      go_roundw
      case rel => exact ⟨j + 1, by omega, by go_num, HN.out⟩
      case measure => simp [intOf]; omega
    · obtain rfl : j = n := by omega
      have e : xss.take j = xss := List.take_of_length_le (by rw [LX.out]; exact Nat.le_refl _)
      rw [e] at HR HLN ⊢
      clear e
      go_wp2_with fail
      refine (down_any C _ cc (lensF xss) _ _ (Row.of_own HR.out.own).rd (by rw [HLN.out]; exact hn)).mono ?_
      rintro e w2 hg
      obtain ⟨v, rfl, ho, hb⟩ := gives_later HR.out.below hg
      have HOW := Lib.hid ho; have HB := Lib.hid hb; clear ho hb hg
      go_wp2_with fail
      go_ret
      exact ⟨v, rfl, HOW.out, HB.out⟩
end Go.Proofs.Ytafpbnjfmieamaa.fns

/-
  Contracts of CyclesOf, of the program and of the model.
-/
namespace Go.Proofs.Ytafpbnjfmieamaa.fns
open Go.ChangeShapes Go.WideShapes Go.ChangeAt Go.RowKit
open Go.Proofs.Ytafpbnjfmieamaa.mem Go.Proofs.Ytafpbnjfmieamaa.ints Go.Proofs.Ytafpbnjfmieamaa.arr Go.Proofs.Ytafpbnjfmieamaa.pm Go.Proofs.Ytafpbnjfmieamaa.permOk Go.Proofs.Ytafpbnjfmieamaa.permOf Go.Proofs.Ytafpbnjfmieamaa.inv Go.Proofs.Ytafpbnjfmieamaa.mat
set_option linter.unusedVariables false
set_option maxRecDepth 100000

theorem mgives_nil {w w' : World} (h : Below w.heap.size w w') : MGives [] w (.returned (.slice none 0 0)) w' := ⟨none, 0, rfl, Mat.nil _ _ _ _ (Nat.le_refl _), h⟩
theorem mgives_later {w w1 w' : World} {r : List (List Int)} {e : Ending} (hb : Below w.heap.size w w1) (h : MGives r w1 e w') : MGives r w e w' := by
  obtain ⟨A, c, he, ho, hb'⟩ := h
  exact ⟨A, c, he, ho.wider hb.size (Nat.le_refl _) (Nat.le_refl _), hb.trans (hb'.mono hb.size)⟩

theorem infoB : (Try.prog.info? 4).map (fun i => (i.zero, i.size, i.bytes)) = some (some (.bool false), 1, 1) := by kernel_rfl
def flagsN (n : Nat) (l : List Int) : List Bool := (List.range n).map fun (j : Nat) => decide ((j : Int) ∈ l)
theorem flagsN_at (n : Nat) (l : List Int) {k : Nat} (h : k < n) : (flagsN n l)[k]? = some (decide ((k : Int) ∈ l)) := by simp [flagsN, h]
theorem flagsN_set {n : Nat} {l : List Int} {z : Nat} : (flagsN n l).set z true = flagsN n (l ++ [(z : Int)]) := by
  refine List.ext_getElem? fun i => ?_
  by_cases hi : i < n
  · rw [flagsN_at _ _ hi, List.getElem?_set]
    by_cases e : z = i
    · subst e; simp [flagsN, hi]
    · rw [if_neg e, flagsN_at _ _ hi]
      have : ¬ ((i : Int) = (z : Int)) := by omega
      simp [this]
  · rw [List.getElem?_eq_none (by simp [flagsN]; omega), List.getElem?_eq_none (by simp [flagsN]; omega)]
theorem flagsN_nil (n : Nat) : flagsN n [] = List.replicate n false := by
  refine List.ext_getElem? fun i => ?_
  by_cases hi : i < n
  · rw [flagsN_at _ _ hi]; simp [hi]
  · rw [List.getElem?_eq_none (by simp [flagsN]; omega), List.getElem?_eq_none (by simp; omega)]
theorem flagsN_cell {w : World} {g n : Nat} {l : List Int} {t : TypeId} (h : Arr w g (VB (flagsN n l)) t) {k : Nat} (hk : k < n) {b : Bool} (hb : decide ((k : Int) ∈ l) = b) : w.cell? ⟨g, k, none⟩ = some (.bool b) :=
  h.cell (by simp [VB, flagsN_at n l hk, hb])
/-- The flags of all rows, and the rows that grow. -/
structure Sm (w wr : World) (n : Nat) (v : Value) (xss : List (List Int)) : Prop where
  met : Arr wr (w.heap.size + 1) (VB (flagsN n xss.flatten)) 4
  below : Below w.heap.size w wr
  mg : Mg wr w.heap.size (w.heap.size + 2) (w.heap.size + 1) v xss
/-- Inside a round that began at wo: a row acc that grows in new blocks, the flags of S and of acc. -/
structure Si (w wo wr : World) (n : Nat) (S : List Int) (v : Value) (acc : List Int) : Prop where
  own : wr.ownsRow wo.heap.size 3 1 v acc.length (V acc)
  met : Arr wr (w.heap.size + 1) (VB (flagsN n (S ++ acc))) 4
  out : Out (w.heap.size + 1) (w.heap.size + 2) wo wr
/-- The state of the model's walk along a cycle: not begun, or begun and not back. -/
def Sw (n : Nat) (ps : List Int) (f x : Int) (acc S : List Int) : Prop := (acc = [] ∧ x = f) ∨ (∃ m, Cw n ps f x acc m) ∧ (∀ y ∈ acc, ¬ y ∈ S)

theorem Sw.x_in {n : Nat} {ps acc S : List Int} {f x : Int} (h : Sw n ps f x acc S) (hb : Bij n ps) (f0 : 0 ≤ f) (f1 : f < n) : ∃ z : Nat, x = (z : Int) ∧ z < n := by
  have : 0 ≤ x ∧ x < n := by
    rcases h with ⟨_, rfl⟩ | ⟨⟨m, hc⟩, _⟩
    · exact ⟨f0, f1⟩
    · exact hc.way.x_in hb
  exact ⟨x.toNat, by omega, by omega⟩
theorem Sw.len {n : Nat} {ps acc S : List Int} {f x : Int} (h : Sw n ps f x acc S) : acc.length ≤ n := by
  rcases h with ⟨rfl, _⟩ | ⟨⟨m, hc⟩, _⟩
  · simp
  · exact hc.way.inn.len
theorem Sw.exit {n k : Nat} {ps acc : List Int} {out : List (List Int)} {f x : Int} (h : Sw n ps f x acc out.flatten) (hb : Bij n ps) (hc : Cs n ps k out) (hx : x ∈ out.flatten ++ acc) :
    (acc = [] ∧ f ∈ out.flatten) ∨ (acc = cyc ps n f ∧ ¬ f ∈ out.flatten) := by
  rcases h with ⟨rfl, rfl⟩ | ⟨⟨m, hw⟩, hd⟩
  · exact .inl ⟨rfl, by simpa using hx⟩
  · have hp := hw.way.pos
    have hf : f ∈ acc := by have := getD_mem (l := acc) (i := 0) hp; rw [hw.way.head] at this; exact this
    by_cases e : x = f
    · subst e; exact .inr ⟨hw.done, hd _ hf⟩
    · exfalso
      rcases List.mem_append.1 hx with q | q
      · have m1 := getD_mem (l := acc) (i := acc.length - 1) (by omega)
        have a1 := hw.way.inn.lo _ m1; have a2 := hw.way.inn.hi _ m1
        rw [hw.way.last] at q
        have := hc.back _ (by omega) q
        rw [Int.toNat_of_nonneg a1] at this
        exact hd _ m1 this
      · exact hw.way.fresh hb e q
theorem Sw.next {n : Nat} {ps acc S : List Int} {f x : Int} (h : Sw n ps f x acc S) (hb : Bij n ps) (f0 : 0 ≤ f) (f1 : f < n) (hx : ¬ x ∈ S ++ acc) : Sw n ps f (ps.getD x.toNat 0) (acc ++ [x]) S := by
  have hxS : ¬ x ∈ S := fun q => hx (List.mem_append.2 (.inl q))
  have hxa : ¬ x ∈ acc := fun q => hx (List.mem_append.2 (.inr q))
  rcases h with ⟨rfl, rfl⟩ | ⟨⟨m, hw⟩, hd⟩
  · exact .inr ⟨⟨n, Cw.start f0 f1⟩, fun y hy => by simp at hy; subst hy; exact hxS⟩
  · have hp := hw.way.pos
    have hf : f ∈ acc := by have := getD_mem (l := acc) (i := 0) hp; rw [hw.way.head] at this; exact this
    refine .inr ⟨⟨m - 1, hw.next hb (fun e => hxa (e ▸ hf))⟩, fun y hy => ?_⟩
    rcases List.mem_append.1 hy with q | q
    · exact hd y q
    · simp at q; subst q; exact hxS

theorem Si.next {w wo wr w1 w' : World} {n : Nat} {S acc : List Int} {v v' : Value} {z m : Nat} (h : Si w wo wr n S v acc) (hw1 : w1 = wr.setCell ⟨w.heap.size + 1, z, none⟩ (.bool true))
    (ho : w'.ownsRow wo.heap.size 3 1 v' (m + 1) (V acc ++ [.int .i64 (z : Int)])) (hm : m = acc.length) (hg : w1.grownBy w' v.ownBlock) (hso : w.heap.size + 2 ≤ wo.heap.size) : Si w wo w' n S v' (acc ++ [(z : Int)]) := by
  subst hm
  have e : V (acc ++ [(z : Int)]) = V acc ++ [.int .i64 (z : Int)] := by simp [V]
  have s1 : w1.heap.size = wr.heap.size := by rw [hw1]; simp [World.setCell]
  have hm := h.met.lt
  have O1 : Out (w.heap.size + 1) (w.heap.size + 2) wo w1 := by rw [hw1]; exact h.out.set_ (by omega) (by omega) _
  refine ⟨by rw [e]; simpa using ho, ?_, ⟨hg.os.trans O1.os, hg.tape.trans O1.tape, hg.output.trans O1.output, Nat.le_trans O1.size hg.size, fun b hb hne => (hg.block b (by have := O1.size; omega) (fun e => by have := (h.own.lt b e.symm).1; omega)).trans (O1.block b hb hne)⟩⟩
  refine (hg.block _ (by omega) (fun e => by have := (h.own.lt _ e.symm).1; omega)).trans ?_
  have hh := h.met.set_ z (.bool true)
  rw [VB_set, flagsN_set, ← hw1, List.append_assoc] at hh
  exact hh

set_option maxHeartbeats 2000000 in
theorem cyc_spec (A : Option Addr) (n c : Nat) (xs : List Int) (hi : Nat) (w : World) (hx : Rd w hi A n (V xs)) (hn : n ≤ 1048576) (hc : n ≤ c) :
    Calls Try.prog 120 #[.slice A n c] w (MGives (cycF xs) w) := by
  have lx : xs.length = n := by simpa [V] using hx.1
  have LX := Lib.hid lx; clear lx
  have HX := Lib.hid hx; clear hx
  by_cases ox : okB xs = true
  · have OK := Lib.hid (Ok.of xs ox)
    have hn24 : n ≤ 24 := by have := OK.out.len; rw [LX.out] at this; exact this
    have HF : Hid (cycF xs = cso xs n n) := Lib.hid (by rw [← LX.out]; simp [cycF, ox])
    have BJ : Hid (Bij n xs) := Lib.hid (by have := OK.out.bij; rw [LX.out] at this; exact this)
    have HO := Lib.hid ox; clear ox
    obtain ⟨i0, hi0, hz0, hz1, hz2⟩ := info_parts infoII
    obtain ⟨j0, hj0, hy0, hy1, hy2⟩ := info_parts infoB
    obtain ⟨q0, hq0, hq1, hq2, hq3⟩ := info_parts infoI
    have HY2 := Lib.hid hy2; clear hy2
    rw [HF.out]
    go_enter Try.func120, Try.ntmps120
    go_wp2_with fail
    refine (permOk.spec_any A n c xs _ _ HX.out hn hc).mono ?_
    rintro e w1 ⟨rfl, rfl⟩
    rw [HO.out]
    go_wp2_with (at_make; refine wpList_make_full _ rfl _ _ 152 rfl (w.heap.size + 1) 4 j0 _ 1 Try.underlying152 hj0 hy0 hy1 _ _ _ _ n rfl rfl rfl rfl ?b2 ?b3 (by simp) ?_)
    case b2 => rw [HY2.out]; omega
    case b3 => unfold maxLen; omega
    intro w1 hown hg
    have hb1 : Below (w.heap.size + 1) (w.alloc (.cells #[] 23)) w1 := (Below.refl _ _).grown hg (by simp) (by simp)
    have hs1 : w.heap.size + 1 ≤ w1.heap.size := by have := hb1.size; simpa using this
    have OA := own_arr hown
    have SM : Hid (Sm w w1 n (.slice (some ⟨w.heap.size, 0, none⟩) 0 0) []) := Lib.hid ⟨by simpa [flagsN_nil, VB, toList_madeCells_one] using OA, ((Below.refl _ _).alloc (Nat.le_refl _) _).trans (hb1.mono (by omega)), Mg.empty ((hb1.block w.heap.size (by omega)).trans (heap_alloc_last w _)) (Nat.le_refl _) (by omega)⟩
    clear hown hg hb1 OA
    go_wp2
    go_loopw [3, 17] (fun v i wr => ∃ k : Nat, k ≤ n ∧ i = .int .i64 k ∧ Sm w wr n v (cso xs n k)) (fun _ i _ => n - (intOf i).toNat)
    case atStart => exact ⟨0, Nat.zero_le _, rfl, SM.out⟩
    case round =>
      obtain ⟨k, hk, rfl, hm⟩ := hrel
      obtain ⟨wo, rfl⟩ : ∃ wo : World, wo = wr := ⟨_, rfl⟩
      obtain ⟨C, cc, rfl⟩ := hm.mg.form
      have CM := Lib.hid hm; clear hm SM hs1
      have hso : w.heap.size + 2 ≤ wo.heap.size := CM.out.met.lt
      by_cases hlt : k < n
      · have CS := Lib.hid (cso_cs BJ.out k hk)
        go_wp2
        go_loopw [6, 7] (fun v x wr => ∃ (z : Int) (acc : List Int), x = .int .i64 z ∧ Sw n xs k z acc (cso xs n k).flatten ∧ Si w wo wr n (cso xs n k).flatten v acc) (fun v _ _ => n + 1 - lenV v)
        case atStart =>
          refine ⟨k, [], rfl, .inl ⟨rfl, rfl⟩, ?_, ?_, Out.of_below ((Below.refl _ _).alloc (Nat.le_refl _) _)⟩
          · exact ⟨rfl, .inr ⟨wo.heap.size, 0, #[], rfl, Nat.le_refl _, heap_alloc_last wo _, Nat.le_refl _, by simp, rfl, rfl⟩⟩
          · rw [List.append_nil]; exact CM.out.met.alloc _
        case round =>
          obtain ⟨z0, acc, rfl, hsw, hsi⟩ := hrel
          obtain ⟨z, rfl, hz⟩ := hsw.x_in BJ.out (by omega) (by omega)
          obtain ⟨C1, c1, rfl⟩ := own_form hsi.own
          have hal := hsw.len
          have SW := Lib.hid hsw; have SI := Lib.hid hsi; clear hsw hsi
          have hs2 := SI.out.out.size
          by_cases hin : (z : Int) ∈ (cso xs n k).flatten ++ acc
          · have hfl : wr.cell? ⟨w.heap.size + 1, z, none⟩ = some (.bool true) := flagsN_cell SI.out.met hz (by simpa using hin)
            have EX := SW.out.exit BJ.out CS.out hin
            clear hin
            rcases EX with ⟨rfl, hkin⟩ | ⟨hacc, hkn⟩
            · have NX : Hid (cso xs n (k + 1) = cso xs n k) := Lib.hid (by rw [cso, if_pos hkin])
              clear hkin
              have HN : Hid (Sm w wr n (.slice C (cso xs n k).length cc) (cso xs n (k + 1))) := Lib.hid (by
                rw [NX.out]
                refine ⟨by simpa using SI.out.met, CM.out.below.trans (SI.out.out.below (by omega) CM.out.below.size), CM.out.mg.keep hs2 (by omega) (by omega) (fun b q1 q2 q3 => SI.out.out.block b q2 (by omega))⟩)
              go_wp2
              go_roundw
              case rel => exact ⟨k + 1, by omega, by go_num, HN.out⟩
              case measure => simp [intOf]; omega
            · have NX : Hid (cso xs n (k + 1) = cso xs n k ++ [acc]) := Lib.hid (by rw [cso, if_neg hkn, hacc])
              have CPOS : 0 < acc.length := by rw [hacc]; exact (cyc_way (f := (k : Int)) BJ.out (by omega) (by omega)).pos
              clear hacc hkn
              have FL : Hid ((cso xs n (k + 1)).flatten = (cso xs n k).flatten ++ acc) := Lib.hid (by rw [NX.out]; simp)
              obtain ⟨hs, bl, own, hh, ne⟩ := CM.out.mg
              obtain ⟨g, hg0, hrow⟩ := own_row (xs := V acc) (by rw [V_len]; exact SI.out.own) (by rw [V_len]; exact CPOS)
              rw [V_len] at hrow
              have HROW := Lib.hid hrow
              have KEEP : Hid (∀ b, w.heap.size + 2 ≤ b → b < wo.heap.size → wr.heap[b]? = wo.heap[b]?) := Lib.hid (fun b q1 q2 => SI.out.out.block b q2 (by omega))
              have OWN : Hid (wr.ownsRow w.heap.size 23 1 (.slice C (cso xs n k).length cc) (cso xs n k).length hs) := Lib.hid (by
                refine ⟨own.1, ?_⟩
                rcases own.2 with h0 | ⟨g, cap, cur, q1, q2, q3, q4⟩
                · exact .inl h0
                · refine .inr ⟨g, cap, cur, q1, q2, (SI.out.out.block g (Array.getElem?_eq_some_iff.1 q3).1 ?_).trans q3, q4⟩
                  have : g ≠ w.heap.size + 1 := fun e => ne (by rw [q1, e]; rfl)
                  omega)
              have HHH := Lib.hid hh; have NE := Lib.hid ne
              have VLT : Hid (∀ b, (Value.slice C (cso xs n k).length cc).ownBlock = some b → b < wo.heap.size) := Lib.hid (fun b e => (own.lt b e).2)
              have hcle : (cso xs n k).length ≤ k := CS.out.len
              clear own hh ne hrow
              have hd : decide ((0 : Int) < (acc.length : Int)) = true := by simp; omega
              go_wp2_with (at_builtin; refine wpList_append_one2 wr _ _ rfl _ _ 28 rfl w.heap.size 23 i0 _ 24 1 Try.underlying28 hi0 hz0 hz1 rfl hz2 rfl _ _ _ rfl OWN.out rfl rfl ?c4 (by decide) (by omega) ?_)
              case c4 => omega
              intro v' w' ho hg hb
              have HN : Hid (Mg w' w.heap.size (w.heap.size + 2) (w.heap.size + 1) v' (cso xs n (k + 1))) := Lib.hid (by
                rw [NX.out]
                exact Mg.push HHH.out NE.out (by omega) KEEP.out hso (by omega) HROW.out hg0 VLT.out rfl ho hg hb)
              have HM : Hid (Arr w' (w.heap.size + 1) (VB (flagsN n (cso xs n (k + 1)).flatten)) 4) := Lib.hid (by
                have := SI.out.met
                rw [← FL.out] at this
                exact (hg.block _ (by omega) (fun e => NE.out e.symm)).trans this)
              have HBL : Hid (Below w.heap.size w w') := Lib.hid ((CM.out.below.trans (SI.out.out.below (by omega) CM.out.below.size)).trans ((Below.refl _ _).grown hg (by omega) (fun b hb => by have := (OWN.out.lt b hb).1; omega)))
              clear ho hg hb SI OWN HHH KEEP CM hfl
              go_wp2
              go_roundw
              case rel => exact ⟨k + 1, by omega, by go_num, HM.out, HBL.out, HN.out⟩
              case measure => simp [intOf]; omega
          · have hfl : wr.cell? ⟨w.heap.size + 1, z, none⟩ = some (.bool false) := flagsN_cell SI.out.met hz (by simpa using hin)
            have hff := SI.out.met.frozen z
            have NX := SW.out.next BJ.out (by omega) (by omega) hin
            rw [Int.toNat_natCast] at NX
            have NXX := Lib.hid NX; clear NX hin
            obtain ⟨g, off, u, rfl, hgl, hxu, hcx⟩ := HX.out.at_ hz
            obtain ⟨s, hxs, rfl⟩ := V_at hxu
            have hgd := permOk.getD_of hxs
            have hgw : g < w.heap.size := Nat.lt_of_lt_of_le hgl HX.out.2.1
            have OW : Hid ((wr.setCell ⟨w.heap.size + 1, z, none⟩ (.bool true)).ownsRow wo.heap.size 3 1 (.slice C1 acc.length c1) acc.length (V acc)) := Lib.hid (by
              refine SI.out.own.kept (row := some (w.heap.size + 1)) ⟨rfl, rfl, rfl, by simp [World.setCell], fun i hi hne => heap_setCell_other _ _ _ _ (fun e => hne (by rw [e]))⟩ (.inr (fun e => by have := (SI.out.own.lt _ e).1; omega)))
            generalize hw1 : wr.setCell ⟨w.heap.size + 1, z, none⟩ (.bool true) = w2 at OW
            have HW1 := Lib.hid hw1
            have hsz1 : wo.heap.size ≤ w2.heap.size := by rw [← hw1]; simpa [World.setCell] using hs2
            rw [hgd] at NXX
            clear hxu hxs hgd
            go_wp2_with (at_builtin; refine wpList_append_one w2 _ _ rfl _ _ 23 rfl wo.heap.size 3 q0 _ 8 Try.underlying23 hq0 hq1 hq2 hq3 rfl _ _ _ rfl OW.out rfl rfl ?c4 (by decide) hsz1 ?_)
            case c4 => omega
            intro v' w' ho hg
            have HN := Lib.hid (SI.out.next HW1.out.symm ho rfl hg hso)
            obtain ⟨C', cc', rfl⟩ := own_form HN.out.own
            have hcx' : w'.cell? ⟨g, off + z, none⟩ = some (.int .i64 s) := by
              rw [World.cell?_of_block (w := wo) (a := ⟨g, off + z, none⟩) (HN.out.out.block g (by omega) (by omega)), CM.out.below.cell (p := ⟨g, off + z, none⟩) hgw]
              exact hcx
            clear ho hg SI hw1 hfl hff hcx OW
            go_wp2
            go_roundw
            case rel => exact ⟨_, _, rfl, NXX.out, HN.out⟩
            case measure => simp [lenV]; omega
      · obtain rfl : k = n := by omega
        go_wp2
        go_ret
        exact ⟨C, cc, rfl, CM.out.mg.mat (by omega) (by omega), CM.out.below⟩
  · have ox' : okB xs = false := by simpa using ox
    have HF : Hid (cycF xs = []) := Lib.hid (by simp [cycF, ox'])
    have HO := Lib.hid ox'; clear ox ox'
    rw [HF.out]
    go_enter Try.func120, Try.ntmps120
    go_wp2_with fail
    refine (permOk.spec_any A n c xs _ _ HX.out hn hc).mono ?_
    rintro e w1 ⟨rfl, rfl⟩
    rw [HO.out]
    go_wp2_with fail
    go_ret
    exact mgives_nil (Below.refl _ _)
end Go.Proofs.Ytafpbnjfmieamaa.fns
