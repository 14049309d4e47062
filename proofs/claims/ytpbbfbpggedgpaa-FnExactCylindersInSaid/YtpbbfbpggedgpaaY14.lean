import Derived.Test.YtpbbfbpggedgpaaY10
import Derived.Test.YtpbbfbpggedgpaaY05
import Derived.Test.YtpbbfbpggedgpaaY08
import Derived.Test.YtpbbfbpggedgpaaY13
import Derived.Deep.AppendLies
/-
  The round about the corners: of the program's gluing, of the model.
-/
namespace Go.Proofs.Ytpbbfbpggedgpaa.gl
open Go.ChangeShapes Go.WideShapes Go.ChangeAt Go.RowKit
open Go.Proofs.Ytpbbfbpggedgpaa.mem Go.Proofs.Ytpbbfbpggedgpaa.ints Go.Proofs.Ytpbbfbpggedgpaa.arr Go.Proofs.Ytpbbfbpggedgpaa.pm Go.Proofs.Ytpbbfbpggedgpaa.permOk Go.Proofs.Ytpbbfbpggedgpaa.permOf Go.Proofs.Ytpbbfbpggedgpaa.inv Go.Proofs.Ytpbbfbpggedgpaa.fns Go.Proofs.Ytpbbfbpggedgpaa.sf
set_option linter.unusedVariables false
set_option maxRecDepth 100000

set_option maxHeartbeats 8000000 in
theorem around_any (p q : List Int) (n : Nat) (w : World) (hp : Sq p) (hq : Sq q) :
    Calls Try.prog 82 #[.agg (V (gl p q n)).toArray] w fun e w' => e = .returned (.agg (V (ar24 p q)).toArray) ∧ Below w.heap.size w w' := by
  have HP := Lib.hid hp; have HQ := Lib.hid hq; clear hp hq
  go_enter Try.func82, Try.ntmps82
  go_wp2_with fail
  generalize hw1 : (w.alloc (.cells (V (gl p q n)).toArray 52)).alloc (.cells #[.int .i64 0, .int .i64 0, .int .i64 0, .int .i64 0, .int .i64 0, .int .i64 0, .int .i64 0, .int .i64 0, .int .i64 0, .int .i64 0, .int .i64 0, .int .i64 0, .int .i64 0, .int .i64 0, .int .i64 0, .int .i64 0, .int .i64 0, .int .i64 0, .int .i64 0, .int .i64 0, .int .i64 0, .int .i64 0, .int .i64 0, .int .i64 0] 50) = w1
  have A2 : Hid (Arr w1 w.heap.size (V (gl p q n)) 52) := Lib.hid (by rw [← hw1]; exact (Arr.new w _ _ rfl).alloc _)
  have A4 : Hid (Arr w1 (w.heap.size + 1) (V zeros) 50) := Lib.hid (by rw [← hw1]; exact Arr.new _ (V zeros) _ (by simp))
  have B1 : Hid (Below w.heap.size w w1) := Lib.hid (by rw [← hw1]; exact ((Below.refl _ _).alloc (Nat.le_refl _) _).alloc (by simp) _)
  have s1 : w1.heap.size = w.heap.size + 2 := by rw [← hw1]; simp
  clear hw1
  refine wp_region_held_drew (S := Hld w.heap.size w1.heap.size w1 [(w.heap.size, V (gl p q n))]) (by kernel_rfl) ((Hld.start1 A2.out).lower (by omega)) (fun hHeld => ?_)
  have b1 : Below w1.heap.size w1 w1.drew := ⟨rfl, rfl, rfl, Nat.le_refl _, fun _ _ => rfl⟩
  generalize w1.drew = w4 at *
  have s4 := b1.size
  replace A4 := Lib.hid (A4.out.keep b1 A4.out.lt)
  replace B1 := Lib.hid (B1.out.trans (b1.mono B1.out.size))
  clear b1 A2
  refine wpAnyH_take (i := 0) (v := .pointer (some ⟨w.heap.size, 0, none⟩)) rfl (by kernel_rfl) (by kernel_rfl) (by kernel_rfl) (fun _ _ _ h => h) (Or.inl ⟨by rfl, fun w hSw => by go_simp⟩) hHeld ?_
  refine wpAnyH_take (i := 2) (v := .pointer (some ⟨w.heap.size, 24, none⟩)) rfl (by kernel_rfl) (by kernel_rfl) (by kernel_rfl) (fun _ _ _ h => h) (Or.inl ⟨by rfl, fun w hSw => by go_simp⟩) hHeld ?_
  refine wpAnyH_take (i := 5) (v := .pointer (some ⟨w.heap.size, 0, none⟩)) rfl (by kernel_rfl) (by kernel_rfl) (by kernel_rfl) (fun _ _ _ h => h) (Or.inl ⟨by rfl, fun w hSw => by go_simp⟩) hHeld ?_
  refine wpAnyH_take (i := 9) (v := .pointer (some ⟨w.heap.size, 24, none⟩)) rfl (by kernel_rfl) (by kernel_rfl) (by kernel_rfl) (fun _ _ _ h => h) (Or.inl ⟨by rfl, fun w hSw => by go_simp⟩) hHeld ?_
  refine wpAnyH_take (i := 1) (v := .agg (V p).toArray) rfl (by kernel_rfl) (by kernel_rfl) (by kernel_rfl) (fun _ _ _ h => h) (yieldsIf_load_mid (by rfl) _ _ rfl (w.heap.size) 0 rfl (V p) _ (fun w h => rg_right HP.out.len h.fst) Try.underlying50 rfl (hi24 HP.out.len)) hHeld ?_
  refine wpAnyH_take (i := 3) (v := .agg (V q).toArray) rfl (by kernel_rfl) (by kernel_rfl) (by kernel_rfl) (fun _ _ _ h => h) (yieldsIf_load_mid (by rfl) _ _ rfl (w.heap.size) 24 rfl (V q) _ (fun w h => rg_up HP.out.len HQ.out.len h.fst) Try.underlying50 rfl (hi24 HQ.out.len)) hHeld ?_
  refine wpAnyH_take (i := 6) (v := .agg (V p).toArray) rfl (by kernel_rfl) (by kernel_rfl) (by kernel_rfl) (fun _ _ _ h => h) (yieldsIf_load_mid (by rfl) _ _ rfl (w.heap.size) 0 rfl (V p) _ (fun w h => rg_right HP.out.len h.fst) Try.underlying50 rfl (hi24 HP.out.len)) hHeld ?_
  refine wpAnyH_take (i := 10) (v := .agg (V q).toArray) rfl (by kernel_rfl) (by kernel_rfl) (by kernel_rfl) (fun _ _ _ h => h) (yieldsIf_load_mid (by rfl) _ _ rfl (w.heap.size) 24 rfl (V q) _ (fun w h => rg_up HP.out.len HQ.out.len h.fst) Try.underlying50 rfl (hi24 HQ.out.len)) hHeld ?_
  refine wpAnyH_ready (rs := [4]) (by kernel_rfl) (by simp) (AllReadyH.cons rfl (fun K hK => ?_) AllReadyH.nil)
  go_simp
  refine (inv.then_any p q _ HP.out HQ.out).mono ?_
  rintro e w' ⟨rfl, b1⟩
  replace A4 := Lib.hid (A4.out.keep b1 A4.out.lt)
  replace B1 := Lib.hid (B1.out.trans (b1.mono B1.out.size))
  go_wp2_with fail
  have hHeld2 := hHeld.later b1 (by omega); clear b1 hHeld
  refine hK.out _ _ hHeld2 (fun hHeld => ?_)
  clear hK K hHeld2
  refine wpAnyH_ready (rs := [7]) (by kernel_rfl) (by simp) (AllReadyH.cons rfl (fun K hK => ?_) AllReadyH.nil)
  go_simp
  refine (inverse_any p _ HP.out).mono ?_
  rintro e w' ⟨rfl, b1⟩
  replace A4 := Lib.hid (A4.out.keep b1 A4.out.lt)
  replace B1 := Lib.hid (B1.out.trans (b1.mono B1.out.size))
  go_wp2_with fail
  have hHeld2 := hHeld.later b1 (by omega); clear b1 hHeld
  refine hK.out _ _ hHeld2 (fun hHeld => ?_)
  clear hK K hHeld2
  refine wpAnyH_ready (rs := [8]) (by kernel_rfl) (by simp) (AllReadyH.cons rfl (fun K hK => ?_) AllReadyH.nil)
  go_simp
  refine (inv.then_any (thenL p q) (invTo 24 p 24) _ (then_sq HP.out HQ.out) (inv_sq _)).mono ?_
  rintro e w' ⟨rfl, b1⟩
  replace A4 := Lib.hid (A4.out.keep b1 A4.out.lt)
  replace B1 := Lib.hid (B1.out.trans (b1.mono B1.out.size))
  go_wp2_with fail
  have hHeld2 := hHeld.later b1 (by omega); clear b1 hHeld
  refine hK.out _ _ hHeld2 (fun hHeld => ?_)
  clear hK K hHeld2
  refine wpAnyH_ready (rs := [11]) (by kernel_rfl) (by simp) (AllReadyH.cons rfl (fun K hK => ?_) AllReadyH.nil)
  go_simp
  refine (inverse_any q _ HQ.out).mono ?_
  rintro e w' ⟨rfl, b1⟩
  replace A4 := Lib.hid (A4.out.keep b1 A4.out.lt)
  replace B1 := Lib.hid (B1.out.trans (b1.mono B1.out.size))
  go_wp2_with fail
  have hHeld2 := hHeld.later b1 (by omega); clear b1 hHeld
  refine hK.out _ _ hHeld2 (fun hHeld => ?_)
  clear hK K hHeld2
  refine wpAnyH_ready (rs := [12]) (by kernel_rfl) (by simp) (AllReadyH.cons rfl (fun K hK => ?_) AllReadyH.nil)
  go_simp
  refine (inv.then_any (thenL (thenL p q) (invTo 24 p 24)) (invTo 24 q 24) _ (then_sq (then_sq HP.out HQ.out) (inv_sq _)) (inv_sq _)).mono ?_
  rintro e w' ⟨rfl, b1⟩
  replace A4 := Lib.hid (A4.out.keep b1 A4.out.lt)
  replace B1 := Lib.hid (B1.out.trans (b1.mono B1.out.size))
  go_wp2_with fail
  have hHeld2 := hHeld.later b1 (by omega); clear b1 hHeld
  refine hK.out _ _ hHeld2 (fun hHeld => ?_)
  clear hK K hHeld2
  have HA : Hid (thenL (thenL (thenL p q) (invTo 24 p 24)) (invTo 24 q 24) = ar24 p q) := Lib.hid rfl
  rw [HA.out]
  have HL := Lib.hid (ar24_len p q)
  generalize haa : ar24 p q = a at *
  have HAA := Lib.hid haa; clear haa
  clear HA
  refine wpAnyH_ready (rs := [13]) (by kernel_rfl) (by simp) (AllReadyH.cons rfl (fun K hK => ?_) AllReadyH.nil)
  refine step_store_row rfl 50 _ _ rfl (w.heap.size + 1) (V a).toArray rfl rfl 50 (V zeros).toArray A4.out (size_V HL.out) (by simp [V_len, HL.out, zeros]) (one_V _) ?_
  refine hK.out _ _ (hHeld.other (by omega) (by simp) _) (fun hHeld2 => ?_)
  clear hK K hHeld2
  refine wpAnyH_done (by kernel_rfl) ?_ _
  go_wp2_with fail
  exact bodyPost_ret (v := .agg (V a).toArray) (results_cell_row rfl _ _ (w.heap.size + 1) 50 (V a).toArray (0, 0) _ rfl A4.out.row Try.underlying50 rfl (size_V HL.out)) rfl ⟨by rw [HAA.out], below_setRow B1.out (by omega) _⟩

theorem l02inv_gives (A : Option Addr) (n c : Nat) (xs : List Int) (hi : Nat) (w : World) (hx : Rd w hi A n (V xs)) (ok : Ok xs) (hn : xs.length = n) :
    Calls Try.prog 78 #[.slice A n c] w (Gives (Inv xs) w) := by
  subst hn; exact l02inv_any A _ c xs hi w hx ok
theorem _root_.Go.Proofs.Ytpbbfbpggedgpaa.sf.Hld.c0 {base top a : Nat} {w W : World} {x y : Value} {l : List (Nat × List Value)} (h : Hld base top w ((a, [x, y]) :: l) W) : W.cell? ⟨a, 0, none⟩ = some x := by simpa using h.fst 0 x rfl
theorem _root_.Go.Proofs.Ytpbbfbpggedgpaa.sf.Hld.c1 {base top a : Nat} {w W : World} {x y : Value} {l : List (Nat × List Value)} (h : Hld base top w ((a, [x, y]) :: l) W) : W.cell? ⟨a, 1, none⟩ = some y := by simpa using h.fst 1 y rfl
set_option maxHeartbeats 4000000 in
theorem around_spec (v : Value) (r u : List Int) (hi : Nat) (w : World) (hx : Srd w hi v r u) (hs : Sf r.length r u) :
    Calls Try.prog 64 #[v] w (Gives (comm r u) w) := by
  have HX := Lib.hid hx; clear hx
  have HS := Lib.hid hs; clear hs
  obtain ⟨P, n, c, Q, m, d, rfl, q1, q2, e1, e2, ht, HR⟩ := HX.out.open
  have RU : Hid (r.length = u.length) := Lib.hid (HS.out.lu ▸ rfl)
  have HI : Hid (n = m) := Lib.hid (by rw [← q1, ← q2]; exact RU.out)
  have Q1 := Lib.hid q1; have Q2 := Lib.hid q2; clear q1 q2
  go_enter Try.func64, Try.ntmps64
  go_wp2_with fail
  refine (l02then_any P n c Q m d r u _ _ _ (HR.out _).1 (HR.out _).2 HS.out.r HI.out).mono ?_
  rintro e w1 hg
  obtain ⟨v1, rfl, o1, b1⟩ := hg
  obtain ⟨P1, c1, rfl⟩ := own_form o1
  have hs1 : w.heap.size + 1 ≤ w1.heap.size := by have := b1.size; simpa using this
  have A0 := Lib.hid ((Arr.new w [.slice P n c, .slice Q m d] 30 rfl).keep b1 (by simp))
  have R1 := Lib.hid (Row.of_own o1)
  have B1 := Lib.hid (below1 _ _ b1)
  have X1 : Hid (Srd w1 hi (.agg #[.slice P n c, .slice Q m d]) r u) := Lib.hid (HX.out.keep (B1.out.mono ht) (Nat.le_refl _))
  clear o1 b1 HR
  go_wp2_with fail
  refine wp_region_held_drew (S := Hld w1.heap.size w1.heap.size w1 [(w.heap.size, [.slice P n c, .slice Q m d])]) (by kernel_rfl) (Hld.start1 A0.out) (fun hHeld => ?_)
  have b1 : Below w1.heap.size w1 w1.drew := ⟨rfl, rfl, rfl, Nat.le_refl _, fun _ _ => rfl⟩
  generalize w1.drew = w2 at *
  have s_ := b1.size; replace R1 := Lib.hid (R1.out.keep b1 R1.out.2.1); replace X1 := Lib.hid (X1.out.keep b1 X1.out.top); replace B1 := Lib.hid (B1.out.trans (b1.mono B1.out.size))
  replace A0 := Lib.hid (A0.out.keep b1 A0.out.lt); clear b1 s_
  refine wpAnyH_take (i := 0) (v := .pointer (some ⟨w.heap.size, 0, none⟩)) rfl (by kernel_rfl) (by kernel_rfl) (by kernel_rfl) (fun _ _ _ h => h) (Or.inl ⟨by rfl, fun w hSw => by go_simp⟩) hHeld ?_
  refine wpAnyH_take (i := 3) (v := .pointer (some ⟨w.heap.size, 1, none⟩)) rfl (by kernel_rfl) (by kernel_rfl) (by kernel_rfl) (fun _ _ _ h => h) (Or.inl ⟨by rfl, fun w hSw => by go_simp⟩) hHeld ?_
  refine wpAnyH_take (i := 1) (v := .slice P n c) rfl (by kernel_rfl) (by kernel_rfl) (by kernel_rfl) (fun _ _ _ h => h) (Or.inl ⟨by rfl, fun w hSw => by have := hSw.c0; go_simp⟩) hHeld ?_
  refine wpAnyH_take (i := 4) (v := .slice Q m d) rfl (by kernel_rfl) (by kernel_rfl) (by kernel_rfl) (fun _ _ _ h => h) (Or.inl ⟨by rfl, fun w hSw => by have := hSw.c1; go_simp⟩) hHeld ?_
  refine wpAnyH_ready (rs := [2]) (by kernel_rfl) (by simp) (AllReadyH.cons rfl (fun K hK => ?_) AllReadyH.nil)
  go_simp
  refine (l02inv_gives P n c r hi _ (Srd.fst X1.out) HS.out.r Q1.out).mono ?_
  rintro e w3 ⟨v3, rfl, o3, b1⟩
  obtain ⟨P3, c3, rfl⟩ := own_form o3
  have s_ := b1.size; replace R1 := Lib.hid (R1.out.keep b1 R1.out.2.1); replace X1 := Lib.hid (X1.out.keep b1 X1.out.top); replace B1 := Lib.hid (B1.out.trans (b1.mono B1.out.size))
  have R3 := Lib.hid (Row.of_own o3); clear o3 s_
  go_wp2_with fail
  have hHeld2 := hHeld.later b1 (by omega); clear b1 hHeld
  refine hK.out _ _ hHeld2 (fun hHeld => ?_)
  clear hK K hHeld2
  refine wpAnyH_ready (rs := [5]) (by kernel_rfl) (by simp) (AllReadyH.cons rfl (fun K hK => ?_) AllReadyH.nil)
  go_simp
  refine (l02inv_gives Q m d u hi _ (Srd.snd X1.out) HS.out.u Q2.out).mono ?_
  rintro e w4 ⟨v4, rfl, o4, b1⟩
  obtain ⟨P4, c4, rfl⟩ := own_form o4
  have s_ := b1.size; replace R1 := Lib.hid (R1.out.keep b1 R1.out.2.1); replace X1 := Lib.hid (X1.out.keep b1 X1.out.top); replace B1 := Lib.hid (B1.out.trans (b1.mono B1.out.size))
  replace R3 := Lib.hid (R3.out.keep b1 R3.out.2.1)
  have R4 := Lib.hid (Row.of_own o4); clear o4 s_
  go_wp2_with fail
  have hHeld2 := hHeld.later b1 (by omega); clear b1 hHeld
  refine hK.out _ _ hHeld2 (fun hHeld => ?_)
  clear hK K hHeld2
  refine wpAnyH_ready (rs := [6]) (by kernel_rfl) (by simp) (AllReadyH.cons rfl (fun K hK => ?_) AllReadyH.nil)
  go_simp
  refine (l02then_any P3 _ c3 P4 _ c4 (Inv r) (Inv u) _ _ _ R3.out.rd R4.out.rd (Inv_ok HS.out.r) (by rw [Inv_len, Inv_len]; exact RU.out)).mono ?_
  rintro e w5 ⟨v5, rfl, o5, b1⟩
  obtain ⟨P5, c5, rfl⟩ := own_form o5
  have s_ := b1.size; replace R1 := Lib.hid (R1.out.keep b1 R1.out.2.1); replace X1 := Lib.hid (X1.out.keep b1 X1.out.top); replace B1 := Lib.hid (B1.out.trans (b1.mono B1.out.size))
  replace R3 := Lib.hid (R3.out.keep b1 R3.out.2.1)
  replace R4 := Lib.hid (R4.out.keep b1 R4.out.2.1)
  have R5 := Lib.hid (Row.of_own o5); clear o5 s_
  go_wp2_with fail
  have hHeld2 := hHeld.later b1 (by omega); clear b1 hHeld
  refine hK.out _ _ hHeld2 (fun hHeld => ?_)
  clear hK K hHeld2
  refine wpAnyH_ready (rs := [7]) (by kernel_rfl) (by simp) (AllReadyH.cons rfl (fun K hK => ?_) AllReadyH.nil)
  go_simp
  refine hK.out _ _ hHeld (fun hHeld2 => ?_)
  clear hK K hHeld hHeld2
  refine wpAnyH_done (by kernel_rfl) ?_ _
  go_wp2_with fail
  refine (l02then_any P1 _ c1 P5 _ c5 (thn r u) (thn (Inv r) (Inv u)) _ _ _ R1.out.rd R5.out.rd (thn_ok HS.out.r HS.out.u RU.out) (by rw [thn_len, thn_len, Inv_len])).mono ?_
  rintro e w6 hg
  obtain ⟨v6, rfl, o6, b6⟩ := gives_later B1.out hg
  have O6 := Lib.hid o6; have B6 := Lib.hid b6; clear o6 b6 hg
  have HC : Hid (comm r u = thn (thn r u) (thn (Inv r) (Inv u))) := Lib.hid rfl
  rw [HC.out]
  go_wp2_with fail
  go_ret
  exact ⟨v6, rfl, O6.out, B6.out⟩
end Go.Proofs.Ytpbbfbpggedgpaa.gl

/-
  The shear of the model.
-/
namespace Go.Proofs.Ytpbbfbpggedgpaa.mk
open Go.ChangeShapes Go.WideShapes Go.ChangeAt Go.RowKit
open Go.Proofs.Ytpbbfbpggedgpaa.mem Go.Proofs.Ytpbbfbpggedgpaa.ints Go.Proofs.Ytpbbfbpggedgpaa.arr Go.Proofs.Ytpbbfbpggedgpaa.pm Go.Proofs.Ytpbbfbpggedgpaa.permOk Go.Proofs.Ytpbbfbpggedgpaa.permOf Go.Proofs.Ytpbbfbpggedgpaa.inv Go.Proofs.Ytpbbfbpggedgpaa.fns Go.Proofs.Ytpbbfbpggedgpaa.sf Go.Proofs.Ytpbbfbpggedgpaa.gl
set_option linter.unusedVariables false
set_option maxRecDepth 100000
theorem Hld.later2 {base top B : Nat} {w W W' : World} {bs : List (Nat × List Value)} (h : Hld base top w bs W) (hB : Below B W W') (hb : base ≤ B) (ht : top ≤ B) : Hld base top w bs W' :=
  ⟨fun p hp => ⟨(h.at_ p hp).1, fun j v hv => by rw [hB.cell (p := ⟨p.1, 0 + j, none⟩) (show p.1 < _ from Nat.lt_of_lt_of_le (h.at_ p hp).1 ht)]; exact (h.at_ p hp).2 j v hv⟩,
    h.below.trans (hB.mono hb), Nat.le_trans h.size hB.size⟩
theorem built_two (P Q : Option Addr) (n c m d : Nat) : Try.prog.built 30 [(0, .slice P n c), (1, .slice Q m d)] = some #[.slice P n c, .slice Q m d] := by kernel_rfl
set_option maxHeartbeats 4000000 in
theorem shear_any (v : Value) (r u : List Int) (N hi : Nat) (w : World) (hx : Srd w hi v r u) (hs : Sf N r u) :
    Calls Try.prog 67 #[v] w fun e w' => ∃ g, e = .returned g ∧ Svl w' w.heap.size w'.heap.size g r (thn (Inv r) u) ∧ Below w.heap.size w w' := by
  obtain ⟨i0, hi0, hz0, hz1, hz2⟩ := info_parts infoI
  have HX := Lib.hid hx; clear hx
  have HS := Lib.hid hs; clear hs
  obtain ⟨P, n, c, Q, m, d, rfl, q1, q2, e1, e2, ht, HR⟩ := HX.out.open
  have RU : Hid (r.length = u.length) := Lib.hid (by rw [HS.out.lr, HS.out.lu])
  obtain rfl : n = N := by rw [← q1]; exact HS.out.lr
  have hN24 : n ≤ 24 := by have := HS.out.r.len; rw [HS.out.lr] at this; omega
  have hN0 : 0 < n := HS.out.pos
  have Q1 := Lib.hid q1; have Q2 := Lib.hid q2; clear q1 q2
  clear HR
  go_enter Try.func67, Try.ntmps67
  go_wp2_with fail
  have A0 := Lib.hid ((Arr.new w [.slice P n c, .slice Q m d] 30 rfl).alloc (.cells #[.slice none 0 0, .slice none 0 0] 30))
  have A1 := Lib.hid (Arr.new (w.alloc (.cells #[.slice P n c, .slice Q m d] 30)) [.slice none 0 0, .slice none 0 0] 30 rfl)
  have B1 := Lib.hid (((Below.refl w.heap.size w).alloc (Nat.le_refl _) (.cells #[.slice P n c, .slice Q m d] 30)).alloc (by simp) (.cells #[.slice none 0 0, .slice none 0 0] 30))
  have es : ((w.alloc (.cells #[.slice P n c, .slice Q m d] 30)).alloc (.cells #[.slice none 0 0, .slice none 0 0] 30)).heap.size = w.heap.size + 2 := by simp
  rw [show (w.alloc (.cells #[.slice P n c, .slice Q m d] 30)).heap.size = w.heap.size + 1 by simp] at A1
  have X1 : Hid (Srd ((w.alloc (.cells #[.slice P n c, .slice Q m d] 30)).alloc (.cells #[.slice none 0 0, .slice none 0 0] 30)) hi (.agg #[.slice P n c, .slice Q m d]) r u) := Lib.hid (HX.out.keep (B1.out.mono ht) (Nat.le_refl _))
  generalize (w.alloc (.cells #[.slice P n c, .slice Q m d] 30)).alloc (.cells #[.slice none 0 0, .slice none 0 0] 30) = w1 at *
  refine wp_region_held_drew (S := Hld (w.heap.size + 1) w1.heap.size w1 [(w.heap.size, [.slice P n c, .slice Q m d])]) (by kernel_rfl) ((Hld.start1 A0.out).lower (by omega)) (fun hHeld => ?_)
  have b1 : Below w1.heap.size w1 w1.drew := ⟨rfl, rfl, rfl, Nat.le_refl _, fun _ _ => rfl⟩
  generalize w1.drew = w2 at *
  have s2 := b1.size; replace X1 := Lib.hid (X1.out.keep b1 X1.out.top); replace B1 := Lib.hid (B1.out.trans (b1.mono B1.out.size))
  replace A1 := Lib.hid (A1.out.keep b1 A1.out.lt); clear b1 A0
  refine wpAnyH_take (i := 1) (v := .pointer (some ⟨w.heap.size, 0, none⟩)) rfl (by kernel_rfl) (by kernel_rfl) (by kernel_rfl) (fun _ _ _ h => h) (Or.inl ⟨by rfl, fun w hSw => by go_simp⟩) hHeld ?_
  refine wpAnyH_take (i := 4) (v := .pointer (some ⟨w.heap.size, 0, none⟩)) rfl (by kernel_rfl) (by kernel_rfl) (by kernel_rfl) (fun _ _ _ h => h) (Or.inl ⟨by rfl, fun w hSw => by go_simp⟩) hHeld ?_
  refine wpAnyH_take (i := 7) (v := .pointer (some ⟨w.heap.size, 1, none⟩)) rfl (by kernel_rfl) (by kernel_rfl) (by kernel_rfl) (fun _ _ _ h => h) (Or.inl ⟨by rfl, fun w hSw => by go_simp⟩) hHeld ?_
  refine wpAnyH_take (i := 2) (v := .slice P n c) rfl (by kernel_rfl) (by kernel_rfl) (by kernel_rfl) (fun _ _ _ h => h) (Or.inl ⟨by rfl, fun w hSw => by have := hSw.c0; go_simp⟩) hHeld ?_
  refine wpAnyH_take (i := 5) (v := .slice P n c) rfl (by kernel_rfl) (by kernel_rfl) (by kernel_rfl) (fun _ _ _ h => h) (Or.inl ⟨by rfl, fun w hSw => by have := hSw.c0; go_simp⟩) hHeld ?_
  refine wpAnyH_take (i := 8) (v := .slice Q m d) rfl (by kernel_rfl) (by kernel_rfl) (by kernel_rfl) (fun _ _ _ h => h) (Or.inl ⟨by rfl, fun w hSw => by have := hSw.c1; go_simp⟩) hHeld ?_
  refine wpAnyH_ready (rs := [0]) (by kernel_rfl) (by simp) (AllReadyH.cons rfl (fun K hK => ?_) AllReadyH.nil)
  go_simp
  have b1 : Below w2.heap.size w2 (w2.alloc (.cells #[] 3)) := (Below.refl _ _).alloc (Nat.le_refl _) _
  have o3 := (Grows.empty w2).own
  have hHeld2 := hHeld.later b1 (by omega); clear hHeld
  have s_ := b1.size; replace X1 := Lib.hid (X1.out.keep b1 X1.out.top); replace B1 := Lib.hid (B1.out.trans (b1.mono B1.out.size))
  replace A1 := Lib.hid (A1.out.keep b1 A1.out.lt); clear b1
  refine hK.out _ _ hHeld2 (fun hHeld => ?_)
  clear hK K hHeld2
  generalize w2.alloc (.cells #[] 3) = w3 at *
  have O3 := Lib.hid o3; clear o3
  refine wpAnyH_ready (rs := [3]) (by kernel_rfl) (by simp) (AllReadyH.cons rfl (fun K hK => ?_) AllReadyH.nil)
  obtain ⟨P0, o0, rfl⟩ : ∃ g o, P = some ⟨g, o, none⟩ := by
    obtain ⟨g, off, q, _⟩ := (Srd.fst X1.out).2.2 hN0
    exact ⟨g, off, q⟩
  have hnews : ∀ (j : Nat) (q : Value), (V r)[j]? = some q → w3.cell? ((⟨P0, o0, none⟩ : Addr).add j) = some q := fun j q hq => by
    have hj : j < n := by have := (List.getElem?_eq_some_iff.1 hq).1; rw [V_len, Q1.out] at this; exact this
    obtain ⟨g, off, u', e, _, h1, h2⟩ := (Srd.fst X1.out).at_ hj
    injection e with e; injection e with e1 e2 e3
    subst e1; subst e2
    rw [h1] at hq
    have : (⟨P0, o0, none⟩ : Addr).add j = ⟨P0, o0 + j, none⟩ := by simp [Addr.add]
    rw [this, h2, ← hq]
  have hws : w2.heap.size ≤ w3.heap.size := s_
  refine step_append_lies w3 rfl _ _ 24 rfl w2.heap.size 3 i0 _ 1 8 Try.underlying24 hi0 hz0 hz1 hz2 rfl (by decide) _ 0 [] rfl O3.out ⟨P0, o0, none⟩ n c (V r) rfl (by rw [V_len, Q1.out, Nat.mul_one]) hnews (fun q hq => by obtain ⟨z, _, rfl⟩ := List.mem_map.1 hq; rfl) hN0 (by unfold maxLen; omega) (by omega) hws _ rfl ?_
  intro g3 c3 w4 ho hg hat hlt
  clear hnews
  have b1 : Below w2.heap.size w3 w4 := own_below O3.out hg (Nat.le_refl _) hws
  have hw2 : w.heap.size ≤ w2.heap.size := by omega
  rw [Nat.zero_add, List.nil_append] at ho
  rw [Nat.zero_add]
  have hHeld2 := Hld.later2 hHeld b1 (by omega) (by omega); clear hHeld
  replace X1 := Lib.hid (X1.out.keep (b1.mono (by have := X1.out.top; have := HX.out.top; omega)) (Nat.le_refl _))
  replace B1 := Lib.hid (B1.out.trans (b1.mono hw2))
  replace A1 := Lib.hid (A1.out.keep b1 (by omega))
  have R4 := Lib.hid (Row.of_own ho)
  have hc3 := (own_cap ho).2
  have s4 := b1.size
  clear ho hg hat hlt b1 O3 s_
  refine hK.out _ _ hHeld2 (fun hHeld => ?_)
  clear hK K hHeld2
  refine wpAnyH_ready (rs := [6]) (by kernel_rfl) (by simp) (AllReadyH.cons rfl (fun K hK => ?_) AllReadyH.nil)
  go_simp
  refine (l02inv_gives (some ⟨P0, o0, none⟩) n c r hi _ (Srd.fst X1.out) HS.out.r Q1.out).mono ?_
  rintro e w5 ⟨v5, rfl, o5, b1⟩
  obtain ⟨P5, c5, rfl⟩ := own_form o5
  have s_ := b1.size; replace X1 := Lib.hid (X1.out.keep b1 X1.out.top); replace B1 := Lib.hid (B1.out.trans (b1.mono B1.out.size))
  replace A1 := Lib.hid (A1.out.keep b1 A1.out.lt)
  replace R4 := Lib.hid (R4.out.keep b1 R4.out.2.1)
  have R5 := Lib.hid (Row.of_own o5); clear o5
  go_wp2_with fail
  have hHeld2 := hHeld.later b1 (by omega); clear b1 hHeld
  refine hK.out _ _ hHeld2 (fun hHeld => ?_)
  clear hK K hHeld2
  refine wpAnyH_ready (rs := [9]) (by kernel_rfl) (by simp) (AllReadyH.cons rfl (fun K hK => ?_) AllReadyH.nil)
  go_simp
  refine (l02then_any P5 _ c5 Q m d (Inv r) u _ _ _ R5.out.rd (Srd.snd X1.out) (Inv_ok HS.out.r) (by rw [Inv_len, ← Q2.out]; exact RU.out)).mono ?_
  rintro e w6 ⟨v6, rfl, o6, b1⟩
  obtain ⟨P6, c6, rfl⟩ := own_form o6
  have hc6 := (own_cap o6).2
  replace B1 := Lib.hid (B1.out.trans (b1.mono B1.out.size))
  replace A1 := Lib.hid (A1.out.keep b1 A1.out.lt)
  replace R4 := Lib.hid (R4.out.keep b1 R4.out.2.1)
  have s6 := b1.size
  have R6 := Lib.hid (Row.of_own o6); clear o6
  go_wp2_with fail
  have hHeld2 := hHeld.later b1 (by omega); clear b1 hHeld R5 X1
  refine hK.out _ _ hHeld2 (fun hHeld => ?_)
  clear hK K hHeld2
  have hl : (thn (Inv r) u).length = n := by rw [thn_len, Inv_len, Q1.out]
  rw [hl] at hc6 ⊢
  replace R6 : Hid (Row w6 w5.heap.size w6.heap.size P6 n (V (thn (Inv r) u))) := Lib.hid (by have := R6.out; rw [hl] at this; exact this)
  clear hl
  refine wpAnyH_ready (rs := [10]) (by kernel_rfl) (by simp) (AllReadyH.cons rfl (fun K hK => ?_) AllReadyH.nil)
  refine step_build rfl 30 _ rfl [(0, .slice (some ⟨g3, 0, none⟩) n c3), (1, .slice P6 n c6)] rfl #[.slice (some ⟨g3, 0, none⟩) n c3, .slice P6 n c6] (built_two _ _ _ _ _ _) ?_
  refine hK.out _ _ hHeld (fun hHeld2 => ?_)
  clear hK K hHeld
  refine wpAnyH_ready (rs := [11]) (by kernel_rfl) (by simp) (AllReadyH.cons rfl (fun K hK => ?_) AllReadyH.nil)
  refine step_store_row rfl 30 _ _ rfl (w.heap.size + 1) #[.slice (some ⟨g3, 0, none⟩) n c3, .slice P6 n c6] rfl rfl 30 #[.slice none 0 0, .slice none 0 0] A1.out size2 rfl (by simp [Value.oneCell']) ?_
  refine hK.out _ _ (hHeld2.other (Nat.le_refl _) (by simp) _) (fun hHeld => ?_)
  clear hK K hHeld2 hHeld
  refine wpAnyH_done (by kernel_rfl) ?_ _
  go_wp2_with fail
  exact bodyPost_ret (v := .agg #[.slice (some ⟨g3, 0, none⟩) n c3, .slice P6 n c6]) (results_cell_row rfl _ _ (w.heap.size + 1) 30 #[.slice (some ⟨g3, 0, none⟩) n c3, .slice P6 n c6] (0, 0) _ rfl A1.out.row Try.underlying30 rfl size2) rfl (by
    have m2 : Svl w6 (w.heap.size + 2) w6.heap.size (.agg #[.slice (some ⟨g3, 0, none⟩) n c3, .slice P6 n c6]) r (thn (Inv r) u) :=
      Svl.mk2 (l2 := w5.heap.size) (R4.out.wider (by omega) (by omega) (by omega)) R6.out (by omega) hc3 hc6
    have := Svl.row m2 (g := w.heap.size + 1) (by omega) #[.slice (some ⟨g3, 0, none⟩) n c3, .slice P6 n c6]
    exact ⟨_, rfl, (by simpa using this.later (by omega)), below_setRow B1.out (by omega) _⟩)
end Go.Proofs.Ytpbbfbpggedgpaa.mk
