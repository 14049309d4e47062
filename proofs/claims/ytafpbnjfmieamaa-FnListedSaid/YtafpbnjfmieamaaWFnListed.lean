/-
  FnListed: at every argument the law FnListed returns true, and its arguments read as before. No condition.
-/
import Derived.Test.YtafpbnjfmieamaaRows
import Derived.WalkKit
import Derived.ProofKit
import Derived.OpenShut
import Derived.ShutString
import Derived.ChangeOld
import Derived.Below
import Derived.Test.YtafpbnjfmieamaaWBx
import Derived.Test.YtafpbnjfmieamaaWBz
import Derived.Test.YtafpbnjfmieamaaWDrawN
import Derived.Test.YtafpbnjfmieamaaWDrawP
import Derived.Test.YtafpbnjfmieamaaWOpenB
import Derived.Test.YtafpbnjfmieamaaY05
import Derived.Test.YtafpbnjfmieamaaY15
namespace Go.Proofs.Ytafpbnjfmieamaa.fnListed
open Go.ChangeShapes Go.WideShapes Go.ChangeAt Go.RowKit
open Go.ChangeMaps (open_string shut_string)
open Go.Proofs.Ytafpbnjfmieamaa.mem Go.Proofs.Ytafpbnjfmieamaa.ints Go.Proofs.Ytafpbnjfmieamaa.arr Go.Proofs.Ytafpbnjfmieamaa.sf Go.Proofs.Ytafpbnjfmieamaa.pm Go.Proofs.Ytafpbnjfmieamaa.permOk Go.Proofs.Ytafpbnjfmieamaa.permOf Go.Proofs.Ytafpbnjfmieamaa.fns Go.Proofs.Ytafpbnjfmieamaa.mat Go.Proofs.Ytafpbnjfmieamaa.gl Go.Proofs.Ytafpbnjfmieamaa.cur Go.Proofs.Ytafpbnjfmieamaa.orb
set_option linter.unusedVariables false
set_option maxRecDepth 100000

theorem own : ownKnob Try.prog.godebug = none := by kernel_rfl
theorem laidOut : laidOutB Try.prog = true := by kernel_rfl

theorem region_share {C : Code} {P : Program} {Q : Exit → Act → World → Prop} {a : Act} {w : World} (S : World → Prop) (G : World → Value → Value → Value → Value → Act) (hp : ∀ (c : _) (a : Act) (d : Option Tmp) (v : Value) (w : World), Q (.panic c) (a.put d v) w → Q (.panic c) a w) (h1 : ∀ Q' : Exit → Act → World → Prop, (∀ (c : _) (a : Act) (d : Option Tmp) (v : Value) (w : World), Q' (.panic c) (a.put d v) w → Q' (.panic c) a w) → (∀ W p q r s, S W → Q' .normal (G W p q r s) W) → C.wp P Q' a w) (h2 : ∀ W p q r s, S W → Q .normal (G W p q r s) W) : C.wp P Q a w := h1 Q hp h2

set_option maxRecDepth 100000 in
set_option maxHeartbeats 4000000 in
theorem walk (w : World) (A : Option Addr) (n c : Nat) (l : List Int) (rd : Rd w w.heap.size A n (U l)) (cn : n ≤ c) (cm : c ≤ maxLen) (el : Bytes l) :
    Calls Try.prog 3 #[.slice A n c] w fun e w' => e = .returned (.bool true) ∧ Below w.heap.size w w' := by
  have RD := Lib.hid rd; have EL := Lib.hid el; clear rd el
  unfold maxLen at cm
  by_cases b0 : 1048576 < n
  · clear RD EL
    go_enter Try.func3, Try.ntmps3
    go_wp2_with fail
    go_ret
    exact ⟨rfl, Below.refl _ _⟩
  have hd0 : decide (1048576 < (n : Int)) = false := by simp; omega
  have HC := Lib.hid (cur.Code.mk RD.out EL.out (by omega)); clear RD EL
  have ST : Hid (∃ W, W = w.alloc (.cells #[.int .i64 1, .int .i64 2, .int .i64 3, .int .i64 3, .int .i64 2, .int .i64 3, .int .i64 3, .int .i64 3, .int .i64 3, .int .i64 3, .int .i64 3, .int .i64 4] 3) ∧ Below w.heap.size w W ∧ Arr W w.heap.size (V lst.litN) 3) := Lib.hid ⟨_, rfl, (Below.refl _ _).alloc (Nat.le_refl _) _, Arr.new w (V lst.litN) _ rfl⟩
  go_enter Try.func3, Try.ntmps3
  go_wp2_with fail
  obtain ⟨w1, eW, b1, ar⟩ := ST.out
  rw [← eW]
  have BB := Lib.hid b1; have AR := Lib.hid ar
  clear eW b1 ar ST
  refine (num_any _ _ A n c l 1 (by omega) (HC.out.keep BB.out (Nat.le_refl _))).mono ?_
  rintro e w2 ⟨y, y0, y1, rfl, b1⟩
  have BB2 := Lib.hid (BB.out.trans (b1.mono BB.out.size)); have AR2 := Lib.hid (AR.out.keep b1 AR.out.lt)
  clear b1 BB AR
  obtain ⟨j, hj⟩ := Int.eq_ofNat_of_zero_le (show 0 ≤ y.tmod 12 by rw [Int.tmod_eq_emod_of_nonneg y0]; exact Int.emod_nonneg _ (by omega))
  have hj12 : j < 12 := by have := Int.emod_lt_of_pos y (show (0 : Int) < 12 by omega); rw [← Int.tmod_eq_emod_of_nonneg y0, hj] at this; omega
  obtain ⟨N, h1, h4, hN⟩ := lst.lit_n hj12
  have cj : w2.cell? ⟨w.heap.size, j, none⟩ = some (.int .i64 N) := AR2.out.cell hN
  clear hN
  go_wp2_with fail
  clear cj hj AR2
  have NM := Lib.hid (lst.swF_num h1 h4); have NT := Lib.hid (lst.ctF_num h1 h4); have SA := Lib.hid (lst.sumS_all h1 h4); have SFW := Lib.hid (lst.stF_few h1 h4)
  have LS := Lib.hid (lst.lit_s h1 h4); have LT := Lib.hid (lst.lit_t h1 h4)
  refine (lst.sw_impl (N : Int) _).mono ?_
  rintro e w3 ⟨v3, rfl, sx⟩
  have s2 := BB2.out.size
  have BB3 := Lib.hid (BB2.out.trans (sx.bel.mono s2))
  obtain ⟨Al, cl, rfl⟩ := sx.form
  have LO := Lib.hid sx.lo
  have s3 := sx.bel.size
  clear sx BB2
  have HIN := Lib.hid (fun x (hx : x ∈ lst.swF (N : Int)) => lst.own_form_ hx)
  have HFI := Lib.hid (fun (r u : List Int) (hr : r.length = N) (ht : transB r u = true) => lst.form_in h1 h4 hr ht)
  have M26 := lst.swF_len (N : Int)
  have HM : Hid ((lst.swF (N : Int)).length = lst.numS N) := NM
  rw [← NM.out] at LS SA
  generalize lst.swF (N : Int) = L at *
  generalize hT : lst.toriN N = T at *
  clear hT NM
  have hN5 : N < 5 := by omega
  have hN5i : (N : Int) < 5 := by omega
  go_wp2_with fail
  apply region_share (S := fun W => Below w3.heap.size w3 W)
  · intro c a d v w' h; cases d <;> exact h
  intro Q0 HP HQ0
  have HQ := Lib.hid HQ0; clear HQ0
  refine wp_region_held_drew (S := fun W => Below w3.heap.size w3 W) (by kernel_rfl) ⟨rfl, rfl, rfl, Nat.le_refl _, fun _ _ => rfl⟩ (fun hHeld => ?_)
  generalize w3.drew = w4 at *
  refine wpAnyH_take (i := 0) (v := .slice Al L.length cl) rfl (by kernel_rfl) (by kernel_rfl) (by kernel_rfl) (fun _ _ _ h => HP _ _ _ _ _ h) (Or.inl ⟨by kernel_rfl, fun w hSw => by go_simp⟩) hHeld ?_
  refine wpAnyH_take (i := 1) (v := .int .i64 L.length) rfl (by kernel_rfl) (by kernel_rfl) (by kernel_rfl) (fun _ _ _ h => HP _ _ _ _ _ h) (Or.inl ⟨by kernel_rfl, fun w hSw => by go_simp⟩) hHeld ?_
  refine wpAnyH_take (i := 3) (v := .int .i64 N) rfl (by kernel_rfl) (by kernel_rfl) (by kernel_rfl) (fun _ _ _ h => HP _ _ _ _ _ h) (Or.inl ⟨by kernel_rfl, fun w hSw => by go_simp⟩) hHeld ?_
  refine wpAnyH_ready (rs := [2]) (by kernel_rfl) (by simp) (AllReadyH.cons rfl (fun K hK => ?_) AllReadyH.nil)
  go_simp
  have bA : Below w4.heap.size w4 (w4.alloc (.cells #[.int .i64 0, .int .i64 1, .int .i64 3, .int .i64 7, .int .i64 26] 3)) := (Below.refl _ _).alloc (Nat.le_refl _) _
  have c5 : (w4.alloc (.cells #[.int .i64 0, .int .i64 1, .int .i64 3, .int .i64 7, .int .i64 26] 3)).cell? ⟨w4.heap.size, N, none⟩ = some (.int .i64 L.length) := (Arr.new w4 (V [0, 1, 3, 7, 26]) 3 rfl).cell LS.out
  have hH5 : Below w3.heap.size w3 (w4.alloc (.cells #[.int .i64 0, .int .i64 1, .int .i64 3, .int .i64 7, .int .i64 26] 3)) := hHeld.trans (bA.mono hHeld.size)
  refine hK.out _ _ hH5 (fun hHeld2 => ?_)
  clear hK K hHeld2 hHeld
  have hHeld := hH5
  clear hH5
  generalize w4.alloc (.cells #[.int .i64 0, .int .i64 1, .int .i64 3, .int .i64 7, .int .i64 26] 3) = w5 at *
  generalize w4.heap.size = b5 at *
  refine wpAnyH_take (i := 4) (v := .pointer (some ⟨b5, N, none⟩)) rfl (by kernel_rfl) (by kernel_rfl) (by kernel_rfl) (fun _ _ _ h => HP _ _ _ _ _ h) (Or.inl ⟨by kernel_rfl, fun w hSw => by go_simp⟩) hHeld ?_
  refine wpAnyH_ready (rs := [5]) (by kernel_rfl) (by simp) (AllReadyH.cons rfl (fun K hK => ?_) AllReadyH.nil)
  go_simp
  refine hK.out _ _ hHeld (fun hHeld2 => ?_)
  clear hK K hHeld2 c5 bA
  refine wpAnyH_take (i := 6) (v := .bool false) rfl (by kernel_rfl) (by kernel_rfl) (by kernel_rfl) (fun _ _ _ h => HP _ _ _ _ _ h) (Or.inl ⟨by kernel_rfl, fun w hSw => by go_simp⟩) hHeld ?_
  refine wpAnyH_take (i := 7) (v := .bool false) rfl (by kernel_rfl) (by kernel_rfl) (by kernel_rfl) (fun _ _ _ h => HP _ _ _ _ _ h) (Or.inl ⟨by kernel_rfl, fun w hSw => by go_simp⟩) hHeld ?_
  refine wpAnyH_take (i := 8) (v := .int .i64 N) rfl (by kernel_rfl) (by kernel_rfl) (by kernel_rfl) (fun _ _ _ h => HP _ _ _ _ _ h) (Or.inl ⟨by kernel_rfl, fun w hSw => by go_simp⟩) hHeld ?_
  refine wpAnyH_take (i := 11) (v := .int .i64 N) rfl (by kernel_rfl) (by kernel_rfl) (by kernel_rfl) (fun _ _ _ h => HP _ _ _ _ _ h) (Or.inl ⟨by kernel_rfl, fun w hSw => by go_simp⟩) hHeld ?_
  refine wpAnyH_ready (rs := [9, 10]) (by kernel_rfl) (by simp) (AllReadyH.cons rfl (fun K hK => ?_) (AllReadyH.cons rfl (fun K hK => ?_) AllReadyH.nil))
  go_simp
  refine (lst.ct_impl (N : Int) w5 (by omega) (by omega)).mono ?_
  rintro e w6 ⟨rfl, b1⟩
  rw [NT.out]
  have hHn : Below w3.heap.size w3 w6 := hHeld.trans (b1.mono hHeld.size)
  clear b1
  refine hK.out _ _ hHn (fun hHeld2 => ?_)
  clear hK K hHeld2 hHeld
  have hHeld := hHn
  clear hHn
  refine wpAnyH_ready (rs := [10]) (by kernel_rfl) (by simp) (AllReadyH.cons rfl (fun K hK => ?_) AllReadyH.nil)
  go_simp
  have bA : Below w6.heap.size w6 (w6.alloc (.cells #[.int .i64 0, .int .i64 1, .int .i64 3, .int .i64 4, .int .i64 7] 3)) := (Below.refl _ _).alloc (Nat.le_refl _) _
  have c13 : (w6.alloc (.cells #[.int .i64 0, .int .i64 1, .int .i64 3, .int .i64 4, .int .i64 7] 3)).cell? ⟨w6.heap.size, N, none⟩ = some (.int .i64 T) := (Arr.new w6 (V [0, 1, 3, 4, 7]) 3 rfl).cell LT.out
  have l13 : w6.heap.size < (w6.alloc (.cells #[.int .i64 0, .int .i64 1, .int .i64 3, .int .i64 4, .int .i64 7] 3)).heap.size := by simp
  have hHn : Below w3.heap.size w3 (w6.alloc (.cells #[.int .i64 0, .int .i64 1, .int .i64 3, .int .i64 4, .int .i64 7] 3)) := hHeld.trans (bA.mono hHeld.size)
  clear bA
  refine hK.out _ _ hHn (fun hHeld2 => ?_)
  clear hK K hHeld2 hHeld
  have hHeld := hHn
  clear hHn
  generalize w6.alloc (.cells #[.int .i64 0, .int .i64 1, .int .i64 3, .int .i64 4, .int .i64 7] 3) = w7 at *
  generalize w6.heap.size = b13 at *
  refine wpAnyH_take (i := 12) (v := .pointer (some ⟨b13, N, none⟩)) rfl (by kernel_rfl) (by kernel_rfl) (by kernel_rfl) (fun _ _ _ h => HP _ _ _ _ _ h) (Or.inl ⟨by kernel_rfl, fun w hSw => by go_simp⟩) hHeld ?_
  refine wpAnyH_ready (rs := [13]) (by kernel_rfl) (by simp) (AllReadyH.cons rfl (fun K hK => ?_) AllReadyH.nil)
  go_simp
  refine hK.out _ _ hHeld (fun hHeld2 => ?_)
  clear hK K hHeld2 c13
  clear l13
  refine wpAnyH_take (i := 14) (v := .bool false) rfl (by kernel_rfl) (by kernel_rfl) (by kernel_rfl) (fun _ _ _ h => HP _ _ _ _ _ h) (Or.inl ⟨by kernel_rfl, fun w hSw => by go_simp⟩) hHeld ?_
  refine wpAnyH_take (i := 15) (v := .bool false) rfl (by kernel_rfl) (by kernel_rfl) (by kernel_rfl) (fun _ _ _ h => HP _ _ _ _ _ h) (Or.inl ⟨by kernel_rfl, fun w hSw => by go_simp⟩) hHeld ?_
  refine wpAnyH_done (by kernel_rfl) ?_ _
  generalize (Value.pointer (some ⟨b13, N, none⟩)) = p39
  generalize (Value.slice (some ⟨b13, 0, none⟩) 5 5) = p37
  generalize (Value.pointer (some ⟨b5, N, none⟩)) = p31
  generalize (Value.slice (some ⟨b5, 0, none⟩) 5 5) = p29
  exact HQ.out _ p29 p31 p37 p39 hHeld
  go_simp
  have bA : Below w5.heap.size w5 (w5.alloc (.cells #[.int .i64 0, .int .i64 1, .int .i64 3, .int .i64 4, .int .i64 7] 3)) := (Below.refl _ _).alloc (Nat.le_refl _) _
  have c13 : (w5.alloc (.cells #[.int .i64 0, .int .i64 1, .int .i64 3, .int .i64 4, .int .i64 7] 3)).cell? ⟨w5.heap.size, N, none⟩ = some (.int .i64 T) := (Arr.new w5 (V [0, 1, 3, 4, 7]) 3 rfl).cell LT.out
  have l13 : w5.heap.size < (w5.alloc (.cells #[.int .i64 0, .int .i64 1, .int .i64 3, .int .i64 4, .int .i64 7] 3)).heap.size := by simp
  have hHn : Below w3.heap.size w3 (w5.alloc (.cells #[.int .i64 0, .int .i64 1, .int .i64 3, .int .i64 4, .int .i64 7] 3)) := hHeld.trans (bA.mono hHeld.size)
  clear bA
  refine hK.out _ _ hHn (fun hHeld2 => ?_)
  clear hK K hHeld2 hHeld
  have hHeld := hHn
  clear hHn
  generalize w5.alloc (.cells #[.int .i64 0, .int .i64 1, .int .i64 3, .int .i64 4, .int .i64 7] 3) = w6 at *
  generalize w5.heap.size = b13 at *
  refine wpAnyH_take (i := 12) (v := .pointer (some ⟨b13, N, none⟩)) rfl (by kernel_rfl) (by kernel_rfl) (by kernel_rfl) (fun _ _ _ h => HP _ _ _ _ _ h) (Or.inl ⟨by kernel_rfl, fun w hSw => by go_simp⟩) hHeld ?_
  refine wpAnyH_ready (rs := [9, 13]) (by kernel_rfl) (by simp) (AllReadyH.cons rfl (fun K hK => ?_) (AllReadyH.cons rfl (fun K hK => ?_) AllReadyH.nil))
  have C13 := Lib.hid c13
  have L13 := Lib.hid l13
  clear c13 l13
  go_simp
  refine (lst.ct_impl (N : Int) w6 (by omega) (by omega)).mono ?_
  rintro e w7 ⟨rfl, b1⟩
  rw [NT.out]
  have hHn : Below w3.heap.size w3 w7 := hHeld.trans (b1.mono hHeld.size)
  have c13b : w7.cell? ⟨b13, N, none⟩ = some (.int .i64 T) := by rw [b1.cell (p := ⟨b13, N, none⟩) L13.out]; exact C13.out
  clear b1
  refine hK.out _ _ hHn (fun hHeld2 => ?_)
  clear hK K hHeld2 hHeld
  have hHeld := hHn
  clear hHn
  refine wpAnyH_ready (rs := [13]) (by kernel_rfl) (by simp) (AllReadyH.cons rfl (fun K hK => ?_) AllReadyH.nil)
  clear C13 L13
  have c13 := c13b
  clear c13b
  go_simp
  refine hK.out _ _ hHeld (fun hHeld2 => ?_)
  clear hK K hHeld2 c13
  refine wpAnyH_take (i := 14) (v := .bool false) rfl (by kernel_rfl) (by kernel_rfl) (by kernel_rfl) (fun _ _ _ h => HP _ _ _ _ _ h) (Or.inl ⟨by kernel_rfl, fun w hSw => by go_simp⟩) hHeld ?_
  refine wpAnyH_take (i := 15) (v := .bool false) rfl (by kernel_rfl) (by kernel_rfl) (by kernel_rfl) (fun _ _ _ h => HP _ _ _ _ _ h) (Or.inl ⟨by kernel_rfl, fun w hSw => by go_simp⟩) hHeld ?_
  refine wpAnyH_done (by kernel_rfl) ?_ _
  generalize (Value.pointer (some ⟨b13, N, none⟩)) = p39
  generalize (Value.slice (some ⟨b13, 0, none⟩) 5 5) = p37
  generalize (Value.pointer (some ⟨b5, N, none⟩)) = p31
  generalize (Value.slice (some ⟨b5, 0, none⟩) 5 5) = p29
  exact HQ.out _ p29 p31 p37 p39 hHeld
  go_simp
  refine hK.out _ _ hHeld (fun hHeld2 => ?_)
  clear hK K hHeld2 c13
  clear l13
  refine wpAnyH_ready (rs := [9]) (by kernel_rfl) (by simp) (AllReadyH.cons rfl (fun K hK => ?_) AllReadyH.nil)
  go_simp
  refine (lst.ct_impl (N : Int) w6 (by omega) (by omega)).mono ?_
  rintro e w7 ⟨rfl, b1⟩
  rw [NT.out]
  have hHn : Below w3.heap.size w3 w7 := hHeld.trans (b1.mono hHeld.size)
  clear b1
  refine hK.out _ _ hHn (fun hHeld2 => ?_)
  clear hK K hHeld2 hHeld
  have hHeld := hHn
  clear hHn
  refine wpAnyH_take (i := 14) (v := .bool false) rfl (by kernel_rfl) (by kernel_rfl) (by kernel_rfl) (fun _ _ _ h => HP _ _ _ _ _ h) (Or.inl ⟨by kernel_rfl, fun w hSw => by go_simp⟩) hHeld ?_
  refine wpAnyH_take (i := 15) (v := .bool false) rfl (by kernel_rfl) (by kernel_rfl) (by kernel_rfl) (fun _ _ _ h => HP _ _ _ _ _ h) (Or.inl ⟨by kernel_rfl, fun w hSw => by go_simp⟩) hHeld ?_
  refine wpAnyH_done (by kernel_rfl) ?_ _
  generalize (Value.pointer (some ⟨b13, N, none⟩)) = p39
  generalize (Value.slice (some ⟨b13, 0, none⟩) 5 5) = p37
  generalize (Value.pointer (some ⟨b5, N, none⟩)) = p31
  generalize (Value.slice (some ⟨b5, 0, none⟩) 5 5) = p29
  exact HQ.out _ p29 p31 p37 p39 hHeld
  intro w7 p29 p31 p37 p39 hHeld
  have BB5 := Lib.hid (BB3.out.trans (hHeld.mono (by omega)))
  have LO5 := Lib.hid (LO.out.keep hHeld (Nat.le_refl _))
  clear hHeld
  go_simp
  have s7 := BB5.out.size
  clear LS LT NT LO BB3
  go_wp2_with fail
  refine (lst.strata_impl (N : Int) _).mono ?_
  rintro e w8 ⟨At, ct, rfl, mt, b1⟩
  have s8 := b1.size
  have MT := Lib.hid mt; have BB8 := Lib.hid (BB5.out.trans (b1.mono s7)); have LO8 := Lib.hid (LO5.out.keep b1 (by have := LO5.out.top; exact this))
  have TS := Lib.hid (lst.stF_small (N : Int))
  clear mt b1 BB5 LO5
  have hle := fun k => lst.sumS_le (N : Int) ((lst.stF (N : Int)).take k)
  have HLE := Lib.hid hle; clear hle
  have hsf := SFW.out
  generalize lst.stF (N : Int) = TT at *
  go_wp2_with fail
  go_loopw [5, 46] (fun sv i wr => ∃ k : Nat, k ≤ TT.length ∧ i = .int .i64 k ∧ sv = .int .i64 (lst.sumS (N : Int) (TT.take k) : Nat) ∧ Below w8.heap.size w8 wr) (fun _ i _ => TT.length - (intOf i).toNat)
  case atStart => exact ⟨0, Nat.zero_le _, rfl, rfl, Below.refl _ _⟩
  case round =>
    obtain ⟨k, hk, rfl, rfl, bl⟩ := hrel
    have BL := Lib.hid bl; clear bl
    by_cases hlt : k < TT.length
    · obtain ⟨G, off, A', c', xs, l1, u1, rfl, hxs, hcell, hrow, _⟩ := MT.out.at_ hlt
      have SN := Lib.hid (lst.sumS_next (a := (N : Int)) hxs)
      have hG : G < w8.heap.size := by
        rcases Nat.lt_or_ge G w8.heap.size with q | q
        · exact q
        · simp [World.cell?, Array.getElem?_eq_none q] at hcell
      have hc0 : wr.cell? ⟨G, off + k, none⟩ = some (.slice A' xs.length c') := by rw [BL.out.cell (p := ⟨G, off + k, none⟩) hG]; exact hcell
      have RX := Lib.hid (hrow.rd.keep (BL.out.mono hrow.rd.2.1) (Nat.le_refl _))
      have x24 := TS.out xs (List.mem_of_getElem? hxs)
      have hs1 : lst.sumS (N : Int) (TT.take k) ≤ 676 := by
        have h1 := HLE.out k
        have h2 : (TT.take k).length ≤ 26 := by rw [List.length_take]; omega
        omega
      have hs2 := lst.siF_le (N : Int) xs
      generalize lst.sumS (N : Int) (TT.take k) = sk at *
      clear hcell hrow hxs
      go_wp2_with fail
      refine (lst.si_impl (N : Int) A' xs.length c' xs _ _ RX.out (by omega)).mono ?_
      rintro e w9 ⟨v9, rfl, sx9⟩
      obtain ⟨A9, c9, rfl⟩ := sx9.form
      have BL9 := Lib.hid (BL.out.trans (sx9.bel.mono BL.out.size))
      clear sx9 hc0 RX BL
      generalize (lst.siF (N : Int) xs).length = sl at *
      go_wp2_with fail
      go_roundw
      case rel => exact ⟨k + 1, by omega, by go_num, by rw [SN.out]; go_num, BL9.out⟩
      case measure => simp [intOf]; omega
    · obtain rfl : k = TT.length := by omega
      have SE : Hid (lst.sumS (N : Int) (TT.take TT.length) = L.length) := Lib.hid (by rw [List.take_of_length_le (Nat.le_refl _)]; exact SA.out)
      rw [SE.out]
      have BB9 := Lib.hid (BB8.out.trans (BL.out.mono BB8.out.size)); have LO9 := Lib.hid (LO8.out.keep BL.out LO8.out.top)
      have s9 := BL.out.size
      clear SE SA BL BB8 LO8 MT
      go_wp2_with fail
      refine (cur.makeP2_any _ _ A n c l 20 N (by omega) h1 (by omega) (HC.out.keep BB9.out (Nat.le_refl _))).mono ?_
      rintro e w10 ⟨Ar, cr, r, okr, lr, rfl, rowr, cpr, b1⟩
      have RR := Lib.hid rowr; have BB10 := Lib.hid (BB9.out.trans (b1.mono BB9.out.size)); have LO10 := Lib.hid (LO9.out.keep b1 (by have := LO9.out.top; exact this))
      have s10 := b1.size
      clear rowr b1 BB9 LO9
      go_wp2_with fail
      refine (cur.makeP2_any _ _ A n c l 40 N (by omega) h1 (by omega) (HC.out.keep BB10.out (Nat.le_refl _))).mono ?_
      rintro e w11 ⟨Au, cu, u, oku, lu, rfl, rowu, cpu, b1⟩
      have RU := Lib.hid rowu; have RR11 := Lib.hid (RR.out.keep b1 RR.out.2.1); have BB11 := Lib.hid (BB10.out.trans (b1.mono BB10.out.size)); have LO11 := Lib.hid (LO10.out.keep b1 (by have := LO10.out.top; exact this))
      have s11 := b1.size
      clear rowu b1 BB10 LO10 RR
      have SD : Hid (Srd w11 w11.heap.size (.agg #[.slice Ar N cr, .slice Au N cu]) r u) := Lib.hid ⟨Ar, N, cr, Au, N, cu, rfl, sf.Rd.wider RR11.out.rd (by omega) (Nat.le_refl _), RU.out.rd, cpr, cpu⟩
      have LRr := Lib.hid lr; have LRu := Lib.hid lu
      have lr4 : r.length ≤ 24 := by omega
      have lu4 : u.length ≤ 24 := by omega
      clear lr lu RR11 RU okr oku
      have ST : Hid (∃ W, W = w11.alloc (.cells #[.slice Ar N cr, .slice Au N cu] 33) ∧ Below w11.heap.size w11 W ∧ Arr W w11.heap.size [.slice Ar N cr, .slice Au N cu] 33) := Lib.hid ⟨_, rfl, (Below.refl _ _).alloc (Nat.le_refl _) _, Arr.new w11 _ _ rfl⟩
      go_wp2_with fail
      obtain ⟨w12, eW, b1, ar⟩ := ST.out
      rw [← eW]
      have AS := Lib.hid ar; have BB12 := Lib.hid (BB11.out.trans (b1.mono BB11.out.size)); have LO12 := Lib.hid (LO11.out.keep b1 LO11.out.top); have SD12 := Lib.hid (SD.out.keep b1 (Nat.le_refl _))
      have s12 := b1.size
      clear eW b1 ar ST BB11 LO11 SD
      generalize hb8 : w11.heap.size = b8 at *
      refine (gl.cf_impl _ r u _ _ SD12.out (by omega) (by omega)).mono ?_
      rintro e w13 ⟨gc, rfl, sc, b1⟩
      obtain ⟨Pc, c1, Qc, c2, rfl⟩ := sc.len
      have AS13 := Lib.hid (AS.out.keep b1 AS.out.lt); have BB13 := Lib.hid (BB12.out.trans (b1.mono BB12.out.size)); have LO13 := Lib.hid (LO12.out.keep b1 (by have := LO12.out.top; omega)); have SD13 := Lib.hid (SD12.out.keep (b1.mono (by omega)) (Nat.le_refl _)); have SC13 := Lib.hid sc.rd
      have s13 := b1.size
      clear b1 sc AS BB12 LO12 SD12
      have HFI2 := Lib.hid (fun ht => HFI.out r u LRr.out ht)
      have CL1 := gl.cfR_len r u; have CL2 := gl.cfU_len r u
      generalize hCR : cfR r u = CR at *; generalize hCU : cfU r u = CU at *
      generalize hBt : transB r u = Bt at *
      have HBt := Lib.hid hBt
      clear hCR hCU hBt HFI
      have ST : Hid (∃ W, W = w13.alloc (.cells #[.slice Pc CR.length c1, .slice Qc CU.length c2] 33) ∧ Below w13.heap.size w13 W ∧ Arr W w13.heap.size [.slice Pc CR.length c1, .slice Qc CU.length c2] 33) := Lib.hid ⟨_, rfl, (Below.refl _ _).alloc (Nat.le_refl _) _, Arr.new w13 _ _ rfl⟩
      go_wp2_with fail
      obtain ⟨w14, eW, b1, ar⟩ := ST.out
      rw [← eW]
      have AC := Lib.hid ar; have AS14 := Lib.hid (AS13.out.keep b1 AS13.out.lt); have BB14 := Lib.hid (BB13.out.trans (b1.mono BB13.out.size)); have LO14 := Lib.hid (LO13.out.keep b1 (by have := LO13.out.top; omega)); have SD14 := Lib.hid (SD13.out.keep (b1.mono (by omega)) (Nat.le_refl _)); have SC14 := Lib.hid (SC13.out.keep (b1.mono (by have := SC13.out.top; omega)) (Nat.le_refl _))
      have s14 := b1.size
      clear eW b1 ar ST AS13 BB13 LO13 SD13 SC13
      generalize hb9 : w13.heap.size = b9 at *
      go_wp2_with fail
      go_loopw [11, 71] (fun fv i wr => ∃ k : Nat, k ≤ L.length ∧ i = .int .i64 k ∧ fv = .bool (Bt && decide ((CR, CU) ∈ L.take k)) ∧ Below w14.heap.size w14 wr) (fun _ i _ => L.length - (intOf i).toNat)
      case atStart => exact ⟨0, Nat.zero_le _, rfl, by simp, Below.refl _ _⟩
      case round =>
        obtain ⟨k, hk, rfl, rfl, bl⟩ := hrel
        have BL := Lib.hid bl; clear bl
        have swr := BL.out.size
        have ASr := Lib.hid (AS14.out.keep BL.out AS14.out.lt); have ACr := Lib.hid (AC.out.keep BL.out AC.out.lt)
        have hb8r := ASr.out.lt; have hb9r := ACr.out.lt
        by_cases hlt : k < L.length
        · have LOr := LO14.out.keep BL.out (by have := LO14.out.top; exact this)
          obtain ⟨gx, offx, x, Px, p1, cx, Qx, q1, dx, eA, hgx, hxk, c0x, c1x, xs⟩ := (LOr.lrd).at_ hlt
          subst eA
          obtain ⟨sfx, tx, ex1, ex2⟩ := HIN.out x (List.mem_of_getElem? hxk)
          have EX1 := Lib.hid ex1; have EX2 := Lib.hid ex2; have TX := Lib.hid tx; have VX := Lib.hid xs
          have n24 := lst.sf24 sfx
          have l1x : x.1.length ≤ 24 := by rw [sfx.lr]; exact n24
          have l2x : x.2.length ≤ 24 := by rw [sfx.lu]; exact n24
          have FN : Hid (decide ((CR, CU) ∈ L.take (k + 1)) = (decide ((CR, CU) ∈ L.take k) || decide ((x.1, x.2) = (CR, CU)))) := Lib.hid (by
            rw [List.take_add_one, hxk, ← Bool.decide_or, decide_eq_decide, List.mem_append]
            exact or_congr Iff.rfl (show (CR, CU) ∈ [x] ↔ _ by rw [List.mem_singleton]; exact ⟨fun e => e.symm, fun e => e.symm⟩))
          clear sfx tx ex1 ex2 hxk xs LOr
          have ST : Hid (∃ W, W = wr.alloc (.cells #[.slice Px p1 cx, .slice Qx q1 dx] 33) ∧ Below wr.heap.size wr W ∧ Arr W wr.heap.size [.slice Px p1 cx, .slice Qx q1 dx] 33) := Lib.hid ⟨_, rfl, (Below.refl _ _).alloc (Nat.le_refl _) _, Arr.new wr _ _ rfl⟩
          go_wp2_with fail
          obtain ⟨w15, eW, b1, ar⟩ := ST.out
          rw [← eW]
          have AX := Lib.hid ar; have BL15 := Lib.hid (BL.out.trans (b1.mono swr)); have VX15 := Lib.hid (VX.out.keep (b1.mono (by have := VX.out.top; omega)) (Nat.le_refl _))
          have s15 := b1.size
          clear eW b1 ar ST BL VX ASr ACr c0x c1x
          have hbx := AX.out.lt
          generalize wr.heap.size = bx at *
          refine (gl.cf_impl _ x.1 x.2 _ _ VX15.out (by omega) (by omega)).mono ?_
          rintro e w16 ⟨gy, rfl, sy, b1⟩
          rw [TX.out]
          rw [EX1.out, EX2.out] at sy
          obtain ⟨Py, c3, Qy, c4, rfl⟩ := sy.len
          have AX16 := Lib.hid (AX.out.keep b1 AX.out.lt); have BL16 := Lib.hid (BL15.out.trans (b1.mono BL15.out.size)); have VX16 := Lib.hid (VX15.out.keep (b1.mono (by have := VX15.out.top; omega)) (Nat.le_refl _)); have VY := Lib.hid sy.rd
          have s16 := b1.size
          clear b1 sy AX BL15 VX15
          have ST : Hid (∃ W, W = w16.alloc (.cells #[.slice Py x.1.length c3, .slice Qy x.2.length c4] 33) ∧ Below w16.heap.size w16 W ∧ Arr W w16.heap.size [.slice Py x.1.length c3, .slice Qy x.2.length c4] 33) := Lib.hid ⟨_, rfl, (Below.refl _ _).alloc (Nat.le_refl _) _, Arr.new w16 _ _ rfl⟩
          have AXa : Arr (w16.alloc (.cells #[.slice Py x.1.length c3, .slice Qy x.2.length c4] 33)) bx [.slice Px p1 cx, .slice Qx q1 dx] 33 := AX16.out.alloc _
          have AYa : Arr (w16.alloc (.cells #[.slice Py x.1.length c3, .slice Qy x.2.length c4] 33)) w16.heap.size [.slice Py x.1.length c3, .slice Qy x.2.length c4] 33 := Arr.new w16 _ _ rfl
          have xa0 := AXa.cell (k := 0) rfl; have xa1 := AXa.cell (k := 1) rfl
          have ya0 := AYa.cell (k := 0) rfl; have ya1 := AYa.cell (k := 1) rfl
          clear AXa AYa
          go_wp2_with fail
          obtain ⟨w17, eW, b1, ar⟩ := ST.out
          rw [← eW]
          have AY := Lib.hid ar; have AX17 := Lib.hid (AX16.out.keep b1 AX16.out.lt); have BL17 := Lib.hid (BL16.out.trans (b1.mono BL16.out.size)); have VX17 := Lib.hid (VX16.out.keep (b1.mono (by have := VX16.out.top; omega)) (Nat.le_refl _)); have VY17 := Lib.hid (VY.out.keep b1 (by have := VY.out.top; omega))
          have s17 := b1.size
          clear eW b1 ar ST BL16 VX16 AX16 VY xa0 xa1 ya0 ya1
          have hby := AY.out.lt
          generalize w16.heap.size = by_ at *
          refine (sf.same_impl _ x.1 x.2 _ x.1 x.2 _ _ _ VX17.out VY17.out (by omega) (by omega) (by omega) (by omega)).mono ?_
          rintro e w18 ⟨rfl, b1⟩
          have SS1 : sf.sameF x.1 x.2 x.1 x.2 = true := by rw [orb.same_eq]; simp
          rw [SS1]
          have BL18 := Lib.hid (BL17.out.trans (b1.mono BL17.out.size)); have VX18 := Lib.hid (VX17.out.keep (b1.mono (by have := VX17.out.top; omega)) (Nat.le_refl _)); have AX18 := Lib.hid (AX17.out.keep b1 AX17.out.lt)
          clear b1 SS1 BL17 VX17 AX17 VY17 AY
          generalize hfk : decide ((CR, CU) ∈ L.take k) = fk at *
          clear hfk
          cases Bt
          · have FN2 : Hid ((false && decide ((CR, CU) ∈ L.take (k + 1))) = false) := Lib.hid rfl
            simp only [Bool.false_and]
            go_wp2_with fail
            go_roundw
            case rel => exact ⟨k + 1, by omega, by go_num, by rw [FN2.out], BL18.out⟩
            case measure => simp [intOf]; omega
          · cases fk
            · have x0 := AX18.out.cell (k := 0) rfl; have x1 := AX18.out.cell (k := 1) rfl
              have ACr := Lib.hid (AC.out.keep BL18.out AC.out.lt)
              have z0 := ACr.out.cell (k := 0) rfl; have z1 := ACr.out.cell (k := 1) rfl
              have SCr := Lib.hid (SC14.out.keep (BL18.out.mono (by have := SC14.out.top; omega)) (Nat.le_refl _))
              simp only [Bool.true_and]
              go_wp2_with fail
              refine (sf.same_impl _ x.1 x.2 _ CR CU _ _ _ VX18.out SCr.out (by omega) (by omega) CL1 CL2).mono ?_
              rintro e w19 ⟨rfl, b1⟩
              have BL19 := Lib.hid (BL18.out.trans (b1.mono BL18.out.size))
              have FN3 : Hid ((true && decide ((CR, CU) ∈ L.take (k + 1))) = sf.sameF x.1 x.2 CR CU) := Lib.hid (by rw [FN.out, Bool.true_and, Bool.false_or, orb.same_eq])
              clear b1 x0 x1 z0 z1
              generalize sf.sameF x.1 x.2 CR CU = sq at *
              go_wp2_with fail
              go_roundw
              case rel => exact ⟨k + 1, by omega, by go_num, by rw [FN3.out], BL19.out⟩
              case measure => simp [intOf]; omega
            · have FN2 : Hid ((true && decide ((CR, CU) ∈ L.take (k + 1))) = true) := Lib.hid (by rw [FN.out]; rfl)
              simp only [Bool.true_and]
              go_wp2_with fail
              go_roundw
              case rel => exact ⟨k + 1, by omega, by go_num, by rw [FN2.out], BL18.out⟩
              case measure => simp [intOf]; omega
        · obtain rfl : k = L.length := by omega
          have FE : (Bt && decide ((CR, CU) ∈ L.take L.length)) = Bt := by
            rw [List.take_of_length_le (Nat.le_refl _)]
            cases hb : Bt
            · rfl
            · rw [Bool.true_and]
              exact decide_eq_true (HFI2.out hb)
          rw [FE]
          have z0 := ASr.out.cell (k := 0) rfl; have z1 := ASr.out.cell (k := 1) rfl
          have SDr := Lib.hid (SD14.out.keep (BL.out.mono (by omega)) (Nat.le_refl _))
          clear FE
          go_wp2_with fail
          refine (sf.ok_impl _ r u _ _ SDr.out (by omega) (by omega)).mono ?_
          rintro e w20 ⟨rfl, b1⟩
          rw [HBt.out]
          have BE := Lib.hid ((BB14.out.trans (BL.out.mono BB14.out.size)).trans (b1.mono (by omega)))
          clear b1
          cases Bt
          · go_wp2_with fail
            go_ret
            exact ⟨rfl, BE.out⟩
          · go_wp2_with fail
            go_ret
            exact ⟨rfl, BE.out⟩

set_option maxRecDepth 100000 in
theorem lifted (os : Os) (started : os.Started) (H : Type) (enc : TypeId × Value → H) :
    ReturnsInHanded {} Try.checked os 3 .any (Rows.fnListedSpec.pre6 enc Try.prog Try.f3 Rows.fnListedRow.domain false) (Rows.fnListedSpec.post enc Try.prog Try.f3 false true false false) := by
  refine returnsInHanded_of_change (C := Try.checked) own started (by kernel_rfl) Try.func3
    (ChangeSpec.witness6 (enc := enc) (C := Try.checked) false ⟨#[], #[.slice none 0 0], []⟩ 8 (by kernel_rfl) (by kernel_rfl) (by kernel_rfl) (by kernel_rfl)) ?_
  intro W base args ds gs before hval0 hW hcnd _
  have hval : ∀ (j : Nat) t v, Try.f3.params[j]? = some t → args[j]? = some v → Value.okWide Try.prog W .any base t v := hval0
  have hW' := hW
  obtain ⟨p, q, hA0, hV, rfl, hfz, hnd⟩ := hW
  have hA : DataW.TrodAll enc Try.prog W 0 (fun _ => true) true Try.f3.params.toList args.toList ds p := hA0
  rw [Try.params3] at hA hval
  obtain ⟨v0, vs0, d0, ds0, p0, q0, hargs, rfl, rfl, h0, r0⟩ := trodAll_cons hA
  obtain ⟨rfl, rfl, rfl⟩ := trodAll_nil r0
  obtain rfl : args = #[v0] := by cases args; simp_all
  obtain ⟨rfl, rfl⟩ := trodVars_none hV
  obtain ⟨A0, n0, c0, rfl⟩ := okWide_slice Try.underlying22 (hval 0 22 v0 rfl rfl)
  have lt0 : ∀ x ∈ p0, x.block < W.heap.size := by obtain ⟨m, hm⟩ := h0; exact DataW.trod_lt m _ _ _ hm
  obtain ⟨x0, rd0, cn0, cm0, el0⟩ := open_B Try.underlying22 Try.underlying5 (by kernel_rfl) h0
  clear hA0 hval0
  refine (walk (w := W) A0 n0 c0 x0 rd0 cn0 cm0 el0).mono fun e W' ⟨he, bel⟩ => ?_
  subst he
  exact ⟨_, rfl, _, _, _, [], _, [], hW', trodAll_mk1 (shut_bool Try.underlying4 _), (trodAll_cons_mk (Below.trod laidOut (by kernel_rfl) (of_decide_eq_true (by kernel_rfl)) h0 bel lt0) trodAll_mk0), rfl, bel.frame _, fun h => by cases h⟩

theorem over : Rows.fnListedRow.holds Try.pinned (OpenSpec.ofChange Rows.fnListedSpec) :=
  OpenClaim.holds_of_wide 3 Try.f3 rfl rfl rfl rfl rfl rfl rfl ⟨rfl, rfl, rfl, rfl, rfl⟩ rfl rfl rfl rfl rfl (by kernel_rfl) Try.func3 (by kernel_rfl)
    (of_decide_eq_true (by kernel_rfl)) (by unfold Func.isWrapper; first | (rw [if_pos (by decide +kernel)]; kernel_rfl) | (rw [if_neg (by decide +kernel)]; exact ⟨rfl, rfl⟩))
    (fun os started H enc _ => lifted os started H enc)

theorem proved : Rows.FnListedSaid :=
  over
#print axioms proved
end Go.Proofs.Ytafpbnjfmieamaa.fnListed
