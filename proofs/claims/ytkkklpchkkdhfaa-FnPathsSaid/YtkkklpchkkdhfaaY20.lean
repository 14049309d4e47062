import Derived.Test.YtkkklpchkkdhfaaY04
import Derived.Test.YtkkklpchkkdhfaaY19
import Derived.Test.YtkkklpchkkdhfaaY10
import Derived.Deep.AppendLies
import Derived.Test.YtkkklpchkkdhfaaY01
import Derived.IntWalk
/-
  The shear of the model.
-/
namespace Go.Proofs.Ytkkklpchkkdhfaa.mk
open Go.ChangeShapes Go.WideShapes Go.ChangeAt Go.RowKit
open Go.Proofs.Ytkkklpchkkdhfaa.mem Go.Proofs.Ytkkklpchkkdhfaa.ints Go.Proofs.Ytkkklpchkkdhfaa.arr Go.Proofs.Ytkkklpchkkdhfaa.pm Go.Proofs.Ytkkklpchkkdhfaa.permOk Go.Proofs.Ytkkklpchkkdhfaa.permOf Go.Proofs.Ytkkklpchkkdhfaa.inv Go.Proofs.Ytkkklpchkkdhfaa.fns Go.Proofs.Ytkkklpchkkdhfaa.sf Go.Proofs.Ytkkklpchkkdhfaa.gl
set_option linter.unusedVariables false
set_option maxRecDepth 100000
theorem Hld.later2 {base top B : Nat} {w W W' : World} {bs : List (Nat × List Value)} (h : Hld base top w bs W) (hB : Below B W W') (hb : base ≤ B) (ht : top ≤ B) : Hld base top w bs W' :=
  ⟨fun p hp => ⟨(h.at_ p hp).1, fun j v hv => by rw [hB.cell (p := ⟨p.1, 0 + j, none⟩) (show p.1 < _ from Nat.lt_of_lt_of_le (h.at_ p hp).1 ht)]; exact (h.at_ p hp).2 j v hv⟩,
    h.below.trans (hB.mono hb), Nat.le_trans h.size hB.size⟩
theorem built_two (P Q : Option Addr) (n c m d : Nat) : Try.prog.built 32 [(0, .slice P n c), (1, .slice Q m d)] = some #[.slice P n c, .slice Q m d] := by kernel_rfl
set_option maxHeartbeats 4000000 in
theorem shear_any (v : Value) (r u : List Int) (N hi : Nat) (w : World) (hx : Srd w hi v r u) (hs : Sf N r u) :
    Calls Try.prog 43 #[v] w fun e w' => ∃ g, e = .returned g ∧ Svl w' w.heap.size w'.heap.size g r (thn (Inv r) u) ∧ Below w.heap.size w w' := by
  obtain ⟨i0, hi0, hz0, hz1, hz2⟩ := info_parts infoI
  have HX := Lib.hid hx; clear hx
  have HS := Lib.hid hs; clear hs
  obtain ⟨P, n, c, Q, m, d, rfl, q1, q2, e1, e2, ht, HR⟩ := HX.out.open
  have RU : Hid (r.length = u.length) := Lib.hid (by rw [HS.out.lr, HS.out.lu])
  obtain rfl : n = N := by rw [← q1]; exact HS.out.lr
  have hN24 : n ≤ 24 := by have := HS.out.r.len; rw [HS.out.lr] at this; omega
  have hN0 : 0 < n := HS.out.pos
  have Q1 := Lib.hid q1; have Q2 := Lib.hid q2; clear q1 q2
  clear HR
  go_enter Try.func43, Try.ntmps43
  go_wp2_with fail
  have A0 := Lib.hid ((Arr.new w [.slice P n c, .slice Q m d] 32 rfl).alloc (.cells #[.slice none 0 0, .slice none 0 0] 32))
  have A1 := Lib.hid (Arr.new (w.alloc (.cells #[.slice P n c, .slice Q m d] 32)) [.slice none 0 0, .slice none 0 0] 32 rfl)
  have B1 := Lib.hid (((Below.refl w.heap.size w).alloc (Nat.le_refl _) (.cells #[.slice P n c, .slice Q m d] 32)).alloc (by simp) (.cells #[.slice none 0 0, .slice none 0 0] 32))
  have es : ((w.alloc (.cells #[.slice P n c, .slice Q m d] 32)).alloc (.cells #[.slice none 0 0, .slice none 0 0] 32)).heap.size = w.heap.size + 2 := by simp
  rw [show (w.alloc (.cells #[.slice P n c, .slice Q m d] 32)).heap.size = w.heap.size + 1 by simp] at A1
  have X1 : Hid (Srd ((w.alloc (.cells #[.slice P n c, .slice Q m d] 32)).alloc (.cells #[.slice none 0 0, .slice none 0 0] 32)) hi (.agg #[.slice P n c, .slice Q m d]) r u) := Lib.hid (HX.out.keep (B1.out.mono ht) (Nat.le_refl _))
  generalize (w.alloc (.cells #[.slice P n c, .slice Q m d] 32)).alloc (.cells #[.slice none 0 0, .slice none 0 0] 32) = w1 at *
  refine wp_region_held_drew (S := Hld (w.heap.size + 1) w1.heap.size w1 [(w.heap.size, [.slice P n c, .slice Q m d])]) (by kernel_rfl) ((Hld.start1 A0.out).lower (by omega)) (fun hHeld => ?_)
  have b1 : Below w1.heap.size w1 w1.drew := ⟨rfl, rfl, rfl, Nat.le_refl _, fun _ _ => rfl⟩
  generalize w1.drew = w2 at *
  have s2 := b1.size; replace X1 := Lib.hid (X1.out.keep b1 X1.out.top); replace B1 := Lib.hid (B1.out.trans (b1.mono B1.out.size))
  replace A1 := Lib.hid (A1.out.keep b1 A1.out.lt); clear b1 A0
  refine wpAnyH_take (i := 1) (v := .pointer (some ⟨w.heap.size, 0, none⟩)) rfl (by kernel_rfl) (by kernel_rfl) (by kernel_rfl) (fun _ _ _ h => h) (Or.inl ⟨by rfl, fun w hSw => by go_simp⟩) hHeld ?_
  refine wpAnyH_take (i := 4) (v := .pointer (some ⟨w.heap.size, 0, none⟩)) rfl (by kernel_rfl) (by kernel_rfl) (by kernel_rfl) (fun _ _ _ h => h) (Or.inl ⟨by rfl, fun w hSw => by go_simp⟩) hHeld ?_
  refine wpAnyH_take (i := 7) (v := .pointer (some ⟨w.heap.size, 1, none⟩)) rfl (by kernel_rfl) (by kernel_rfl) (by kernel_rfl) (fun _ _ _ h => h) (Or.inl ⟨by rfl, fun w hSw => by go_simp⟩) hHeld ?_
  refine wpAnyH_take (i := 2) (v := .slice P n c) rfl (by kernel_rfl) (by kernel_rfl) (by kernel_rfl) (fun _ _ _ h => h) (Or.inl ⟨by rfl, fun w hSw => by have := hSw.c0; go_simp⟩) hHeld ?_
  refine wpAnyH_take (i := 5) (v := .slice P n c) rfl (by kernel_rfl) (by kernel_rfl) (by kernel_rfl) (fun _ _ _ h => h) (Or.inl ⟨by rfl, fun w hSw => by have := hSw.c0; go_simp⟩) hHeld ?_
  refine wpAnyH_take (i := 8) (v := .slice Q m d) rfl (by kernel_rfl) (by kernel_rfl) (by kernel_rfl) (fun _ _ _ h => h) (Or.inl ⟨by rfl, fun w hSw => by have := hSw.c1; go_simp⟩) hHeld ?_
  refine wpAnyH_ready (rs := [0]) (by kernel_rfl) (by simp) (AllReadyH.cons rfl (fun K hK => ?_) AllReadyH.nil)
  go_simp
  have b1 : Below w2.heap.size w2 (w2.alloc (.cells #[] 3)) := (Below.refl _ _).alloc (Nat.le_refl _) _
  have o3 := (Grows.empty w2).own
  have hHeld2 := hHeld.later b1 (by omega); clear hHeld
  have s_ := b1.size; replace X1 := Lib.hid (X1.out.keep b1 X1.out.top); replace B1 := Lib.hid (B1.out.trans (b1.mono B1.out.size))
  replace A1 := Lib.hid (A1.out.keep b1 A1.out.lt); clear b1
  refine hK.out _ _ hHeld2 (fun hHeld => ?_)
  clear hK K hHeld2
  generalize w2.alloc (.cells #[] 3) = w3 at *
  have O3 := Lib.hid o3; clear o3
  refine wpAnyH_ready (rs := [3]) (by kernel_rfl) (by simp) (AllReadyH.cons rfl (fun K hK => ?_) AllReadyH.nil)
  obtain ⟨P0, o0, rfl⟩ : ∃ g o, P = some ⟨g, o, none⟩ := by
    obtain ⟨g, off, q, _⟩ := (Srd.fst X1.out).2.2 hN0
    exact ⟨g, off, q⟩
  have hnews : ∀ (j : Nat) (q : Value), (V r)[j]? = some q → w3.cell? ((⟨P0, o0, none⟩ : Addr).add j) = some q := fun j q hq => by
    have hj : j < n := by have := (List.getElem?_eq_some_iff.1 hq).1; rw [V_len, Q1.out] at this; exact this
    obtain ⟨g, off, u', e, _, h1, h2⟩ := (Srd.fst X1.out).at_ hj
    injection e with e; injection e with e1 e2 e3
    subst e1; subst e2
    rw [h1] at hq
    have : (⟨P0, o0, none⟩ : Addr).add j = ⟨P0, o0 + j, none⟩ := by simp [Addr.add]
    rw [this, h2, ← hq]
  have hws : w2.heap.size ≤ w3.heap.size := s_
  refine step_append_lies w3 rfl _ _ 30 rfl w2.heap.size 3 i0 _ 1 8 Try.underlying30 hi0 hz0 hz1 hz2 rfl (by decide) _ 0 [] rfl O3.out ⟨P0, o0, none⟩ n c (V r) rfl (by rw [V_len, Q1.out, Nat.mul_one]) hnews (fun q hq => by obtain ⟨z, _, rfl⟩ := List.mem_map.1 hq; rfl) hN0 (by unfold maxLen; omega) (by omega) hws _ rfl ?_
  intro g3 c3 w4 ho hg hat hlt
  clear hnews
  have b1 : Below w2.heap.size w3 w4 := own_below O3.out hg (Nat.le_refl _) hws
  have hw2 : w.heap.size ≤ w2.heap.size := by omega
  rw [Nat.zero_add, List.nil_append] at ho
  rw [Nat.zero_add]
  have hHeld2 := Hld.later2 hHeld b1 (by omega) (by omega); clear hHeld
  replace X1 := Lib.hid (X1.out.keep (b1.mono (by have := X1.out.top; have := HX.out.top; omega)) (Nat.le_refl _))
  replace B1 := Lib.hid (B1.out.trans (b1.mono hw2))
  replace A1 := Lib.hid (A1.out.keep b1 (by omega))
  have R4 := Lib.hid (Row.of_own ho)
  have hc3 := (own_cap ho).2
  have s4 := b1.size
  clear ho hg hat hlt b1 O3 s_
  refine hK.out _ _ hHeld2 (fun hHeld => ?_)
  clear hK K hHeld2
  refine wpAnyH_ready (rs := [6]) (by kernel_rfl) (by simp) (AllReadyH.cons rfl (fun K hK => ?_) AllReadyH.nil)
  go_simp
  refine (l02inv_gives (some ⟨P0, o0, none⟩) n c r hi _ (Srd.fst X1.out) HS.out.r Q1.out).mono ?_
  rintro e w5 ⟨v5, rfl, o5, b1⟩
  obtain ⟨P5, c5, rfl⟩ := own_form o5
  have s_ := b1.size; replace X1 := Lib.hid (X1.out.keep b1 X1.out.top); replace B1 := Lib.hid (B1.out.trans (b1.mono B1.out.size))
  replace A1 := Lib.hid (A1.out.keep b1 A1.out.lt)
  replace R4 := Lib.hid (R4.out.keep b1 R4.out.2.1)
  have R5 := Lib.hid (Row.of_own o5); clear o5
  go_wp2_with fail
  have hHeld2 := hHeld.later b1 (by omega); clear b1 hHeld
  refine hK.out _ _ hHeld2 (fun hHeld => ?_)
  clear hK K hHeld2
  refine wpAnyH_ready (rs := [9]) (by kernel_rfl) (by simp) (AllReadyH.cons rfl (fun K hK => ?_) AllReadyH.nil)
  go_simp
  refine (l02then_any P5 _ c5 Q m d (Inv r) u _ _ _ R5.out.rd (Srd.snd X1.out) (Inv_ok HS.out.r) (by rw [Inv_len, ← Q2.out]; exact RU.out)).mono ?_
  rintro e w6 ⟨v6, rfl, o6, b1⟩
  obtain ⟨P6, c6, rfl⟩ := own_form o6
  have hc6 := (own_cap o6).2
  replace B1 := Lib.hid (B1.out.trans (b1.mono B1.out.size))
  replace A1 := Lib.hid (A1.out.keep b1 A1.out.lt)
  replace R4 := Lib.hid (R4.out.keep b1 R4.out.2.1)
  have s6 := b1.size
  have R6 := Lib.hid (Row.of_own o6); clear o6
  go_wp2_with fail
  have hHeld2 := hHeld.later b1 (by omega); clear b1 hHeld R5 X1
  refine hK.out _ _ hHeld2 (fun hHeld => ?_)
  clear hK K hHeld2
  have hl : (thn (Inv r) u).length = n := by rw [thn_len, Inv_len, Q1.out]
  rw [hl] at hc6 ⊢
  replace R6 : Hid (Row w6 w5.heap.size w6.heap.size P6 n (V (thn (Inv r) u))) := Lib.hid (by have := R6.out; rw [hl] at this; exact this)
  clear hl
  refine wpAnyH_ready (rs := [10]) (by kernel_rfl) (by simp) (AllReadyH.cons rfl (fun K hK => ?_) AllReadyH.nil)
  refine step_build rfl 32 _ rfl [(0, .slice (some ⟨g3, 0, none⟩) n c3), (1, .slice P6 n c6)] rfl #[.slice (some ⟨g3, 0, none⟩) n c3, .slice P6 n c6] (built_two _ _ _ _ _ _) ?_
  refine hK.out _ _ hHeld (fun hHeld2 => ?_)
  clear hK K hHeld
  refine wpAnyH_ready (rs := [11]) (by kernel_rfl) (by simp) (AllReadyH.cons rfl (fun K hK => ?_) AllReadyH.nil)
  refine step_store_row rfl 32 _ _ rfl (w.heap.size + 1) #[.slice (some ⟨g3, 0, none⟩) n c3, .slice P6 n c6] rfl rfl 32 #[.slice none 0 0, .slice none 0 0] A1.out size2 rfl (by simp [Value.oneCell']) ?_
  refine hK.out _ _ (hHeld2.other (Nat.le_refl _) (by simp) _) (fun hHeld => ?_)
  clear hK K hHeld2 hHeld
  refine wpAnyH_done (by kernel_rfl) ?_ _
  go_wp2_with fail
  exact bodyPost_ret (v := .agg #[.slice (some ⟨g3, 0, none⟩) n c3, .slice P6 n c6]) (results_cell_row rfl _ _ (w.heap.size + 1) 32 #[.slice (some ⟨g3, 0, none⟩) n c3, .slice P6 n c6] (0, 0) _ rfl A1.out.row Try.underlying32 rfl size2) rfl (by
    have m2 : Svl w6 (w.heap.size + 2) w6.heap.size (.agg #[.slice (some ⟨g3, 0, none⟩) n c3, .slice P6 n c6]) r (thn (Inv r) u) :=
      Svl.mk2 (l2 := w5.heap.size) (R4.out.wider (by omega) (by omega) (by omega)) R6.out (by omega) hc3 hc6
    have := Svl.row m2 (g := w.heap.size + 1) (by omega) #[.slice (some ⟨g3, 0, none⟩) n c3, .slice P6 n c6]
    exact ⟨_, rfl, (by simpa using this.later (by omega)), below_setRow B1.out (by omega) _⟩)
end Go.Proofs.Ytkkklpchkkdhfaa.mk

/-
  A surface that is drawn.
-/
namespace Go.Proofs.Ytkkklpchkkdhfaa.mk
open Go.ChangeShapes Go.WideShapes Go.ChangeAt Go.RowKit
open Go.Proofs.Ytkkklpchkkdhfaa.mem Go.Proofs.Ytkkklpchkkdhfaa.ints Go.Proofs.Ytkkklpchkkdhfaa.arr Go.Proofs.Ytkkklpchkkdhfaa.pm Go.Proofs.Ytkkklpchkkdhfaa.permOk Go.Proofs.Ytkkklpchkkdhfaa.permOf Go.Proofs.Ytkkklpchkkdhfaa.inv Go.Proofs.Ytkkklpchkkdhfaa.sf Go.Proofs.Ytkkklpchkkdhfaa.gl Go.Proofs.Ytkkklpchkkdhfaa.cur
set_option linter.unusedVariables false
set_option maxRecDepth 100000
theorem el_ok4 : ∀ a : Fin 6, ∀ h : Fin 5, 1 ≤ a.1 → 1 ≤ h.1 → transB (elFR a.1 h.1) (elFU a.1 h.1) = true ∧ (elFR a.1 h.1).length = a.1 + h.1 - 1 := by decide +kernel
theorem el_sf {a h : Int} (a1 : 1 ≤ a) (a2 : a ≤ 5) (h1 : 1 ≤ h) (h2 : h ≤ 4) : ∃ N, N ≤ 8 ∧ Sf N (elFR a h) (elFU a h) := by
  obtain ⟨A, rfl⟩ := Int.eq_ofNat_of_zero_le (show 0 ≤ a by omega)
  obtain ⟨H, rfl⟩ := Int.eq_ofNat_of_zero_le (show 0 ≤ h by omega)
  have := el_ok4 ⟨A, by omega⟩ ⟨H, by omega⟩ (by show 1 ≤ A; omega) (by show 1 ≤ H; omega)
  have t := transB_iff.1 this.1
  exact ⟨_, by have := this.2; simp only at this; omega, t⟩
theorem el_sf1 {m : Nat} (m1 : 1 ≤ m) (m5 : m ≤ 5) : ∃ N, N = m ∧ Sf N (elFR (m : Int) 1) (elFU (m : Int) 1) := by
  have := el_ok4 ⟨m, by omega⟩ ⟨1, by omega⟩ m1 (Nat.le_refl _)
  have e : (elFR (m : Int) 1).length = m := by have := this.2; simp only [Nat.add_sub_cancel] at this; exact this
  have t := transB_iff.1 this.1
  exact ⟨_, e, t⟩
theorem to_ok4 : ∀ a : Fin 5, ∀ h : Fin 4, 1 ≤ a.1 → 1 ≤ h.1 → transB (toR a.1 h.1) (toU a.1 h.1) = true ∧ (toR a.1 h.1).length = a.1 * h.1 := by decide +kernel
theorem to_sf {a h : Int} (a1 : 1 ≤ a) (a2 : a ≤ 4) (h1 : 1 ≤ h) (h2 : h ≤ 3) : ∃ N, N ≤ 12 ∧ Sf N (toR a h) (toU a h) := by
  obtain ⟨A, rfl⟩ := Int.eq_ofNat_of_zero_le (show 0 ≤ a by omega)
  obtain ⟨H, rfl⟩ := Int.eq_ofNat_of_zero_le (show 0 ≤ h by omega)
  have := to_ok4 ⟨A, by omega⟩ ⟨H, by omega⟩ (by show 1 ≤ A; omega) (by show 1 ≤ H; omega)
  have t := transB_iff.1 this.1
  exact ⟨_, by have h3 := this.2; simp only at h3; rw [h3]; exact Nat.mul_le_mul (show A ≤ 4 by omega) (show H ≤ 3 by omega), t⟩
/-- A valid surface of at most M squares, of the call's own. -/
def Drawn (M g : Nat) (A : Option Addr) (n c : Nat) (l : List Int) (w : World) (e : Ending) (w' : World) : Prop :=
  ∃ v r u N, N ≤ M ∧ Sf N r u ∧ e = .returned v ∧ Svl w' w.heap.size w'.heap.size v r u ∧ Cur w' g A n c l ∧ Out g (g + 1) w w'
structure Dw (w wr : World) (g : Nat) (A : Option Addr) (n c : Nat) (l : List Int) : Prop where
  res : Arr wr w.heap.size [.slice none 0 0, .slice none 0 0] 32
  cur : Cur wr g A n c l
  out : Out g (g + 1) w wr
  lt : g < w.heap.size
theorem Dw.later {w wr w' : World} {g n c : Nat} {A : Option Addr} {l : List Int} (h : Dw w wr g A n c l) (hc : Cur w' g A n c l) (ho : Out g (g + 1) wr w') : Dw w w' g A n c l :=
  ⟨h.res.out ho (.inr h.lt), hc, h.out.trans ho, h.lt⟩
theorem Dw.below {w wr w' : World} {g n c : Nat} {A : Option Addr} {l : List Int} (h : Dw w wr g A n c l) (hb : Below wr.heap.size wr w') : Dw w w' g A n c l :=
  h.later (h.cur.keep hb h.cur.lt) (Out.of_below hb)
theorem Dw.size {w wr : World} {g n c : Nat} {A : Option Addr} {l : List Int} (h : Dw w wr g A n c l) : w.heap.size < wr.heap.size := h.res.lt
theorem _root_.Go.Proofs.Ytkkklpchkkdhfaa.mem.Out.trans_below {g : Nat} {w a b : World} {B : Nat} (h : Out g (g + 1) w a) (hb : Below B a b) (hB : w.heap.size ≤ B) : Out g (g + 1) w b :=
  ⟨hb.os.trans h.os, hb.tape.trans h.tape, hb.output.trans h.output, Nat.le_trans h.size hb.size, fun k hk hne => (hb.block k (by omega)).trans (h.block k hk hne)⟩
set_option maxHeartbeats 4000000 in
theorem drawM_any (mo : Nat) (mo1 : 1 ≤ mo) (mo5 : mo ≤ 5) (w : World) (g : Nat) (A : Option Addr) (n c : Nat) (l : List Int) (hc : Cur w g A n c l) :
    Calls Try.prog 45 #[.pointer (some ⟨g, 0, none⟩), .int .i64 (mo : Int)] w (Drawn mo g A n c l w) := by
  have hlt0 := hc.lt
  have DW0 : Hid (Dw w (w.alloc (.cells #[.slice none 0 0, .slice none 0 0] 32)) g A n c l) := Lib.hid ⟨Arr.new w [.slice none 0 0, .slice none 0 0] _ rfl, hc.keep ((Below.refl _ _).alloc (Nat.le_refl _) _) hlt0, Out.of_below ((Below.refl _ _).alloc (Nat.le_refl _) _), hlt0⟩
  clear hc
  go_enter Try.func45, Try.ntmps45
  go_wp2_with fail
  refine (below_any _ g A n c l (mo : Int) (by omega) (by omega) DW0.out.cur).mono ?_
  rintro e w1 ⟨x, x0, x1, rfl, hc1, o1⟩
  have DW := Lib.hid (DW0.out.later hc1 o1)
  clear hc1 o1 DW0
  obtain ⟨m, hm⟩ := Int.eq_ofNat_of_zero_le (show 0 ≤ 1 + x by omega)
  have hm1 : 1 ≤ m := by omega
  have hm5 : m ≤ mo := by omega
  have hmw : IntKind.i64.wrap (m : Int) = (m : Int) := w_in (by omega)
  clear x0 x1
  go_wp2_with fail
  clear hmw hm
  go_loopw [6] (fun i wr => ∃ k : Nat, k ≤ 8 ∧ i = .int .i64 k ∧ Dw w wr g A n c l) (fun i _ => 8 - (intOf i).toNat)
  case atStart => exact ⟨0, Nat.zero_le _, rfl, DW.out⟩
  case round =>
    obtain ⟨k, hk, rfl, ht⟩ := hrel
    clear DW
    have DW := Lib.hid ht; clear ht
    by_cases hlt : k < 8
    · go_wp2_with fail
      refine (drawP_any _ g A n c l m (by omega) DW.out.cur).mono ?_
      rintro e w2 ⟨v1, r, okr, lr, rfl, ow1, hc1, o1⟩
      have sz := DW.out.size
      have s1 := o1.size
      replace DW := Lib.hid (DW.out.later hc1 o1); clear hc1 o1
      obtain ⟨P1, d1, rfl⟩ := own_form ow1
      have hd1 := (own_cap ow1).2
      have OKR := Lib.hid okr; have LR := Lib.hid lr; have R1 := Lib.hid (Row.of_own ow1); clear okr lr ow1
      go_wp2_with fail
      refine (drawP_any _ g A n c l m (by omega) DW.out.cur).mono ?_
      rintro e w3 ⟨v2, u, oku, lu, rfl, ow2, hc1, o1⟩
      have sz2 := DW.out.lt
      have s2 := o1.size
      replace R1 := Lib.hid (R1.out.out o1 (.inr (by omega)))
      replace DW := Lib.hid (DW.out.later hc1 o1); clear hc1 o1
      obtain ⟨P2, d2, rfl⟩ := own_form ow2
      have hd2 := (own_cap ow2).2
      have OKU := Lib.hid oku; have LU := Lib.hid lu; have R2 := Lib.hid (Row.of_own ow2); clear oku lu ow2
      have SV : Hid (Svl w3 (w.heap.size + 1) w3.heap.size (.agg #[.slice P1 m d1, .slice P2 m d2]) r u) := Lib.hid (Svl.later (Svl.mk2 R1.out R2.out s1 hd1 hd2) (by omega))
      clear R1 R2
      go_wp2_with (refine wpList_store_row rfl 32 _ _ rfl w3.heap.size #[.slice P1 m d1, .slice P2 m d2] rfl rfl 32 #[.slice none 0 0, .slice none 0 0] (Arr.new w3 [.slice none 0 0, .slice none 0 0] _ rfl) size2 rfl (by simp [Value.oneCell']) ?_; generalize hw : (w3.alloc (.cells #[.slice none 0 0, .slice none 0 0] 32)).setRow w3.heap.size #[.slice P1 m d1, .slice P2 m d2] = w4; have NB : Hid (Arr w4 w3.heap.size [.slice P1 m d1, .slice P2 m d2] 32) := Lib.hid (by rw [← hw]; exact (Arr.new w3 [.slice none 0 0, .slice none 0 0] _ rfl).row); have bb : Below w3.heap.size w3 w4 := (by rw [← hw]; exact below_setRow ((Below.refl _ _).alloc (Nat.le_refl _) _) (Nat.le_refl _) _); have tt : w3.heap.size + 1 ≤ w4.heap.size := (by rw [← hw]; simp); clear hw; replace SV := Lib.hid (SV.out.keep bb (Nat.le_refl _)); replace DW := Lib.hid (DW.out.below bb); have hc0 := NB.out.cell (k := 0) rfl; have hc1 := NB.out.cell (k := 1) rfl)
      have LM : Hid (r.length = m) := LR
      go_wp2_with fail
      refine (sf.ok_spec (.agg #[.slice P1 m d1, .slice P2 m d2]) r u _ w4 SV.out.rd (by rw [LR.out]; omega) (by rw [LU.out]; omega)).mono ?_
      rintro e w5 ⟨rfl, b5⟩
      have sb := b5.size
      replace SV := Lib.hid (SV.out.keep b5 SV.out.top)
      have NB2 := Lib.hid (NB.out.keep b5 NB.out.lt)
      replace DW := Lib.hid (DW.out.below b5)
      clear b5 NB hc0 hc1 bb
      have hc0 := NB2.out.cell (k := 0) rfl
      have hc1 := NB2.out.cell (k := 1) rfl
      cases ht : transB r u
      · go_wp2
        go_roundw
        case rel => exact ⟨k + 1, by omega, by go_num, DW.out⟩
        case measure => simp [intOf]; omega
      · have SF := Lib.hid (transB_iff.1 ht)
        have LE : Hid (r.length ≤ mo) := Lib.hid (by rw [LR.out]; omega)
        clear ht
        go_wp2_with (first | (fail) | (refine wpList_store_row rfl 32 _ _ rfl w.heap.size #[.slice P1 m d1, .slice P2 m d2] rfl rfl 32 #[.slice none 0 0, .slice none 0 0] DW.out.res size2 rfl (by simp [Value.oneCell']) ?_))
        exact bodyPost_ret (v := .agg #[.slice P1 m d1, .slice P2 m d2]) (results_cell_row rfl _ _ w.heap.size 32 #[.slice P1 m d1, .slice P2 m d2] (0, 0) _ rfl DW.out.res.row Try.underlying32 rfl size2) rfl (by
          have sz := DW.out.size
          have b_ := below_setRow (Below.refl w.heap.size w5) (Nat.le_refl _) #[.slice P1 m d1, .slice P2 m d2]
          have sv := Svl.row SV.out (g := w.heap.size) (by omega) #[.slice P1 m d1, .slice P2 m d2]
          exact ⟨_, _, _, _, LE.out, SF.out, rfl, (by simpa using Svl.later (lo' := w.heap.size) (Svl.wide sv) (by omega)), DW.out.cur.keep b_ DW.out.lt, DW.out.out.trans_below b_ (Nat.le_refl _)⟩)
    · obtain rfl : k = 8 := by omega
      obtain ⟨N, hN0, sf⟩ := el_sf1 (m := m) hm1 (by omega)
      have hN : N ≤ mo := by omega
      clear hN0
      have SF := Lib.hid sf; have LE := Lib.hid hN; clear sf hN
      go_wp2_with fail
      refine (el_spec (m : Int) 1 _ (by omega) (by omega) (by omega) (by omega)).mono ?_
      rintro e w2 ⟨v1, rfl, sv, b2⟩
      obtain ⟨P1, d1, P2, d2, rfl⟩ := sv.lens SF.out.lr SF.out.lu
      have sz := DW.out.size
      replace DW := Lib.hid (DW.out.below b2)
      have SV : Hid (Svl w2 (w.heap.size + 1) w2.heap.size _ _ _) := Lib.hid (sv.later (by omega))
      clear sv b2
      go_wp2_with (first | (refine wpList_store_row rfl 32 _ _ rfl w2.heap.size #[.slice P1 N d1, .slice P2 N d2] rfl rfl 32 #[.slice none 0 0, .slice none 0 0] (Arr.new w2 [.slice none 0 0, .slice none 0 0] _ rfl) size2 rfl (by simp [Value.oneCell']) ?_; generalize hw : (w2.alloc (.cells #[.slice none 0 0, .slice none 0 0] 32)).setRow w2.heap.size #[.slice P1 N d1, .slice P2 N d2] = w4; have NB : Hid (Arr w4 w2.heap.size [.slice P1 N d1, .slice P2 N d2] 32) := Lib.hid (by rw [← hw]; exact (Arr.new w2 [.slice none 0 0, .slice none 0 0] _ rfl).row); have bb : Below w2.heap.size w2 w4 := (by rw [← hw]; exact below_setRow ((Below.refl _ _).alloc (Nat.le_refl _) _) (Nat.le_refl _) _); have tt : w2.heap.size + 1 ≤ w4.heap.size := (by rw [← hw]; simp); clear hw; replace SV := Lib.hid (SV.out.keep bb (Nat.le_refl _)); replace DW := Lib.hid (DW.out.below bb); have hc0 := NB.out.cell (k := 0) rfl; have hc1 := NB.out.cell (k := 1) rfl) | (refine wpList_store_row rfl 32 _ _ rfl w.heap.size #[.slice P1 N d1, .slice P2 N d2] rfl rfl 32 #[.slice none 0 0, .slice none 0 0] DW.out.res size2 rfl (by simp [Value.oneCell']) ?_))
      exact bodyPost_ret (v := .agg #[.slice P1 N d1, .slice P2 N d2]) (results_cell_row rfl _ _ w.heap.size 32 #[.slice P1 N d1, .slice P2 N d2] (0, 0) _ rfl DW.out.res.row Try.underlying32 rfl size2) rfl (by
        have sz := DW.out.size
        have b_ := below_setRow (Below.refl w.heap.size w4) (Nat.le_refl _) #[.slice P1 N d1, .slice P2 N d2]
        have sv := Svl.row SV.out (g := w.heap.size) (by omega) #[.slice P1 N d1, .slice P2 N d2]
        exact ⟨_, _, _, _, LE.out, SF.out, rfl, (by simpa using Svl.later (lo' := w.heap.size) (Svl.wide sv) (by omega)), DW.out.cur.keep b_ DW.out.lt, DW.out.out.trans_below b_ (Nat.le_refl _)⟩)

theorem draw5_any (w : World) (g : Nat) (A : Option Addr) (n c : Nat) (l : List Int) (hc : Cur w g A n c l) :
    Calls Try.prog 45 #[.pointer (some ⟨g, 0, none⟩), .int .i64 5] w (Drawn 8 g A n c l w) :=
  (drawM_any 5 (by decide) (by decide) w g A n c l hc).mono fun _ _ ⟨v, r, u, N, h1, h2⟩ => ⟨v, r, u, N, by omega, h2⟩
end Go.Proofs.Ytkkklpchkkdhfaa.mk

/-
  MakeSurface.
-/
namespace Go.Proofs.Ytkkklpchkkdhfaa.mk
open Go.ChangeShapes Go.WideShapes Go.ChangeAt Go.RowKit
open Go.Proofs.Ytkkklpchkkdhfaa.mem Go.Proofs.Ytkkklpchkkdhfaa.ints Go.Proofs.Ytkkklpchkkdhfaa.arr Go.Proofs.Ytkkklpchkkdhfaa.pm Go.Proofs.Ytkkklpchkkdhfaa.permOk Go.Proofs.Ytkkklpchkkdhfaa.permOf Go.Proofs.Ytkkklpchkkdhfaa.inv Go.Proofs.Ytkkklpchkkdhfaa.sf Go.Proofs.Ytkkklpchkkdhfaa.gl Go.Proofs.Ytkkklpchkkdhfaa.cur
set_option linter.unusedVariables false
set_option maxRecDepth 100000
def Makes (w : World) (e : Ending) (w' : World) : Prop :=
  ∃ v r u N, N ≤ 12 ∧ Sf N r u ∧ e = .returned v ∧ Svl w' w.heap.size w'.heap.size v r u ∧ Below w.heap.size w w'
structure Mw (w wr : World) (g : Nat) (A : Option Addr) (n c : Nat) (l : List Int) : Prop where
  res : Arr wr w.heap.size [.slice none 0 0, .slice none 0 0] 32
  cur : Cur wr g A n c l
  below : Below w.heap.size w wr
  gt : w.heap.size < g
theorem Mw.later {w wr w' : World} {g n c : Nat} {A : Option Addr} {l : List Int} (h : Mw w wr g A n c l) (hc : Cur w' g A n c l) (ho : Out g (g + 1) wr w') : Mw w w' g A n c l :=
  ⟨h.res.out ho (.inl h.gt), hc, h.below.trans (ho.below (Nat.le_of_lt h.gt) h.below.size), h.gt⟩
theorem Mw.under {w wr w' : World} {g n c : Nat} {A : Option Addr} {l : List Int} (h : Mw w wr g A n c l) (hb : Below wr.heap.size wr w') : Mw w w' g A n c l :=
  ⟨h.res.keep hb h.res.lt, h.cur.keep hb h.cur.lt, h.below.trans (hb.mono h.below.size), h.gt⟩
theorem Mw.store {w wr : World} {g n c b : Nat} {A : Option Addr} {l : List Int} (h : Mw w wr g A n c l) (hb : g < b) (cs : Array Value) : Mw w (wr.setRow b cs) g A n c l := by
  have ho : Out b (b + 1) wr (wr.setRow b cs) := (Out.refl b (b + 1) wr).row_ (Nat.le_refl _) (Nat.lt_succ_self _) cs
  have := h.gt
  exact ⟨h.res.out ho (.inl (by omega)), h.cur.out ho hb, h.below.trans (ho.below (by omega) h.below.size), h.gt⟩
/-- The surface in its box b. -/
structure Bx (wr : World) (g b N c d : Nat) (P Q : Option Addr) (r u : List Int) : Prop where
  small : N ≤ 12
  sf : Sf N r u
  box : Arr wr b [.slice P N c, .slice Q N d] 32
  row : ∃ lo hi, Svl wr lo hi (.agg #[.slice P N c, .slice Q N d]) r u ∧ g < lo ∧ (hi ≤ b ∨ b < lo)
  gb : g < b
theorem Bx.later {wr w' : World} {g b N c d : Nat} {P Q : Option Addr} {r u : List Int} (h : Bx wr g b N c d P Q r u) (ho : Out g (g + 1) wr w') : Bx w' g b N c d P Q r u := by
  obtain ⟨lo, hi, sv, h1, h2⟩ := h.row
  have := h.gb
  exact ⟨h.small, h.sf, h.box.out ho (.inr (by omega)), ⟨lo, hi, sv.out ho (.inr (by omega)), h1, h2⟩, h.gb⟩
theorem Bx.rd {wr : World} {g b N c d : Nat} {P Q : Option Addr} {r u : List Int} (h : Bx wr g b N c d P Q r u) : Srd wr wr.heap.size (.agg #[.slice P N c, .slice Q N d]) r u := by
  obtain ⟨lo, hi, sv, h1, h2⟩ := h.row
  exact sv.rd.up
theorem Bx.store {wr w' : World} {g b N c d c' d' : Nat} {P Q P' Q' : Option Addr} {r u r' u' : List Int} (h : Bx wr g b N c d P Q r u) (hb : Below wr.heap.size wr w') (s : Sf N r' u') (sv : Svl w' wr.heap.size w'.heap.size (.agg #[.slice P' N c', .slice Q' N d']) r' u') :
    Bx (w'.setRow b #[.slice P' N c', .slice Q' N d']) g b N c' d' P' Q' r' u' := by
  have ho : Out b (b + 1) w' (w'.setRow b #[.slice P' N c', .slice Q' N d']) := (Out.refl b (b + 1) w').row_ (Nat.le_refl _) (Nat.lt_succ_self _) _
  have h1 := h.gb; have h2 := h.box.lt
  exact ⟨h.small, s, (h.box.keep hb h2).row, ⟨_, _, sv.out ho (.inr (by omega)), by omega, .inr (by omega)⟩, h1⟩
theorem Bx.done {w wr : World} {g b N c d : Nat} {P Q : Option Addr} {r u : List Int} (h : Bx wr g b N c d P Q r u) (hg : w.heap.size < g) : Svl (wr.setRow w.heap.size #[.slice P N c, .slice Q N d]) w.heap.size (wr.setRow w.heap.size #[.slice P N c, .slice Q N d]).heap.size (.agg #[.slice P N c, .slice Q N d]) r u := by
  obtain ⟨lo, hi, sv, h1, h2⟩ := h.row
  exact Svl.wide (Svl.later (Svl.row sv (g := w.heap.size) (by omega) _) (by omega))

set_option maxHeartbeats 4000000 in
theorem make_any (w : World) (hi : Nat) (A : Option Addr) (n c : Nat) (l : List Int) (hc : cur.Code w hi A n l) :
    Calls Try.prog 15 #[.slice A n c] w (Makes w) := by
  have HC := Lib.hid hc; clear hc
  go_enter Try.func15, Try.ntmps15
  go_wp2_with fail
  refine (new_any _ hi A n c l (HC.out.keep ((Below.refl w.heap.size w).alloc (Nat.le_refl _) _) HC.out.rd.2.1)).mono ?_
  rintro e w1 ⟨g, hg, hlt, rfl, hcur, hb⟩
  have MW : Hid (Mw w w1 g A n c l) := Lib.hid ⟨(Arr.new w [.slice none 0 0, .slice none 0 0] _ rfl).keep hb (by simp), hcur, ((Below.refl w.heap.size w).alloc (Nat.le_refl _) _).trans (hb.mono (by simp)), (by simp at hg; omega)⟩
  clear hg hlt hcur hb
  go_wp2_with fail
  refine (below_any _ g A n c l 4 (by omega) (by omega) MW.out.cur).mono ?_
  rintro e w2 ⟨x, x0, x1, rfl, hc1, o1⟩
  replace MW := Lib.hid (MW.out.later hc1 o1); clear hc1 o1
  by_cases hx : x = 0
  · subst hx
    go_wp2_with fail
    refine (below_any _ g A n c l 4 (by omega) (by omega) MW.out.cur).mono ?_
    rintro e w3 ⟨y, y0, y1, rfl, hc1, o1⟩
    replace MW := Lib.hid (MW.out.later hc1 o1); clear hc1 o1
    obtain ⟨a', ha'⟩ := Int.eq_ofNat_of_zero_le (show 0 ≤ 1 + y by omega)
    have ha1 : 1 ≤ a' := by omega
    have ha5 : a' ≤ 4 := by omega
    have haw : IntKind.i64.wrap (a' : Int) = (a' : Int) := w_in (by omega)
    clear y0 y1
    go_wp2_with fail
    refine (below_any _ g A n c l 3 (by omega) (by omega) MW.out.cur).mono ?_
    rintro e w4 ⟨z, z0, z1, rfl, hc1, o1⟩
    replace MW := Lib.hid (MW.out.later hc1 o1); clear hc1 o1
    obtain ⟨b', hb'⟩ := Int.eq_ofNat_of_zero_le (show 0 ≤ 1 + z by omega)
    have hb1 : 1 ≤ b' := by omega
    have hb5 : b' ≤ 3 := by omega
    have hbw : IntKind.i64.wrap (b' : Int) = (b' : Int) := w_in (by omega)
    clear z0 z1
    obtain ⟨N, hN, sf⟩ := to_sf (a := (a' : Int)) (h := (b' : Int)) (by omega) (by omega) (by omega) (by omega)
    have SF := Lib.hid sf; have LE : Hid (N ≤ 12) := Lib.hid (by omega); clear sf hN
    go_wp2_with fail
    refine (to_spec (a' : Int) (b' : Int) _ (by omega) (by omega) (by omega) (by omega)).mono ?_
    rintro e w5 ⟨v1, rfl, sv, b2⟩
    obtain ⟨P1, d1, P2, d2, rfl⟩ := sv.lens SF.out.lr SF.out.lu
    have GL : Hid (g < w4.heap.size) := Lib.hid MW.out.cur.lt
    have sv5 := b2.size
    replace MW := Lib.hid (MW.out.under b2)
    have SV := Lib.hid sv
    clear sv b2 haw hbw ha' hb'
    go_wp2_with (refine wpList_store_row rfl 32 _ _ rfl w5.heap.size #[.slice P1 N d1, .slice P2 N d2] rfl rfl 32 #[.slice none 0 0, .slice none 0 0] (Arr.new w5 [.slice none 0 0, .slice none 0 0] _ rfl) size2 rfl (by simp [Value.oneCell']) ?_; generalize hw : (w5.alloc (.cells #[.slice none 0 0, .slice none 0 0] 32)).setRow w5.heap.size #[.slice P1 N d1, .slice P2 N d2] = w6; have NB : Hid (Arr w6 w5.heap.size [.slice P1 N d1, .slice P2 N d2] 32) := Lib.hid (by rw [← hw]; exact (Arr.new w5 [.slice none 0 0, .slice none 0 0] _ rfl).row); have bb : Below w5.heap.size w5 w6 := (by rw [← hw]; exact below_setRow ((Below.refl _ _).alloc (Nat.le_refl _) _) (Nat.le_refl _) _); have tt : w5.heap.size + 1 ≤ w6.heap.size := (by rw [← hw]; simp); clear hw; have BX : Hid (Bx w6 g w5.heap.size N d1 d2 P1 P2 _ _) := Lib.hid ⟨LE.out, SF.out, NB.out, ⟨_, _, SV.out.keep bb (Nat.le_refl _), GL.out, .inl (Nat.le_refl _)⟩, Nat.lt_of_lt_of_le GL.out sv5⟩; replace MW := Lib.hid (MW.out.under bb); have hc0 := NB.out.cell (k := 0) rfl; have hc1 := NB.out.cell (k := 1) rfl)
    have hsz := NB.out.lt
    generalize w5.heap.size = b at *
    clear hc0 hc1 NB
    go_wp2_with fail
    refine (below_any _ g A n c l 4 (by omega) (by omega) MW.out.cur).mono ?_
    rintro e w7 ⟨z, z0, z1, rfl, hc1, o1⟩
    replace MW := Lib.hid (MW.out.later hc1 o1); replace BX := Lib.hid (BX.out.later o1); clear hc1 o1
    obtain ⟨K, rfl⟩ := Int.eq_ofNat_of_zero_le z0
    have hK : K ≤ 3 := by omega
    clear z0 z1
    go_wp2_with fail
    go_loopw [6] (fun i wr => ∃ (k : Nat) (P1 P2 : Option Addr) (d1 d2 : Nat) (r u : List Int), k ≤ 3 ∧ i = .int .i64 k ∧ Mw w wr g A n c l ∧ Bx wr g b N d1 d2 P1 P2 r u) (fun i _ => (intOf i).toNat)
    case atStart => exact ⟨K, _, _, _, _, _, _, hK, rfl, MW.out, BX.out⟩
    case round =>
      obtain ⟨k, P1, P2, d1, d2, r, u, hk, rfl, hm, hbx⟩ := hrel
      clear MW BX
      have MW := Lib.hid hm; have BX := Lib.hid hbx; clear hm hbx
      have hc0 := BX.out.box.cell (k := 0) rfl
      have hc1 := BX.out.box.cell (k := 1) rfl
      by_cases hlt : 0 < k
      · have hdk : decide (0 < (k : Int)) = true := by simp; omega
        go_wp2_with fail
        refine (shear_any (.agg #[.slice P1 N d1, .slice P2 N d2]) r u N _ _ BX.out.rd BX.out.sf).mono ?_
        rintro e w8 ⟨v2, rfl, sv, b2⟩
        have SF : Hid (Sf N r (thn (Inv r) u)) := Lib.hid (shear_sf BX.out.sf)
        obtain ⟨P3, d3, P4, d4, rfl⟩ := sv.lens SF.out.lr SF.out.lu
        have BX2 := Lib.hid (BX.out.store b2 SF.out sv)
        have BO := Lib.hid (BX.out.box.keep b2 BX.out.box.lt)
        have MW2 := Lib.hid ((MW.out.under b2).store BX.out.gb #[.slice P3 N d3, .slice P4 N d4])
        clear sv b2 hc0 hc1 MW BX
        go_wp2_with (refine wpList_store_row rfl 32 _ _ rfl b #[.slice P3 N d3, .slice P4 N d4] rfl rfl 32 #[.slice P1 N d1, .slice P2 N d2] BO.out size2 rfl (by simp [Value.oneCell']) ?_)
        obtain ⟨k', rfl⟩ : ∃ k', k = k' + 1 := ⟨k - 1, by omega⟩
        go_wp2
        go_roundw
        case rel => exact ⟨k', _, _, _, _, _, _, by omega, by go_num, MW2.out, BX2.out⟩
        case measure => simp [intOf]
      · obtain rfl : k = 0 := by omega
        go_wp2_with (first | (refine wpList_store_row rfl 32 _ _ rfl w.heap.size #[.slice P1 N d1, .slice P2 N d2] rfl rfl 32 #[.slice none 0 0, .slice none 0 0] MW.out.res size2 rfl (by simp [Value.oneCell']) ?_))
        exact bodyPost_ret (v := .agg #[.slice P1 N d1, .slice P2 N d2]) (results_cell_row rfl _ _ w.heap.size 32 #[.slice P1 N d1, .slice P2 N d2] (0, 0) _ rfl MW.out.res.row Try.underlying32 rfl size2) rfl
          ⟨_, _, _, _, BX.out.small, BX.out.sf, rfl, BX.out.done MW.out.gt, below_setRow MW.out.below (Nat.le_refl _) _⟩

  by_cases hx1 : x = 1
  · subst hx1
    clear hx
    go_wp2_with fail
    refine (below_any _ g A n c l 4 (by omega) (by omega) MW.out.cur).mono ?_
    rintro e w3 ⟨y, y0, y1, rfl, hc1, o1⟩
    replace MW := Lib.hid (MW.out.later hc1 o1); clear hc1 o1
    obtain ⟨a', ha'⟩ := Int.eq_ofNat_of_zero_le (show 0 ≤ 1 + y by omega)
    have ha1 : 1 ≤ a' := by omega
    have ha5 : a' ≤ 4 := by omega
    have haw : IntKind.i64.wrap (a' : Int) = (a' : Int) := w_in (by omega)
    clear y0 y1
    go_wp2_with fail
    refine (below_any _ g A n c l 4 (by omega) (by omega) MW.out.cur).mono ?_
    rintro e w4 ⟨z, z0, z1, rfl, hc1, o1⟩
    replace MW := Lib.hid (MW.out.later hc1 o1); clear hc1 o1
    obtain ⟨b', hb'⟩ := Int.eq_ofNat_of_zero_le (show 0 ≤ 1 + z by omega)
    have hb1 : 1 ≤ b' := by omega
    have hb5 : b' ≤ 4 := by omega
    have hbw : IntKind.i64.wrap (b' : Int) = (b' : Int) := w_in (by omega)
    clear z0 z1
    obtain ⟨N, hN, sf⟩ := el_sf (a := (a' : Int)) (h := (b' : Int)) (by omega) (by omega) (by omega) (by omega)
    have SF := Lib.hid sf; have LE : Hid (N ≤ 12) := Lib.hid (by omega); clear sf hN
    go_wp2_with fail
    refine (el_spec (a' : Int) (b' : Int) _ (by omega) (by omega) (by omega) (by omega)).mono ?_
    rintro e w5 ⟨v1, rfl, sv, b2⟩
    obtain ⟨P1, d1, P2, d2, rfl⟩ := sv.lens SF.out.lr SF.out.lu
    have GL : Hid (g < w4.heap.size) := Lib.hid MW.out.cur.lt
    have sv5 := b2.size
    replace MW := Lib.hid (MW.out.under b2)
    have SV := Lib.hid sv
    clear sv b2 haw hbw ha' hb'
    go_wp2_with (first | (refine wpList_store_row rfl 32 _ _ rfl w5.heap.size #[.slice P1 N d1, .slice P2 N d2] rfl rfl 32 #[.slice none 0 0, .slice none 0 0] (Arr.new w5 [.slice none 0 0, .slice none 0 0] _ rfl) size2 rfl (by simp [Value.oneCell']) ?_; generalize hw : (w5.alloc (.cells #[.slice none 0 0, .slice none 0 0] 32)).setRow w5.heap.size #[.slice P1 N d1, .slice P2 N d2] = w6; have NB : Hid (Arr w6 w5.heap.size [.slice P1 N d1, .slice P2 N d2] 32) := Lib.hid (by rw [← hw]; exact (Arr.new w5 [.slice none 0 0, .slice none 0 0] _ rfl).row); have bb : Below w5.heap.size w5 w6 := (by rw [← hw]; exact below_setRow ((Below.refl _ _).alloc (Nat.le_refl _) _) (Nat.le_refl _) _); have tt : w5.heap.size + 1 ≤ w6.heap.size := (by rw [← hw]; simp); clear hw; have BX : Hid (Bx w6 g w5.heap.size N d1 d2 P1 P2 _ _) := Lib.hid ⟨LE.out, SF.out, NB.out, ⟨_, _, SV.out.keep bb (Nat.le_refl _), GL.out, .inl (Nat.le_refl _)⟩, Nat.lt_of_lt_of_le GL.out sv5⟩; replace MW := Lib.hid (MW.out.under bb); have hc0 := NB.out.cell (k := 0) rfl; have hc1 := NB.out.cell (k := 1) rfl) | (refine wpList_store_row rfl 32 _ _ rfl w.heap.size #[.slice P1 N d1, .slice P2 N d2] rfl rfl 32 #[.slice none 0 0, .slice none 0 0] MW.out.res size2 rfl (by simp [Value.oneCell']) ?_))
    exact bodyPost_ret (v := .agg #[.slice P1 N d1, .slice P2 N d2]) (results_cell_row rfl _ _ w.heap.size 32 #[.slice P1 N d1, .slice P2 N d2] (0, 0) _ rfl MW.out.res.row Try.underlying32 rfl size2) rfl
      ⟨_, _, _, _, BX.out.small, BX.out.sf, rfl, BX.out.done MW.out.gt, below_setRow MW.out.below (Nat.le_refl _) _⟩

  · go_wp2_with fail
    refine (draw5_any _ g A n c l MW.out.cur).mono ?_
    rintro e w3 ⟨v, r, u, N, hN, sf, rfl, sv, hc1, o1⟩
    have SF := Lib.hid sf
    obtain ⟨P1, d1, P2, d2, rfl⟩ := sv.lens sf.lr sf.lu
    have GL : g < w2.heap.size := MW.out.cur.lt
    replace MW := Lib.hid (MW.out.later hc1 o1)
    have gt := MW.out.gt
    have SV : Hid (Svl w3 (w.heap.size + 1) w3.heap.size _ _ _) := Lib.hid (sv.later (by omega))
    clear sf sv hc1 o1
    go_wp2_with (refine wpList_store_row rfl 32 _ _ rfl w.heap.size #[.slice P1 N d1, .slice P2 N d2] rfl rfl 32 #[.slice none 0 0, .slice none 0 0] MW.out.res size2 rfl (by simp [Value.oneCell']) ?_)
    exact bodyPost_ret (v := .agg #[.slice P1 N d1, .slice P2 N d2]) (results_cell_row rfl _ _ w.heap.size 32 #[.slice P1 N d1, .slice P2 N d2] (0, 0) _ rfl MW.out.res.row Try.underlying32 rfl size2) rfl
      ⟨_, _, _, _, by omega, SF.out, rfl, Svl.wide (Svl.later (Svl.row SV.out (g := w.heap.size) (by omega) _) (by omega)), below_setRow MW.out.below (Nat.le_refl _) _⟩
end Go.Proofs.Ytkkklpchkkdhfaa.mk

/-
  total and has of the laws.
-/
namespace Go.Proofs.Ytkkklpchkkdhfaa.th
open Go.ChangeShapes Go.WideShapes Go.ChangeAt Go.RowKit
open Go.Proofs.Ytkkklpchkkdhfaa.mem Go.Proofs.Ytkkklpchkkdhfaa.ints
set_option linter.unusedVariables false
set_option maxRecDepth 100000
set_option maxHeartbeats 400000 in
theorem total_any (A : Option Addr) (n c : Nat) (xs : List Int) (hi : Nat) (w : World) (hx : Rd w hi A n (V xs)) (hn : n ≤ 1000) (hs : ∀ k, 0 ≤ (xs.take k).sum ∧ (xs.take k).sum ≤ 1000) :
    Calls Try.prog 21 #[.slice A n c] w fun e w' => e = .returned (.int .i64 xs.sum) ∧ Below w.heap.size w w' := by
  have lx : xs.length = n := by simpa [V] using hx.1
  have LX := Lib.hid lx; clear lx
  have HX := Lib.hid hx; clear hx
  have HS := Lib.hid hs; clear hs
  go_enter Try.func21, Try.ntmps21
  go_wp2
  go_loopw [3, 8] (fun t i wr => ∃ k : Nat, k ≤ n ∧ i = .int .i64 k ∧ t = .int .i64 (xs.take k).sum ∧ Drawn w wr) (fun _ i _ => n - (intOf i).toNat)
  case atStart => exact ⟨0, Nat.zero_le _, rfl, rfl, ⟨0, rfl⟩⟩
  case round =>
    obtain ⟨k, hk, rfl, rfl, hdr⟩ := hrel
    have HD := Lib.hid hdr; clear hdr
    by_cases hlt : k < n
    · obtain ⟨g, off, u, rfl, _, hxu, hcx⟩ := HX.out.at_ hlt
      obtain ⟨s, hxs, rfl⟩ := V_at hxu
      rw [← HD.out.cell] at hcx
      have e : (xs.take (k + 1)).sum = (xs.take k).sum + s := by rw [List.take_add_one, hxs]; simp
      have hw : IntKind.i64.wrap ((xs.take k).sum + s) = (xs.take (k + 1)).sum := by
        rw [← e]; have := HS.out (k + 1); exact IntWalk.i64_in _ (by omega)
      clear e hxs hxu
      generalize (xs.take k).sum = t at *
      generalize ht' : (xs.take (k + 1)).sum = t' at *
      have HT := Lib.hid ht'; clear ht'
      go_wp2
      go_roundw
      case rel => exact ⟨k + 1, by omega, by go_num, by rw [HT.out], HD.out⟩
      case measure => simp [intOf]; omega
    · obtain rfl : k = n := by omega
      have e : (xs.take k).sum = xs.sum := by rw [List.take_of_length_le (by rw [LX.out]; exact Nat.le_refl _)]
      rw [e]
      go_wp2
      go_ret
      exact ⟨rfl, HD.out.below _⟩
end Go.Proofs.Ytkkklpchkkdhfaa.th
