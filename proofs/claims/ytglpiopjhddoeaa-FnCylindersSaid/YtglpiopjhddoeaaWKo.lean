/-
  Common divisors, LeastShears of the specification and of the program.
-/
import Derived.Test.YtglpiopjhddoeaaY19
import Derived.Test.YtglpiopjhddoeaaWKp
namespace Go.Proofs.Ytglpiopjhddoeaa.cy
open Go.ChangeShapes Go.WideShapes Go.ChangeAt Go.RowKit
open Go.Proofs.Ytglpiopjhddoeaa.mem Go.Proofs.Ytglpiopjhddoeaa.ints Go.Proofs.Ytglpiopjhddoeaa.arr Go.Proofs.Ytglpiopjhddoeaa.pm Go.Proofs.Ytglpiopjhddoeaa.sf Go.Proofs.Ytglpiopjhddoeaa.gl Go.Proofs.Ytglpiopjhddoeaa.lp
set_option linter.unusedVariables false
set_option maxRecDepth 100000

set_option maxHeartbeats 1000000 in
theorem gcd_spec (a b : Nat) (w : World) (ha : a ≤ 16777216) (hb : b ≤ 16777216) :
    Calls Try.prog 57 #[.int .i64 a, .int .i64 b] w fun e w' => e = .returned (.int .i64 (Nat.gcd a b : Nat)) ∧ Drawn w w' := by
  go_enter Try.func57, Try.ntmps57
  go_wp2
  go_loopw [0, 1] (fun av bv wr => ∃ x y : Nat, x ≤ 16777216 ∧ y ≤ 16777216 ∧ av = .int .i64 x ∧ bv = .int .i64 y ∧ Drawn w wr ∧ Hid (Nat.gcd x y = Nat.gcd a b)) (fun _ bv _ => (intOf bv).toNat)
  case atStart => exact ⟨a, b, ha, hb, rfl, rfl, ⟨0, rfl⟩, Lib.hid rfl⟩
  case round =>
    obtain ⟨x, y, hx, hy, rfl, rfl, hdr, HG⟩ := hrel
    have HD := Lib.hid hdr; clear hdr
    by_cases h0 : y = 0
    · subst h0
      have HE : Hid (x = Nat.gcd a b) := Lib.hid (by rw [← HG.out, Nat.gcd_zero_right])
      go_wp2
      go_ret
      exact ⟨ret_int (by rw [← HE.out]), HD.out⟩
    · have hb0 : ((y : Int) != 0) = true := by simp; omega
      have hm : x % y < y := Nat.mod_lt _ (by omega)
      have e1 : (x : Int).tmod y = ((x % y : Nat) : Int) := by rw [← Int.ofNat_tmod]
      have NG : Hid (Nat.gcd y (x % y) = Nat.gcd a b) := Lib.hid (by rw [← HG.out, Nat.gcd_comm x y, Nat.gcd_rec y x, Nat.gcd_comm])
      generalize hz : x % y = z at *
      have hw := IntWalk.i64_in (z : Int) (by omega)
      go_wp2
      go_roundw
      case rel => exact ⟨y, z, by omega, by omega, rfl, by first | rfl | (congr 1), by first | exact HD.out | exact HD.out.more 1 | exact (HD.out.more 1).more 1, NG⟩
      case measure => simp [intOf]; omega

set_option maxHeartbeats 1000000 in
theorem gcd_impl (a b : Nat) (w : World) (ha : a ≤ 16777216) (hb : b ≤ 16777216) :
    Calls Try.prog 58 #[.int .i64 a, .int .i64 b] w fun e w' => e = .returned (.int .i64 (Nat.gcd a b : Nat)) ∧ Drawn w w' := by
  go_enter Try.func58, Try.ntmps58
  go_wp2
  go_loopw [0, 1] (fun av bv wr => ∃ x y : Nat, x ≤ 16777216 ∧ y ≤ 16777216 ∧ av = .int .i64 x ∧ bv = .int .i64 y ∧ Drawn w wr ∧ Hid (Nat.gcd x y = Nat.gcd a b)) (fun _ bv _ => (intOf bv).toNat)
  case atStart => exact ⟨a, b, ha, hb, rfl, rfl, ⟨0, rfl⟩, Lib.hid rfl⟩
  case round =>
    obtain ⟨x, y, hx, hy, rfl, rfl, hdr, HG⟩ := hrel
    have HD := Lib.hid hdr; clear hdr
    by_cases h0 : y = 0
    · subst h0
      have HE : Hid (x = Nat.gcd a b) := Lib.hid (by rw [← HG.out, Nat.gcd_zero_right])
      go_wp2
      go_ret
      exact ⟨ret_int (by rw [← HE.out]), HD.out⟩
    · have hb0 : ((y : Int) != 0) = true := by simp; omega
      have hm : x % y < y := Nat.mod_lt _ (by omega)
      have e1 : (x : Int).tmod y = ((x % y : Nat) : Int) := by rw [← Int.ofNat_tmod]
      have NG : Hid (Nat.gcd y (x % y) = Nat.gcd a b) := Lib.hid (by rw [← HG.out, Nat.gcd_comm x y, Nat.gcd_rec y x, Nat.gcd_comm])
      generalize hz : x % y = z at *
      have hw := IntWalk.i64_in (z : Int) (by omega)
      go_wp2
      go_region
      go_wp2
      go_roundw
      case rel => exact ⟨y, z, by omega, by omega, rfl, by first | rfl | (congr 1), by first | exact HD.out | exact HD.out.more 1 | exact (HD.out.more 1).more 1, NG⟩
      case measure => simp [intOf]; omega

theorem cyl_all {r u : List Int} (h : transB r u = true) : aS (cyF r u) = r.length ∧ hS (cyF r u) = (cycF r).length ∧ ∀ x ∈ cyF r u, ∃ w h : Nat, x = ((w : Int), (h : Int)) ∧ 1 ≤ w ∧ 1 ≤ h ∧ w ≤ 24 := by
  have sw := cycF_rows h rfl
  have c := cyl_ok sw.sf sw.rw (cycF r).length (Nat.le_refl _)
  have o := cyS_ok (ab_inj sw.sf sw.rw) (cycF r).length (Nat.le_refl _)
  obtain ⟨a1, a2⟩ := wsum_all o.1 c.all
  have hsum : ((cycF r).map List.length).sum = r.length := by
    rw [cycF, sw.sf.r.b, if_pos rfl]
    exact cso_len sw.sf.br
  rw [cyF_yes h]
  refine ⟨by show aS (cyS _ _ _).2 = _; rw [c.area, a1, hsum], by show hS (cyS _ _ _).2 = _; rw [c.high, a2], fun x hx => ?_⟩
  obtain ⟨w, hh, e, e1, e2, j, xs, q1, q2⟩ := c.each x hx
  have := (sw.rw.way q1).choose_spec.2.2.inn.len
  have := sw.sf.small
  exact ⟨w, hh, e, e1, e2, by omega⟩
def wS (L : List Cy) : Nat := (L.map fun x => x.1.toNat).sum
theorem wS_le : ∀ {L : List Cy}, (∀ x ∈ L, ∃ w h : Nat, x = ((w : Int), (h : Int)) ∧ 1 ≤ w ∧ 1 ≤ h ∧ w ≤ 24) → (wS L : Int) ≤ aS L ∧ (∀ x ∈ L, x.2 ≤ hS L) ∧ 0 ≤ hS L
  | [], _ => by simp [wS, aS, hS]
  | x :: t, h => by
    obtain ⟨a, b, c⟩ := wS_le (L := t) (fun y hy => h y (by simp [hy]))
    obtain ⟨w, hh, rfl, h1, h2, h3⟩ := h x (by simp)
    have e1 : wS (((w : Int), (hh : Int)) :: t) = w + wS t := by simp [wS]
    have e2 : aS (((w : Int), (hh : Int)) :: t) = (w : Int) * hh + aS t := by simp [aS]
    have e3 : hS (((w : Int), (hh : Int)) :: t) = (hh : Int) + hS t := by simp [hS]
    have m : (w : Int) * 1 ≤ (w : Int) * hh := Int.mul_le_mul_of_nonneg_left (by omega) (by omega)
    refine ⟨by rw [e1, e2]; omega, fun y hy => ?_, by rw [e3]; omega⟩
    rw [e3]
    rcases List.mem_cons.1 hy with z | z
    · subst z; show (hh : Int) ≤ _; omega
    · have := b y z; omega
def need (x : Cy) : Nat := x.1.toNat / Nat.gcd x.1.toNat x.2.toNat
def lsG : List Cy → Nat → Nat
  | [], n => n
  | x :: t, n => lsG t (Nat.lcm n (need x))
noncomputable def lsF (r u : List Int) : Int := if transB r u then (lsG (cyF r u) 1 : Nat) else 0
theorem need_le (w h : Nat) (hw : 1 ≤ w) : 1 ≤ w / Nat.gcd w h ∧ w / Nat.gcd w h ≤ w :=
  ⟨Nat.div_pos (Nat.gcd_le_left _ hw) (Nat.gcd_pos_of_pos_left _ hw), Nat.div_le_self _ _⟩
theorem lcm_l (n k : Nat) : n / Nat.gcd n k * k = Nat.lcm n k := by
  unfold Nat.lcm
  rw [Nat.div_mul_right_comm (Nat.gcd_dvd_left n k)]
theorem lcm_r (n k : Nat) : n * (k / Nat.gcd n k) = Nat.lcm n k := by
  unfold Nat.lcm
  rw [Nat.mul_div_assoc _ (Nat.gcd_dvd_right n k)]
structure Lq (L : List Cy) (k n : Nat) : Prop where
  pos : 0 < n
  le : n ≤ 2 ^ wS (L.take k)
  go : lsG (L.drop k) n = lsG L 1
theorem Lq.start (L : List Cy) : Lq L 0 1 := ⟨by omega, by simp [wS], rfl⟩
theorem Lq.bound {L : List Cy} {k n : Nat} (h : Lq L k n) (hw : wS L ≤ 24) : n ≤ 16777216 := by
  have h1 : wS (L.take k) ≤ wS L := by
    have e : wS L = wS (L.take k) + wS (L.drop k) := by unfold wS; rw [← List.sum_append, ← List.map_append, List.take_append_drop]
    omega
  have h2 : 2 ^ wS (L.take k) ≤ 2 ^ 24 := Nat.pow_le_pow_right (by omega) (by omega)
  have := h.le
  omega
theorem Lq.next {L : List Cy} {k n w h : Nat} (hl : Lq L k n) (hx : L[k]? = some ((w : Int), (h : Int))) (h1 : 1 ≤ w) (h2 : 1 ≤ h) : Lq L (k + 1) (Nat.lcm n (w / Nat.gcd w h)) := by
  obtain ⟨a, b⟩ := need_le w h h1
  have e : need ((w : Int), (h : Int)) = w / Nat.gcd w h := by simp [need]
  have hp := hl.pos
  refine ⟨Nat.lcm_pos hp a, ?_, ?_⟩
  · have e2 : wS (L.take (k + 1)) = wS (L.take k) + w := by rw [List.take_add_one, hx]; simp [wS]
    rw [e2, Nat.pow_add]
    have h3 : Nat.lcm n (w / Nat.gcd w h) ≤ n * (w / Nat.gcd w h) := Nat.le_of_dvd (Nat.mul_pos hp a) (Nat.lcm_dvd_mul _ _)
    have h4 : w < 2 ^ w := Nat.lt_two_pow_self
    exact Nat.le_trans h3 (Nat.mul_le_mul hl.le (by omega))
  · have hk := (List.getElem?_eq_some_iff.1 hx).1
    have hd : L.drop k = ((w : Int), (h : Int)) :: L.drop (k + 1) := by
      rw [List.drop_eq_getElem_cons hk]
      congr 1
      rw [List.getElem?_eq_getElem hk] at hx
      exact Option.some.inj hx
    rw [← hl.go, hd, lsG, e]
theorem Lq.fin {L : List Cy} {k n : Nat} (h : Lq L k n) (hk : L.length ≤ k) : n = lsG L 1 := by
  rw [← h.go, List.drop_of_length_le hk]; rfl
theorem lsF_no {r u : List Int} (h : transB r u = false) : lsF r u = 0 := by simp [lsF, h]
theorem lsF_yes {r u : List Int} (h : transB r u = true) : lsF r u = (lsG (cyF r u) 1 : Nat) := by simp [lsF, h]

set_option maxHeartbeats 4000000 in
theorem ls_spec (v : Value) (r u : List Int) (hi : Nat) (w : World) (hx : Srd w hi v r u) (hn : r.length ≤ 1048576) (hm : u.length ≤ 1048576) :
    Calls Try.prog 31 #[v] w fun e w' => e = .returned (.int .i64 (lsF r u)) ∧ Below w.heap.size w w' := by
  have HX := Lib.hid hx; clear hx
  obtain ⟨P, n, c, Q, m, d, rfl, q1, q2, e1, e2, ht, HR⟩ := HX.out.open
  have L1 := Lib.hid q1
  clear HR q1 q2
  go_enter Try.func31, Try.ntmps31
  go_wp2_with fail
  refine (ok_spec _ r u hi _ (HX.out.keep ((Below.refl hi w).alloc ht _) (Nat.le_refl _)) hn hm).mono ?_
  rintro e w1 ⟨rfl, b1⟩
  have A0 := Lib.hid ((Arr.new w [.slice P n c, .slice Q m d] 25 rfl).keep b1 (by simp))
  have c0 := A0.out.cell (k := 0) rfl
  have c1 := A0.out.cell (k := 1) rfl
  have B1 := Lib.hid (below1 _ _ b1); clear b1
  have X1 : Hid (Srd w1 hi (.agg #[.slice P n c, .slice Q m d]) r u) := Lib.hid (HX.out.keep (B1.out.mono ht) (Nat.le_refl _))
  cases hq : transB r u
  · have HF := Lib.hid (lsF_no hq); clear hq
    go_wp2_with fail
    go_ret
    exact ⟨ret_int HF.out.symm, B1.out⟩
  · have HT := Lib.hid hq
    have HV := Lib.hid (lsF_yes hq)
    have CA := Lib.hid (cyl_all hq)
    have HC := Lib.hid (cyF_yes hq).symm
    have n24 : Hid (r.length ≤ 24) := Lib.hid (transB_iff.1 hq).small
    clear hq
    go_wp2_with fail
    refine (cys_spec _ r u n hi _ X1.out HT.out L1.out).mono ?_
    rw [HC.out]
    rintro e w4 ⟨C, cc, rfl, o4, b4⟩
    have O4 := Lib.hid o4
    have B4 := Lib.hid (B1.out.trans (b4.mono B1.out.size))
    have L24 := cyF_24 r u
    clear o4 b4 HC c0 c1
    generalize cyF r u = L at *
    have WS : Hid (wS L ≤ 24) := Lib.hid (by have := (wS_le CA.out.2.2).1; rw [CA.out.1] at this; have := n24.out; omega)
    have EA : Hid (∀ x ∈ L, ∃ w h : Nat, x = ((w : Int), (h : Int)) ∧ 1 ≤ w ∧ 1 ≤ h ∧ w ≤ 24 ∧ h ≤ 24) := Lib.hid (fun x hx => by
      obtain ⟨w, h, e, h1, h2, h3⟩ := CA.out.2.2 x hx
      refine ⟨w, h, e, h1, h2, h3, ?_⟩
      have := (wS_le CA.out.2.2).2.1 x hx
      rw [CA.out.2.1, e] at this
      have hl := (cycF_rows HT.out rfl).rw.len
      have := n24.out
      omega)
    clear CA
    go_wp2
    go_loopw [3, 13] (fun nv i wr => ∃ (k n : Nat), k ≤ L.length ∧ nv = .int .i64 n ∧ i = .int .i64 k ∧ Lq L k n ∧ Below w4.heap.size w4 wr) (fun _ i _ => L.length - (intOf i).toNat)
    case atStart => exact ⟨0, 1, Nat.zero_le _, rfl, rfl, Lq.start L, Below.refl _ _⟩
    case round =>
      obtain ⟨k, nn, hk, rfl, rfl, hlq, hbl⟩ := hrel
      have LQ := Lib.hid hlq; have BL := Lib.hid hbl
      clear hlq hbl
      have hsz := BL.out.size
      have nb := LQ.out.bound WS.out
      have n1 := LQ.out.pos
      by_cases hlt : k < L.length
      · obtain ⟨g, off, x, rfl, hg, hsk, c0, c1⟩ := (O4.out.rd.keep BL.out (Nat.le_refl _)).at_ hlt
        obtain ⟨ww, hh, rfl, w1_, h1_, w24, h24⟩ := EA.out x (List.mem_of_getElem? hsk)
        have SK := Lib.hid hsk
        have RX := Lib.hid (two_cells c0 c1)
        have hgw : g < wr.heap.size := by omega
        clear hsk c0 c1
        have NB : Hid (Arr (wr.alloc (.cells #[.int .i64 ww, .int .i64 hh] 34)) wr.heap.size [.int .i64 ww, .int .i64 hh] 34) := Lib.hid (Arr.new wr _ _ rfl)
        have BN : Hid (Below w4.heap.size w4 (wr.alloc (.cells #[.int .i64 ww, .int .i64 hh] 34))) := Lib.hid (BL.out.alloc hsz _)
        go_wp2_with (refine wpList_load_mid rfl 34 _ rfl g (off + k * 2) rfl [.int .i64 ww, .int .i64 hh] _ RX.out Try.underlying34 rfl (sizeCy _ _) ?_)
        generalize hwa : wr.alloc (.cells #[.int .i64 ww, .int .i64 hh] 34) = wa at *
        generalize hxb : wr.heap.size = xb at *
        clear hwa RX
        have hxa : xb < wa.heap.size := NB.out.lt
        have C0 : Hid (∀ W, Below wa.heap.size wa W → W.cell? ⟨xb, 0, none⟩ = some (.int .i64 ww)) := Lib.hid (fun W h => by rw [h.cell (p := ⟨xb, 0, none⟩) hxa]; exact NB.out.cell (k := 0) rfl)
        have C1 : Hid (∀ W, Below wa.heap.size wa W → W.cell? ⟨xb, 1, none⟩ = some (.int .i64 hh)) := Lib.hid (fun W h => by rw [h.cell (p := ⟨xb, 1, none⟩) hxa]; exact NB.out.cell (k := 1) rfl)
        refine wp_region_held_drew (S := fun W => Below wa.heap.size wa W) (by kernel_rfl) ⟨rfl, rfl, rfl, Nat.le_refl _, fun _ _ => rfl⟩ (fun hHeld => ?_)
        have BD : Hid (Below w4.heap.size w4 wa.drew) := Lib.hid (BN.out.trans (hHeld.mono BN.out.size))
        generalize wa.drew = wd at *
        refine wpAnyH_take (i := 0) (v := .pointer (some ⟨xb, 0, none⟩)) rfl (by kernel_rfl) (by kernel_rfl) (by kernel_rfl) (fun _ _ _ h => h) (Or.inl ⟨by rfl, fun w hSw => by go_simp⟩) hHeld ?_
        refine wpAnyH_take (i := 1) (v := .int .i64 ww) rfl (by kernel_rfl) (by kernel_rfl) (by kernel_rfl) (fun _ _ _ h => h) (Or.inl ⟨by rfl, fun w hSw => by have := C0.out w hSw; go_simp⟩) hHeld ?_
        refine wpAnyH_take (i := 2) (v := .pointer (some ⟨xb, 0, none⟩)) rfl (by kernel_rfl) (by kernel_rfl) (by kernel_rfl) (fun _ _ _ h => h) (Or.inl ⟨by rfl, fun w hSw => by go_simp⟩) hHeld ?_
        refine wpAnyH_take (i := 3) (v := .int .i64 ww) rfl (by kernel_rfl) (by kernel_rfl) (by kernel_rfl) (fun _ _ _ h => h) (Or.inl ⟨by rfl, fun w hSw => by have := C0.out w hSw; go_simp⟩) hHeld ?_
        refine wpAnyH_take (i := 4) (v := .pointer (some ⟨xb, 1, none⟩)) rfl (by kernel_rfl) (by kernel_rfl) (by kernel_rfl) (fun _ _ _ h => h) (Or.inl ⟨by rfl, fun w hSw => by go_simp⟩) hHeld ?_
        refine wpAnyH_take (i := 5) (v := .int .i64 hh) rfl (by kernel_rfl) (by kernel_rfl) (by kernel_rfl) (fun _ _ _ h => h) (Or.inl ⟨by rfl, fun w hSw => by have := C1.out w hSw; go_simp⟩) hHeld ?_
        refine wpAnyH_ready (rs := [6]) (by kernel_rfl) (by simp) (AllReadyH.cons rfl (fun K hK => ?_) AllReadyH.nil)
        go_simp
        refine (gcd_spec ww hh _ (by omega) (by omega)).mono ?_
        rintro e w5 ⟨rfl, hd5⟩
        have hHeldG : Below wa.heap.size wa w5 := hHeld.trans (hd5.below _)
        replace BD := Lib.hid (BD.out.trans (hd5.below _))
        clear hd5
        have gp : 0 < Nat.gcd ww hh := Nat.gcd_pos_of_pos_left _ (by omega)
        have gle : Nat.gcd ww hh ≤ ww := Nat.gcd_le_left _ (by omega)
        have KW := Lib.hid (need_le ww hh w1_)
        have NXT := Lib.hid (LQ.out.next SK.out w1_ h1_)
        generalize hkk : ww / Nat.gcd ww hh = kk at *
        have e1 : (ww : Int).tdiv (Nat.gcd ww hh : Nat) = (kk : Int) := by rw [← hkk]; rw [← Int.ofNat_tdiv]
        have k1 := KW.out.1; have k24 := KW.out.2
        generalize Nat.gcd ww hh = g1 at *
        have g0 : ¬ (g1 : Int) = 0 := by omega
        have gN : ¬ g1 = 0 := by omega
        have hwk := IntWalk.i64_in (kk : Int) (by omega)
        refine hK.out _ _ hHeldG (fun hHeld2 => ?_)
        clear hK K hkk KW hHeldG
        refine wpAnyH_ready (rs := [7]) (by kernel_rfl) (by simp) (AllReadyH.cons rfl (fun K hK => ?_) AllReadyH.nil)
        go_simp
        refine hK.out _ _ hHeld2 (fun hHeld3 => ?_)
        clear hK K
        refine wpAnyH_ready (rs := [8]) (by kernel_rfl) (by simp) (AllReadyH.cons rfl (fun K hK => ?_) AllReadyH.nil)
        go_simp
        refine hK.out _ _ hHeld3 (fun hHeld4 => ?_)
        clear hK K hHeld hHeld2 hHeld3 hHeld4 C0 C1 NB BN e1
        refine wpAnyH_done (by kernel_rfl) ?_ _
        go_wp2_with fail
        refine (gcd_spec nn kk _ (by omega) (by omega)).mono ?_
        rintro e w6 ⟨rfl, hd6⟩
        replace BD := Lib.hid (BD.out.trans (hd6.below _))
        clear hd6
        have gp2 : 0 < Nat.gcd nn kk := Nat.gcd_pos_of_pos_left _ n1
        have gle2 : Nat.gcd nn kk ≤ nn := Nat.gcd_le_left _ n1
        have LC : Hid (((((nn / Nat.gcd nn kk : Nat)) : Int) : Int) * kk = ((Nat.lcm nn kk : Nat) : Int)) := Lib.hid (by exact_mod_cast lcm_l nn kk)
        have PB : Hid (((((nn / Nat.gcd nn kk : Nat)) : Int) : Int) * kk ≤ 16777216) := Lib.hid (by rw [LC.out]; have := NXT.out.bound WS.out; omega)
        have qle : nn / Nat.gcd nn kk ≤ 16777216 := Nat.le_trans (Nat.div_le_self _ _) (by omega)
        generalize hq2 : nn / Nat.gcd nn kk = q2 at *
        have HQ2 : Hid (nn / Nat.gcd nn kk = q2) := Lib.hid hq2
        generalize hg2 : Nat.gcd nn kk = g2 at *
        clear hg2 hq2
        have g20 : ¬ (g2 : Int) = 0 := by omega
        have gN2 : ¬ g2 = 0 := by omega
        have e2 : (nn : Int).tdiv (g2 : Int) = (q2 : Int) := by rw [← HQ2.out]; rw [← Int.ofNat_tdiv]
        have mlo : 0 ≤ (q2 : Int) * kk := Int.mul_nonneg (by omega) (by omega)
        have mhi : (q2 : Int) * kk ≤ 16777216 := by have := PB.out; omega
        have hwq : wrap64 (q2 : Int) = q2 := IntWalk.wrap64_in _ (by omega)
        have hwp := IntWalk.wrap64_in ((q2 : Int) * kk) (by omega)
        have HWW : Hid (wrap64 (wrap64 (q2 : Int) * (kk : Int)) = (q2 : Int) * kk) := Lib.hid (by rw [hwq, hwp])
        clear HQ2 hwq hwp
        go_wp2
        go_roundw
        case rel => exact ⟨k + 1, Nat.lcm nn kk, by omega, by rw [← LC.out, ← HWW.out], by go_num, NXT.out, BD.out⟩
        case measure => simp [intOf]; omega
      · have HE : Hid (nn = lsG L 1) := Lib.hid (LQ.out.fin (by omega))
        go_wp2
        go_ret
        exact ⟨ret_int (by rw [HV.out, HE.out]), B4.out.trans (BL.out.mono B4.out.size)⟩

set_option maxHeartbeats 4000000 in
theorem ls_impl (v : Value) (r u : List Int) (hi : Nat) (w : World) (hx : Srd w hi v r u) (hn : r.length ≤ 1048576) (hm : u.length ≤ 1048576) :
    Calls Try.prog 32 #[v] w fun e w' => e = .returned (.int .i64 (lsF r u)) ∧ Below w.heap.size w w' := by
  have HX := Lib.hid hx; clear hx
  obtain ⟨P, n, c, Q, m, d, rfl, q1, q2, e1, e2, ht, HR⟩ := HX.out.open
  have L1 := Lib.hid q1
  clear HR q1 q2
  go_enter Try.func32, Try.ntmps32
  go_wp2_with fail
  refine (gluingOf_any _ r u hi _ (HX.out.keep ((Below.refl hi w).alloc ht _) (Nat.le_refl _)) hn hm).mono ?_
  rintro e w1 ⟨rfl, b1⟩
  have B1 := Lib.hid (below1 _ _ b1); clear b1
  cases hq : transB r u
  · have HF := Lib.hid (lsF_no hq); clear hq
    go_wp2_with (refine wpList_store_row rfl 63 _ _ rfl w1.heap.size (V (glv r u)).toArray rfl rfl 63 (V zero49).toArray (Arr.new w1 (V zero49) _ rfl) (size49 (glv_len _ _)) (by simp [V_len, glv_len, zero49]) (one_V _) ?_; generalize hw_ : (w1.alloc (.cells #[.int .i64 0, .int .i64 0, .int .i64 0, .int .i64 0, .int .i64 0, .int .i64 0, .int .i64 0, .int .i64 0, .int .i64 0, .int .i64 0, .int .i64 0, .int .i64 0, .int .i64 0, .int .i64 0, .int .i64 0, .int .i64 0, .int .i64 0, .int .i64 0, .int .i64 0, .int .i64 0, .int .i64 0, .int .i64 0, .int .i64 0, .int .i64 0, .int .i64 0, .int .i64 0, .int .i64 0, .int .i64 0, .int .i64 0, .int .i64 0, .int .i64 0, .int .i64 0, .int .i64 0, .int .i64 0, .int .i64 0, .int .i64 0, .int .i64 0, .int .i64 0, .int .i64 0, .int .i64 0, .int .i64 0, .int .i64 0, .int .i64 0, .int .i64 0, .int .i64 0, .int .i64 0, .int .i64 0, .int .i64 0, .int .i64 0] 63)).setRow w1.heap.size (V (glv r u)).toArray = w2; have A2 : Hid (Arr w2 w1.heap.size (V (glv r u)) 63) := Lib.hid (by rw [← hw_]; exact (Arr.new w1 (V zero49) _ rfl).row); have b1 : Below w1.heap.size w1 w2 := (by rw [← hw_]; exact arr.below_setRow ((Below.refl _ _).alloc (Nat.le_refl _) _) (Nat.le_refl _) _); have t_ : w1.heap.size + 1 ≤ w2.heap.size := (by rw [← hw_]; simp); clear hw_; replace B1 := Lib.hid (B1.out.trans (b1.mono B1.out.size)); clear b1)
    go_ret
    exact ⟨ret_int HF.out.symm, B1.out⟩
  · have HT := Lib.hid hq
    have HS : Hid (Sf n r u) := Lib.hid (by have := transB_iff.1 hq; rwa [L1.out] at this)
    have HV := Lib.hid (lsF_yes hq)
    have CA := Lib.hid (cyl_all hq)
    have HC := Lib.hid (cyF_yes hq).symm
    have n24 : Hid (r.length ≤ 24) := Lib.hid (transB_iff.1 hq).small
    have HG : Hid (glv r u = gl (ext r) (ext u) n) := Lib.hid (by rw [glv_yes hq, L1.out])
    clear hq
    rw [HG.out]
    go_wp2_with (first | (refine wpList_store_row rfl 63 _ _ rfl w1.heap.size (V (gl (ext r) (ext u) n)).toArray rfl rfl 63 (V zero49).toArray (Arr.new w1 (V zero49) _ rfl) (size49 (gl_len (ext_len _) (ext_len _) n)) (by simp [V_len, gl_len, ext_len, zero49]) (one_V _) ?_; generalize hw_ : (w1.alloc (.cells #[.int .i64 0, .int .i64 0, .int .i64 0, .int .i64 0, .int .i64 0, .int .i64 0, .int .i64 0, .int .i64 0, .int .i64 0, .int .i64 0, .int .i64 0, .int .i64 0, .int .i64 0, .int .i64 0, .int .i64 0, .int .i64 0, .int .i64 0, .int .i64 0, .int .i64 0, .int .i64 0, .int .i64 0, .int .i64 0, .int .i64 0, .int .i64 0, .int .i64 0, .int .i64 0, .int .i64 0, .int .i64 0, .int .i64 0, .int .i64 0, .int .i64 0, .int .i64 0, .int .i64 0, .int .i64 0, .int .i64 0, .int .i64 0, .int .i64 0, .int .i64 0, .int .i64 0, .int .i64 0, .int .i64 0, .int .i64 0, .int .i64 0, .int .i64 0, .int .i64 0, .int .i64 0, .int .i64 0, .int .i64 0, .int .i64 0] 63)).setRow w1.heap.size (V (gl (ext r) (ext u) n)).toArray = w2; have A2 : Hid (Arr w2 w1.heap.size (V (gl (ext r) (ext u) n)) 63) := Lib.hid (by rw [← hw_]; exact (Arr.new w1 (V zero49) _ rfl).row); have b1 : Below w1.heap.size w1 w2 := (by rw [← hw_]; exact arr.below_setRow ((Below.refl _ _).alloc (Nat.le_refl _) _) (Nat.le_refl _) _); have t_ : w1.heap.size + 1 ≤ w2.heap.size := (by rw [← hw_]; simp); clear hw_; replace B1 := Lib.hid (B1.out.trans (b1.mono B1.out.size)); clear b1) | (refine wpList_load_row rfl 63 _ rfl w1.heap.size rfl 63 (V (gl (ext r) (ext u) n)).toArray (0, 0) _ A2.out Try.underlying63 rfl (size49 (gl_len (ext_len _) (ext_len _) n)) ?_))
    refine (cys_any r u n _ HS.out).mono ?_
    rw [HC.out]
    rintro e w4 ⟨C, cc, rfl, o4, b4⟩
    have O4 := Lib.hid o4
    have B4 := Lib.hid (B1.out.trans (b4.mono B1.out.size))
    have L24 := cyF_24 r u
    clear o4 b4 HC A2
    generalize cyF r u = L at *
    have WS : Hid (wS L ≤ 24) := Lib.hid (by have := (wS_le CA.out.2.2).1; rw [CA.out.1] at this; have := n24.out; omega)
    have EA : Hid (∀ x ∈ L, ∃ w h : Nat, x = ((w : Int), (h : Int)) ∧ 1 ≤ w ∧ 1 ≤ h ∧ w ≤ 24 ∧ h ≤ 24) := Lib.hid (fun x hx => by
      obtain ⟨w, h, e, h1, h2, h3⟩ := CA.out.2.2 x hx
      refine ⟨w, h, e, h1, h2, h3, ?_⟩
      have := (wS_le CA.out.2.2).2.1 x hx
      rw [CA.out.2.1, e] at this
      have hl := (cycF_rows HT.out rfl).rw.len
      have := n24.out
      omega)
    clear CA
    go_wp2
    go_loopw [5, 19] (fun nv i wr => ∃ (k n : Nat), k ≤ L.length ∧ nv = .int .i64 n ∧ i = .int .i64 k ∧ Lq L k n ∧ Below w4.heap.size w4 wr) (fun _ i _ => L.length - (intOf i).toNat)
    case atStart => exact ⟨0, 1, Nat.zero_le _, rfl, rfl, Lq.start L, Below.refl _ _⟩
    case round =>
      obtain ⟨k, nn, hk, rfl, rfl, hlq, hbl⟩ := hrel
      have LQ := Lib.hid hlq; have BL := Lib.hid hbl
      clear hlq hbl
      have hsz := BL.out.size
      have nb := LQ.out.bound WS.out
      have n1 := LQ.out.pos
      by_cases hlt : k < L.length
      · obtain ⟨g, off, x, rfl, hg, hsk, c0, c1⟩ := (O4.out.rd.keep BL.out (Nat.le_refl _)).at_ hlt
        obtain ⟨ww, hh, rfl, w1_, h1_, w24, h24⟩ := EA.out x (List.mem_of_getElem? hsk)
        have SK := Lib.hid hsk
        have RX := Lib.hid (two_cells c0 c1)
        have hgw : g < wr.heap.size := by omega
        clear hsk c0 c1
        have NB : Hid (Arr (wr.alloc (.cells #[.int .i64 ww, .int .i64 hh] 34)) wr.heap.size [.int .i64 ww, .int .i64 hh] 34) := Lib.hid (Arr.new wr _ _ rfl)
        have BN : Hid (Below w4.heap.size w4 (wr.alloc (.cells #[.int .i64 ww, .int .i64 hh] 34))) := Lib.hid (BL.out.alloc hsz _)
        go_wp2_with (refine wpList_load_mid rfl 34 _ rfl g (off + k * 2) rfl [.int .i64 ww, .int .i64 hh] _ RX.out Try.underlying34 rfl (sizeCy _ _) ?_)
        generalize hwa : wr.alloc (.cells #[.int .i64 ww, .int .i64 hh] 34) = wa at *
        generalize hxb : wr.heap.size = xb at *
        clear hwa RX
        have hxa : xb < wa.heap.size := NB.out.lt
        have C0 : Hid (∀ W, Below wa.heap.size wa W → W.cell? ⟨xb, 0, none⟩ = some (.int .i64 ww)) := Lib.hid (fun W h => by rw [h.cell (p := ⟨xb, 0, none⟩) hxa]; exact NB.out.cell (k := 0) rfl)
        have C1 : Hid (∀ W, Below wa.heap.size wa W → W.cell? ⟨xb, 1, none⟩ = some (.int .i64 hh)) := Lib.hid (fun W h => by rw [h.cell (p := ⟨xb, 1, none⟩) hxa]; exact NB.out.cell (k := 1) rfl)
        refine wp_region_held_drew (S := fun W => Below wa.heap.size wa W) (by kernel_rfl) ⟨rfl, rfl, rfl, Nat.le_refl _, fun _ _ => rfl⟩ (fun hHeld => ?_)
        have BD : Hid (Below w4.heap.size w4 wa.drew) := Lib.hid (BN.out.trans (hHeld.mono BN.out.size))
        generalize wa.drew = wd at *
        refine wpAnyH_take (i := 0) (v := .pointer (some ⟨xb, 0, none⟩)) rfl (by kernel_rfl) (by kernel_rfl) (by kernel_rfl) (fun _ _ _ h => h) (Or.inl ⟨by rfl, fun w hSw => by go_simp⟩) hHeld ?_
        refine wpAnyH_take (i := 1) (v := .int .i64 ww) rfl (by kernel_rfl) (by kernel_rfl) (by kernel_rfl) (fun _ _ _ h => h) (Or.inl ⟨by rfl, fun w hSw => by have := C0.out w hSw; go_simp⟩) hHeld ?_
        refine wpAnyH_take (i := 2) (v := .pointer (some ⟨xb, 0, none⟩)) rfl (by kernel_rfl) (by kernel_rfl) (by kernel_rfl) (fun _ _ _ h => h) (Or.inl ⟨by rfl, fun w hSw => by go_simp⟩) hHeld ?_
        refine wpAnyH_take (i := 3) (v := .int .i64 ww) rfl (by kernel_rfl) (by kernel_rfl) (by kernel_rfl) (fun _ _ _ h => h) (Or.inl ⟨by rfl, fun w hSw => by have := C0.out w hSw; go_simp⟩) hHeld ?_
        refine wpAnyH_take (i := 4) (v := .pointer (some ⟨xb, 1, none⟩)) rfl (by kernel_rfl) (by kernel_rfl) (by kernel_rfl) (fun _ _ _ h => h) (Or.inl ⟨by rfl, fun w hSw => by go_simp⟩) hHeld ?_
        refine wpAnyH_take (i := 5) (v := .int .i64 hh) rfl (by kernel_rfl) (by kernel_rfl) (by kernel_rfl) (fun _ _ _ h => h) (Or.inl ⟨by rfl, fun w hSw => by have := C1.out w hSw; go_simp⟩) hHeld ?_
        refine wpAnyH_ready (rs := [6]) (by kernel_rfl) (by simp) (AllReadyH.cons rfl (fun K hK => ?_) AllReadyH.nil)
        go_simp
        refine (gcd_impl ww hh _ (by omega) (by omega)).mono ?_
        rintro e w5 ⟨rfl, hd5⟩
        have hHeldG : Below wa.heap.size wa w5 := hHeld.trans (hd5.below _)
        replace BD := Lib.hid (BD.out.trans (hd5.below _))
        clear hd5
        have gp : 0 < Nat.gcd ww hh := Nat.gcd_pos_of_pos_left _ (by omega)
        have gle : Nat.gcd ww hh ≤ ww := Nat.gcd_le_left _ (by omega)
        have KW := Lib.hid (need_le ww hh w1_)
        have NXT := Lib.hid (LQ.out.next SK.out w1_ h1_)
        generalize hkk : ww / Nat.gcd ww hh = kk at *
        have e1 : (ww : Int).tdiv (Nat.gcd ww hh : Nat) = (kk : Int) := by rw [← hkk]; rw [← Int.ofNat_tdiv]
        have k1 := KW.out.1; have k24 := KW.out.2
        generalize Nat.gcd ww hh = g1 at *
        have g0 : ¬ (g1 : Int) = 0 := by omega
        have gN : ¬ g1 = 0 := by omega
        have hwk := IntWalk.i64_in (kk : Int) (by omega)
        refine hK.out _ _ hHeldG (fun hHeld2 => ?_)
        clear hK K hkk KW hHeldG
        refine wpAnyH_ready (rs := [7]) (by kernel_rfl) (by simp) (AllReadyH.cons rfl (fun K hK => ?_) AllReadyH.nil)
        go_simp
        refine hK.out _ _ hHeld2 (fun hHeld3 => ?_)
        clear hK K
        refine wpAnyH_ready (rs := [8]) (by kernel_rfl) (by simp) (AllReadyH.cons rfl (fun K hK => ?_) AllReadyH.nil)
        go_simp
        refine hK.out _ _ hHeld3 (fun hHeld4 => ?_)
        clear hK K hHeld hHeld2 hHeld3 hHeld4 C0 C1 NB BN e1
        refine wpAnyH_done (by kernel_rfl) ?_ _
        go_wp2_with fail
        refine (gcd_impl nn kk _ (by omega) (by omega)).mono ?_
        rintro e w6 ⟨rfl, hd6⟩
        replace BD := Lib.hid (BD.out.trans (hd6.below _))
        clear hd6
        have gp2 : 0 < Nat.gcd nn kk := Nat.gcd_pos_of_pos_left _ n1
        have gle2 : Nat.gcd nn kk ≤ nn := Nat.gcd_le_left _ n1
        have LC : Hid ((nn : Int) * (((kk / Nat.gcd nn kk : Nat)) : Int) = ((Nat.lcm nn kk : Nat) : Int)) := Lib.hid (by exact_mod_cast lcm_r nn kk)
        have PB : Hid ((nn : Int) * (((kk / Nat.gcd nn kk : Nat)) : Int) ≤ 16777216) := Lib.hid (by rw [LC.out]; have := NXT.out.bound WS.out; omega)
        have qle : kk / Nat.gcd nn kk ≤ 16777216 := Nat.le_trans (Nat.div_le_self _ _) (by omega)
        generalize hq2 : kk / Nat.gcd nn kk = q2 at *
        have HQ2 : Hid (kk / Nat.gcd nn kk = q2) := Lib.hid hq2
        generalize hg2 : Nat.gcd nn kk = g2 at *
        clear hg2 hq2
        have g20 : ¬ (g2 : Int) = 0 := by omega
        have gN2 : ¬ g2 = 0 := by omega
        have e2 : (kk : Int).tdiv (g2 : Int) = (q2 : Int) := by rw [← HQ2.out]; rw [← Int.ofNat_tdiv]
        have mlo : 0 ≤ (nn : Int) * q2 := Int.mul_nonneg (by omega) (by omega)
        have mhi : (nn : Int) * q2 ≤ 16777216 := by have := PB.out; omega
        have hwq : wrap64 (q2 : Int) = q2 := IntWalk.wrap64_in _ (by omega)
        have hwp := IntWalk.wrap64_in ((nn : Int) * q2) (by omega)
        have HWW : Hid (wrap64 ((nn : Int) * wrap64 (q2 : Int)) = (nn : Int) * q2) := Lib.hid (by rw [hwq, hwp])
        clear HQ2 hwq hwp
        go_wp2
        go_roundw
        case rel => exact ⟨k + 1, Nat.lcm nn kk, by omega, by rw [← LC.out, ← HWW.out], by go_num, NXT.out, BD.out⟩
        case measure => simp [intOf]; omega
      · have HE : Hid (nn = lsG L 1) := Lib.hid (LQ.out.fin (by omega))
        go_wp2
        go_ret
        exact ⟨ret_int (by rw [HV.out, HE.out]), B4.out.trans (BL.out.mono B4.out.size)⟩

end Go.Proofs.Ytglpiopjhddoeaa.cy
