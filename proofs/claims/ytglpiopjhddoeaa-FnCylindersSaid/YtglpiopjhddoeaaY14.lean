import Derived.Test.YtglpiopjhddoeaaY08
import Derived.Test.YtglpiopjhddoeaaY13
import Derived.Test.YtglpiopjhddoeaaY02
import Derived.Test.YtglpiopjhddoeaaY11
/-
  spec.l08Row, spec.l08Above.
-/
namespace Go.Proofs.Ytglpiopjhddoeaa.cy
open Go.ChangeShapes Go.WideShapes Go.ChangeAt Go.RowKit
open Go.Proofs.Ytglpiopjhddoeaa.mem Go.Proofs.Ytglpiopjhddoeaa.ints Go.Proofs.Ytglpiopjhddoeaa.arr Go.Proofs.Ytglpiopjhddoeaa.pm Go.Proofs.Ytglpiopjhddoeaa.permOk Go.Proofs.Ytglpiopjhddoeaa.permOf Go.Proofs.Ytglpiopjhddoeaa.inv Go.Proofs.Ytglpiopjhddoeaa.fns Go.Proofs.Ytglpiopjhddoeaa.sf Go.Proofs.Ytglpiopjhddoeaa.mat Go.Proofs.Ytglpiopjhddoeaa.gl Go.Proofs.Ytglpiopjhddoeaa.lp
set_option linter.unusedVariables false
set_option maxRecDepth 100000

set_option maxHeartbeats 1000000 in
theorem row_spec (A : Option Addr) (n c : Nat) (rr : List (List Int)) (lo hi : Nat) (y : Int) (w : World) (hx : Mat w lo hi A n rr) (hn : n ≤ 1048576) (tx : tot rr ≤ 1048576) :
    Calls Try.prog 52 #[.slice A n c, .int .i64 y] w fun e w' => e = .returned (.int .i64 (rix rr y)) ∧ w = w' := by
  have LX : Hid (rr.length = n) := Lib.hid hx.1
  have HX := Lib.hid hx; clear hx
  go_enter Try.func52, Try.ntmps52
  go_wp2
  go_loop [9] (fun i => ∃ k : Nat, k ≤ n ∧ i = .int .i64 k ∧ Hid (∀ j : Nat, j < k → ∀ zs : List Int, rr[j]? = some zs → ¬ y ∈ zs)) (fun i => n - (intOf i).toNat)
  case atStart => exact ⟨0, Nat.zero_le _, rfl, Lib.hid (fun j hj => by omega)⟩
  case round =>
    obtain ⟨k, hk, rfl, HN⟩ := hrel
    by_cases hlt : k < n
    · obtain ⟨G, off, A1, c1, xs, l, u, rfl, hxk, hcx, rx, _⟩ := HX.out.at_ hlt
      have b1 := tot_row hxk
      have RX := Lib.hid rx; have XK := Lib.hid hxk
      clear rx hxk
      go_wp2_with fail
      refine (has_any A1 _ c1 xs _ y _ RX.out.rd (by omega)).mono ?_
      rintro e w2 ⟨rfl, rfl⟩
      cases hq : hasB xs y
      · have HQ : Hid (¬ y ∈ xs) := Lib.hid (by unfold hasB at hq; simpa using hq)
        clear hq
        go_wp2_with fail
        go_round
        case rel =>
          refine ⟨k + 1, by omega, by go_num, Lib.hid (fun j hj zs hz => ?_)⟩
          by_cases e : j = k
          · subst e
            have := XK.out; rw [hz] at this
            obtain rfl := Option.some.inj this
            exact HQ.out
          · exact HN.out j (by omega) zs hz
        case measure => simp [intOf]; omega
      · have HQ : Hid (rix rr y = (k : Int)) := Lib.hid (rix_at XK.out (by unfold hasB at hq; simpa using hq) HN.out)
        clear hq
        go_wp2_with fail
        go_ret
        exact ⟨ret_int HQ.out.symm, rfl⟩
    · have HQ : Hid (rix rr y = -1) := Lib.hid (rix_none fun j zs hz => HN.out j (by have := (List.getElem?_eq_some_iff.1 hz).1; have := LX.out; omega) zs hz)
      go_wp2
      go_ret
      exact ⟨ret_int HQ.out.symm, rfl⟩

theorem regB_take {c xs : List Int} {j : Nat} {x : Int} (h : xs[j]? = some x) : regB c (xs.take (j + 1)) = (regB c (xs.take j) && decide (c.getD x.toNat 0 = x)) := by
  rw [List.take_add_one, h]
  simp [regB]
theorem abF_take {c u : List Int} {rr : List (List Int)} {k : Nat} : (abF c u rr).take (k + 1) = (abF c u rr).take k ++ [at_ (abF c u rr) k] ∨ rr.length ≤ k := by
  by_cases h : k < rr.length
  · left
    have hl : k < (abF c u rr).length := by rw [abF_len]; exact h
    rw [List.take_add_one, List.getElem?_eq_getElem hl]
    simp [at_, List.getD, List.getElem?_eq_getElem hl]
  · right; omega
/-- What the walk over the rows needs to know of the surface. -/
structure Sw (n : Nat) (r u : List Int) (rr : List (List Int)) : Prop where
  sf : Sf n r u
  rw : Rws n r rr
theorem get_D {l : List Int} {i : Nat} (h : i < l.length) : l[i]? = some (l.getD i 0) := by simp [List.getD, List.getElem?_eq_getElem h]
theorem Sw.first {n : Nat} {r u : List Int} {rr : List (List Int)} (h : Sw n r u rr) {k : Nat} {xs : List Int} (hx : rr[k]? = some xs) : ∃ f z : Nat, xs[0]? = some (f : Int) ∧ xs.getD 0 0 = f ∧ f < n ∧ u[f]? = some (z : Int) ∧ u.getD f 0 = z ∧ 0 < xs.length := by
  obtain ⟨h1, h2⟩ := h.rw.head hx
  obtain ⟨a, b⟩ := h.rw.rng hx h2
  have e0 : xs[0]? = some (xs.getD 0 0) := get_D h1
  have hz := h.sf.bu.maps (xs.getD 0 0).toNat (by omega)
  have lu := h.sf.lu
  have e1 : u[(xs.getD 0 0).toNat]? = some (u.getD (xs.getD 0 0).toNat 0) := get_D (by omega)
  refine ⟨(xs.getD 0 0).toNat, (u.getD (xs.getD 0 0).toNat 0).toNat, by rw [e0]; congr 1; omega, by omega, by omega, by rw [e1]; congr 1; omega, by omega, h1⟩
theorem Sw.elem {n : Nat} {r u : List Int} {rr : List (List Int)} (h : Sw n r u rr) {k j : Nat} {xs : List Int} (hx : rr[k]? = some xs) (hj : j < xs.length) : ∃ x z : Nat, xs[j]? = some (x : Int) ∧ x < n ∧ (comm r u)[x]? = some (z : Int) ∧ z < n := by
  have e := List.getElem?_eq_getElem hj
  obtain ⟨a, b⟩ := h.rw.rng hx (List.mem_of_getElem? e)
  have lc := h.sf.comm.2
  have hm := h.sf.commB.maps xs[j].toNat (by omega)
  refine ⟨xs[j].toNat, ((comm r u).getD xs[j].toNat 0).toNat, by rw [e]; congr 1; omega, by omega, ?_, by omega⟩
  rw [List.getElem?_eq_getElem (show xs[j].toNat < (comm r u).length by omega)]
  simp only [List.getD, List.getElem?_eq_getElem (show xs[j].toNat < (comm r u).length by omega), Option.getD_some] at hm ⊢
  congr 1; omega

set_option maxHeartbeats 2000000 in
theorem above_spec (v : Value) (r u : List Int) (A : Option Addr) (n c N : Nat) (rr : List (List Int)) (hi lo hi2 : Nat) (w : World) (hx : Srd w hi v r u) (hy : Mat w lo hi2 A n rr) (hs : Sw N r u rr) :
    Calls Try.prog 51 #[v, .slice A n c] w (Gives (abF (comm r u) u rr) w) := by
  have HX := Lib.hid hx; clear hx
  have HY := Lib.hid hy; clear hy
  have HS := Lib.hid hs; clear hs
  obtain ⟨i0, hi0, hz0, hz1, hz2⟩ := info_parts infoI
  obtain ⟨P, p, cp, Q, q, cq, rfl, q1, q2, e1, e2, ht, HR⟩ := HX.out.open
  have LR : Hid (rr.length = n) := Lib.hid HY.out.1
  have hn24 : N ≤ 24 := HS.out.sf.small
  have hnN : n ≤ N := by have := HS.out.rw.len; have := LR.out; omega
  obtain rfl : N = q := by rw [← q2]; exact HS.out.sf.lu.symm
  have RU : Hid (Rd w hi Q N (V u)) := Lib.hid (Srd.snd HX.out)
  clear HR q1 q2
  go_enter Try.func51, Try.ntmps51
  go_wp2_with fail
  refine (around_spec _ r u hi _ (HX.out.keep ((Below.refl hi w).alloc ht _) (Nat.le_refl _)) (by rw [HS.out.sf.lr]; exact HS.out.sf)).mono ?_
  rintro e w1 ⟨v1, rfl, o1, b1⟩
  have LC : Hid ((comm r u).length = N) := Lib.hid HS.out.sf.comm.2
  obtain ⟨P1, c1, rfl⟩ := own_form o1
  have hs1 : w.heap.size + 1 ≤ w1.heap.size := by have := b1.size; simpa using this
  have A0 := Lib.hid ((Arr.new w [.slice P p cp, .slice Q N cq] 25 rfl).keep b1 (by simp))
  have RC := Lib.hid (Row.of_own o1)
  have B1 := Lib.hid (below1 _ _ b1)
  clear o1 b1
  rw [LC.out] at RC ⊢
  have G0 := Lib.hid (Grows.empty w1)
  go_wp2
  generalize hwg : w1.alloc (.cells #[] 3) = wg at *
  clear hwg
  go_loopw [6, 17] (fun v i wr => ∃ k : Nat, k ≤ n ∧ i = .int .i64 k ∧ Grows w1 wr v ((abF (comm r u) u rr).take k)) (fun _ i _ => n - (intOf i).toNat)
  case atStart => exact ⟨0, Nat.zero_le _, rfl, G0.out⟩
  case round =>
    obtain ⟨k, hk, rfl, hm⟩ := hrel
    obtain ⟨C, cc, rfl⟩ := hm.form
    have LK : Hid (((abF (comm r u) u rr).take k).length = k) := Lib.hid (by rw [List.length_take, abF_len, LR.out]; omega)
    have HG := Lib.hid hm; clear hm G0
    have NX0 : Hid (k < n → (abF (comm r u) u rr).take (k + 1) = (abF (comm r u) u rr).take k ++ [at_ (abF (comm r u) u rr) k]) := Lib.hid (fun hlt => by
      rcases abF_take (c := comm r u) (u := u) (rr := rr) (k := k) with z | z
      · exact z
      · have := LR.out; omega)
    have EQ0 : Hid (¬ k < n → (abF (comm r u) u rr).take k = abF (comm r u) u rr) := Lib.hid (fun hlt => List.take_of_length_le (by rw [abF_len, LR.out]; omega))
    generalize (abF (comm r u) u rr).take k = l1 at *
    have hsz := HG.out.below.size
    by_cases hlt : k < n
    · have NX := Lib.hid (NX0.out hlt)
      have BW := Lib.hid (B1.out.trans (HG.out.below.mono B1.out.size))
      have hsw := BW.out.size
      obtain ⟨G, off, A1, c1', xs, l, u1, rfl, hxk, hcx, rx, _⟩ := (HY.out.keep (BW.out.mono HY.out.2.1) (Nat.le_refl _)).at_ hlt
      obtain ⟨f, z, f1, f2, f3, z1, z2, hpos⟩ := HS.out.first hxk
      have AT : Hid (at_ (abF (comm r u) u rr) k = if regB (comm r u) xs then rix rr z else -1) := Lib.hid (by rw [abF_at hxk, f2, Int.toNat_natCast, z2])
      have XK := Lib.hid hxk
      have xl : xs.length ≤ 1048576 := by have := (HS.out.rw.way hxk).choose_spec.2.2.inn.len; omega
      have zN : z < N := by have := HS.out.sf.bu.maps f f3; rw [z2] at this; omega
      have RX := Lib.hid rx
      obtain ⟨gx, ox, vx, rfl, hgx, hxu, hcf⟩ := rx.rd.at_ hpos
      rw [V_get f1] at hxu
      obtain rfl := Option.some.inj hxu
      have TT : Hid (tot rr ≤ 1048576) := Lib.hid (by have := HS.out.rw.inn.len; unfold tot; rw [← flatten_len]; omega)
      obtain ⟨gu, ou, vu, eQ, hgu, huu, hcu⟩ := (RU.out.keep (BW.out.mono ht) (Nat.le_refl _)).at_ (k := f) (by omega)
      subst eQ
      rw [V_get z1] at huu
      obtain rfl := Option.some.inj huu
      have hux : u1 ≤ wr.heap.size := rx.2.1
      have hA0 : w.heap.size < wr.heap.size := by omega
      have AW : Hid (Arr wr w.heap.size [.slice P p cp, .slice (some ⟨gu, ou, none⟩) N cq] 25) := Lib.hid (A0.out.keep HG.out.below (by omega))
      have C1 : Hid (∀ W, Below wr.heap.size wr W → W.cell? ⟨w.heap.size, 1, none⟩ = some (.slice (some ⟨gu, ou, none⟩) N cq)) := Lib.hid (fun W h => by rw [h.cell (p := ⟨w.heap.size, 1, none⟩) hA0]; exact AW.out.cell (k := 1) rfl)
      have C2 : Hid (∀ W, Below wr.heap.size wr W → W.cell? ⟨gx, ox, none⟩ = some (.int .i64 f)) := Lib.hid (fun W h => by rw [h.cell (p := ⟨gx, ox, none⟩) (by show gx < _; omega)]; simpa using hcf)
      have C3 : Hid (∀ W, Below wr.heap.size wr W → W.cell? ⟨gu, ou + f, none⟩ = some (.int .i64 z)) := Lib.hid (fun W h => by rw [h.cell (p := ⟨gu, ou + f, none⟩) (by show gu < _; omega)]; exact hcu)
      clear hcf hcu f1 f2 z1 z2 hxk rx AW
      go_wp2
      refine wp_region_held_drew (S := fun W => Below wr.heap.size wr W) (by kernel_rfl) ⟨rfl, rfl, rfl, Nat.le_refl _, fun _ _ => rfl⟩ (fun hHeld => ?_)
      have b1 : Below wr.heap.size wr wr.drew := hHeld
      have GD := Lib.hid (HG.out.drew 1)
      have e_ : wr.drewN 1 = wr.drew := rfl
      rw [e_] at GD
      clear e_
      generalize wr.drew = wd at *
      have tk (x : Prop) : x → x := id
      refine wpAnyH_take (i := 0) (v := .slice (some ⟨G, off, none⟩) n c) rfl (by kernel_rfl) (by kernel_rfl) (by kernel_rfl) (fun _ _ _ h => h) (Or.inl ⟨by rfl, fun w hSw => by go_simp⟩) hHeld ?_
      refine wpAnyH_take (i := 1) (v := .pointer (some ⟨w.heap.size, 1, none⟩)) rfl (by kernel_rfl) (by kernel_rfl) (by kernel_rfl) (fun _ _ _ h => h) (Or.inl ⟨by rfl, fun w hSw => by go_simp⟩) hHeld ?_
      refine wpAnyH_take (i := 2) (v := .slice (some ⟨gu, ou, none⟩) N cq) rfl (by kernel_rfl) (by kernel_rfl) (by kernel_rfl) (fun _ _ _ h => h) (Or.inl ⟨by rfl, fun w hSw => by have := C1.out w hSw; go_simp⟩) hHeld ?_
      refine wpAnyH_take (i := 3) (v := .slice (some ⟨gx, ox, none⟩) xs.length c1') rfl (by kernel_rfl) (by kernel_rfl) (by kernel_rfl) (fun _ _ _ h => h) (Or.inl ⟨by rfl, fun w hSw => by go_simp⟩) hHeld ?_
      refine wpAnyH_take (i := 4) (v := .pointer (some ⟨gx, ox, none⟩)) rfl (by kernel_rfl) (by kernel_rfl) (by kernel_rfl) (fun _ _ _ h => h) (Or.inl ⟨by rfl, fun w hSw => by go_simp⟩) hHeld ?_
      refine wpAnyH_take (i := 5) (v := .int .i64 f) rfl (by kernel_rfl) (by kernel_rfl) (by kernel_rfl) (fun _ _ _ h => h) (Or.inl ⟨by rfl, fun w hSw => by have := C2.out w hSw; go_simp⟩) hHeld ?_
      refine wpAnyH_take (i := 6) (v := .pointer (some ⟨gu, ou + f, none⟩)) rfl (by kernel_rfl) (by kernel_rfl) (by kernel_rfl) (fun _ _ _ h => h) (Or.inl ⟨by rfl, fun w hSw => by go_simp⟩) hHeld ?_
      refine wpAnyH_take (i := 7) (v := .int .i64 z) rfl (by kernel_rfl) (by kernel_rfl) (by kernel_rfl) (fun _ _ _ h => h) (Or.inl ⟨by rfl, fun w hSw => by have := C3.out w hSw; go_simp⟩) hHeld ?_
      refine wpAnyH_ready (rs := [8]) (by kernel_rfl) (by simp) (AllReadyH.cons rfl (fun K hK => ?_) AllReadyH.nil)
      go_simp
      refine (row_spec (some ⟨G, off, none⟩) n c rr lo hi2 z _ ((HY.out.keep (BW.out.mono HY.out.2.1) (Nat.le_refl _)).keep (b1.mono (Nat.le_trans HY.out.2.1 hsw)) (Nat.le_refl _)) (by omega) TT.out).mono ?_
      rintro e w2 ⟨rfl, rfl⟩
      have RL : Hid (-1 ≤ rix rr z ∧ rix rr z < n) := Lib.hid (by have := rix_low rr z; rwa [LR.out] at this)
      generalize hk0 : rix rr (z : Int) = k0 at *
      clear hk0
      refine hK.out _ _ hHeld (fun hHeld2 => ?_)
      clear hK K
      refine wpAnyH_ready (rs := [9]) (by kernel_rfl) (by simp) (AllReadyH.cons rfl (fun K hK => ?_) AllReadyH.nil)
      go_simp
      refine hK.out _ _ hHeld2 (fun hHeld3 => ?_)
      clear hK K hHeld2 hHeld3 hHeld tk
      refine wpAnyH_done (by kernel_rfl) ?_ _
      have XW := Lib.hid (RX.out.keep b1 hux)
      have CW := Lib.hid ((RC.out.keep HG.out.below (Nat.le_refl _)).keep (b1.mono hsz) (Nat.le_refl _))
      clear RX C1 C2 C3 b1 HG
      go_wp2
      obtain ⟨wo, rfl⟩ : ∃ wo : World, wo = wd := ⟨_, rfl⟩
      go_loopw [9, 32] (fun kv i wi => ∃ j : Nat, j ≤ xs.length ∧ i = .int .i64 j ∧ kv = .int .i64 (if regB (comm r u) (xs.take j) then k0 else -1) ∧ wi = wo) (fun _ i _ => xs.length - (intOf i).toNat)
      case atStart => exact ⟨0, Nat.zero_le _, rfl, by simp [regB], rfl⟩
      case round =>
        obtain ⟨j, hj, rfl, rfl, rfl⟩ := hrel
        by_cases hjl : j < xs.length
        · obtain ⟨x, y, x1, x2, y1, y2⟩ := HS.out.elem XK.out hjl
          obtain ⟨g3, o3, v3, e3, _, hx3, hc3⟩ := XW.out.rd.at_ hjl
          injection e3 with e3; injection e3 with e3 e4; subst e3; subst e4
          rw [V_get x1] at hx3
          obtain rfl := Option.some.inj hx3
          obtain ⟨g4, o4, v4, rfl, _, hy4, hc4⟩ := CW.out.rd.at_ x2
          rw [V_get y1] at hy4
          obtain rfl := Option.some.inj hy4
          have TK : Hid (regB (comm r u) (xs.take (j + 1)) = (regB (comm r u) (xs.take j) && decide (y = x))) := Lib.hid (by
            rw [regB_take x1, Int.toNat_natCast]
            have e : (comm r u).getD x 0 = y := by simp [List.getD, y1]
            rw [e]
            congr 1
            exact decide_eq_decide.2 (by omega))
          clear x1 y1
          by_cases hyx : y = x
          · subst hyx
            have hb : ((y : Int) != (y : Int)) = false := by simp
            have TK2 : Hid (regB (comm r u) (xs.take (j + 1)) = regB (comm r u) (xs.take j)) := Lib.hid (by rw [TK.out]; simp)
            generalize hif : (if regB (comm r u) (xs.take j) then k0 else -1) = kk at *
            go_wp2
            go_roundw
            case rel => exact ⟨j + 1, by omega, by go_num, by rw [TK2.out, hif], by first | rfl | trivial⟩
            case measure => simp [intOf]; omega
          · have hb : ((y : Int) != (x : Int)) = true := by simp; omega
            have TK2 : Hid (regB (comm r u) (xs.take (j + 1)) = false) := Lib.hid (by rw [TK.out]; simp [hyx])
            clear hyx
            generalize hif : (if regB (comm r u) (xs.take j) then k0 else -1) = kk at *
            go_wp2
            go_roundw
            case rel => exact ⟨j + 1, by omega, by go_num, by rw [TK2.out]; rfl, by first | rfl | trivial⟩
            case measure => simp [intOf]; omega
        · have hje : j = xs.length := by omega
          subst hje
          have AT2 : Hid (at_ (abF (comm r u) u rr) k = (if regB (comm r u) (xs.take xs.length) then k0 else -1)) := Lib.hid (by rw [AT.out, List.take_length])
          generalize hif : (if regB (comm r u) (xs.take xs.length) then k0 else -1) = kk at *
          clear hif
          have hkl : l1.length ≤ 1048576 := by rw [LK.out]; omega
          have hszo := GD.out.below.size
          go_wp2_with (at_builtin; refine wpList_append_one _ _ _ rfl _ _ 23 rfl w1.heap.size 3 i0 _ 8 Try.underlying23 hi0 hz0 hz1 hz2 rfl _ _ _ rfl GD.out.own rfl rfl ?c4 (by decide) hszo ?_)
          case c4 => omega
          intro v' w' ho hg
          have HN : Hid (Grows w1 w' v' ((abF (comm r u) u rr).take (k + 1))) := Lib.hid (by rw [NX.out, AT2.out]; exact GD.out.next ho rfl hg)
          clear ho hg GD
          go_wp2
          go_roundw
          case rel => exact ⟨k + 1, by omega, by go_num, HN.out⟩
          case measure => simp [intOf]; omega
    · have EQ := EQ0.out hlt
      clear EQ0 NX0 LK
      subst EQ
      go_wp2_with fail
      go_ret
      exact gives_later B1.out HG.out.gives
end Go.Proofs.Ytglpiopjhddoeaa.cy

/-
  spec.RowAbove.
-/
namespace Go.Proofs.Ytglpiopjhddoeaa.cy
open Go.ChangeShapes Go.WideShapes Go.ChangeAt Go.RowKit
open Go.Proofs.Ytglpiopjhddoeaa.mem Go.Proofs.Ytglpiopjhddoeaa.ints Go.Proofs.Ytglpiopjhddoeaa.arr Go.Proofs.Ytglpiopjhddoeaa.pm Go.Proofs.Ytglpiopjhddoeaa.permOk Go.Proofs.Ytglpiopjhddoeaa.permOf Go.Proofs.Ytglpiopjhddoeaa.inv Go.Proofs.Ytglpiopjhddoeaa.fns Go.Proofs.Ytglpiopjhddoeaa.sf Go.Proofs.Ytglpiopjhddoeaa.mat Go.Proofs.Ytglpiopjhddoeaa.gl Go.Proofs.Ytglpiopjhddoeaa.lp
set_option linter.unusedVariables false
set_option maxRecDepth 100000

def raG (ab : List Int) (rr : List (List Int)) (a : Int) : Int := if at_ ab (rix rr a).toNat < 0 then -1 else (rr.getD (at_ ab (rix rr a).toNat).toNat []).getD 0 0
def raF (r u : List Int) (a : Int) : Int := if transB r u = true ∧ 0 ≤ a ∧ a < r.length then raG (abF (comm r u) u (cycF r)) (cycF r) a else -1
theorem raF_no {r u : List Int} {a : Int} (h : transB r u = false ∨ a < 0 ∨ (r.length : Int) ≤ a) : raF r u a = -1 := by
  unfold raF
  rw [if_neg]
  rintro ⟨h1, h2, h3⟩
  rcases h with h | h | h
  · rw [h1] at h; cases h
  · omega
  · omega
theorem raF_yes {r u : List Int} {a : Int} (h : transB r u = true) (h0 : 0 ≤ a) (h1 : a < r.length) : raF r u a = raG (abF (comm r u) u (cycF r)) (cycF r) a := by
  unfold raF
  rw [if_pos ⟨h, h0, h1⟩]
theorem cycF_rows {r u : List Int} {n : Nat} (h : transB r u = true) (hn : r.length = n) : Sw n r u (cycF r) := by
  have s := transB_iff.1 h
  rw [hn] at s
  refine ⟨s, ?_⟩
  rw [cycF, s.r.b, if_pos rfl, s.lr]
  exact Rws.of s.br

set_option maxHeartbeats 1000000 in
theorem ra_spec (v : Value) (r u : List Int) (a : Int) (hi : Nat) (w : World) (hx : Srd w hi v r u) (hn : r.length ≤ 1048576) (hm : u.length ≤ 1048576) (lo : -9223372036854775808 ≤ a) (hi' : a ≤ 9223372036854775807) :
    Calls Try.prog 23 #[v, .int .i64 a] w fun e w' => e = .returned (.int .i64 (raF r u a)) ∧ Below w.heap.size w w' := by
  have HX := Lib.hid hx; clear hx
  obtain ⟨P, n, c, Q, m, d, rfl, q1, q2, e1, e2, ht, HR⟩ := HX.out.open
  have L1 := Lib.hid q1
  clear q1 q2 HR
  go_enter Try.func23, Try.ntmps23
  go_wp2_with fail
  refine (ok_spec _ r u hi _ (HX.out.keep ((Below.refl hi w).alloc ht _) (Nat.le_refl _)) hn hm).mono ?_
  rintro e w1 ⟨rfl, b1⟩
  have A0 := Lib.hid ((Arr.new w [.slice P n c, .slice Q m d] 25 rfl).keep b1 (by simp))
  have c0 := A0.out.cell (k := 0) rfl
  have c1 := A0.out.cell (k := 1) rfl
  have B1 := Lib.hid (below1 _ _ b1); clear b1
  have X1 : Hid (Srd w1 hi (.agg #[.slice P n c, .slice Q m d]) r u) := Lib.hid (HX.out.keep (B1.out.mono ht) (Nat.le_refl _))
  cases hq : transB r u
  · have HF := Lib.hid (raF_no (a := a) (.inl hq)); clear hq
    go_wp2_with fail
    go_ret
    exact ⟨ret_int HF.out.symm, B1.out⟩
  · by_cases h0 : a < 0
    · have HF := Lib.hid (raF_no (r := r) (u := u) (.inr (.inl h0))); clear hq
      go_wp2_with fail
      go_ret
      exact ⟨ret_int HF.out.symm, B1.out⟩
    by_cases h1 : (n : Int) ≤ a
    · have HF := Lib.hid (raF_no (r := r) (u := u) (a := a) (.inr (.inr (by rw [L1.out]; exact h1)))); clear hq
      go_wp2_with fail
      go_ret
      exact ⟨ret_int HF.out.symm, B1.out⟩
    have HF := Lib.hid (raF_yes hq (by omega) (show a < (r.length : Int) by rw [L1.out]; omega))
    have HS := Lib.hid (cycF_rows hq L1.out)
    clear hq
    have hn24 : n ≤ 24 := HS.out.sf.small
    go_wp2_with fail
    refine (cyc_spec P n c r hi _ (Srd.fst X1.out) (by omega) e1).mono ?_
    rintro e w2 ⟨P2, c2, rfl, o2, b2⟩
    generalize hrr : cycF r = rr at *
    clear hrr
    have O2 := Lib.hid o2
    have s2 := b2.size
    replace X1 := Lib.hid (X1.out.keep b2 (Nat.le_trans ht B1.out.size))
    have s1 := B1.out.size
    clear c0 c1
    have hA : w.heap.size < w1.heap.size := A0.out.lt
    replace A0 := Lib.hid (A0.out.keep b2 hA)
    have c0 := A0.out.cell (k := 0) rfl
    have c1 := A0.out.cell (k := 1) rfl
    replace B1 := Lib.hid (B1.out.trans (b2.mono s1))
    clear o2 b2
    have LN : Hid (rr.length ≤ n) := Lib.hid HS.out.rw.len
    generalize hN : rr.length = N at *
    have LNe := Lib.hid hN; clear hN
    have TT : Hid (tot rr ≤ 1048576) := Lib.hid (by have := HS.out.rw.inn.len; unfold tot; rw [← flatten_len]; omega)
    obtain ⟨ri, rxs, RI1, RI2⟩ := HS.out.rw.has (y := a) (by omega) (by omega)
    have RI : Hid (rix rr a = (ri : Int) ∧ ri < N) := Lib.hid ⟨HS.out.rw.rix RI1 RI2, by rw [← LNe.out]; exact (List.getElem?_eq_some_iff.1 RI1).1⟩
    clear RI1 RI2
    have hN24 : N ≤ 24 := by have := LN.out; omega
    go_wp2_with fail
    refine (above_spec _ r u P2 N c2 n rr hi _ _ _ X1.out (O2.out) HS.out).mono ?_
    rintro e w3 ⟨v3, rfl, o3, b3⟩
    obtain ⟨P3, c3, rfl⟩ := own_form o3
    have LA : Hid ((abF (comm r u) u rr).length = N) := Lib.hid (by rw [abF_len, LNe.out])
    have R3 := Lib.hid (Row.of_own o3)
    rw [LA.out] at R3 ⊢
    have s3 := b3.size
    replace O2 := Lib.hid (O2.out.keep b3 O2.out.2.1)
    clear c0 c1
    replace A0 := Lib.hid (A0.out.keep b3 A0.out.lt)
    replace B1 := Lib.hid (B1.out.trans (b3.mono B1.out.size))
    have INJ := Lib.hid (ab_inj HS.out.sf HS.out.rw)
    clear o3 b3
    go_wp2_with fail
    refine (row_spec P2 N c2 rr _ _ a _ O2.out (by omega) TT.out).mono ?_
    rintro e w4 ⟨rfl, rfl⟩
    rw [RI.out.1]
    have hri := RI.out.2
    have GF : Hid (raF r u a = if at_ (abF (comm r u) u rr) ri < 0 then -1 else (rr.getD (at_ (abF (comm r u) u rr) ri).toNat []).getD 0 0) := Lib.hid (by rw [HF.out, raG, RI.out.1, Int.toNat_natCast])
    have AV : Hid ((abF (comm r u) u rr)[ri]? = some (at_ (abF (comm r u) u rr) ri)) := Lib.hid (by
      have hl : ri < (abF (comm r u) u rr).length := by rw [LA.out]; exact hri
      simp [at_, List.getD, List.getElem?_eq_getElem hl])
    have AR : Hid (-1 ≤ at_ (abF (comm r u) u rr) ri ∧ at_ (abF (comm r u) u rr) ri < N) := Lib.hid (by
      have h := INJ.out
      rw [LNe.out] at h
      exact ⟨h.low ri hri, h.rng ri hri⟩)
    clear HF RI
    generalize hk : at_ (abF (comm r u) u rr) ri = k at *
    clear hk
    have klo := AR.out.1; have khi := AR.out.2
    obtain ⟨g3, o3, v3, rfl, _, hv3, hc3⟩ := R3.out.rd.at_ hri
    rw [V_get AV.out] at hv3
    obtain rfl := Option.some.inj hv3
    by_cases hk0 : k < 0
    · have HG : Hid (raF r u a = -1) := Lib.hid (by rw [GF.out, if_pos hk0])
      go_wp2_with fail
      go_ret
      exact ⟨ret_int HG.out.symm, B1.out⟩
    · obtain ⟨kn, rfl⟩ : ∃ kn : Nat, k = kn := ⟨k.toNat, by omega⟩
      have hkn : kn < N := by omega
      obtain ⟨G, off, A1, c1', xs, l, u1, rfl, hxk, hcx, rx, _⟩ := O2.out.at_ hkn
      have HG : Hid (raF r u a = xs.getD 0 0) := Lib.hid (by rw [GF.out, if_neg hk0, Int.toNat_natCast]; simp [List.getD, hxk])
      obtain ⟨hpos, _⟩ := HS.out.rw.head hxk
      obtain ⟨gx, ox, vx, rfl, hgx, hxu, hcf⟩ := rx.rd.at_ hpos
      rw [V_get (get_D hpos)] at hxu
      obtain rfl := Option.some.inj hxu
      rw [Nat.add_zero] at hcf
      generalize xs.getD 0 0 = z at *
      clear hxk rx GF AV AR INJ klo khi
      go_wp2_with fail
      go_ret
      exact ⟨ret_int HG.out.symm, B1.out⟩
end Go.Proofs.Ytglpiopjhddoeaa.cy

/-
  Contract of the program's AroundOf.
-/
namespace Go.Proofs.Ytglpiopjhddoeaa.gl
open Go.ChangeShapes Go.WideShapes Go.ChangeAt Go.RowKit
open Go.Proofs.Ytglpiopjhddoeaa.mem Go.Proofs.Ytglpiopjhddoeaa.ints Go.Proofs.Ytglpiopjhddoeaa.arr Go.Proofs.Ytglpiopjhddoeaa.pm Go.Proofs.Ytglpiopjhddoeaa.permOk Go.Proofs.Ytglpiopjhddoeaa.permOf Go.Proofs.Ytglpiopjhddoeaa.inv Go.Proofs.Ytglpiopjhddoeaa.fns Go.Proofs.Ytglpiopjhddoeaa.sf
set_option linter.unusedVariables false
set_option maxRecDepth 100000

theorem gives_eqi {r r' : List Int} {w w' : World} {e : Ending} (h : r' = r) (g : Gives r w e w') : Gives r' w e w' := h ▸ g

end Go.Proofs.Ytglpiopjhddoeaa.gl
