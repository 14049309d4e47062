import Derived.Test.YtngglhbcpeigcaaY12
import Derived.Test.YtngglhbcpeigcaaY13
import Derived.Test.YtngglhbcpeigcaaY02
import Derived.Test.YtngglhbcpeigcaaY09
/-
  spec.l08Row, spec.l08Above.
-/
namespace Go.Proofs.Ytngglhbcpeigcaa.cy
open Go.ChangeShapes Go.WideShapes Go.ChangeAt Go.RowKit
open Go.Proofs.Ytngglhbcpeigcaa.mem Go.Proofs.Ytngglhbcpeigcaa.ints Go.Proofs.Ytngglhbcpeigcaa.arr Go.Proofs.Ytngglhbcpeigcaa.pm Go.Proofs.Ytngglhbcpeigcaa.permOk Go.Proofs.Ytngglhbcpeigcaa.permOf Go.Proofs.Ytngglhbcpeigcaa.inv Go.Proofs.Ytngglhbcpeigcaa.fns Go.Proofs.Ytngglhbcpeigcaa.sf Go.Proofs.Ytngglhbcpeigcaa.mat Go.Proofs.Ytngglhbcpeigcaa.gl Go.Proofs.Ytngglhbcpeigcaa.lp
set_option linter.unusedVariables false
set_option maxRecDepth 100000

set_option maxHeartbeats 1000000 in
theorem row_spec (A : Option Addr) (n c : Nat) (rr : List (List Int)) (lo hi : Nat) (y : Int) (w : World) (hx : Mat w lo hi A n rr) (hn : n ≤ 1048576) (tx : tot rr ≤ 1048576) :
    Calls Try.prog 75 #[.slice A n c, .int .i64 y] w fun e w' => e = .returned (.int .i64 (rix rr y)) ∧ w = w' := by
  have LX : Hid (rr.length = n) := Lib.hid hx.1
  have HX := Lib.hid hx; clear hx
  go_enter Try.func75, Try.ntmps75
  go_wp2
  go_loop [9] (fun i => ∃ k : Nat, k ≤ n ∧ i = .int .i64 k ∧ Hid (∀ j : Nat, j < k → ∀ zs : List Int, rr[j]? = some zs → ¬ y ∈ zs)) (fun i => n - (intOf i).toNat)
  case atStart => exact ⟨0, Nat.zero_le _, rfl, Lib.hid (fun j hj => by omega)⟩
  case round =>
    obtain ⟨k, hk, rfl, HN⟩ := hrel
    by_cases hlt : k < n
    · obtain ⟨G, off, A1, c1, xs, l, u, rfl, hxk, hcx, rx, _⟩ := HX.out.at_ hlt
      have b1 := tot_row hxk
      have RX := Lib.hid rx; have XK := Lib.hid hxk
      clear rx hxk
      go_wp2_with fail
      refine (has_any A1 _ c1 xs _ y _ RX.out.rd (by omega)).mono ?_
      rintro e w2 ⟨rfl, rfl⟩
      cases hq : hasB xs y
      · have HQ : Hid (¬ y ∈ xs) := Lib.hid (by unfold hasB at hq; simpa using hq)
        clear hq
        go_wp2_with fail
        go_round
        case rel =>
          refine ⟨k + 1, by omega, by go_num, Lib.hid (fun j hj zs hz => ?_)⟩
          by_cases e : j = k
          · subst e
            have := XK.out; rw [hz] at this
            obtain rfl := Option.some.inj this
            exact HQ.out
          · exact HN.out j (by omega) zs hz
        case measure => simp [intOf]; omega
      · have HQ : Hid (rix rr y = (k : Int)) := Lib.hid (rix_at XK.out (by unfold hasB at hq; simpa using hq) HN.out)
        clear hq
        go_wp2_with fail
        go_ret
        exact ⟨ret_int HQ.out.symm, rfl⟩
    · have HQ : Hid (rix rr y = -1) := Lib.hid (rix_none fun j zs hz => HN.out j (by have := (List.getElem?_eq_some_iff.1 hz).1; have := LX.out; omega) zs hz)
      go_wp2
      go_ret
      exact ⟨ret_int HQ.out.symm, rfl⟩

theorem regB_take {c xs : List Int} {j : Nat} {x : Int} (h : xs[j]? = some x) : regB c (xs.take (j + 1)) = (regB c (xs.take j) && decide (c.getD x.toNat 0 = x)) := by
  rw [List.take_add_one, h]
  simp [regB]
theorem abF_take {c u : List Int} {rr : List (List Int)} {k : Nat} : (abF c u rr).take (k + 1) = (abF c u rr).take k ++ [at_ (abF c u rr) k] ∨ rr.length ≤ k := by
  by_cases h : k < rr.length
  · left
    have hl : k < (abF c u rr).length := by rw [abF_len]; exact h
    rw [List.take_add_one, List.getElem?_eq_getElem hl]
    simp [at_, List.getD, List.getElem?_eq_getElem hl]
  · right; omega
/-- What the walk over the rows needs to know of the surface. -/
structure Sw (n : Nat) (r u : List Int) (rr : List (List Int)) : Prop where
  sf : Sf n r u
  rw : Rws n r rr
theorem get_D {l : List Int} {i : Nat} (h : i < l.length) : l[i]? = some (l.getD i 0) := by simp [List.getD, List.getElem?_eq_getElem h]
theorem Sw.first {n : Nat} {r u : List Int} {rr : List (List Int)} (h : Sw n r u rr) {k : Nat} {xs : List Int} (hx : rr[k]? = some xs) : ∃ f z : Nat, xs[0]? = some (f : Int) ∧ xs.getD 0 0 = f ∧ f < n ∧ u[f]? = some (z : Int) ∧ u.getD f 0 = z ∧ 0 < xs.length := by
  obtain ⟨h1, h2⟩ := h.rw.head hx
  obtain ⟨a, b⟩ := h.rw.rng hx h2
  have e0 : xs[0]? = some (xs.getD 0 0) := get_D h1
  have hz := h.sf.bu.maps (xs.getD 0 0).toNat (by omega)
  have lu := h.sf.lu
  have e1 : u[(xs.getD 0 0).toNat]? = some (u.getD (xs.getD 0 0).toNat 0) := get_D (by omega)
  refine ⟨(xs.getD 0 0).toNat, (u.getD (xs.getD 0 0).toNat 0).toNat, by rw [e0]; congr 1; omega, by omega, by omega, by rw [e1]; congr 1; omega, by omega, h1⟩
theorem Sw.elem {n : Nat} {r u : List Int} {rr : List (List Int)} (h : Sw n r u rr) {k j : Nat} {xs : List Int} (hx : rr[k]? = some xs) (hj : j < xs.length) : ∃ x z : Nat, xs[j]? = some (x : Int) ∧ x < n ∧ (comm r u)[x]? = some (z : Int) ∧ z < n := by
  have e := List.getElem?_eq_getElem hj
  obtain ⟨a, b⟩ := h.rw.rng hx (List.mem_of_getElem? e)
  have lc := h.sf.comm.2
  have hm := h.sf.commB.maps xs[j].toNat (by omega)
  refine ⟨xs[j].toNat, ((comm r u).getD xs[j].toNat 0).toNat, by rw [e]; congr 1; omega, by omega, ?_, by omega⟩
  rw [List.getElem?_eq_getElem (show xs[j].toNat < (comm r u).length by omega)]
  simp only [List.getD, List.getElem?_eq_getElem (show xs[j].toNat < (comm r u).length by omega), Option.getD_some] at hm ⊢
  congr 1; omega

set_option maxHeartbeats 2000000 in
theorem above_spec (v : Value) (r u : List Int) (A : Option Addr) (n c N : Nat) (rr : List (List Int)) (hi lo hi2 : Nat) (w : World) (hx : Srd w hi v r u) (hy : Mat w lo hi2 A n rr) (hs : Sw N r u rr) :
    Calls Try.prog 65 #[v, .slice A n c] w (Gives (abF (comm r u) u rr) w) := by
  have HX := Lib.hid hx; clear hx
  have HY := Lib.hid hy; clear hy
  have HS := Lib.hid hs; clear hs
  obtain ⟨i0, hi0, hz0, hz1, hz2⟩ := info_parts infoI
  obtain ⟨P, p, cp, Q, q, cq, rfl, q1, q2, e1, e2, ht, HR⟩ := HX.out.open
  have LR : Hid (rr.length = n) := Lib.hid HY.out.1
  have hn24 : N ≤ 24 := HS.out.sf.small
  have hnN : n ≤ N := by have := HS.out.rw.len; have := LR.out; omega
  obtain rfl : N = q := by rw [← q2]; exact HS.out.sf.lu.symm
  have RU : Hid (Rd w hi Q N (V u)) := Lib.hid (Srd.snd HX.out)
  clear HR q1 q2
  go_enter Try.func65, Try.ntmps65
  go_wp2_with fail
  refine (around_spec _ r u hi _ (HX.out.keep ((Below.refl hi w).alloc ht _) (Nat.le_refl _)) (by rw [HS.out.sf.lr]; exact HS.out.sf)).mono ?_
  rintro e w1 ⟨v1, rfl, o1, b1⟩
  have LC : Hid ((comm r u).length = N) := Lib.hid HS.out.sf.comm.2
  obtain ⟨P1, c1, rfl⟩ := own_form o1
  have hs1 : w.heap.size + 1 ≤ w1.heap.size := by have := b1.size; simpa using this
  have A0 := Lib.hid ((Arr.new w [.slice P p cp, .slice Q N cq] 28 rfl).keep b1 (by simp))
  have RC := Lib.hid (Row.of_own o1)
  have B1 := Lib.hid (below1 _ _ b1)
  clear o1 b1
  rw [LC.out] at RC ⊢
  have G0 := Lib.hid (Grows.empty w1)
  go_wp2
  generalize hwg : w1.alloc (.cells #[] 3) = wg at *
  clear hwg
  go_loopw [6, 17] (fun v i wr => ∃ k : Nat, k ≤ n ∧ i = .int .i64 k ∧ Grows w1 wr v ((abF (comm r u) u rr).take k)) (fun _ i _ => n - (intOf i).toNat)
  case atStart => exact ⟨0, Nat.zero_le _, rfl, G0.out⟩
  case round =>
    obtain ⟨k, hk, rfl, hm⟩ := hrel
    obtain ⟨C, cc, rfl⟩ := hm.form
    have LK : Hid (((abF (comm r u) u rr).take k).length = k) := Lib.hid (by rw [List.length_take, abF_len, LR.out]; omega)
    have HG := Lib.hid hm; clear hm G0
    have NX0 : Hid (k < n → (abF (comm r u) u rr).take (k + 1) = (abF (comm r u) u rr).take k ++ [at_ (abF (comm r u) u rr) k]) := Lib.hid (fun hlt => by
      rcases abF_take (c := comm r u) (u := u) (rr := rr) (k := k) with z | z
      · exact z
      · have := LR.out; omega)
    have EQ0 : Hid (¬ k < n → (abF (comm r u) u rr).take k = abF (comm r u) u rr) := Lib.hid (fun hlt => List.take_of_length_le (by rw [abF_len, LR.out]; omega))
    generalize (abF (comm r u) u rr).take k = l1 at *
    have hsz := HG.out.below.size
    by_cases hlt : k < n
    · have NX := Lib.hid (NX0.out hlt)
      have BW := Lib.hid (B1.out.trans (HG.out.below.mono B1.out.size))
      have hsw := BW.out.size
      obtain ⟨G, off, A1, c1', xs, l, u1, rfl, hxk, hcx, rx, _⟩ := (HY.out.keep (BW.out.mono HY.out.2.1) (Nat.le_refl _)).at_ hlt
      obtain ⟨f, z, f1, f2, f3, z1, z2, hpos⟩ := HS.out.first hxk
      have AT : Hid (at_ (abF (comm r u) u rr) k = if regB (comm r u) xs then rix rr z else -1) := Lib.hid (by rw [abF_at hxk, f2, Int.toNat_natCast, z2])
      have XK := Lib.hid hxk
      have xl : xs.length ≤ 1048576 := by have := (HS.out.rw.way hxk).choose_spec.2.2.inn.len; omega
      have zN : z < N := by have := HS.out.sf.bu.maps f f3; rw [z2] at this; omega
      have RX := Lib.hid rx
      obtain ⟨gx, ox, vx, rfl, hgx, hxu, hcf⟩ := rx.rd.at_ hpos
      rw [V_get f1] at hxu
      obtain rfl := Option.some.inj hxu
      have TT : Hid (tot rr ≤ 1048576) := Lib.hid (by have := HS.out.rw.inn.len; unfold tot; rw [← flatten_len]; omega)
      obtain ⟨gu, ou, vu, eQ, hgu, huu, hcu⟩ := (RU.out.keep (BW.out.mono ht) (Nat.le_refl _)).at_ (k := f) (by omega)
      subst eQ
      rw [V_get z1] at huu
      obtain rfl := Option.some.inj huu
      have hux : u1 ≤ wr.heap.size := rx.2.1
      have hA0 : w.heap.size < wr.heap.size := by omega
      have AW : Hid (Arr wr w.heap.size [.slice P p cp, .slice (some ⟨gu, ou, none⟩) N cq] 28) := Lib.hid (A0.out.keep HG.out.below (by omega))
      have C1 : Hid (∀ W, Below wr.heap.size wr W → W.cell? ⟨w.heap.size, 1, none⟩ = some (.slice (some ⟨gu, ou, none⟩) N cq)) := Lib.hid (fun W h => by rw [h.cell (p := ⟨w.heap.size, 1, none⟩) hA0]; exact AW.out.cell (k := 1) rfl)
      have C2 : Hid (∀ W, Below wr.heap.size wr W → W.cell? ⟨gx, ox, none⟩ = some (.int .i64 f)) := Lib.hid (fun W h => by rw [h.cell (p := ⟨gx, ox, none⟩) (by show gx < _; omega)]; simpa using hcf)
      have C3 : Hid (∀ W, Below wr.heap.size wr W → W.cell? ⟨gu, ou + f, none⟩ = some (.int .i64 z)) := Lib.hid (fun W h => by rw [h.cell (p := ⟨gu, ou + f, none⟩) (by show gu < _; omega)]; exact hcu)
      clear hcf hcu f1 f2 z1 z2 hxk rx AW
      go_wp2
      refine wp_region_held_drew (S := fun W => Below wr.heap.size wr W) (by kernel_rfl) ⟨rfl, rfl, rfl, Nat.le_refl _, fun _ _ => rfl⟩ (fun hHeld => ?_)
      have b1 : Below wr.heap.size wr wr.drew := hHeld
      have GD := Lib.hid (HG.out.drew 1)
      have e_ : wr.drewN 1 = wr.drew := rfl
      rw [e_] at GD
      clear e_
      generalize wr.drew = wd at *
      have tk (x : Prop) : x → x := id
      refine wpAnyH_take (i := 0) (v := .slice (some ⟨G, off, none⟩) n c) rfl (by kernel_rfl) (by kernel_rfl) (by kernel_rfl) (fun _ _ _ h => h) (Or.inl ⟨by rfl, fun w hSw => by go_simp⟩) hHeld ?_
      refine wpAnyH_take (i := 1) (v := .pointer (some ⟨w.heap.size, 1, none⟩)) rfl (by kernel_rfl) (by kernel_rfl) (by kernel_rfl) (fun _ _ _ h => h) (Or.inl ⟨by rfl, fun w hSw => by go_simp⟩) hHeld ?_
      refine wpAnyH_take (i := 2) (v := .slice (some ⟨gu, ou, none⟩) N cq) rfl (by kernel_rfl) (by kernel_rfl) (by kernel_rfl) (fun _ _ _ h => h) (Or.inl ⟨by rfl, fun w hSw => by have := C1.out w hSw; go_simp⟩) hHeld ?_
      refine wpAnyH_take (i := 3) (v := .slice (some ⟨gx, ox, none⟩) xs.length c1') rfl (by kernel_rfl) (by kernel_rfl) (by kernel_rfl) (fun _ _ _ h => h) (Or.inl ⟨by rfl, fun w hSw => by go_simp⟩) hHeld ?_
      refine wpAnyH_take (i := 4) (v := .pointer (some ⟨gx, ox, none⟩)) rfl (by kernel_rfl) (by kernel_rfl) (by kernel_rfl) (fun _ _ _ h => h) (Or.inl ⟨by rfl, fun w hSw => by go_simp⟩) hHeld ?_
      refine wpAnyH_take (i := 5) (v := .int .i64 f) rfl (by kernel_rfl) (by kernel_rfl) (by kernel_rfl) (fun _ _ _ h => h) (Or.inl ⟨by rfl, fun w hSw => by have := C2.out w hSw; go_simp⟩) hHeld ?_
      refine wpAnyH_take (i := 6) (v := .pointer (some ⟨gu, ou + f, none⟩)) rfl (by kernel_rfl) (by kernel_rfl) (by kernel_rfl) (fun _ _ _ h => h) (Or.inl ⟨by rfl, fun w hSw => by go_simp⟩) hHeld ?_
      refine wpAnyH_take (i := 7) (v := .int .i64 z) rfl (by kernel_rfl) (by kernel_rfl) (by kernel_rfl) (fun _ _ _ h => h) (Or.inl ⟨by rfl, fun w hSw => by have := C3.out w hSw; go_simp⟩) hHeld ?_
      refine wpAnyH_ready (rs := [8]) (by kernel_rfl) (by simp) (AllReadyH.cons rfl (fun K hK => ?_) AllReadyH.nil)
      go_simp
      refine (row_spec (some ⟨G, off, none⟩) n c rr lo hi2 z _ ((HY.out.keep (BW.out.mono HY.out.2.1) (Nat.le_refl _)).keep (b1.mono (Nat.le_trans HY.out.2.1 hsw)) (Nat.le_refl _)) (by omega) TT.out).mono ?_
      rintro e w2 ⟨rfl, rfl⟩
      have RL : Hid (-1 ≤ rix rr z ∧ rix rr z < n) := Lib.hid (by have := rix_low rr z; rwa [LR.out] at this)
      generalize hk0 : rix rr (z : Int) = k0 at *
      clear hk0
      refine hK.out _ _ hHeld (fun hHeld2 => ?_)
      clear hK K
      refine wpAnyH_ready (rs := [9]) (by kernel_rfl) (by simp) (AllReadyH.cons rfl (fun K hK => ?_) AllReadyH.nil)
      go_simp
      refine hK.out _ _ hHeld2 (fun hHeld3 => ?_)
      clear hK K hHeld2 hHeld3 hHeld tk
      refine wpAnyH_done (by kernel_rfl) ?_ _
      have XW := Lib.hid (RX.out.keep b1 hux)
      have CW := Lib.hid ((RC.out.keep HG.out.below (Nat.le_refl _)).keep (b1.mono hsz) (Nat.le_refl _))
      clear RX C1 C2 C3 b1 HG
      go_wp2
      obtain ⟨wo, rfl⟩ : ∃ wo : World, wo = wd := ⟨_, rfl⟩
      go_loopw [9, 32] (fun kv i wi => ∃ j : Nat, j ≤ xs.length ∧ i = .int .i64 j ∧ kv = .int .i64 (if regB (comm r u) (xs.take j) then k0 else -1) ∧ wi = wo) (fun _ i _ => xs.length - (intOf i).toNat)
      case atStart => exact ⟨0, Nat.zero_le _, rfl, by simp [regB], rfl⟩
      case round =>
        obtain ⟨j, hj, rfl, rfl, rfl⟩ := hrel
        by_cases hjl : j < xs.length
        · obtain ⟨x, y, x1, x2, y1, y2⟩ := HS.out.elem XK.out hjl
          obtain ⟨g3, o3, v3, e3, _, hx3, hc3⟩ := XW.out.rd.at_ hjl
          injection e3 with e3; injection e3 with e3 e4; subst e3; subst e4
          rw [V_get x1] at hx3
          obtain rfl := Option.some.inj hx3
          obtain ⟨g4, o4, v4, rfl, _, hy4, hc4⟩ := CW.out.rd.at_ x2
          rw [V_get y1] at hy4
          obtain rfl := Option.some.inj hy4
          have TK : Hid (regB (comm r u) (xs.take (j + 1)) = (regB (comm r u) (xs.take j) && decide (y = x))) := Lib.hid (by
            rw [regB_take x1, Int.toNat_natCast]
            have e : (comm r u).getD x 0 = y := by simp [List.getD, y1]
            rw [e]
            congr 1
            exact decide_eq_decide.2 (by omega))
          clear x1 y1
          by_cases hyx : y = x
          · subst hyx
            have hb : ((y : Int) != (y : Int)) = false := by simp
            have TK2 : Hid (regB (comm r u) (xs.take (j + 1)) = regB (comm r u) (xs.take j)) := Lib.hid (by rw [TK.out]; simp)
            generalize hif : (if regB (comm r u) (xs.take j) then k0 else -1) = kk at *
            go_wp2
            go_roundw
            case rel => exact ⟨j + 1, by omega, by go_num, by rw [TK2.out, hif], by first | rfl | trivial⟩
            case measure => simp [intOf]; omega
          · have hb : ((y : Int) != (x : Int)) = true := by simp; omega
            have TK2 : Hid (regB (comm r u) (xs.take (j + 1)) = false) := Lib.hid (by rw [TK.out]; simp [hyx])
            clear hyx
            generalize hif : (if regB (comm r u) (xs.take j) then k0 else -1) = kk at *
            go_wp2
            go_roundw
            case rel => exact ⟨j + 1, by omega, by go_num, by rw [TK2.out]; rfl, by first | rfl | trivial⟩
            case measure => simp [intOf]; omega
        · have hje : j = xs.length := by omega
          subst hje
          have AT2 : Hid (at_ (abF (comm r u) u rr) k = (if regB (comm r u) (xs.take xs.length) then k0 else -1)) := Lib.hid (by rw [AT.out, List.take_length])
          generalize hif : (if regB (comm r u) (xs.take xs.length) then k0 else -1) = kk at *
          clear hif
          have hkl : l1.length ≤ 1048576 := by rw [LK.out]; omega
          have hszo := GD.out.below.size
          go_wp2_with (at_builtin; refine wpList_append_one _ _ _ rfl _ _ 26 rfl w1.heap.size 3 i0 _ 8 Try.underlying26 hi0 hz0 hz1 hz2 rfl _ _ _ rfl GD.out.own rfl rfl ?c4 (by decide) hszo ?_)
          case c4 => omega
          intro v' w' ho hg
          have HN : Hid (Grows w1 w' v' ((abF (comm r u) u rr).take (k + 1))) := Lib.hid (by rw [NX.out, AT2.out]; exact GD.out.next ho rfl hg)
          clear ho hg GD
          go_wp2
          go_roundw
          case rel => exact ⟨k + 1, by omega, by go_num, HN.out⟩
          case measure => simp [intOf]; omega
    · have EQ := EQ0.out hlt
      clear EQ0 NX0 LK
      subst EQ
      go_wp2_with fail
      go_ret
      exact gives_later B1.out HG.out.gives
end Go.Proofs.Ytngglhbcpeigcaa.cy

/-
  spec.RowAbove.
-/
namespace Go.Proofs.Ytngglhbcpeigcaa.cy
open Go.ChangeShapes Go.WideShapes Go.ChangeAt Go.RowKit
open Go.Proofs.Ytngglhbcpeigcaa.mem Go.Proofs.Ytngglhbcpeigcaa.ints Go.Proofs.Ytngglhbcpeigcaa.arr Go.Proofs.Ytngglhbcpeigcaa.pm Go.Proofs.Ytngglhbcpeigcaa.permOk Go.Proofs.Ytngglhbcpeigcaa.permOf Go.Proofs.Ytngglhbcpeigcaa.inv Go.Proofs.Ytngglhbcpeigcaa.fns Go.Proofs.Ytngglhbcpeigcaa.sf Go.Proofs.Ytngglhbcpeigcaa.mat Go.Proofs.Ytngglhbcpeigcaa.gl Go.Proofs.Ytngglhbcpeigcaa.lp
set_option linter.unusedVariables false
set_option maxRecDepth 100000

def raG (ab : List Int) (rr : List (List Int)) (a : Int) : Int := if at_ ab (rix rr a).toNat < 0 then -1 else (rr.getD (at_ ab (rix rr a).toNat).toNat []).getD 0 0
def raF (r u : List Int) (a : Int) : Int := if transB r u = true ∧ 0 ≤ a ∧ a < r.length then raG (abF (comm r u) u (cycF r)) (cycF r) a else -1
theorem raF_no {r u : List Int} {a : Int} (h : transB r u = false ∨ a < 0 ∨ (r.length : Int) ≤ a) : raF r u a = -1 := by
  unfold raF
  rw [if_neg]
  rintro ⟨h1, h2, h3⟩
  rcases h with h | h | h
  · rw [h1] at h; cases h
  · omega
  · omega
theorem raF_yes {r u : List Int} {a : Int} (h : transB r u = true) (h0 : 0 ≤ a) (h1 : a < r.length) : raF r u a = raG (abF (comm r u) u (cycF r)) (cycF r) a := by
  unfold raF
  rw [if_pos ⟨h, h0, h1⟩]
theorem cycF_rows {r u : List Int} {n : Nat} (h : transB r u = true) (hn : r.length = n) : Sw n r u (cycF r) := by
  have s := transB_iff.1 h
  rw [hn] at s
  refine ⟨s, ?_⟩
  rw [cycF, s.r.b, if_pos rfl, s.lr]
  exact Rws.of s.br

end Go.Proofs.Ytngglhbcpeigcaa.cy

/-
  Contract of the program's AroundOf.
-/
namespace Go.Proofs.Ytngglhbcpeigcaa.gl
open Go.ChangeShapes Go.WideShapes Go.ChangeAt Go.RowKit
open Go.Proofs.Ytngglhbcpeigcaa.mem Go.Proofs.Ytngglhbcpeigcaa.ints Go.Proofs.Ytngglhbcpeigcaa.arr Go.Proofs.Ytngglhbcpeigcaa.pm Go.Proofs.Ytngglhbcpeigcaa.permOk Go.Proofs.Ytngglhbcpeigcaa.permOf Go.Proofs.Ytngglhbcpeigcaa.inv Go.Proofs.Ytngglhbcpeigcaa.fns Go.Proofs.Ytngglhbcpeigcaa.sf
set_option linter.unusedVariables false
set_option maxRecDepth 100000

theorem gives_eqi {r r' : List Int} {w w' : World} {e : Ending} (h : r' = r) (g : Gives r w e w') : Gives r' w e w' := h ▸ g

end Go.Proofs.Ytngglhbcpeigcaa.gl

/-
  Lists of cylinders in memory: two cells each; the laws' helpers eqCylinder, eqCylinderS, markCylinderS, heldCylinderS.
-/
namespace Go.Proofs.Ytngglhbcpeigcaa.cy
open Go.ChangeShapes Go.WideShapes Go.ChangeAt Go.RowKit
open Go.Proofs.Ytngglhbcpeigcaa.mem Go.Proofs.Ytngglhbcpeigcaa.ints Go.Proofs.Ytngglhbcpeigcaa.arr Go.Proofs.Ytngglhbcpeigcaa.sf Go.Proofs.Ytngglhbcpeigcaa.lp
set_option linter.unusedVariables false
set_option maxRecDepth 100000

/-- Width and height. -/
abbrev Cy := Int × Int
def fl : List Cy → List Int
  | [] => []
  | x :: t => x.1 :: x.2 :: fl t
theorem fl_len : ∀ L : List Cy, (fl L).length = L.length * 2
  | [] => rfl
  | x :: t => by simp [fl, fl_len t]; omega
theorem fl_app : ∀ L M : List Cy, fl (L ++ M) = fl L ++ fl M
  | [], M => rfl
  | x :: t, M => by simp [fl, fl_app t M]
theorem fl_at : ∀ {L : List Cy} {k : Nat} {x : Cy}, L[k]? = some x → (fl L)[k * 2]? = some x.1 ∧ (fl L)[k * 2 + 1]? = some x.2
  | [], k, x, h => by simp at h
  | y :: t, 0, x, h => by simp at h; subst h; simp [fl]
  | y :: t, k + 1, x, h => by
    have := fl_at (L := t) (k := k) (x := x) (by simpa using h)
    have e1 : (k + 1) * 2 = k * 2 + 1 + 1 := by omega
    rw [e1]
    simpa [fl] using this
/-- The slice value '.slice A n c' reads as the cylinders L; to be read only, and of the call's own. -/
def Crd (w : World) (hi : Nat) (A : Option Addr) (n : Nat) (L : List Cy) : Prop := L.length = n ∧ Rd w hi A (n * 2) (V (fl L))
def Crow (w : World) (lo hi : Nat) (A : Option Addr) (n : Nat) (L : List Cy) : Prop := L.length = n ∧ Row w lo hi A (n * 2) (V (fl L))
theorem Crow.rd {w : World} {lo hi n : Nat} {A : Option Addr} {L : List Cy} (h : Crow w lo hi A n L) : Crd w hi A n L := ⟨h.1, h.2.rd⟩
theorem Crow.keep {w w' : World} {lo hi n B : Nat} {A : Option Addr} {L : List Cy} (h : Crow w lo hi A n L) (hb : Below B w w') (hB : hi ≤ B) : Crow w' lo hi A n L := ⟨h.1, h.2.keep hb hB⟩
theorem Crow.out {w w' : World} {lo hi lo' hi' n : Nat} {A : Option Addr} {L : List Cy} (h : Crow w lo hi A n L) (ho : Out lo' hi' w w') (hd : hi ≤ lo' ∨ hi' ≤ lo) : Crow w' lo hi A n L := ⟨h.1, h.2.out ho hd⟩
theorem Crow.top {w : World} {lo hi n : Nat} {A : Option Addr} {L : List Cy} (h : Crow w lo hi A n L) : hi ≤ w.heap.size := h.2.2.1
theorem Crd.keep {w w' : World} {hi n B : Nat} {A : Option Addr} {L : List Cy} (h : Crd w hi A n L) (hb : Below B w w') (hB : hi ≤ B) : Crd w' hi A n L := ⟨h.1, h.2.keep hb hB⟩
theorem Crd.top {w : World} {hi n : Nat} {A : Option Addr} {L : List Cy} (h : Crd w hi A n L) : hi ≤ w.heap.size := h.2.2.1
theorem Crd.at_ {w : World} {hi n k : Nat} {A : Option Addr} {L : List Cy} (h : Crd w hi A n L) (hk : k < n) :
    ∃ g off x, A = some ⟨g, off, none⟩ ∧ g < hi ∧ L[k]? = some x ∧ w.cell? ⟨g, off + k * 2, none⟩ = some (.int .i64 x.1) ∧ w.cell? ⟨g, off + k * 2 + 1, none⟩ = some (.int .i64 x.2) := by
  obtain ⟨g, off, e, hlt, hc⟩ := h.2.2.2 (by omega)
  have hl : k < L.length := by have := h.1; omega
  have hx := List.getElem?_eq_getElem hl
  obtain ⟨a, b⟩ := fl_at hx
  refine ⟨g, off, L[k], e, hlt, hx, ?_, ?_⟩
  · rw [hc (k * 2) (by omega)]; exact V_get a
  · rw [show off + k * 2 + 1 = off + (k * 2 + 1) by omega, hc (k * 2 + 1) (by omega)]; exact V_get b
theorem infoCy : (Try.prog.info? 34).map (fun i => (i.zero, i.size, i.bytes)) = some (some (.agg #[.int .i64 0, .int .i64 0]), 2, 16) := by kernel_rfl
theorem sizeCy (a b : Value) : (Try.prog.info? 34).map (·.size) = some [a, b].length := by
  have : (Try.prog.info? 34).map (·.size) = some 2 := by kernel_rfl
  simpa using this
theorem two_cells {w : World} {g o : Nat} {a b : Value} (h0 : w.cell? ⟨g, o, none⟩ = some a) (h1 : w.cell? ⟨g, o + 1, none⟩ = some b) : w.rangeAt g o [a, b] := by
  intro j v hv
  match j, hv with
  | 0, hv => simp at hv; subst hv; simpa using h0
  | 1, hv => simp at hv; subst hv; exact h1

def eqc (L M : List Cy) : Bool := decide (L = M)
theorem eqc_self (L : List Cy) : eqc L L = true := by simp [eqc]
def SameC (L M : List Cy) (w wr : World) (k : Nat) : Prop := Below w.heap.size w wr ∧ ∀ j, j < k → L[j]? = M[j]?
theorem eqc_no {L M : List Cy} {k : Nat} {s t : Cy} (h1 : L[k]? = some s) (h2 : M[k]? = some t) (h : (decide (s.1 = t.1) && decide (s.2 = t.2)) = false) : eqc L M = false := by
  unfold eqc
  rw [decide_eq_false_iff_not]
  rintro rfl
  rw [h1] at h2
  obtain rfl := Option.some.inj h2
  simp at h
theorem eqc_yes {L M : List Cy} {n : Nat} (h1 : L.length = n) (h2 : M.length = n) (h : ∀ j, j < n → L[j]? = M[j]?) : eqc L M = true := by
  unfold eqc
  rw [decide_eq_true_iff]
  refine List.ext_getElem? fun i => ?_
  by_cases hi : i < n
  · exact h i hi
  · rw [List.getElem?_eq_none (by omega), List.getElem?_eq_none (by omega)]
theorem eqc_len {L M : List Cy} (h : L.length ≠ M.length) : eqc L M = false := by
  unfold eqc
  rw [decide_eq_false_iff_not]
  rintro rfl
  exact h rfl
theorem SameC.step {L M : List Cy} {w wr w' : World} {k : Nat} {s t : Cy} (h : SameC L M w wr k) (hb : Below w.heap.size w w') (h1 : L[k]? = some s) (h2 : M[k]? = some t) (he : (decide (s.1 = t.1) && decide (s.2 = t.2)) = true) : SameC L M w w' (k + 1) := by
  refine ⟨hb, fun j hj => ?_⟩
  by_cases e : j = k
  · subst e
    have : s = t := by
      simp at he
      exact Prod.ext he.1 he.2
    rw [h1, h2, this]
  · exact h.2 j (by omega)

end Go.Proofs.Ytngglhbcpeigcaa.cy

/-
  The program's rows in memory: a box each, pointers to the rows above and below; isRegular.
-/
namespace Go.Proofs.Ytngglhbcpeigcaa.cy
open Go.ChangeShapes Go.WideShapes Go.ChangeAt Go.RowKit
open Go.Proofs.Ytngglhbcpeigcaa.mem Go.Proofs.Ytngglhbcpeigcaa.ints Go.Proofs.Ytngglhbcpeigcaa.arr Go.Proofs.Ytngglhbcpeigcaa.pm Go.Proofs.Ytngglhbcpeigcaa.permOk Go.Proofs.Ytngglhbcpeigcaa.permOf Go.Proofs.Ytngglhbcpeigcaa.inv Go.Proofs.Ytngglhbcpeigcaa.fns Go.Proofs.Ytngglhbcpeigcaa.sf Go.Proofs.Ytngglhbcpeigcaa.mat Go.Proofs.Ytngglhbcpeigcaa.gl Go.Proofs.Ytngglhbcpeigcaa.lp
set_option linter.unusedVariables false
set_option maxRecDepth 100000

def ptrV (bs : Nat → Nat) (z : Int) : Value := if z < 0 then .pointer none else .pointer (some ⟨bs z.toNat, 0, none⟩)
theorem ptrV_no {bs : Nat → Nat} {z : Int} (h : z < 0) : ptrV bs z = .pointer none := by rw [ptrV, if_pos h]
theorem ptrV_yes (bs : Nat → Nat) (k : Nat) : ptrV bs (k : Int) = .pointer (some ⟨bs k, 0, none⟩) := by rw [ptrV, if_neg (by omega), Int.toNat_natCast]
def ptrs (bs : Nat → Nat) (k : Nat) : List Value := (List.range k).map fun i => Value.pointer (some ⟨bs i, 0, none⟩)
theorem ptrs_len (bs : Nat → Nat) (k : Nat) : (ptrs bs k).length = k := by simp [ptrs]
theorem ptrs_at {bs : Nat → Nat} {k i : Nat} (h : i < k) : (ptrs bs k)[i]? = some (.pointer (some ⟨bs i, 0, none⟩)) := by simp [ptrs, h]
theorem infoPR : (Try.prog.info? 89).map (fun i => (i.zero, i.size, i.bytes)) = some (some (.pointer none), 1, 8) := by kernel_rfl
/-- The cells of a row's box. -/
def rowC (P : Option Addr) (n c : Nat) (a b : Value) (m : Bool) : List Value := [.slice P n c, a, b, .bool m]
/-- While the program lays out its rows. -/
structure Ph (w3 wr : World) (R : Nat) (rr : List (List Int)) (bs : Nat → Nat) (v : Value) (k : Nat) (pv : List Value) (a b : Nat → Value) : Prop where
  out : Out R (R + 1) w3 wr
  rlt : R < w3.heap.size
  rof : Arr wr R pv 99
  own : wr.ownsRow w3.heap.size 89 1 v k (ptrs bs k)
  box : ∀ (i : Nat) (xs : List Int), i < k → rr[i]? = some xs → ∃ P c, Arr wr (bs i) (rowC P xs.length c (a i) (b i) false) 91 ∧ Row wr (R + 1) w3.heap.size P xs.length (V xs)
  all : k ≤ rr.length
  ge : ∀ i, i < k → w3.heap.size ≤ bs i
  inj : ∀ i j, i < k → j < k → bs i = bs j → i = j
  sep : ∀ g, v.ownBlock = some g → ∀ i, i < k → g ≠ bs i
theorem own_keepB' {w w' : World} {base B : Nat} {e : TypeId} {size n : Nat} {v : Value} {xs : List Value} (h : w.ownsRow base e size v n xs) (hb : Below B w w') (hB : ∀ b, v.ownBlock = some b → b < B) : w'.ownsRow base e size v n xs := by
  refine ⟨h.1, ?_⟩
  rcases h.2 with h0 | ⟨g, cap, cur, h1, h2, h3, h4⟩
  · exact .inl h0
  · refine .inr ⟨g, cap, cur, h1, h2, ?_, h4⟩
    rw [hb.block g (hB g (by subst h1; rfl))]
    exact h3
theorem Mat.in_ {w : World} {lo hi n k : Nat} {A : Option Addr} {xss : List (List Int)} {xs : List Int} (h : Mat w lo hi A n xss) (hx : xss[k]? = some xs) :
    ∃ G off A' c, A = some ⟨G, off, none⟩ ∧ w.cell? ⟨G, off + k, none⟩ = some (.slice A' xs.length c) ∧ Row w lo hi A' xs.length (V xs) := by
  obtain ⟨h1, h2, hs, bl, G, h3, h4⟩ := h
  have hk : k < n := by have := (List.getElem?_eq_some_iff.1 hx).1; omega
  obtain ⟨q1, q2, q3⟩ := h4 (by omega)
  obtain ⟨A', c, l, u, e, hr, hp, hz⟩ := h3.one hx
  obtain ⟨g, off, v, rfl, g1, g2, hv, hc, _⟩ := q3.at_ hk
  rw [e] at hv
  obtain rfl := Option.some.inj hv
  refine ⟨g, off, A', c, rfl, hc, ?_⟩
  rcases Nat.eq_zero_or_pos xs.length with x0 | x0
  · exact ⟨hr.1, h2, fun q => by omega⟩
  · obtain ⟨b1, b2, b3, b4, b5⟩ := hp x0
    exact hr.wider b1 b2 h2
theorem Row.lows {w w' : World} {lo hi n : Nat} {P : Option Addr} {xs : List Value} (h : Row w lo hi P n xs) (hs : w.heap.size ≤ w'.heap.size) (hb : ∀ k, k < hi → w'.heap[k]? = w.heap[k]?) : Row w' lo hi P n xs := by
  refine ⟨h.1, Nat.le_trans h.2.1 hs, fun hn => ?_⟩
  obtain ⟨g, off, e, hg, hlt, hc⟩ := h.2.2 hn
  refine ⟨g, off, e, hg, hlt, fun j hj => ?_⟩
  rw [World.cell?_of_block (w := w) (a := ⟨g, off + j, none⟩) (hb g hlt), World.frozen?_of_block (w := w) (a := ⟨g, off + j, none⟩) (hb g hlt)]
  exact hc j hj
/-- Whatever stands behind: a new world in which the blocks that matter are as they were. -/
theorem Ph.keep {w3 wr w' : World} {R k : Nat} {rr : List (List Int)} {bs : Nat → Nat} {v : Value} {pv : List Value} {a b : Nat → Value} (h : Ph w3 wr R rr bs v k pv a b) (hb : Below wr.heap.size wr w') : Ph w3 w' R rr bs v k pv a b := by
  have hz := h.out.size
  refine ⟨h.out.trans (Out.of_below hb), h.rlt, h.rof.keep hb h.rof.lt, own_keepB' h.own hb (fun g e => (h.own.lt g e).2), fun i xs hi hx => ?_, h.all, h.ge, h.inj, h.sep⟩
  obtain ⟨P, c, q1, q2⟩ := h.box i xs hi hx
  exact ⟨P, c, q1.keep hb q1.lt, q2.keep hb hz⟩
theorem Ph.start {w3 : World} {R : Nat} {rr : List (List Int)} {pv : List Value} (hR : Arr w3 R pv 99) (bs : Nat → Nat) (a b : Nat → Value) : Ph w3 w3 R rr bs (.slice none 0 0) 0 pv a b :=
  ⟨Out.refl _ _ _, hR.lt, hR, ⟨rfl, .inl ⟨rfl, rfl⟩⟩, fun i xs hi => by omega, Nat.zero_le _, fun i hi => by omega, fun i j hi => by omega, fun g e i hi => by omega⟩
theorem ptrs_push (bs : Nat → Nat) (k g : Nat) : ptrs bs k ++ [Value.pointer (some ⟨g, 0, none⟩)] = ptrs (fun i => if i = k then g else bs i) (k + 1) := by
  unfold ptrs
  rw [List.range_succ, List.map_append]
  congr 1
  · refine List.map_congr_left fun i hi => ?_
    have := List.mem_range.1 hi
    show _ = Value.pointer (some ⟨if i = k then g else bs i, 0, none⟩)
    rw [if_neg (by omega)]
  · simp
theorem Ph.push {w3 wr w' W : World} {R k g cap : Nat} {rr : List (List Int)} {bs : Nat → Nat} {v : Value} {pv : List Value} {a b : Nat → Value} {xs : List Int} {P : Option Addr} {c : Nat} (h : Ph w3 wr R rr bs v k pv a b)
    (hx : rr[k]? = some xs) (ha : a k = .pointer none) (hb0 : b k = .pointer none) (hP : Row wr (R + 1) w3.heap.size P xs.length (V xs))
    (hW : W = (wr.alloc (.cells (rowC P xs.length c (.pointer none) (.pointer none) false).toArray 91)).alloc (.cells #[.pointer (some ⟨wr.heap.size, 0, none⟩)] 89))
    (ho : w'.ownsRow w3.heap.size 89 1 (.slice (some ⟨g, 0, none⟩) (k + 1) cap) (k + 1) (ptrs bs k ++ [.pointer (some ⟨wr.heap.size, 0, none⟩)])) (hg : W.grownBy w' v.ownBlock) (hb : v.ownBlock = some g ∨ g = W.heap.size) :
    Ph w3 w' R rr (fun i => if i = k then wr.heap.size else bs i) (.slice (some ⟨g, 0, none⟩) (k + 1) cap) (k + 1) pv a b := by
  have hz := h.out.size
  have sW : W.heap.size = wr.heap.size + 2 := by rw [hW]; simp
  have bW : Below wr.heap.size wr W := by rw [hW]; exact ((Below.refl _ _).alloc (Nat.le_refl _) _).alloc (by simp) _
  have hk := h.keep bW
  have hsz := hg.size
  have far : ∀ q, q < W.heap.size → v.ownBlock ≠ some q → w'.heap[q]? = W.heap[q]? := fun q h1 h2 => hg.block q h1 (fun e => h2 e.symm)
  have ol : ∀ q, v.ownBlock = some q → w3.heap.size ≤ q ∧ q < wr.heap.size := fun q e => h.own.lt q e
  have lo3 : ∀ q, q < w3.heap.size → w'.heap[q]? = W.heap[q]? := fun q hq => far q (by omega) (fun e => by have := ol q e; omega)
  refine ⟨⟨hg.os.trans hk.out.os, hg.tape.trans hk.out.tape, hg.output.trans hk.out.output, Nat.le_trans hk.out.size hsz, fun q h1 h2 => (lo3 q h1).trans (hk.out.block q h1 h2)⟩, h.rlt, ?_, by rw [← ptrs_push]; exact ho, fun i ys hi hy => ?_, ?_, fun i hi => ?_, fun i j hi hj e => ?_, fun q e i hi => ?_⟩
  · exact (lo3 R h.rlt).trans hk.rof
  · by_cases e : i = k
    · subst e
      have : ys = xs := by rw [hx] at hy; exact (Option.some.inj hy).symm
      subst this
      simp only [if_true]
      rw [ha, hb0]
      refine ⟨P, c, ?_, Row.lows (hP.keep bW hz) hsz lo3⟩
      have hn : Arr W wr.heap.size (rowC P ys.length c (.pointer none) (.pointer none) false) 91 := by rw [hW]; exact (Arr.new wr _ _ rfl).alloc _
      exact (far _ (by omega) (fun e => by have := ol _ e; omega)).trans hn
    · rw [if_neg e]
      obtain ⟨P', c', q1, q2⟩ := hk.box i ys (by omega) hy
      exact ⟨P', c', (far _ q1.lt (fun e2 => h.sep _ e2 i (by omega) rfl)).trans q1, Row.lows q2 hsz lo3⟩
  · have := (List.getElem?_eq_some_iff.1 hx).1; omega
  · show _ ≤ (if i = k then wr.heap.size else bs i)
    split
    · exact hz
    · exact h.ge i (by omega)
  · have lt : ∀ i, i < k → bs i < wr.heap.size := fun i hi => by
      obtain ⟨P', c', q1, q2⟩ := h.box i _ hi (List.getElem?_eq_getElem (by have := h.all; omega))
      exact q1.lt
    have e : (if i = k then wr.heap.size else bs i) = (if j = k then wr.heap.size else bs j) := e
    split at e <;> split at e
    · omega
    · have := lt j (by omega); omega
    · have := lt i (by omega); omega
    · exact h.inj i j (by omega) (by omega) e
  · have e2 : g = q := by simpa [Value.ownBlock] using e
    show q ≠ (if i = k then wr.heap.size else bs i)
    split
    · rcases hb with q1 | q1
      · have := ol g q1; omega
      · omega
    · have lt : bs i < wr.heap.size := by
        obtain ⟨P', c', q1, q2⟩ := h.box i _ (show i < k by omega) (List.getElem?_eq_getElem (by have := h.all; omega))
        exact q1.lt
      rcases hb with q1 | q1
      · rw [← e2]; exact h.sep g q1 i (by omega)
      · omega
theorem Ph.out_ {w3 wr : World} {R k : Nat} {rr : List (List Int)} {bs : Nat → Nat} {v : Value} {pv : List Value} {a b : Nat → Value} (h : Ph w3 wr R rr bs v k pv a b) (x : Nat) (p : Value) : Ph w3 (wr.setCell ⟨R, x, none⟩ p) R rr bs v k (pv.set x p) a b := by
  have hR := h.rlt
  refine ⟨h.out.set_ (Nat.le_refl _) (Nat.lt_succ_self _) _, h.rlt, h.rof.set_ x p, ownsRow_setCell_below h.own hR p, fun i xs hi hx => ?_, h.all, h.ge, h.inj, h.sep⟩
  obtain ⟨P, c, q1, q2⟩ := h.box i xs hi hx
  have := h.ge i hi
  exact ⟨P, c, q1.other (by omega) p, q2.out (Out.set_ (Out.refl R (R + 1) wr) (Nat.le_refl _) (Nat.lt_succ_self _) p) (.inr (Nat.le_refl _))⟩
/-- A pointer of a row's box is written. -/
theorem Ph.ptr {w3 wr : World} {R k m y : Nat} {rr : List (List Int)} {bs : Nat → Nat} {v : Value} {pv : List Value} {a b a' b' : Nat → Value} (h : Ph w3 wr R rr bs v k pv a b) (hm : m < k) (p : Value)
    (hc : ∀ P n c, (rowC P n c (a m) (b m) false).set y p = rowC P n c (a' m) (b' m) false) (hr : ∀ i, i ≠ m → a' i = a i ∧ b' i = b i) : Ph w3 (wr.setCell ⟨bs m, y, none⟩ p) R rr bs v k pv a' b' := by
  have hR := h.rlt
  have hg := h.ge m hm
  have bl : Below w3.heap.size wr (wr.setCell ⟨bs m, y, none⟩ p) := (Below.refl w3.heap.size wr).setCell hg p
  refine ⟨⟨h.out.os, h.out.tape, h.out.output, by simpa [World.setCell] using h.out.size, fun q h1 h2 => (bl.block q h1).trans (h.out.block q h1 h2)⟩, h.rlt, h.rof.other (by omega) p, ownsRow_setCell_other h.own (fun e => h.sep _ e m hm rfl) p, fun i xs hi hx => ?_, h.all, h.ge, h.inj, h.sep⟩
  obtain ⟨P, c, q1, q2⟩ := h.box i xs hi hx
  by_cases e : i = m
  · subst e
    exact ⟨P, c, by rw [← hc]; exact q1.set_ y p, q2.keep bl (Nat.le_refl _)⟩
  · rw [(hr i e).1, (hr i e).2]
    exact ⟨P, c, q1.other (fun e2 => e (h.inj i m hi hm e2)) p, q2.keep bl (Nat.le_refl _)⟩

set_option maxHeartbeats 1000000 in
theorem isReg_any (b n c lo hi : Nat) (P : Option Addr) (x y : Value) (t : Bool) (xs cs : List Int) (w : World) (hb : Arr w b (rowC P n c x y t) 91) (hx : Row w lo hi P n (V xs)) (hl : cs.length = 24) (hn : n ≤ 24) (hxs : ∀ z ∈ xs, 0 ≤ z ∧ z < 24) :
    Calls Try.prog 63 #[.pointer (some ⟨b, 0, none⟩), .agg (V cs).toArray] w fun e w' => e = .returned (.bool (regB cs xs)) ∧ Below w.heap.size w w' := by
  have LX : Hid (xs.length = n) := Lib.hid (by simpa [V] using hx.1)
  have HX := Lib.hid hx; have HB := Lib.hid hb; have HL := Lib.hid hl; have HS := Lib.hid hxs; clear hx hb hl hxs
  have hbl : b < w.heap.size := HB.out.lt
  have NA := Lib.hid (Arr.new w (V cs) 60 rfl)
  have B0 := Lib.hid (HB.out.alloc (.cells (V cs).toArray 60))
  have X0 := Lib.hid (HX.out.keep ((Below.refl w.heap.size w).alloc (Nat.le_refl _) (.cells (V cs).toArray 60)) HX.out.2.1)
  have c0 := B0.out.cell (k := 0) rfl
  go_enter Try.func63, Try.ntmps63
  go_wp2
  have BW : Hid (Below w.heap.size w (w.alloc (.cells (V cs).toArray 60))) := Lib.hid ((Below.refl _ _).alloc (Nat.le_refl _) _)
  generalize w.alloc (.cells (V cs).toArray 60) = w1 at *
  go_loop [12] (fun i => ∃ k : Nat, k ≤ n ∧ i = .int .i64 k ∧ Hid (regB cs (xs.take k) = true)) (fun i => n - (intOf i).toNat)
  case atStart => exact ⟨0, Nat.zero_le _, rfl, Lib.hid (by simp [regB])⟩
  case round =>
    obtain ⟨k, hk, rfl, HN⟩ := hrel
    by_cases hlt : k < n
    · obtain ⟨g, off, u, rfl, _, _, hxu, hcx, _⟩ := X0.out.at_ hlt
      obtain ⟨s, hxs, rfl⟩ := V_at hxu
      obtain ⟨s0, s1⟩ := HS.out s (List.mem_of_getElem? hxs)
      obtain ⟨sn, rfl⟩ : ∃ sn : Nat, s = sn := ⟨s.toNat, by omega⟩
      have hcs : w1.cell? ⟨w.heap.size, sn, none⟩ = some (.int .i64 (cs.getD sn 0)) := NA.out.cell (V_get (get_D (by rw [HL.out]; omega)))
      have TK : Hid (regB cs (xs.take (k + 1)) = decide (cs.getD sn 0 = sn)) := Lib.hid (by rw [regB_take hxs, HN.out, Int.toNat_natCast, Bool.true_and])
      have RF : Hid (¬ cs.getD sn 0 = sn → regB cs xs = false) := Lib.hid (fun q => by
        unfold regB
        rw [List.all_eq_false]
        exact ⟨(sn : Int), List.mem_of_getElem? hxs, by simpa using q⟩)
      clear hxu hxs
      generalize cs.getD sn 0 = z at *
      by_cases hz : z = (sn : Int)
      · have hb : (z != (sn : Int)) = false := by simp [hz]
        have TK2 : Hid (regB cs (xs.take (k + 1)) = true) := Lib.hid (by rw [TK.out]; simp [hz])
        clear hz TK RF
        go_wp2
        go_round
        case rel => exact ⟨k + 1, by omega, by go_num, TK2⟩
        case measure => simp [intOf]; omega
      · have hb : (z != (sn : Int)) = true := by simp [hz]
        have RF2 := Lib.hid (RF.out hz)
        clear hz TK RF
        go_wp2
        go_ret
        exact ⟨ret_bool RF2.out.symm, BW.out⟩
    · have HE : Hid (regB cs xs = true) := Lib.hid (by have h := HN.out; rwa [List.take_of_length_le (by rw [LX.out]; omega)] at h)
      go_wp2
      go_ret
      exact ⟨ret_bool HE.out.symm, BW.out⟩
end Go.Proofs.Ytngglhbcpeigcaa.cy
