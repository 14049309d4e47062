import Derived.Test.YtpbbfbpggedgpaaY20
import Derived.Test.YtpbbfbpggedgpaaY21
import Derived.Test.YtpbbfbpggedgpaaY02
import Derived.Test.YtpbbfbpggedgpaaY14
/-
  spec.l08Row, spec.l08Above.
-/
namespace Go.Proofs.Ytpbbfbpggedgpaa.cy
open Go.ChangeShapes Go.WideShapes Go.ChangeAt Go.RowKit
open Go.Proofs.Ytpbbfbpggedgpaa.mem Go.Proofs.Ytpbbfbpggedgpaa.ints Go.Proofs.Ytpbbfbpggedgpaa.arr Go.Proofs.Ytpbbfbpggedgpaa.pm Go.Proofs.Ytpbbfbpggedgpaa.permOk Go.Proofs.Ytpbbfbpggedgpaa.permOf Go.Proofs.Ytpbbfbpggedgpaa.inv Go.Proofs.Ytpbbfbpggedgpaa.fns Go.Proofs.Ytpbbfbpggedgpaa.sf Go.Proofs.Ytpbbfbpggedgpaa.mat Go.Proofs.Ytpbbfbpggedgpaa.gl Go.Proofs.Ytpbbfbpggedgpaa.lp
set_option linter.unusedVariables false
set_option maxRecDepth 100000

set_option maxHeartbeats 1000000 in
theorem row_spec (A : Option Addr) (n c : Nat) (rr : List (List Int)) (lo hi : Nat) (y : Int) (w : World) (hx : Mat w lo hi A n rr) (hn : n ≤ 1048576) (tx : tot rr ≤ 1048576) :
    Calls Try.prog 65 #[.slice A n c, .int .i64 y] w fun e w' => e = .returned (.int .i64 (rix rr y)) ∧ w = w' := by
  have LX : Hid (rr.length = n) := Lib.hid hx.1
  have HX := Lib.hid hx; clear hx
  go_enter Try.func65, Try.ntmps65
  go_wp2
  go_loop [9] (fun i => ∃ k : Nat, k ≤ n ∧ i = .int .i64 k ∧ Hid (∀ j : Nat, j < k → ∀ zs : List Int, rr[j]? = some zs → ¬ y ∈ zs)) (fun i => n - (intOf i).toNat)
  case atStart => exact ⟨0, Nat.zero_le _, rfl, Lib.hid (fun j hj => by omega)⟩
  case round =>
    obtain ⟨k, hk, rfl, HN⟩ := hrel
    by_cases hlt : k < n
    · obtain ⟨G, off, A1, c1, xs, l, u, rfl, hxk, hcx, rx, _⟩ := HX.out.at_ hlt
      have b1 := tot_row hxk
      have RX := Lib.hid rx; have XK := Lib.hid hxk
      clear rx hxk
      go_wp2_with fail
      refine (has_any A1 _ c1 xs _ y _ RX.out.rd (by omega)).mono ?_
      rintro e w2 ⟨rfl, rfl⟩
      cases hq : hasB xs y
      · have HQ : Hid (¬ y ∈ xs) := Lib.hid (by unfold hasB at hq; simpa using hq)
        clear hq
        go_wp2_with fail
        go_round
        case rel =>
          refine ⟨k + 1, by omega, by go_num, Lib.hid (fun j hj zs hz => ?_)⟩
          by_cases e : j = k
          · subst e
            have := XK.out; rw [hz] at this
            obtain rfl := Option.some.inj this
            exact HQ.out
          · exact HN.out j (by omega) zs hz
        case measure => simp [intOf]; omega
      · have HQ : Hid (rix rr y = (k : Int)) := Lib.hid (rix_at XK.out (by unfold hasB at hq; simpa using hq) HN.out)
        clear hq
        go_wp2_with fail
        go_ret
        exact ⟨ret_int HQ.out.symm, rfl⟩
    · have HQ : Hid (rix rr y = -1) := Lib.hid (rix_none fun j zs hz => HN.out j (by have := (List.getElem?_eq_some_iff.1 hz).1; have := LX.out; omega) zs hz)
      go_wp2
      go_ret
      exact ⟨ret_int HQ.out.symm, rfl⟩

theorem regB_take {c xs : List Int} {j : Nat} {x : Int} (h : xs[j]? = some x) : regB c (xs.take (j + 1)) = (regB c (xs.take j) && decide (c.getD x.toNat 0 = x)) := by
  rw [List.take_add_one, h]
  simp [regB]
theorem abF_take {c u : List Int} {rr : List (List Int)} {k : Nat} : (abF c u rr).take (k + 1) = (abF c u rr).take k ++ [at_ (abF c u rr) k] ∨ rr.length ≤ k := by
  by_cases h : k < rr.length
  · left
    have hl : k < (abF c u rr).length := by rw [abF_len]; exact h
    rw [List.take_add_one, List.getElem?_eq_getElem hl]
    simp [at_, List.getD, List.getElem?_eq_getElem hl]
  · right; omega
/-- What the walk over the rows needs to know of the surface. -/
structure Sw (n : Nat) (r u : List Int) (rr : List (List Int)) : Prop where
  sf : Sf n r u
  rw : Rws n r rr
theorem get_D {l : List Int} {i : Nat} (h : i < l.length) : l[i]? = some (l.getD i 0) := by simp [List.getD, List.getElem?_eq_getElem h]
theorem Sw.first {n : Nat} {r u : List Int} {rr : List (List Int)} (h : Sw n r u rr) {k : Nat} {xs : List Int} (hx : rr[k]? = some xs) : ∃ f z : Nat, xs[0]? = some (f : Int) ∧ xs.getD 0 0 = f ∧ f < n ∧ u[f]? = some (z : Int) ∧ u.getD f 0 = z ∧ 0 < xs.length := by
  obtain ⟨h1, h2⟩ := h.rw.head hx
  obtain ⟨a, b⟩ := h.rw.rng hx h2
  have e0 : xs[0]? = some (xs.getD 0 0) := get_D h1
  have hz := h.sf.bu.maps (xs.getD 0 0).toNat (by omega)
  have lu := h.sf.lu
  have e1 : u[(xs.getD 0 0).toNat]? = some (u.getD (xs.getD 0 0).toNat 0) := get_D (by omega)
  refine ⟨(xs.getD 0 0).toNat, (u.getD (xs.getD 0 0).toNat 0).toNat, by rw [e0]; congr 1; omega, by omega, by omega, by rw [e1]; congr 1; omega, by omega, h1⟩
theorem Sw.elem {n : Nat} {r u : List Int} {rr : List (List Int)} (h : Sw n r u rr) {k j : Nat} {xs : List Int} (hx : rr[k]? = some xs) (hj : j < xs.length) : ∃ x z : Nat, xs[j]? = some (x : Int) ∧ x < n ∧ (comm r u)[x]? = some (z : Int) ∧ z < n := by
  have e := List.getElem?_eq_getElem hj
  obtain ⟨a, b⟩ := h.rw.rng hx (List.mem_of_getElem? e)
  have lc := h.sf.comm.2
  have hm := h.sf.commB.maps xs[j].toNat (by omega)
  refine ⟨xs[j].toNat, ((comm r u).getD xs[j].toNat 0).toNat, by rw [e]; congr 1; omega, by omega, ?_, by omega⟩
  rw [List.getElem?_eq_getElem (show xs[j].toNat < (comm r u).length by omega)]
  simp only [List.getD, List.getElem?_eq_getElem (show xs[j].toNat < (comm r u).length by omega), Option.getD_some] at hm ⊢
  congr 1; omega

set_option maxHeartbeats 2000000 in
theorem above_spec (v : Value) (r u : List Int) (A : Option Addr) (n c N : Nat) (rr : List (List Int)) (hi lo hi2 : Nat) (w : World) (hx : Srd w hi v r u) (hy : Mat w lo hi2 A n rr) (hs : Sw N r u rr) :
    Calls Try.prog 54 #[v, .slice A n c] w (Gives (abF (comm r u) u rr) w) := by
  have HX := Lib.hid hx; clear hx
  have HY := Lib.hid hy; clear hy
  have HS := Lib.hid hs; clear hs
  obtain ⟨i0, hi0, hz0, hz1, hz2⟩ := info_parts infoI
  obtain ⟨P, p, cp, Q, q, cq, rfl, q1, q2, e1, e2, ht, HR⟩ := HX.out.open
  have LR : Hid (rr.length = n) := Lib.hid HY.out.1
  have hn24 : N ≤ 24 := HS.out.sf.small
  have hnN : n ≤ N := by have := HS.out.rw.len; have := LR.out; omega
  obtain rfl : N = q := by rw [← q2]; exact HS.out.sf.lu.symm
  have RU : Hid (Rd w hi Q N (V u)) := Lib.hid (Srd.snd HX.out)
  clear HR q1 q2
  go_enter Try.func54, Try.ntmps54
  go_wp2_with fail
  refine (around_spec _ r u hi _ (HX.out.keep ((Below.refl hi w).alloc ht _) (Nat.le_refl _)) (by rw [HS.out.sf.lr]; exact HS.out.sf)).mono ?_
  rintro e w1 ⟨v1, rfl, o1, b1⟩
  have LC : Hid ((comm r u).length = N) := Lib.hid HS.out.sf.comm.2
  obtain ⟨P1, c1, rfl⟩ := own_form o1
  have hs1 : w.heap.size + 1 ≤ w1.heap.size := by have := b1.size; simpa using this
  have A0 := Lib.hid ((Arr.new w [.slice P p cp, .slice Q N cq] 30 rfl).keep b1 (by simp))
  have RC := Lib.hid (Row.of_own o1)
  have B1 := Lib.hid (below1 _ _ b1)
  clear o1 b1
  rw [LC.out] at RC ⊢
  have G0 := Lib.hid (Grows.empty w1)
  go_wp2
  generalize hwg : w1.alloc (.cells #[] 3) = wg at *
  clear hwg
  go_loopw [6, 17] (fun v i wr => ∃ k : Nat, k ≤ n ∧ i = .int .i64 k ∧ Grows w1 wr v ((abF (comm r u) u rr).take k)) (fun _ i _ => n - (intOf i).toNat)
  case atStart => exact ⟨0, Nat.zero_le _, rfl, G0.out⟩
  case round =>
    obtain ⟨k, hk, rfl, hm⟩ := hrel
    obtain ⟨C, cc, rfl⟩ := hm.form
    have LK : Hid (((abF (comm r u) u rr).take k).length = k) := Lib.hid (by rw [List.length_take, abF_len, LR.out]; omega)
    have HG := Lib.hid hm; clear hm G0
    have NX0 : Hid (k < n → (abF (comm r u) u rr).take (k + 1) = (abF (comm r u) u rr).take k ++ [at_ (abF (comm r u) u rr) k]) := Lib.hid (fun hlt => by
      rcases abF_take (c := comm r u) (u := u) (rr := rr) (k := k) with z | z
      · exact z
      · have := LR.out; omega)
    have EQ0 : Hid (¬ k < n → (abF (comm r u) u rr).take k = abF (comm r u) u rr) := Lib.hid (fun hlt => List.take_of_length_le (by rw [abF_len, LR.out]; omega))
    generalize (abF (comm r u) u rr).take k = l1 at *
    have hsz := HG.out.below.size
    by_cases hlt : k < n
    · have NX := Lib.hid (NX0.out hlt)
      have BW := Lib.hid (B1.out.trans (HG.out.below.mono B1.out.size))
      have hsw := BW.out.size
      obtain ⟨G, off, A1, c1', xs, l, u1, rfl, hxk, hcx, rx, _⟩ := (HY.out.keep (BW.out.mono HY.out.2.1) (Nat.le_refl _)).at_ hlt
      obtain ⟨f, z, f1, f2, f3, z1, z2, hpos⟩ := HS.out.first hxk
      have AT : Hid (at_ (abF (comm r u) u rr) k = if regB (comm r u) xs then rix rr z else -1) := Lib.hid (by rw [abF_at hxk, f2, Int.toNat_natCast, z2])
      have XK := Lib.hid hxk
      have xl : xs.length ≤ 1048576 := by have := (HS.out.rw.way hxk).choose_spec.2.2.inn.len; omega
      have zN : z < N := by have := HS.out.sf.bu.maps f f3; rw [z2] at this; omega
      have RX := Lib.hid rx
      obtain ⟨gx, ox, vx, rfl, hgx, hxu, hcf⟩ := rx.rd.at_ hpos
      rw [V_get f1] at hxu
      obtain rfl := Option.some.inj hxu
      have TT : Hid (tot rr ≤ 1048576) := Lib.hid (by have := HS.out.rw.inn.len; unfold tot; rw [← flatten_len]; omega)
      obtain ⟨gu, ou, vu, eQ, hgu, huu, hcu⟩ := (RU.out.keep (BW.out.mono ht) (Nat.le_refl _)).at_ (k := f) (by omega)
      subst eQ
      rw [V_get z1] at huu
      obtain rfl := Option.some.inj huu
      have hux : u1 ≤ wr.heap.size := rx.2.1
      have hA0 : w.heap.size < wr.heap.size := by omega
      have AW : Hid (Arr wr w.heap.size [.slice P p cp, .slice (some ⟨gu, ou, none⟩) N cq] 30) := Lib.hid (A0.out.keep HG.out.below (by omega))
      have C1 : Hid (∀ W, Below wr.heap.size wr W → W.cell? ⟨w.heap.size, 1, none⟩ = some (.slice (some ⟨gu, ou, none⟩) N cq)) := Lib.hid (fun W h => by rw [h.cell (p := ⟨w.heap.size, 1, none⟩) hA0]; exact AW.out.cell (k := 1) rfl)
      have C2 : Hid (∀ W, Below wr.heap.size wr W → W.cell? ⟨gx, ox, none⟩ = some (.int .i64 f)) := Lib.hid (fun W h => by rw [h.cell (p := ⟨gx, ox, none⟩) (by show gx < _; omega)]; simpa using hcf)
      have C3 : Hid (∀ W, Below wr.heap.size wr W → W.cell? ⟨gu, ou + f, none⟩ = some (.int .i64 z)) := Lib.hid (fun W h => by rw [h.cell (p := ⟨gu, ou + f, none⟩) (by show gu < _; omega)]; exact hcu)
      clear hcf hcu f1 f2 z1 z2 hxk rx AW
      go_wp2
      refine wp_region_held_drew (S := fun W => Below wr.heap.size wr W) (by kernel_rfl) ⟨rfl, rfl, rfl, Nat.le_refl _, fun _ _ => rfl⟩ (fun hHeld => ?_)
      have b1 : Below wr.heap.size wr wr.drew := hHeld
      have GD := Lib.hid (HG.out.drew 1)
      have e_ : wr.drewN 1 = wr.drew := rfl
      rw [e_] at GD
      clear e_
      generalize wr.drew = wd at *
      have tk (x : Prop) : x → x := id
      refine wpAnyH_take (i := 0) (v := .slice (some ⟨G, off, none⟩) n c) rfl (by kernel_rfl) (by kernel_rfl) (by kernel_rfl) (fun _ _ _ h => h) (Or.inl ⟨by rfl, fun w hSw => by go_simp⟩) hHeld ?_
      refine wpAnyH_take (i := 1) (v := .pointer (some ⟨w.heap.size, 1, none⟩)) rfl (by kernel_rfl) (by kernel_rfl) (by kernel_rfl) (fun _ _ _ h => h) (Or.inl ⟨by rfl, fun w hSw => by go_simp⟩) hHeld ?_
      refine wpAnyH_take (i := 2) (v := .slice (some ⟨gu, ou, none⟩) N cq) rfl (by kernel_rfl) (by kernel_rfl) (by kernel_rfl) (fun _ _ _ h => h) (Or.inl ⟨by rfl, fun w hSw => by have := C1.out w hSw; go_simp⟩) hHeld ?_
      refine wpAnyH_take (i := 3) (v := .slice (some ⟨gx, ox, none⟩) xs.length c1') rfl (by kernel_rfl) (by kernel_rfl) (by kernel_rfl) (fun _ _ _ h => h) (Or.inl ⟨by rfl, fun w hSw => by go_simp⟩) hHeld ?_
      refine wpAnyH_take (i := 4) (v := .pointer (some ⟨gx, ox, none⟩)) rfl (by kernel_rfl) (by kernel_rfl) (by kernel_rfl) (fun _ _ _ h => h) (Or.inl ⟨by rfl, fun w hSw => by go_simp⟩) hHeld ?_
      refine wpAnyH_take (i := 5) (v := .int .i64 f) rfl (by kernel_rfl) (by kernel_rfl) (by kernel_rfl) (fun _ _ _ h => h) (Or.inl ⟨by rfl, fun w hSw => by have := C2.out w hSw; go_simp⟩) hHeld ?_
      refine wpAnyH_take (i := 6) (v := .pointer (some ⟨gu, ou + f, none⟩)) rfl (by kernel_rfl) (by kernel_rfl) (by kernel_rfl) (fun _ _ _ h => h) (Or.inl ⟨by rfl, fun w hSw => by go_simp⟩) hHeld ?_
      refine wpAnyH_take (i := 7) (v := .int .i64 z) rfl (by kernel_rfl) (by kernel_rfl) (by kernel_rfl) (fun _ _ _ h => h) (Or.inl ⟨by rfl, fun w hSw => by have := C3.out w hSw; go_simp⟩) hHeld ?_
      refine wpAnyH_ready (rs := [8]) (by kernel_rfl) (by simp) (AllReadyH.cons rfl (fun K hK => ?_) AllReadyH.nil)
      go_simp
      refine (row_spec (some ⟨G, off, none⟩) n c rr lo hi2 z _ ((HY.out.keep (BW.out.mono HY.out.2.1) (Nat.le_refl _)).keep (b1.mono (Nat.le_trans HY.out.2.1 hsw)) (Nat.le_refl _)) (by omega) TT.out).mono ?_
      rintro e w2 ⟨rfl, rfl⟩
      have RL : Hid (-1 ≤ rix rr z ∧ rix rr z < n) := Lib.hid (by have := rix_low rr z; rwa [LR.out] at this)
      generalize hk0 : rix rr (z : Int) = k0 at *
      clear hk0
      refine hK.out _ _ hHeld (fun hHeld2 => ?_)
      clear hK K
      refine wpAnyH_ready (rs := [9]) (by kernel_rfl) (by simp) (AllReadyH.cons rfl (fun K hK => ?_) AllReadyH.nil)
      go_simp
      refine hK.out _ _ hHeld2 (fun hHeld3 => ?_)
      clear hK K hHeld2 hHeld3 hHeld tk
      refine wpAnyH_done (by kernel_rfl) ?_ _
      have XW := Lib.hid (RX.out.keep b1 hux)
      have CW := Lib.hid ((RC.out.keep HG.out.below (Nat.le_refl _)).keep (b1.mono hsz) (Nat.le_refl _))
      clear RX C1 C2 C3 b1 HG
      go_wp2
      obtain ⟨wo, rfl⟩ : ∃ wo : World, wo = wd := ⟨_, rfl⟩
      go_loopw [9, 32] (fun kv i wi => ∃ j : Nat, j ≤ xs.length ∧ i = .int .i64 j ∧ kv = .int .i64 (if regB (comm r u) (xs.take j) then k0 else -1) ∧ wi = wo) (fun _ i _ => xs.length - (intOf i).toNat)
      case atStart => exact ⟨0, Nat.zero_le _, rfl, by simp [regB], rfl⟩
      case round =>
        obtain ⟨j, hj, rfl, rfl, rfl⟩ := hrel
        by_cases hjl : j < xs.length
        · obtain ⟨x, y, x1, x2, y1, y2⟩ := HS.out.elem XK.out hjl
          obtain ⟨g3, o3, v3, e3, _, hx3, hc3⟩ := XW.out.rd.at_ hjl
          injection e3 with e3; injection e3 with e3 e4; subst e3; subst e4
          rw [V_get x1] at hx3
          obtain rfl := Option.some.inj hx3
          obtain ⟨g4, o4, v4, rfl, _, hy4, hc4⟩ := CW.out.rd.at_ x2
          rw [V_get y1] at hy4
          obtain rfl := Option.some.inj hy4
          have TK : Hid (regB (comm r u) (xs.take (j + 1)) = (regB (comm r u) (xs.take j) && decide (y = x))) := Lib.hid (by
            rw [regB_take x1, Int.toNat_natCast]
            have e : (comm r u).getD x 0 = y := by simp [List.getD, y1]
            rw [e]
            congr 1
            exact decide_eq_decide.2 (by omega))
          clear x1 y1
          by_cases hyx : y = x
          · subst hyx
            have hb : ((y : Int) != (y : Int)) = false := by simp
            have TK2 : Hid (regB (comm r u) (xs.take (j + 1)) = regB (comm r u) (xs.take j)) := Lib.hid (by rw [TK.out]; simp)
            generalize hif : (if regB (comm r u) (xs.take j) then k0 else -1) = kk at *
            go_wp2
            go_roundw
            case rel => exact ⟨j + 1, by omega, by go_num, by rw [TK2.out, hif], by first | rfl | trivial⟩
            case measure => simp [intOf]; omega
          · have hb : ((y : Int) != (x : Int)) = true := by simp; omega
            have TK2 : Hid (regB (comm r u) (xs.take (j + 1)) = false) := Lib.hid (by rw [TK.out]; simp [hyx])
            clear hyx
            generalize hif : (if regB (comm r u) (xs.take j) then k0 else -1) = kk at *
            go_wp2
            go_roundw
            case rel => exact ⟨j + 1, by omega, by go_num, by rw [TK2.out]; rfl, by first | rfl | trivial⟩
            case measure => simp [intOf]; omega
        · have hje : j = xs.length := by omega
          subst hje
          have AT2 : Hid (at_ (abF (comm r u) u rr) k = (if regB (comm r u) (xs.take xs.length) then k0 else -1)) := Lib.hid (by rw [AT.out, List.take_length])
          generalize hif : (if regB (comm r u) (xs.take xs.length) then k0 else -1) = kk at *
          clear hif
          have hkl : l1.length ≤ 1048576 := by rw [LK.out]; omega
          have hszo := GD.out.below.size
          go_wp2_with (at_builtin; refine wpList_append_one _ _ _ rfl _ _ 24 rfl w1.heap.size 3 i0 _ 8 Try.underlying24 hi0 hz0 hz1 hz2 rfl _ _ _ rfl GD.out.own rfl rfl ?c4 (by decide) hszo ?_)
          case c4 => omega
          intro v' w' ho hg
          have HN : Hid (Grows w1 w' v' ((abF (comm r u) u rr).take (k + 1))) := Lib.hid (by rw [NX.out, AT2.out]; exact GD.out.next ho rfl hg)
          clear ho hg GD
          go_wp2
          go_roundw
          case rel => exact ⟨k + 1, by omega, by go_num, HN.out⟩
          case measure => simp [intOf]; omega
    · have EQ := EQ0.out hlt
      clear EQ0 NX0 LK
      subst EQ
      go_wp2_with fail
      go_ret
      exact gives_later B1.out HG.out.gives
end Go.Proofs.Ytpbbfbpggedgpaa.cy

/-
  spec.RowAbove.
-/
namespace Go.Proofs.Ytpbbfbpggedgpaa.cy
open Go.ChangeShapes Go.WideShapes Go.ChangeAt Go.RowKit
open Go.Proofs.Ytpbbfbpggedgpaa.mem Go.Proofs.Ytpbbfbpggedgpaa.ints Go.Proofs.Ytpbbfbpggedgpaa.arr Go.Proofs.Ytpbbfbpggedgpaa.pm Go.Proofs.Ytpbbfbpggedgpaa.permOk Go.Proofs.Ytpbbfbpggedgpaa.permOf Go.Proofs.Ytpbbfbpggedgpaa.inv Go.Proofs.Ytpbbfbpggedgpaa.fns Go.Proofs.Ytpbbfbpggedgpaa.sf Go.Proofs.Ytpbbfbpggedgpaa.mat Go.Proofs.Ytpbbfbpggedgpaa.gl Go.Proofs.Ytpbbfbpggedgpaa.lp
set_option linter.unusedVariables false
set_option maxRecDepth 100000

def raG (ab : List Int) (rr : List (List Int)) (a : Int) : Int := if at_ ab (rix rr a).toNat < 0 then -1 else (rr.getD (at_ ab (rix rr a).toNat).toNat []).getD 0 0
def raF (r u : List Int) (a : Int) : Int := if transB r u = true ∧ 0 ≤ a ∧ a < r.length then raG (abF (comm r u) u (cycF r)) (cycF r) a else -1
theorem raF_no {r u : List Int} {a : Int} (h : transB r u = false ∨ a < 0 ∨ (r.length : Int) ≤ a) : raF r u a = -1 := by
  unfold raF
  rw [if_neg]
  rintro ⟨h1, h2, h3⟩
  rcases h with h | h | h
  · rw [h1] at h; cases h
  · omega
  · omega
theorem raF_yes {r u : List Int} {a : Int} (h : transB r u = true) (h0 : 0 ≤ a) (h1 : a < r.length) : raF r u a = raG (abF (comm r u) u (cycF r)) (cycF r) a := by
  unfold raF
  rw [if_pos ⟨h, h0, h1⟩]
theorem cycF_rows {r u : List Int} {n : Nat} (h : transB r u = true) (hn : r.length = n) : Sw n r u (cycF r) := by
  have s := transB_iff.1 h
  rw [hn] at s
  refine ⟨s, ?_⟩
  rw [cycF, s.r.b, if_pos rfl, s.lr]
  exact Rws.of s.br

end Go.Proofs.Ytpbbfbpggedgpaa.cy

/-
  Contract of the program's AroundOf.
-/
namespace Go.Proofs.Ytpbbfbpggedgpaa.gl
open Go.ChangeShapes Go.WideShapes Go.ChangeAt Go.RowKit
open Go.Proofs.Ytpbbfbpggedgpaa.mem Go.Proofs.Ytpbbfbpggedgpaa.ints Go.Proofs.Ytpbbfbpggedgpaa.arr Go.Proofs.Ytpbbfbpggedgpaa.pm Go.Proofs.Ytpbbfbpggedgpaa.permOk Go.Proofs.Ytpbbfbpggedgpaa.permOf Go.Proofs.Ytpbbfbpggedgpaa.inv Go.Proofs.Ytpbbfbpggedgpaa.fns Go.Proofs.Ytpbbfbpggedgpaa.sf
set_option linter.unusedVariables false
set_option maxRecDepth 100000

theorem gives_eqi {r r' : List Int} {w w' : World} {e : Ending} (h : r' = r) (g : Gives r w e w') : Gives r' w e w' := h ▸ g

end Go.Proofs.Ytpbbfbpggedgpaa.gl

/-
  Lists of cylinders in memory: two cells each; the laws' helpers eqCylinder, eqCylinderS, markCylinderS, heldCylinderS.
-/
namespace Go.Proofs.Ytpbbfbpggedgpaa.cy
open Go.ChangeShapes Go.WideShapes Go.ChangeAt Go.RowKit
open Go.Proofs.Ytpbbfbpggedgpaa.mem Go.Proofs.Ytpbbfbpggedgpaa.ints Go.Proofs.Ytpbbfbpggedgpaa.arr Go.Proofs.Ytpbbfbpggedgpaa.sf Go.Proofs.Ytpbbfbpggedgpaa.lp
set_option linter.unusedVariables false
set_option maxRecDepth 100000

/-- Width and height. -/
abbrev Cy := Int × Int
def fl : List Cy → List Int
  | [] => []
  | x :: t => x.1 :: x.2 :: fl t
theorem fl_len : ∀ L : List Cy, (fl L).length = L.length * 2
  | [] => rfl
  | x :: t => by simp [fl, fl_len t]; omega
theorem fl_app : ∀ L M : List Cy, fl (L ++ M) = fl L ++ fl M
  | [], M => rfl
  | x :: t, M => by simp [fl, fl_app t M]
theorem fl_at : ∀ {L : List Cy} {k : Nat} {x : Cy}, L[k]? = some x → (fl L)[k * 2]? = some x.1 ∧ (fl L)[k * 2 + 1]? = some x.2
  | [], k, x, h => by simp at h
  | y :: t, 0, x, h => by simp at h; subst h; simp [fl]
  | y :: t, k + 1, x, h => by
    have := fl_at (L := t) (k := k) (x := x) (by simpa using h)
    have e1 : (k + 1) * 2 = k * 2 + 1 + 1 := by omega
    rw [e1]
    simpa [fl] using this
/-- The slice value '.slice A n c' reads as the cylinders L; to be read only, and of the call's own. -/
def Crd (w : World) (hi : Nat) (A : Option Addr) (n : Nat) (L : List Cy) : Prop := L.length = n ∧ Rd w hi A (n * 2) (V (fl L))
def Crow (w : World) (lo hi : Nat) (A : Option Addr) (n : Nat) (L : List Cy) : Prop := L.length = n ∧ Row w lo hi A (n * 2) (V (fl L))
theorem Crow.rd {w : World} {lo hi n : Nat} {A : Option Addr} {L : List Cy} (h : Crow w lo hi A n L) : Crd w hi A n L := ⟨h.1, h.2.rd⟩
theorem Crow.keep {w w' : World} {lo hi n B : Nat} {A : Option Addr} {L : List Cy} (h : Crow w lo hi A n L) (hb : Below B w w') (hB : hi ≤ B) : Crow w' lo hi A n L := ⟨h.1, h.2.keep hb hB⟩
theorem Crow.out {w w' : World} {lo hi lo' hi' n : Nat} {A : Option Addr} {L : List Cy} (h : Crow w lo hi A n L) (ho : Out lo' hi' w w') (hd : hi ≤ lo' ∨ hi' ≤ lo) : Crow w' lo hi A n L := ⟨h.1, h.2.out ho hd⟩
theorem Crow.top {w : World} {lo hi n : Nat} {A : Option Addr} {L : List Cy} (h : Crow w lo hi A n L) : hi ≤ w.heap.size := h.2.2.1
theorem Crd.keep {w w' : World} {hi n B : Nat} {A : Option Addr} {L : List Cy} (h : Crd w hi A n L) (hb : Below B w w') (hB : hi ≤ B) : Crd w' hi A n L := ⟨h.1, h.2.keep hb hB⟩
theorem Crd.top {w : World} {hi n : Nat} {A : Option Addr} {L : List Cy} (h : Crd w hi A n L) : hi ≤ w.heap.size := h.2.2.1
theorem Crd.at_ {w : World} {hi n k : Nat} {A : Option Addr} {L : List Cy} (h : Crd w hi A n L) (hk : k < n) :
    ∃ g off x, A = some ⟨g, off, none⟩ ∧ g < hi ∧ L[k]? = some x ∧ w.cell? ⟨g, off + k * 2, none⟩ = some (.int .i64 x.1) ∧ w.cell? ⟨g, off + k * 2 + 1, none⟩ = some (.int .i64 x.2) := by
  obtain ⟨g, off, e, hlt, hc⟩ := h.2.2.2 (by omega)
  have hl : k < L.length := by have := h.1; omega
  have hx := List.getElem?_eq_getElem hl
  obtain ⟨a, b⟩ := fl_at hx
  refine ⟨g, off, L[k], e, hlt, hx, ?_, ?_⟩
  · rw [hc (k * 2) (by omega)]; exact V_get a
  · rw [show off + k * 2 + 1 = off + (k * 2 + 1) by omega, hc (k * 2 + 1) (by omega)]; exact V_get b
theorem infoCy : (Try.prog.info? 64).map (fun i => (i.zero, i.size, i.bytes)) = some (some (.agg #[.int .i64 0, .int .i64 0]), 2, 16) := by kernel_rfl
theorem sizeCy (a b : Value) : (Try.prog.info? 64).map (·.size) = some [a, b].length := by
  have : (Try.prog.info? 64).map (·.size) = some 2 := by kernel_rfl
  simpa using this
theorem two_cells {w : World} {g o : Nat} {a b : Value} (h0 : w.cell? ⟨g, o, none⟩ = some a) (h1 : w.cell? ⟨g, o + 1, none⟩ = some b) : w.rangeAt g o [a, b] := by
  intro j v hv
  match j, hv with
  | 0, hv => simp at hv; subst hv; simpa using h0
  | 1, hv => simp at hv; subst hv; exact h1

def eqc (L M : List Cy) : Bool := decide (L = M)
theorem eqc_self (L : List Cy) : eqc L L = true := by simp [eqc]
def SameC (L M : List Cy) (w wr : World) (k : Nat) : Prop := Below w.heap.size w wr ∧ ∀ j, j < k → L[j]? = M[j]?
theorem eqc_no {L M : List Cy} {k : Nat} {s t : Cy} (h1 : L[k]? = some s) (h2 : M[k]? = some t) (h : (decide (s.1 = t.1) && decide (s.2 = t.2)) = false) : eqc L M = false := by
  unfold eqc
  rw [decide_eq_false_iff_not]
  rintro rfl
  rw [h1] at h2
  obtain rfl := Option.some.inj h2
  simp at h
theorem eqc_yes {L M : List Cy} {n : Nat} (h1 : L.length = n) (h2 : M.length = n) (h : ∀ j, j < n → L[j]? = M[j]?) : eqc L M = true := by
  unfold eqc
  rw [decide_eq_true_iff]
  refine List.ext_getElem? fun i => ?_
  by_cases hi : i < n
  · exact h i hi
  · rw [List.getElem?_eq_none (by omega), List.getElem?_eq_none (by omega)]
theorem eqc_len {L M : List Cy} (h : L.length ≠ M.length) : eqc L M = false := by
  unfold eqc
  rw [decide_eq_false_iff_not]
  rintro rfl
  exact h rfl
theorem SameC.step {L M : List Cy} {w wr w' : World} {k : Nat} {s t : Cy} (h : SameC L M w wr k) (hb : Below w.heap.size w w') (h1 : L[k]? = some s) (h2 : M[k]? = some t) (he : (decide (s.1 = t.1) && decide (s.2 = t.2)) = true) : SameC L M w w' (k + 1) := by
  refine ⟨hb, fun j hj => ?_⟩
  by_cases e : j = k
  · subst e
    have : s = t := by
      simp at he
      exact Prod.ext he.1 he.2
    rw [h1, h2, this]
  · exact h.2 j (by omega)

set_option maxHeartbeats 1000000 in
theorem eqC1_any (a b c d : Int) (w : World) :
    Calls Try.prog 45 #[.agg #[.int .i64 a, .int .i64 b], .agg #[.int .i64 c, .int .i64 d]] w fun e w' => e = .returned (.bool (decide (a = c) && decide (b = d))) ∧ Below w.heap.size w w' := by
  by_cases h1 : a = c
  · subst h1
    by_cases h2 : b = d
    · subst h2
      have q1 : (a != a) = false := by simp
      have q2 : (b != b) = false := by simp
      go_enter Try.func45, Try.ntmps45
      go_wp2
      go_ret
      exact ⟨ret_bool (by simp), ((Below.refl _ _).alloc (Nat.le_refl _) _).alloc (by simp) _⟩
    · have q1 : (a != a) = false := by simp
      have q2 : (b != d) = true := by simpa using h2
      have HB : Hid ((decide (a = a) && decide (b = d)) = false) := Lib.hid (by simp [h2])
      clear h2
      go_enter Try.func45, Try.ntmps45
      go_wp2
      go_ret
      exact ⟨ret_bool HB.out.symm, ((Below.refl _ _).alloc (Nat.le_refl _) _).alloc (by simp) _⟩
  · have q1 : (a != c) = true := by simpa using h1
    have HB : Hid ((decide (a = c) && decide (b = d)) = false) := Lib.hid (by simp [h1])
    clear h1
    go_enter Try.func45, Try.ntmps45
    go_wp2
    go_ret
    exact ⟨ret_bool HB.out.symm, ((Below.refl _ _).alloc (Nat.le_refl _) _).alloc (by simp) _⟩

set_option maxHeartbeats 2000000 in
theorem eqC_any (A : Option Addr) (n c : Nat) (B : Option Addr) (m d : Nat) (L M : List Cy) (h1 h2 : Nat) (w : World) (hx : Crd w h1 A n L) (hy : Crd w h2 B m M) (hn : n ≤ 1048576) (hm : m ≤ 1048576) :
    Calls Try.prog 26 #[.slice A n c, .slice B m d] w fun e w' => e = .returned (.bool (eqc L M)) ∧ Below w.heap.size w w' := by
  have LX : Hid (L.length = n) := Lib.hid hx.1
  have LY : Hid (M.length = m) := Lib.hid hy.1
  have HX := Lib.hid hx; have HY := Lib.hid hy; clear hx hy
  by_cases hnm : n = m
  · obtain rfl : m = n := hnm.symm
    clear hnm
    go_enter Try.func26, Try.ntmps26
    go_wp2
    go_loopw [5] (fun i wr => ∃ k : Nat, k ≤ m ∧ i = .int .i64 k ∧ SameC L M w wr k) (fun i _ => m - (intOf i).toNat)
    case atStart => exact ⟨0, Nat.zero_le _, rfl, Below.refl _ _, fun j hj => by omega⟩
    case round =>
      obtain ⟨k, hk, rfl, hs⟩ := hrel
      have HS := Lib.hid hs; clear hs
      have hsz := HS.out.1.size
      by_cases hlt : k < m
      · obtain ⟨g, off, s, rfl, hg, hsk, c0, c1⟩ := (HX.out.keep (HS.out.1.mono HX.out.top) (Nat.le_refl _)).at_ hlt
        obtain ⟨g', off', t, rfl, hg', htk, d0, d1⟩ := (HY.out.keep (HS.out.1.mono HY.out.top) (Nat.le_refl _)).at_ hlt
        have SK := Lib.hid hsk; have TK := Lib.hid htk
        have hgw : g < wr.heap.size := Nat.lt_of_lt_of_le hg (Nat.le_trans HX.out.top hsz)
        have hgw' : g' < wr.heap.size := Nat.lt_of_lt_of_le hg' (Nat.le_trans HY.out.top hsz)
        have RX := Lib.hid (two_cells c0 c1); have RY := Lib.hid (two_cells d0 d1)
        clear hsk htk c0 c1 d0 d1
        obtain ⟨s1, s2⟩ := s
        obtain ⟨t1, t2⟩ := t
        go_wp2
        refine wp_region_held_drew (S := fun W => Below wr.heap.size wr W) (by kernel_rfl) ⟨rfl, rfl, rfl, Nat.le_refl _, fun _ _ => rfl⟩ (fun hHeld => ?_)
        have b1 : Below wr.heap.size wr wr.drew := hHeld
        generalize wr.drew = wd at *
        refine wpAnyH_take (i := 0) (v := .slice (some ⟨g, off, none⟩) m c) rfl (by kernel_rfl) (by kernel_rfl) (by kernel_rfl) (fun _ _ _ h => h) (Or.inl ⟨by rfl, fun w hSw => by go_simp⟩) hHeld ?_
        refine wpAnyH_take (i := 1) (v := .int .i64 k) rfl (by kernel_rfl) (by kernel_rfl) (by kernel_rfl) (fun _ _ _ h => h) (Or.inl ⟨by rfl, fun w hSw => by go_simp⟩) hHeld ?_
        refine wpAnyH_take (i := 4) (v := .slice (some ⟨g', off', none⟩) m d) rfl (by kernel_rfl) (by kernel_rfl) (by kernel_rfl) (fun _ _ _ h => h) (Or.inl ⟨by rfl, fun w hSw => by go_simp⟩) hHeld ?_
        refine wpAnyH_take (i := 5) (v := .int .i64 k) rfl (by kernel_rfl) (by kernel_rfl) (by kernel_rfl) (fun _ _ _ h => h) (Or.inl ⟨by rfl, fun w hSw => by go_simp⟩) hHeld ?_
        refine wpAnyH_take (i := 2) (v := .pointer (some ⟨g, off + k * 2, none⟩)) rfl (by kernel_rfl) (by kernel_rfl) (by kernel_rfl) (fun _ _ _ h => h) (Or.inl ⟨by rfl, fun w hSw => by go_simp⟩) hHeld ?_
        refine wpAnyH_take (i := 6) (v := .pointer (some ⟨g', off' + k * 2, none⟩)) rfl (by kernel_rfl) (by kernel_rfl) (by kernel_rfl) (fun _ _ _ h => h) (Or.inl ⟨by rfl, fun w hSw => by go_simp⟩) hHeld ?_
        refine wpAnyH_take (i := 3) (v := .agg #[.int .i64 s1, .int .i64 s2]) rfl (by kernel_rfl) (by kernel_rfl) (by kernel_rfl) (fun _ _ _ h => h) (yieldsIf_load_mid (by rfl) _ _ rfl g (off + k * 2) rfl [.int .i64 s1, .int .i64 s2] _ (fun w h j v hv => by rw [Below.cell h (p := ⟨g, off + k * 2 + j, none⟩) hgw]; exact RX.out j v hv) Try.underlying64 rfl (sizeCy _ _)) hHeld ?_
        refine wpAnyH_take (i := 7) (v := .agg #[.int .i64 t1, .int .i64 t2]) rfl (by kernel_rfl) (by kernel_rfl) (by kernel_rfl) (fun _ _ _ h => h) (yieldsIf_load_mid (by rfl) _ _ rfl g' (off' + k * 2) rfl [.int .i64 t1, .int .i64 t2] _ (fun w h j v hv => by rw [Below.cell h (p := ⟨g', off' + k * 2 + j, none⟩) hgw']; exact RY.out j v hv) Try.underlying64 rfl (sizeCy _ _)) hHeld ?_
        refine wpAnyH_ready (rs := [8]) (by kernel_rfl) (by simp) (AllReadyH.cons rfl (fun K hK => ?_) AllReadyH.nil)
        go_simp
        refine (eqC1_any s1 s2 t1 t2 _).mono ?_
        rintro e w2 ⟨rfl, b2⟩
        have hHeld2 : Below wr.heap.size wr w2 := b1.trans (b2.mono b1.size)
        have B2 : Hid (Below w.heap.size w w2) := Lib.hid (HS.out.1.trans (hHeld2.mono hsz))
        clear RX RY b1 b2 hHeld
        cases hz : (decide (s1 = t1) && decide (s2 = t2))
        · have HZ := Lib.hid hz; clear hz
          go_wp2_with fail
          refine hK.out _ _ hHeld2 (fun hHeld => ?_)
          clear hK K hHeld2
          refine wpAnyH_ready (rs := [9]) (by kernel_rfl) (by simp) (AllReadyH.cons rfl (fun K hK => ?_) AllReadyH.nil)
          go_simp
          refine hK.out _ _ hHeld (fun hHeld2 => ?_)
          clear hK K hHeld hHeld2
          refine wpAnyH_done (by kernel_rfl) ?_ _
          go_wp2_with fail
          go_ret
          exact ⟨ret_bool (eqc_no SK.out TK.out HZ.out).symm, B2.out⟩
        · have HZ := Lib.hid hz; clear hz
          go_wp2_with fail
          refine hK.out _ _ hHeld2 (fun hHeld => ?_)
          clear hK K hHeld2
          refine wpAnyH_ready (rs := [9]) (by kernel_rfl) (by simp) (AllReadyH.cons rfl (fun K hK => ?_) AllReadyH.nil)
          go_simp
          refine hK.out _ _ hHeld (fun hHeld2 => ?_)
          clear hK K hHeld hHeld2
          refine wpAnyH_done (by kernel_rfl) ?_ _
          go_wp2_with fail
          go_roundw
          case rel => exact ⟨k + 1, by omega, by go_num, HS.out.step B2.out SK.out TK.out HZ.out⟩
          case measure => simp [intOf]; omega
      · obtain rfl : k = m := by omega
        go_wp2
        go_ret
        exact ⟨ret_bool (eqc_yes LX.out LY.out HS.out.2).symm, HS.out.1⟩
  · have hb : ((n : Int) != (m : Int)) = true := by simp; omega
    have HB : Hid (eqc L M = false) := Lib.hid (eqc_len (by rw [LX.out, LY.out]; exact hnm))
    clear hnm
    go_enter Try.func26, Try.ntmps26
    go_wp2
    go_ret
    exact ⟨ret_bool HB.out.symm, Below.refl _ _⟩

set_option maxHeartbeats 1000000 in
theorem markC_any (A : Option Addr) (n c : Nat) (xs : List Value) (lo hi : Nat) (k : Int) (w : World)
    (hx : Row w lo hi A (n * 2) xs) (hn : n ≤ 1048576) (h1 : 1 ≤ k) (h2 : k + n * 2 ≤ 4611686018427387904) :
    Calls Try.prog 27 #[.slice A n c, .int .i64 k] w fun e w' => e = .returned (.int .i64 (k + (n * 2 : Nat))) ∧ Row w' lo hi A (n * 2) (V (Marks k (n * 2))) ∧ Out lo hi w w' := by
  have HX := Lib.hid hx; clear hx
  go_enter Try.func27, Try.ntmps27
  go_wp2
  go_loopw [1, 5] (fun q i wr => ∃ j : Nat, j ≤ n ∧ q = .int .i64 (k + (j * 2 : Nat)) ∧ i = .int .i64 j ∧ MarkRel A (n * 2) lo hi k w wr (j * 2)) (fun _ i _ => n - (intOf i).toNat)
  case atStart => exact ⟨0, Nat.zero_le _, by simp, rfl, xs, HX.out, fun i hi => by omega, Out.refl _ _ _⟩
  case round =>
    obtain ⟨j, hj, rfl, rfl, hm⟩ := hrel
    have HM := Lib.hid hm; clear hm
    by_cases hlt : j < n
    · obtain ⟨ys, hr, hu, hbut⟩ := HM.out
      obtain ⟨g, off, u, rfl, hbg, hgl, hyu, hcy, hfr⟩ := hr.at_ (k := j * 2) (by omega)
      obtain ⟨g_, off_, u2, e_, _, _, hyu2, hcy2, hfr2⟩ := hr.at_ (k := j * 2 + 1) (by omega)
      injection e_ with e_; injection e_ with e1_ e2_; subst e1_; subst e2_
      have R1 := Lib.hid (hr.set_ (k := j * 2) (by omega) (.int .i64 (k + (j * 2 : Nat))))
      have U1 := Lib.hid (hu.step (by have := hr.1; omega))
      have B1 := Lib.hid (hbut.set_ (off := off + j * 2) hbg hgl (.int .i64 (k + (j * 2 : Nat))))
      obtain ⟨g_, off_, u3, e_, _, _, hyu3, hcy3, hfr3⟩ := R1.out.at_ (k := j * 2 + 1) (by omega)
      injection e_ with e_; injection e_ with e1_ e2_; subst e1_; subst e2_
      have hoff : off + (j * 2 + 1) = off + j * 2 + 1 := by omega
      rw [hoff] at hcy2 hfr2 hcy3 hfr3
      clear hr hu hbut hyu hyu2 hyu3 hoff
      go_wp2
      go_roundw
      case rel =>
        refine ⟨j + 1, by omega, by go_num, by go_num, (ys.set (j * 2) (.int .i64 (k + (j * 2 : Nat)))).set (j * 2 + 1) (.int .i64 (k + (j * 2 + 1 : Nat))), ?_, ?_, ?_⟩
        · have := R1.out.set_ (k := j * 2 + 1) (by omega) (.int .i64 (k + (j * 2 + 1 : Nat)))
          simpa [Nat.add_assoc, Int.add_assoc] using this
        · have := U1.out.step (by have := R1.out.1; omega)
          rw [show (j + 1) * 2 = j * 2 + 1 + 1 by omega]
          exact this
        · have := B1.out.set_ (off := off + j * 2 + 1) hbg hgl (.int .i64 (k + (j * 2 + 1 : Nat)))
          simpa [Nat.add_assoc, Int.add_assoc] using this
      case measure => simp [intOf]; omega
    · obtain rfl : j = n := by omega
      go_wp2
      go_ret
      obtain ⟨ys, hr, hu, hbut⟩ := HM.out
      refine ⟨rfl, ?_, hbut⟩
      rw [← hu.all hr.1]; exact hr

set_option maxHeartbeats 1000000 in
theorem heldC_any (A : Option Addr) (n c : Nat) (lo hi : Nat) (k : Int) (w : World)
    (hx : Row w lo hi A (n * 2) (V (Marks k (n * 2)))) (hn : n ≤ 1048576) (h1 : 1 ≤ k) (h2 : k + n * 2 ≤ 4611686018427387904) :
    Calls Try.prog 28 #[.slice A n c, .int .i64 k] w fun e w' => e = .returned (.int .i64 (k + (n * 2 : Nat))) ∧ Drawn w w' := by
  have HX := Lib.hid hx; clear hx
  go_enter Try.func28, Try.ntmps28
  go_wp2
  go_loopw [1, 5] (fun q i wr => ∃ j : Nat, j ≤ n ∧ q = .int .i64 (k + (j * 2 : Nat)) ∧ i = .int .i64 j ∧ Drawn w wr) (fun _ i _ => n - (intOf i).toNat)
  case atStart => exact ⟨0, Nat.zero_le _, by simp, rfl, 0, rfl⟩
  case round =>
    obtain ⟨j, hj, rfl, rfl, hb⟩ := hrel
    by_cases hlt : j < n
    · obtain ⟨g, off, u, rfl, hbg, hgl, hyu, hcy, hfr⟩ := HX.out.at_ (k := j * 2) (by omega)
      obtain ⟨g_, off_, u2, e_, _, _, hyu2, hcy2, hfr2⟩ := HX.out.at_ (k := j * 2 + 1) (by omega)
      injection e_ with e_; injection e_ with e1_ e2_; subst e1_; subst e2_
      rw [marks_at (show j * 2 < n * 2 by omega)] at hyu
      rw [marks_at (show j * 2 + 1 < n * 2 by omega)] at hyu2
      obtain rfl := Option.some.inj hyu
      obtain rfl := Option.some.inj hyu2
      rw [← hb.cell] at hcy hcy2
      rw [show off + (j * 2 + 1) = off + j * 2 + 1 by omega] at hcy2
      have q1 : (k + (j * 2 : Nat) != k + (j * 2 : Nat)) = false := by simp
      have q2 : (k + (j * 2 + 1 : Nat) != k + (j * 2 : Nat) + 1) = false := by simp; omega
      have HB := Lib.hid hb; clear hb hyu hyu2 hfr hfr2
      go_wp2
      go_roundw
      case rel => exact ⟨j + 1, by omega, by go_num, by go_num, HB.out⟩
      case measure => simp [intOf]; omega
    · obtain rfl : j = n := by omega
      go_wp2
      go_ret
      exact ⟨rfl, hb⟩
end Go.Proofs.Ytpbbfbpggedgpaa.cy
