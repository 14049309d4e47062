/-
  Contracts of RenamePerm, of the model and of the program.
-/
import Derived.Test.YtjnmgpdjolaleaaFns4
import Derived.Test.YtjnmgpdjolaleaaPm3
import Derived.RegionTactic
import Derived.BigRegion
namespace Go.Proofs.Ytjnmgpdjolaleaa.fns
open Go.ChangeShapes Go.WideShapes Go.ChangeAt Go.RowKit
open Go.Proofs.Ytjnmgpdjolaleaa.mem Go.Proofs.Ytjnmgpdjolaleaa.ints Go.Proofs.Ytjnmgpdjolaleaa.arr Go.Proofs.Ytjnmgpdjolaleaa.pm Go.Proofs.Ytjnmgpdjolaleaa.permOk Go.Proofs.Ytjnmgpdjolaleaa.permOf Go.Proofs.Ytjnmgpdjolaleaa.inv
set_option linter.unusedVariables false

theorem Made.drew {n : Nat} {w wr : World} {l : List Int} (h : Made n w wr l) : Made n w wr.drew l := ⟨h.1.drew, ⟨h.2.os, h.2.tape, h.2.output, h.2.size, h.2.block⟩⟩
set_option maxHeartbeats 1000000 in
theorem l02ren_any (A : Option Addr) (n c : Nat) (B : Option Addr) (m d : Nat) (xs ys : List Int) (h1 h2 : Nat) (w : World) (hx : Rd w h1 A n (V xs)) (hy : Rd w h2 B m (V ys)) (ok : Ok xs) (oky : Ok ys) (hnm : n = m) :
    Calls Try.prog 55 #[.slice A n c, .slice B m d] w (Gives (renTo n xs ys n) w) := by
  subst hnm
  obtain ⟨i0, hi0, hz0, hz1, hz2⟩ := info_parts infoI
  have lx : xs.length = n := by simpa [V] using hx.1
  have ly : ys.length = n := by simpa [V] using hy.1
  have hn : n ≤ 24 := by have := ok.len; omega
  have LX := Lib.hid lx; have LY := Lib.hid ly; clear lx ly
  have OK := Lib.hid ok; have OKY := Lib.hid oky; clear ok oky
  have HX := Lib.hid hx; have HY := Lib.hid hy; clear hx hy
  have HZ2 := Lib.hid hz2; clear hz2
  go_enter Try.func55, Try.ntmps55
  go_wp2_with (at_make; refine wpList_make_full _ rfl _ _ 24 rfl w.heap.size 3 i0 _ 1 Try.underlying24 hi0 hz0 hz1 _ _ _ _ n rfl rfl rfl rfl ?b2 ?b3 (Nat.le_refl _) ?_)
  case b2 => rw [HZ2.out]; omega
  case b3 => unfold maxLen; omega
  intro w1 hown hg
  have hb1 : Below w.heap.size w w1 := (Below.refl _ _).grown hg (Nat.le_refl _) (by simp)
  have HM : Hid (Made n w w1 (renTo n xs ys 0)) := Lib.hid ⟨by simpa [renTo, setTo, V, toList_madeCells_one] using hown, hb1⟩
  clear hown hg hb1
  go_wp2
  go_loopw [13] (fun i wr => ∃ k : Nat, k ≤ n ∧ i = .int .i64 k ∧ Made n w wr (renTo n xs ys k)) (fun i _ => n - (intOf i).toNat)
  case atStart => exact ⟨0, Nat.zero_le _, rfl, HM.out⟩
  case round =>
    obtain ⟨k, hk, rfl, hm⟩ := hrel
    have HR := Lib.hid hm; clear hm HM
    by_cases hlt : k < n
    · obtain ⟨g, off, u, rfl, hgl, hxu, hcx⟩ := HX.out.at_ hlt
      obtain ⟨s, hxs, rfl⟩ := V_at hxu
      obtain ⟨z, hz, hqz, hqd⟩ := Ok.nat OK.out (k := k) (by rw [LX.out]; exact hlt)
      rw [hqz] at hxs
      obtain rfl := Option.some.inj hxs
      rw [LX.out] at hz
      obtain ⟨g', off', u', e', hgl', hyu, hcy⟩ := HY.out.at_ hz
      obtain ⟨t, hyt, rfl⟩ := V_at hyu
      obtain ⟨g2, off2, u2, rfl, hgl2, hyu2, hcy2⟩ := HY.out.at_ hlt
      injection e' with e'; injection e' with e1 e2; subst e1; subst e2
      obtain ⟨t2, hyt2, rfl⟩ := V_at hyu2
      obtain ⟨z2, hz2, hqz2, hqd2⟩ := Ok.nat OKY.out (k := k) (by rw [LY.out]; exact hlt)
      rw [hqz2] at hyt2
      obtain rfl := Option.some.inj hyt2
      rw [LY.out] at hz2
      have hgw : g < w.heap.size := Nat.lt_of_lt_of_le hgl HX.out.2.1
      have hgw' : g2 < w.heap.size := Nat.lt_of_lt_of_le hgl' HY.out.2.1
      rw [← HR.out.2.cell (p := ⟨g, off + k, none⟩) hgw] at hcx
      rw [← HR.out.2.cell (p := ⟨g2, off2 + z, none⟩) hgw'] at hcy
      rw [← HR.out.2.cell (p := ⟨g2, off2 + k, none⟩) hgw'] at hcy2
      have hc := HR.out.cell hz2
      have hf := HR.out.1.frozenAt z2
      have HD := Lib.hid hqd; have HD2 := Lib.hid hqd2; have HT := Lib.hid (permOk.getD_of hyt); clear hqd hqz hxs hxu hyu hyt hqz2 hqd2 hyt2 hyu2
      go_wp2
      go_region
      go_wp2
      go_roundw
      case rel =>
        refine ⟨k + 1, by omega, by go_num, ?_⟩
        rw [renTo_succ, HD.out, HD2.out, Int.toNat_natCast, Int.toNat_natCast, HT.out]
        exact (HR.out.set_ z2 _).drew
      case measure => simp [intOf]; omega
    · obtain rfl : k = n := by omega
      go_wp2
      go_ret
      exact ⟨_, rfl, by rw [renTo_len]; exact HR.out.1, HR.out.2⟩

set_option maxHeartbeats 1000000 in
theorem ren_spec0 (A : Option Addr) (n c : Nat) (xs : List Int) (B : Option Addr) (m d : Nat) (ys : List Int) (h1 h2 : Nat) (w : World) (hx : Rd w h1 A n (V xs)) (hy : Rd w h2 B m (V ys)) (hn : n ≤ 1048576) (hm : m ≤ 1048576) (hc : n ≤ c) (hd : m ≤ d) :
    Calls Try.prog 34 #[.slice A n c, .slice B m d] w (Gives (renF xs ys) w) := by
  have lx : xs.length = n := by simpa [V] using hx.1
  have ly : ys.length = m := by simpa [V] using hy.1
  have LX := Lib.hid lx; have LY := Lib.hid ly; clear lx ly
  have HX := Lib.hid hx; have HY := Lib.hid hy; clear hx hy
  by_cases hall : okB xs = true ∧ okB ys = true ∧ n = m
  · obtain ⟨ox, oy, rfl⟩ := hall
    have HF : Hid (renF xs ys = renTo n xs ys n) := Lib.hid (by simp [renF, okBB, ox, oy, LX.out, LY.out])
    have OK := Lib.hid (Ok.of xs ox); have OKY := Lib.hid (Ok.of ys oy); have HOX := Lib.hid ox; have HOY := Lib.hid oy; clear ox oy
    go_enter Try.func34, Try.ntmps34
    go_wp2_with fail
    refine (permOk.spec_any A n c xs _ _ HX.out hn hc).mono ?_
    rintro e w1 ⟨rfl, rfl⟩
    rw [HOX.out]
    go_wp2_with fail
    refine (permOk.spec_any B n d ys _ _ HY.out hm hd).mono ?_
    rintro e w1 ⟨rfl, rfl⟩
    rw [HOY.out]
    go_wp2_with fail
    refine (l02ren_any A n c B n d xs ys _ _ _ HX.out HY.out OK.out OKY.out rfl).mono ?_
    rintro e w3 hg
    rw [← HF.out] at hg
    obtain ⟨v, rfl, ho, hb⟩ := hg
    have HOW := Lib.hid ho; have HB := Lib.hid hb; clear ho hb
    go_wp2_with fail
    go_ret
    exact ⟨v, rfl, HOW.out, HB.out⟩
  · have HF : Hid (renF xs ys = []) := Lib.hid (by
      unfold renF
      rw [if_neg]
      intro h
      rw [okBB_iff, LX.out, LY.out] at h
      exact hall h)
    rw [HF.out]
    by_cases ox : okB xs = true
    · by_cases oy : okB ys = true
      · have hne : n ≠ m := fun e => hall ⟨ox, oy, e⟩
        have hb : ((n : Int) != (m : Int)) = true := by simp; omega
        have HOX := Lib.hid ox; have HOY := Lib.hid oy; clear ox oy hall
        go_enter Try.func34, Try.ntmps34
        go_wp2_with fail
        refine (permOk.spec_any A n c xs _ _ HX.out hn hc).mono ?_
        rintro e w1 ⟨rfl, rfl⟩
        rw [HOX.out]
        go_wp2_with fail
        refine (permOk.spec_any B m d ys _ _ HY.out hm hd).mono ?_
        rintro e w1 ⟨rfl, rfl⟩
        rw [HOY.out]
        go_wp2_with fail
        go_ret
        exact gives_nil (Below.refl _ _)
      · have oy' : okB ys = false := by simpa using oy
        have HOX := Lib.hid ox; have HOY := Lib.hid oy'; clear ox oy oy' hall
        go_enter Try.func34, Try.ntmps34
        go_wp2_with fail
        refine (permOk.spec_any A n c xs _ _ HX.out hn hc).mono ?_
        rintro e w1 ⟨rfl, rfl⟩
        rw [HOX.out]
        go_wp2_with fail
        refine (permOk.spec_any B m d ys _ _ HY.out hm hd).mono ?_
        rintro e w1 ⟨rfl, rfl⟩
        rw [HOY.out]
        go_wp2_with fail
        go_ret
        exact gives_nil (Below.refl _ _)
    · have ox' : okB xs = false := by simpa using ox
      have HOX := Lib.hid ox'; clear ox ox' hall
      go_enter Try.func34, Try.ntmps34
      go_wp2_with fail
      refine (permOk.spec_any A n c xs _ _ HX.out hn hc).mono ?_
      rintro e w1 ⟨rfl, rfl⟩
      rw [HOX.out]
      go_wp2_with fail
      go_ret
      exact gives_nil (Below.refl _ _)
theorem ren_spec (A : Option Addr) (n c : Nat) (xs : List Int) (B : Option Addr) (m d : Nat) (ys : List Int) (h1 h2 : Nat) (w : World) (hx : Rd w h1 A n (V xs)) (hy : Rd w h2 B m (V ys)) (hn : n ≤ 1048576) (hm : m ≤ 1048576) (hc : n ≤ c) (hd : m ≤ d) :
    Calls Try.prog 34 #[.slice A n c, .slice B m d] w fun e w' => ∃ v, e = .returned v ∧ w'.ownsRow w.heap.size 3 1 v (renF xs ys).length (V (renF xs ys)) ∧ Below w.heap.size w w' :=
  ren_spec0 A n c xs B m d ys h1 h2 w hx hy hn hm hc hd


/-- All below base is as it was, and 'top' blocks are there. -/
structure Kp (base top : Nat) (w w' : World) : Prop where
  below : Below base w w'
  size : top ≤ w'.heap.size
theorem range_arr {w : World} {g : Nat} {cs : List Value} {t : TypeId} (h : Arr w g cs t) : w.rangeAt g 0 cs := fun j v hv => by rw [Nat.zero_add]; exact h.cell hv
theorem Kp.start {base a b top : Nat} {w W : World} {xs ys : List Value} {t : TypeId} (h1 : Arr W a xs t) (h2 : Arr W b ys t) (hb : Below base w W) (hs : top ≤ W.heap.size) :
    W.drew.rangeAt a 0 xs ∧ W.drew.rangeAt b 0 ys ∧ Kp base top w W.drew :=
  ⟨by simpa using range_arr h1, by simpa using range_arr h2, ⟨hb.os, hb.tape, hb.output, hb.size, hb.block⟩, hs⟩
theorem Kp.later {base a b top : Nat} {w W W' : World} {xs ys : List Value} (ha : a < top) (hb : b < top) (h : W.rangeAt a 0 xs ∧ W.rangeAt b 0 ys ∧ Kp base top w W) (hB : Below W.heap.size W W') (hw : base ≤ top) :
    W'.rangeAt a 0 xs ∧ W'.rangeAt b 0 ys ∧ Kp base top w W' := by
  obtain ⟨h1, h2, h3⟩ := h
  have hs := h3.size
  refine ⟨fun j v hv => ?_, fun j v hv => ?_, h3.below.trans (hB.mono (by omega)), Nat.le_trans hs hB.size⟩
  · rw [hB.cell (p := ⟨a, 0 + j, none⟩) (show a < _ by omega)]; exact h1 j v hv
  · rw [hB.cell (p := ⟨b, 0 + j, none⟩) (show b < _ by omega)]; exact h2 j v hv

set_option maxHeartbeats 2000000 in
theorem ren_impl0 (A : Option Addr) (n c : Nat) (xs : List Int) (B : Option Addr) (m d : Nat) (ys : List Int) (h1 h2 : Nat) (w : World) (hx : Rd w h1 A n (V xs)) (hy : Rd w h2 B m (V ys)) (hn : n ≤ 1048576) (hm : m ≤ 1048576) :
    Calls Try.prog 17 #[.slice A n c, .slice B m d] w (Gives (renF xs ys) w) := by
  have lx : xs.length = n := by simpa [V] using hx.1
  have ly : ys.length = m := by simpa [V] using hy.1
  have LX := Lib.hid lx; have LY := Lib.hid ly; clear lx ly
  have HX := Lib.hid hx; have HY := Lib.hid hy; clear hx hy
  by_cases hall : okBB xs ys = true
  · obtain ⟨ox, oy, el⟩ := okBB_iff.1 hall
    have OX := Lib.hid (Ok.of xs ox); have OY := Lib.hid (Ok.of ys oy)
    have hn24 : n ≤ 24 := by have := OX.out.len; rw [LX.out] at this; exact this
    have HF : Hid (renF xs ys = (thenL (thenL (invTo 24 (ext ys) 24) (ext xs)) (ext ys)).take n) := Lib.hid (by rw [← LX.out, take_ren OX.out OY.out el]; simp [renF, hall])
    have HA := Lib.hid hall; clear hall ox oy el
    go_enter Try.func17, Try.ntmps17
    go_wp2_with fail
    refine (permsOf_any A n c B m d xs ys _ _ _ HX.out HY.out hn hm HX.out.2.1 HY.out.2.1).mono ?_
    rintro e w1 ⟨rfl, b1⟩
    rw [HA.out, if_pos rfl, if_pos rfl]
    have B1 := Lib.hid b1; clear b1
    go_wp2_with (first | (refine wpList_store_row rfl 44 (.tmp 5) (.tmp 12) rfl w1.heap.size (V (ext xs)).toArray rfl rfl 44 (V zeros).toArray ((Arr.new w1 (V zeros) _ rfl).alloc _) (size_V (ext_len _)) (by simp [V_len, ext_len, zeros]) (one_V _) ?_; generalize hw3 : ((w1.alloc (.cells #[.int .i64 0, .int .i64 0, .int .i64 0, .int .i64 0, .int .i64 0, .int .i64 0, .int .i64 0, .int .i64 0, .int .i64 0, .int .i64 0, .int .i64 0, .int .i64 0, .int .i64 0, .int .i64 0, .int .i64 0, .int .i64 0, .int .i64 0, .int .i64 0, .int .i64 0, .int .i64 0, .int .i64 0, .int .i64 0, .int .i64 0, .int .i64 0] 44)).alloc (.cells #[.int .i64 0, .int .i64 0, .int .i64 0, .int .i64 0, .int .i64 0, .int .i64 0, .int .i64 0, .int .i64 0, .int .i64 0, .int .i64 0, .int .i64 0, .int .i64 0, .int .i64 0, .int .i64 0, .int .i64 0, .int .i64 0, .int .i64 0, .int .i64 0, .int .i64 0, .int .i64 0, .int .i64 0, .int .i64 0, .int .i64 0, .int .i64 0] 44)).setRow w1.heap.size (V (ext xs)).toArray = w3; have S1 : Hid (Arr w3 w1.heap.size (V (ext xs)) 44) := Lib.hid (by rw [← hw3]; exact ((Arr.new w1 (V zeros) _ rfl).alloc _).row); have S2 : Hid (Arr w3 (w1.heap.size + 1) (V zeros) 44) := Lib.hid (by rw [← hw3]; exact (Arr.new _ (V zeros) _ (by simp)).rowOther (by omega)); have B3 : Hid (Below w.heap.size w w3) := Lib.hid (by rw [← hw3]; exact arr.below_setRow ((B1.out.alloc B1.out.size _).alloc (by have := B1.out.size; simp; omega) _) B1.out.size _); clear hw3) | (refine wpList_store_row rfl 44 (.tmp 6) (.tmp 13) rfl (w1.heap.size + 1) (V (ext ys)).toArray rfl rfl 44 (V zeros).toArray S2.out (size_V (ext_len _)) (by simp [V_len, ext_len, zeros]) (one_V _) ?_; generalize hw4 : w3.setRow (w1.heap.size + 1) (V (ext ys)).toArray = w4; have T1 : Hid (Arr w4 w1.heap.size (V (ext xs)) 44) := Lib.hid (by rw [← hw4]; exact S1.out.rowOther (by omega)); have T2 : Hid (Arr w4 (w1.heap.size + 1) (V (ext ys)) 44) := Lib.hid (by rw [← hw4]; exact S2.out.row); have B4 : Hid (Below w.heap.size w w4) := Lib.hid (by rw [← hw4]; exact arr.below_setRow B3.out (by have := B1.out.size; omega) _); clear hw4 S1 S2 B3))
    have hsz : w1.heap.size + 2 ≤ w4.heap.size := T2.out.lt
    have hw0 : w.heap.size ≤ w1.heap.size + 2 := by have := B1.out.size; omega
    have hu := Try.underlying44
    have hi1 : (Try.prog.info? 44).map (·.size) = some (V (ext xs)).length := by rw [info44, V_len, ext_len]
    have hi2 : (Try.prog.info? 44).map (·.size) = some (V (ext ys)).length := by rw [info44, V_len, ext_len]
    refine wp_region_held_drew (S := fun w' => w'.rangeAt w1.heap.size 0 (V (ext xs)) ∧ w'.rangeAt (w1.heap.size + 1) 0 (V (ext ys)) ∧ Kp w.heap.size (w1.heap.size + 2) w w') (by kernel_rfl) (Kp.start T1.out T2.out B4.out hsz) (fun hHeld => ?_)
    generalize w4.drew = w5 at *
    refine wpAnyH_take (i := 0) (v := .agg (V (ext ys)).toArray) rfl (by kernel_rfl) (by kernel_rfl) (by kernel_rfl) (fun _ _ _ h => h) (yieldsIf_load_mid (by rfl) _ _ rfl _ _ rfl (V (ext ys)) _ (fun w h => h.2.1) hu rfl hi2) hHeld ?_
    refine wpAnyH_take (i := 2) (v := .agg (V (ext xs)).toArray) rfl (by kernel_rfl) (by kernel_rfl) (by kernel_rfl) (fun _ _ _ h => h) (yieldsIf_load_mid (by rfl) _ _ rfl _ _ rfl (V (ext xs)) _ (fun w h => h.1) hu rfl hi1) hHeld ?_
    refine wpAnyH_take (i := 4) (v := .agg (V (ext ys)).toArray) rfl (by kernel_rfl) (by kernel_rfl) (by kernel_rfl) (fun _ _ _ h => h) (yieldsIf_load_mid (by rfl) _ _ rfl _ _ rfl (V (ext ys)) _ (fun w h => h.2.1) hu rfl hi2) hHeld ?_
    refine wpAnyH_take (i := 6) (v := .slice A n c) rfl (by kernel_rfl) (by kernel_rfl) (by kernel_rfl) (fun _ _ _ h => h) (Or.inl ⟨by rfl, fun w hSw => by go_simp⟩) hHeld ?_
    refine wpAnyH_take (i := 7) (v := .int .i64 n) rfl (by kernel_rfl) (by kernel_rfl) (by kernel_rfl) (fun _ _ _ h => h) (Or.inl ⟨by rfl, fun w hSw => by go_simp⟩) hHeld ?_
    refine wpAnyH_ready (rs := [1]) (by kernel_rfl) (by simp) (AllReadyH.cons rfl (fun K hK => ?_) AllReadyH.nil)
    go_simp
    refine (inverse_any (ext ys) _ OY.out.sq).mono ?_
    rintro e w' ⟨rfl, b1⟩
    go_wp2_with fail
    refine hK.out _ _ (Kp.later (by omega) (by omega) hHeld b1 hw0) (fun hHeld' => ?_)
    clear hK K hHeld
    have hHeld := hHeld'; clear hHeld'
    refine wpAnyH_ready (rs := [3]) (by kernel_rfl) (by simp) (AllReadyH.cons rfl (fun K hK => ?_) AllReadyH.nil)
    go_simp
    refine (inv.then_any (invTo 24 (ext ys) 24) (ext xs) _ (inv_sq _) OX.out.sq).mono ?_
    rintro e w' ⟨rfl, b1⟩
    go_wp2_with fail
    refine hK.out _ _ (Kp.later (by omega) (by omega) hHeld b1 hw0) (fun hHeld' => ?_)
    clear hK K hHeld
    have hHeld := hHeld'; clear hHeld'
    refine wpAnyH_ready (rs := [5]) (by kernel_rfl) (by simp) (AllReadyH.cons rfl (fun K hK => ?_) AllReadyH.nil)
    go_simp
    refine (inv.then_any (thenL (invTo 24 (ext ys) 24) (ext xs)) (ext ys) _ (then_sq (inv_sq _) OX.out.sq) OY.out.sq).mono ?_
    rintro e w' ⟨rfl, b1⟩
    go_wp2_with fail
    refine hK.out _ _ (Kp.later (by omega) (by omega) hHeld b1 hw0) (fun hHeld' => ?_)
    clear hK K hHeld
    have B5 := Lib.hid hHeld'.2.2.below; have hHeld := hHeld'; clear hHeld' b1
    refine wpAnyH_ready (rs := [8]) (by kernel_rfl) (by simp) (AllReadyH.cons rfl (fun K hK => ?_) AllReadyH.nil)
    go_simp
    refine (list_gives (thenL (thenL (invTo 24 (ext ys) 24) (ext xs)) (ext ys)) n _ (tab_len _) hn24).mono ?_
    rintro e w' hg
    have hg2 := hg
    rw [← HF.out] at hg2
    obtain ⟨v, rfl, ho, hb⟩ := gives_later B5.out hg2
    obtain ⟨v', hv', ho', b1⟩ := hg
    obtain rfl : v = v' := by injection hv'
    have HOW := Lib.hid ho; have HB := Lib.hid hb; clear ho hb ho' hg2 hv' HF
    go_wp2_with fail
    refine hK.out _ _ (Kp.later (by omega) (by omega) hHeld b1 hw0) (fun hHeld' => ?_)
    clear hK K hHeld
    have hHeld := hHeld'; clear hHeld'
    refine wpAnyH_ready (rs := [9]) (by kernel_rfl) (by simp) (AllReadyH.cons rfl (fun K hK => ?_) AllReadyH.nil)
    go_simp
    refine hK.out _ _ hHeld (fun hHeld' => ?_)
    clear hK K hHeld'
    refine wpAnyH_done (by kernel_rfl) ?_ _
    go_wp2
    go_ret
    exact ⟨v, rfl, HOW.out, HB.out⟩
  · have hall' : okBB xs ys = false := by simpa using hall
    have HF : Hid (renF xs ys = []) := Lib.hid (by simp [renF, hall'])
    have HA := Lib.hid hall'; clear hall hall'
    rw [HF.out]
    go_enter Try.func17, Try.ntmps17
    go_wp2_with fail
    refine (permsOf_any A n c B m d xs ys _ _ _ HX.out HY.out hn hm HX.out.2.1 HY.out.2.1).mono ?_
    rintro e w1 ⟨rfl, b1⟩
    rw [HA.out, if_neg (by decide), if_neg (by decide)]
    have B1 := Lib.hid b1; clear b1
    go_wp2_with (first | (refine wpList_store_row rfl 44 (.tmp 5) (.tmp 12) rfl w1.heap.size (V zeros).toArray rfl rfl 44 (V zeros).toArray ((Arr.new w1 (V zeros) _ rfl).alloc _) (size_V zeros_len) rfl (one_V _) ?_; generalize hw3 : ((w1.alloc (.cells #[.int .i64 0, .int .i64 0, .int .i64 0, .int .i64 0, .int .i64 0, .int .i64 0, .int .i64 0, .int .i64 0, .int .i64 0, .int .i64 0, .int .i64 0, .int .i64 0, .int .i64 0, .int .i64 0, .int .i64 0, .int .i64 0, .int .i64 0, .int .i64 0, .int .i64 0, .int .i64 0, .int .i64 0, .int .i64 0, .int .i64 0, .int .i64 0] 44)).alloc (.cells #[.int .i64 0, .int .i64 0, .int .i64 0, .int .i64 0, .int .i64 0, .int .i64 0, .int .i64 0, .int .i64 0, .int .i64 0, .int .i64 0, .int .i64 0, .int .i64 0, .int .i64 0, .int .i64 0, .int .i64 0, .int .i64 0, .int .i64 0, .int .i64 0, .int .i64 0, .int .i64 0, .int .i64 0, .int .i64 0, .int .i64 0, .int .i64 0] 44)).setRow w1.heap.size (V zeros).toArray = w3; have S1 : Hid (Arr w3 w1.heap.size (V zeros) 44) := Lib.hid (by rw [← hw3]; exact ((Arr.new w1 (V zeros) _ rfl).alloc _).row); have S2 : Hid (Arr w3 (w1.heap.size + 1) (V zeros) 44) := Lib.hid (by rw [← hw3]; exact (Arr.new _ (V zeros) _ (by simp)).rowOther (by omega)); have B3 : Hid (Below w.heap.size w w3) := Lib.hid (by rw [← hw3]; exact arr.below_setRow ((B1.out.alloc B1.out.size _).alloc (by have := B1.out.size; simp; omega) _) B1.out.size _); clear hw3) | (refine wpList_store_row rfl 44 (.tmp 6) (.tmp 13) rfl (w1.heap.size + 1) (V zeros).toArray rfl rfl 44 (V zeros).toArray S2.out (size_V zeros_len) rfl (one_V _) ?_; generalize hw4 : w3.setRow (w1.heap.size + 1) (V zeros).toArray = w4; have T1 : Hid (Arr w4 w1.heap.size (V zeros) 44) := Lib.hid (by rw [← hw4]; exact S1.out.rowOther (by omega)); have T2 : Hid (Arr w4 (w1.heap.size + 1) (V zeros) 44) := Lib.hid (by rw [← hw4]; exact S2.out.row); have B4 : Hid (Below w.heap.size w w4) := Lib.hid (by rw [← hw4]; exact arr.below_setRow B3.out (by have := B1.out.size; omega) _); clear hw4 S1 S2 B3))
    go_ret
    exact gives_nil B4.out
theorem ren_impl (A : Option Addr) (n c : Nat) (xs : List Int) (B : Option Addr) (m d : Nat) (ys : List Int) (h1 h2 : Nat) (w : World) (hx : Rd w h1 A n (V xs)) (hy : Rd w h2 B m (V ys)) (hn : n ≤ 1048576) (hm : m ≤ 1048576) :
    Calls Try.prog 17 #[.slice A n c, .slice B m d] w fun e w' => ∃ v, e = .returned v ∧ w'.ownsRow w.heap.size 3 1 v (renF xs ys).length (V (renF xs ys)) ∧ Below w.heap.size w w' :=
  ren_impl0 A n c xs B m d ys h1 h2 w hx hy hn hm

end Go.Proofs.Ytjnmgpdjolaleaa.fns
