/-
  Contracts of RenamePerm, of the model and of the program.
-/
import Derived.Test.YtabiakcndddmkaaMB
import Derived.Test.YtabiakcndddmkaaMA
import Derived.RegionTactic
import Derived.BigRegion
namespace Go.Proofs.Ytabiakcndddmkaa.fns
open Go.ChangeShapes Go.WideShapes Go.ChangeAt Go.RowKit
open Go.Proofs.Ytabiakcndddmkaa.mem Go.Proofs.Ytabiakcndddmkaa.ints Go.Proofs.Ytabiakcndddmkaa.arr Go.Proofs.Ytabiakcndddmkaa.pm Go.Proofs.Ytabiakcndddmkaa.permOk Go.Proofs.Ytabiakcndddmkaa.permOf Go.Proofs.Ytabiakcndddmkaa.inv
set_option linter.unusedVariables false
set_option maxRecDepth 100000

theorem Made.drew {n : Nat} {w wr : World} {l : List Int} (h : Made n w wr l) : Made n w wr.drew l := ⟨h.1.drew, ⟨h.2.os, h.2.tape, h.2.output, h.2.size, h.2.block⟩⟩
set_option maxHeartbeats 1000000 in
theorem l02ren_any (A : Option Addr) (n c : Nat) (B : Option Addr) (m d : Nat) (xs ys : List Int) (h1 h2 : Nat) (w : World) (hx : Rd w h1 A n (V xs)) (hy : Rd w h2 B m (V ys)) (ok : Ok xs) (oky : Ok ys) (hnm : n = m) :
    Calls Try.prog 48 #[.slice A n c, .slice B m d] w (Gives (renTo n xs ys n) w) := by
  subst hnm
  obtain ⟨i0, hi0, hz0, hz1, hz2⟩ := info_parts infoI
  have lx : xs.length = n := by simpa [V] using hx.1
  have ly : ys.length = n := by simpa [V] using hy.1
  have hn : n ≤ 24 := by have := ok.len; omega
  have LX := Lib.hid lx; have LY := Lib.hid ly; clear lx ly
  have OK := Lib.hid ok; have OKY := Lib.hid oky; clear ok oky
  have HX := Lib.hid hx; have HY := Lib.hid hy; clear hx hy
  have HZ2 := Lib.hid hz2; clear hz2
  go_enter Try.func48, Try.ntmps48
  go_wp2_with (at_make; refine wpList_make_full _ rfl _ _ 22 rfl w.heap.size 3 i0 _ 1 Try.underlying22 hi0 hz0 hz1 _ _ _ _ n rfl rfl rfl rfl ?b2 ?b3 (Nat.le_refl _) ?_)
  case b2 => rw [HZ2.out]; omega
  case b3 => unfold maxLen; omega
  intro w1 hown hg
  have hb1 : Below w.heap.size w w1 := (Below.refl _ _).grown hg (Nat.le_refl _) (by simp)
  have HM : Hid (Made n w w1 (renTo n xs ys 0)) := Lib.hid ⟨by simpa [renTo, setTo, V, toList_madeCells_one] using hown, hb1⟩
  clear hown hg hb1
  go_wp2
  go_loopw [13] (fun i wr => ∃ k : Nat, k ≤ n ∧ i = .int .i64 k ∧ Made n w wr (renTo n xs ys k)) (fun i _ => n - (intOf i).toNat)
  case atStart => exact ⟨0, Nat.zero_le _, rfl, HM.out⟩
  case round =>
    obtain ⟨k, hk, rfl, hm⟩ := hrel
    have HR := Lib.hid hm; clear hm HM
    by_cases hlt : k < n
    · obtain ⟨g, off, u, rfl, hgl, hxu, hcx⟩ := HX.out.at_ hlt
      obtain ⟨s, hxs, rfl⟩ := V_at hxu
      obtain ⟨z, hz, hqz, hqd⟩ := Ok.nat OK.out (k := k) (by rw [LX.out]; exact hlt)
      rw [hqz] at hxs
      obtain rfl := Option.some.inj hxs
      rw [LX.out] at hz
      obtain ⟨g', off', u', e', hgl', hyu, hcy⟩ := HY.out.at_ hz
      obtain ⟨t, hyt, rfl⟩ := V_at hyu
      obtain ⟨g2, off2, u2, rfl, hgl2, hyu2, hcy2⟩ := HY.out.at_ hlt
      injection e' with e'; injection e' with e1 e2; subst e1; subst e2
      obtain ⟨t2, hyt2, rfl⟩ := V_at hyu2
      obtain ⟨z2, hz2, hqz2, hqd2⟩ := Ok.nat OKY.out (k := k) (by rw [LY.out]; exact hlt)
      rw [hqz2] at hyt2
      obtain rfl := Option.some.inj hyt2
      rw [LY.out] at hz2
      have hgw : g < w.heap.size := Nat.lt_of_lt_of_le hgl HX.out.2.1
      have hgw' : g2 < w.heap.size := Nat.lt_of_lt_of_le hgl' HY.out.2.1
      rw [← HR.out.2.cell (p := ⟨g, off + k, none⟩) hgw] at hcx
      rw [← HR.out.2.cell (p := ⟨g2, off2 + z, none⟩) hgw'] at hcy
      rw [← HR.out.2.cell (p := ⟨g2, off2 + k, none⟩) hgw'] at hcy2
      have hc := HR.out.cell hz2
      have hf := HR.out.1.frozenAt z2
      have HD := Lib.hid hqd; have HD2 := Lib.hid hqd2; have HT := Lib.hid (permOk.getD_of hyt); clear hqd hqz hxs hxu hyu hyt hqz2 hqd2 hyt2 hyu2
      go_wp2
      go_region
      go_wp2
      go_roundw
      case rel =>
        refine ⟨k + 1, by omega, by go_num, ?_⟩
        rw [renTo_succ, HD.out, HD2.out, Int.toNat_natCast, Int.toNat_natCast, HT.out]
        exact (HR.out.set_ z2 _).drew
      case measure => simp [intOf]; omega
    · obtain rfl : k = n := by omega
      go_wp2
      go_ret
      exact ⟨_, rfl, by rw [renTo_len]; exact HR.out.1, HR.out.2⟩

/-- All below base is as it was, and 'top' blocks are there. -/
structure Kp (base top : Nat) (w w' : World) : Prop where
  below : Below base w w'
  size : top ≤ w'.heap.size
theorem range_arr {w : World} {g : Nat} {cs : List Value} {t : TypeId} (h : Arr w g cs t) : w.rangeAt g 0 cs := fun j v hv => by rw [Nat.zero_add]; exact h.cell hv
theorem Kp.start {base a b top : Nat} {w W : World} {xs ys : List Value} {t : TypeId} (h1 : Arr W a xs t) (h2 : Arr W b ys t) (hb : Below base w W) (hs : top ≤ W.heap.size) :
    W.drew.rangeAt a 0 xs ∧ W.drew.rangeAt b 0 ys ∧ Kp base top w W.drew :=
  ⟨by simpa using range_arr h1, by simpa using range_arr h2, ⟨hb.os, hb.tape, hb.output, hb.size, hb.block⟩, hs⟩
theorem Kp.later {base a b top : Nat} {w W W' : World} {xs ys : List Value} (ha : a < top) (hb : b < top) (h : W.rangeAt a 0 xs ∧ W.rangeAt b 0 ys ∧ Kp base top w W) (hB : Below W.heap.size W W') (hw : base ≤ top) :
    W'.rangeAt a 0 xs ∧ W'.rangeAt b 0 ys ∧ Kp base top w W' := by
  obtain ⟨h1, h2, h3⟩ := h
  have hs := h3.size
  refine ⟨fun j v hv => ?_, fun j v hv => ?_, h3.below.trans (hB.mono (by omega)), Nat.le_trans hs hB.size⟩
  · rw [hB.cell (p := ⟨a, 0 + j, none⟩) (show a < _ by omega)]; exact h1 j v hv
  · rw [hB.cell (p := ⟨b, 0 + j, none⟩) (show b < _ by omega)]; exact h2 j v hv

end Go.Proofs.Ytabiakcndddmkaa.fns
