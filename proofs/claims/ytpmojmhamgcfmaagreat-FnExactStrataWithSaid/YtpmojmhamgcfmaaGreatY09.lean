import Derived.Test.YtpmojmhamgcfmaaGreatY01
import Derived.Test.YtpmojmhamgcfmaaGreatY07
import Derived.Test.YtpmojmhamgcfmaaGreatY08
import Derived.Test.YtpmojmhamgcfmaaGreatY03
import Derived.RegionTactic
import Derived.BigRegion
import Derived.Test.YtpmojmhamgcfmaaGreatY05
import Derived.Laws.Tables
import Derived.Deep.MidRow
/-
  Contracts of spec.SameList, slices.Equal at ints, impl.SameList.
-/
namespace Go.Proofs.YtpmojmhamgcfmaaGreat.same
open Go.ChangeShapes Go.WideShapes Go.ChangeAt Go.RowKit
open Go.Proofs.YtpmojmhamgcfmaaGreat.mem Go.Proofs.YtpmojmhamgcfmaaGreat.ints
set_option linter.unusedVariables false
set_option maxRecDepth 100000

set_option maxHeartbeats 400000 in
theorem spec_any (A : Option Addr) (n c : Nat) (B : Option Addr) (m d : Nat) (xs ys : List Int) (h1 h2 : Nat) (w : World)
    (hx : Rd w h1 A n (V xs)) (hy : Rd w h2 B m (V ys)) (hn : n ≤ maxLen) (hm : m ≤ maxLen) :
    Calls Tryz.prog 12 #[.slice A n c, .slice B m d] w fun e w' => e = .returned (.bool (eqi xs ys)) ∧ Drawn w w' := by
  unfold maxLen at hn hm
  have lx : xs.length = n := by simpa [V] using hx.1
  have ly : ys.length = m := by simpa [V] using hy.1
  have LX := Lib.hid lx; have LY := Lib.hid ly; clear lx ly
  have HX := Lib.hid hx; have HY := Lib.hid hy; clear hx hy
  by_cases hnm : n = m
  · obtain rfl : m = n := hnm.symm
    clear hnm
    go_enter Tryz.func12, Tryz.ntmps12
    go_wp2
    go_loopw [14] (fun i wr => ∃ k : Nat, k ≤ m ∧ i = .int .i64 k ∧ Drawn w wr ∧ Same xs ys k) (fun i _ => m - (intOf i).toNat)
    case atStart => exact ⟨0, Nat.zero_le _, rfl, ⟨0, rfl⟩, fun j hj => by omega⟩
    case round =>
      obtain ⟨k, hk, rfl, hdr, hsame⟩ := hrel
      have HS := Lib.hid hsame; have HD := Lib.hid hdr; clear hsame hdr
      by_cases hlt : k < m
      · obtain ⟨g, off, u, rfl, _, hxu, hcx⟩ := HX.out.at_ hlt
        obtain ⟨g', off', u', rfl, _, hyu, hcy⟩ := HY.out.at_ hlt
        obtain ⟨s, hxs, rfl⟩ := V_at hxu
        obtain ⟨t, hyt, rfl⟩ := V_at hyu
        rw [← HD.out.cell] at hcx hcy
        have HXS := Lib.hid hxs; have HYT := Lib.hid hyt; clear hxs hyt hxu hyu
        by_cases hst : s = t
        · subst hst
          go_wp2
          go_roundw
          case rel => exact ⟨k + 1, by omega, by go_num, HD.out, HS.out.step HXS.out HYT.out⟩
          case measure => simp [intOf]; omega
        · have hb : (s != t) = true := by simpa using hst
          have HST := Lib.hid hst; clear hst
          go_wp2
          go_ret
          exact ⟨ret_bool (eqi_no HXS.out HYT.out HST.out).symm, HD.out⟩
      · obtain rfl : k = m := by omega
        go_wp2
        go_ret
        exact ⟨ret_bool (eqi_yes LX.out LY.out HS.out).symm, HD.out⟩
  · have hb : ((n : Int) != (m : Int)) = true := by simp; omega
    have HB : eqi xs ys = false := eqi_len (by rw [LX.out, LY.out]; exact hnm)
    have HB := Lib.hid HB
    clear hnm
    go_enter Tryz.func12, Tryz.ntmps12
    go_wp2
    go_ret
    exact ⟨ret_bool HB.out.symm, 0, rfl⟩

theorem spec_b (A : Option Addr) (n c : Nat) (xs : List Int) (B : Option Addr) (m d : Nat) (ys : List Int) (h1 h2 : Nat) (w : World)
    (hx : Rd w h1 A n (V xs)) (hy : Rd w h2 B m (V ys)) (hn : n ≤ 1048576) (hm : m ≤ 1048576) :
    Calls Tryz.prog 12 #[.slice A n c, .slice B m d] w fun e w' => e = .returned (.bool (eqi xs ys)) ∧ Below w.heap.size w w' :=
  (spec_any A n c B m d xs ys h1 h2 w hx hy (by unfold maxLen; omega) (by unfold maxLen; omega)).mono fun _ _ ⟨he, hd⟩ => ⟨he, hd.below _⟩

end Go.Proofs.YtpmojmhamgcfmaaGreat.same

/-
  Contracts of SurfaceOk, CountSquares, SameSurface, of the model and of the program.
-/
namespace Go.Proofs.YtpmojmhamgcfmaaGreat.sf
open Go.ChangeShapes Go.WideShapes Go.ChangeAt Go.RowKit
open Go.Proofs.YtpmojmhamgcfmaaGreat.mem Go.Proofs.YtpmojmhamgcfmaaGreat.ints Go.Proofs.YtpmojmhamgcfmaaGreat.arr Go.Proofs.YtpmojmhamgcfmaaGreat.pm Go.Proofs.YtpmojmhamgcfmaaGreat.fns
set_option linter.unusedVariables false
set_option maxRecDepth 100000

theorem Srd.open {w : World} {hi : Nat} {v : Value} {r u : List Int} (h : Srd w hi v r u) :
    ∃ P n c Q m d, v = .agg #[.slice P n c, .slice Q m d] ∧ r.length = n ∧ u.length = m ∧ n ≤ c ∧ m ≤ d ∧ hi ≤ w.heap.size ∧ Hid (∀ o, Rd (w.alloc o) hi P n (V r) ∧ Rd (w.alloc o) hi Q m (V u)) := by
  obtain ⟨P, n, c, Q, m, d, rfl, a, b, e1, e2⟩ := h
  exact ⟨P, n, c, Q, m, d, rfl, by simpa [V] using a.1, by simpa [V] using b.1, e1, e2, a.2.1, Lib.hid (fun o => ⟨a.keep ((Below.refl hi w).alloc a.2.1 o) (Nat.le_refl _), b.keep ((Below.refl hi w).alloc a.2.1 o) (Nat.le_refl _)⟩)⟩
theorem below1 (w : World) (o : Obj) {w' : World} (h : Below (w.alloc o).heap.size (w.alloc o) w') : Below w.heap.size w w' := ((Below.refl _ _).alloc (Nat.le_refl _) _).trans (h.mono (by simp))

set_option maxHeartbeats 400000 in
theorem ok_spec (v : Value) (r u : List Int) (hi : Nat) (w : World) (hx : Srd w hi v r u) (hn : r.length ≤ 1048576) (hm : u.length ≤ 1048576) :
    Calls Tryz.prog 23 #[v] w fun e w' => e = .returned (.bool (transB r u)) ∧ Below w.heap.size w w' := by
  obtain ⟨P, n, c, Q, m, d, rfl, q1, q2, e1, e2, ht, HR⟩ := hx.open
  clear hx
  go_enter Tryz.func23, Tryz.ntmps23
  go_wp2_with fail
  refine (trans_spec P n c r Q m d u _ _ _ (HR.out _).1 (HR.out _).2 (by omega) (by omega) e1 e2).mono ?_
  rintro e w1 ⟨rfl, b1⟩
  have B1 := Lib.hid (below1 _ _ b1); clear b1
  go_wp2_with fail
  go_ret
  exact ⟨rfl, B1.out⟩

set_option maxHeartbeats 400000 in
theorem ok_impl (v : Value) (r u : List Int) (hi : Nat) (w : World) (hx : Srd w hi v r u) (hn : r.length ≤ 1048576) (hm : u.length ≤ 1048576) :
    Calls Tryz.prog 70 #[v] w fun e w' => e = .returned (.bool (transB r u)) ∧ Below w.heap.size w w' := by
  obtain ⟨P, n, c, Q, m, d, rfl, q1, q2, e1, e2, ht, HR⟩ := hx.open
  clear hx
  go_enter Tryz.func70, Tryz.ntmps70
  go_wp2_with fail
  refine (trans_impl P n c r Q m d u _ _ _ (HR.out _).1 (HR.out _).2 (by omega) (by omega)).mono ?_
  rintro e w1 ⟨rfl, b1⟩
  have B1 := Lib.hid (below1 _ _ b1); clear b1
  go_wp2_with fail
  go_ret
  exact ⟨rfl, B1.out⟩

def cntF (r u : List Int) : Int := if transB r u then r.length else 0
def sameF (r u r' u' : List Int) : Bool := eqi r r' && eqi u u'
set_option maxHeartbeats 1000000 in
theorem same_spec (x : Value) (r u : List Int) (y : Value) (r' u' : List Int) (h1 h2 : Nat) (w : World) (hx : Srd w h1 x r u) (hy : Srd w h2 y r' u') (hn : r.length ≤ 1048576) (hm : u.length ≤ 1048576) (hn' : r'.length ≤ 1048576) (hm' : u'.length ≤ 1048576) :
    Calls Tryz.prog 36 #[x, y] w fun e w' => e = .returned (.bool (sameF r u r' u')) ∧ Below w.heap.size w w' := by
  obtain ⟨P, n, c, Q, m, d, rfl, rp, rq, e1, e2⟩ := hx
  obtain ⟨P', n', c', Q', m', d', rfl, rp', rq', e1', e2'⟩ := hy
  have q1 : r.length = n := by simpa [V] using rp.1
  have q2 : u.length = m := by simpa [V] using rq.1
  have q1' : r'.length = n' := by simpa [V] using rp'.1
  have q2' : u'.length = m' := by simpa [V] using rq'.1
  have RP := Lib.hid rp; have RQ := Lib.hid rq; have RP' := Lib.hid rp'; have RQ' := Lib.hid rq'; clear rp rq rp' rq'
  have HI := RP.out.2.1; have HI' := RP'.out.2.1
  have B1 : Hid (∀ a b, Below w.heap.size w ((w.alloc a).alloc b)) := Lib.hid (fun a b => ((Below.refl _ _).alloc (Nat.le_refl _) _).alloc (by simp) _)
  go_enter Tryz.func36, Tryz.ntmps36
  go_wp2_with fail
  refine (same.spec_b P n c r P' n' c' r' _ _ _ (RP.out.keep (B1.out _ _) HI) (RP'.out.keep (B1.out _ _) HI') (by omega) (by omega)).mono ?_
  rintro e w1 ⟨rfl, d1⟩
  by_cases hh : eqi r r' = true
  · rw [hh]
    have D1 := Lib.hid d1; clear d1
    have c1 := (((Arr.new w [.slice P n c, .slice Q m d] 31 rfl).alloc (.cells #[.slice P' n' c', .slice Q' m' d'] 31)).keep D1.out (by simp <;> omega)).cell (k := 1) rfl
    have c2 := ((Arr.new (w.alloc (.cells #[.slice P n c, .slice Q m d] 31)) [.slice P' n' c', .slice Q' m' d'] 31 (g := w.heap.size + 1) (by simp <;> omega)).keep D1.out (by simp <;> omega)).cell (k := 1) rfl
    have BB : Hid (Below w.heap.size w w1) := Lib.hid ((B1.out _ _).trans (D1.out.mono (by simp <;> omega)))
    go_wp2_with fail
    refine (same.spec_b Q m d u Q' m' d' u' _ _ _ (RQ.out.keep BB.out HI) (RQ'.out.keep BB.out HI') (by omega) (by omega)).mono ?_
    rintro e w2 ⟨rfl, d2⟩
    have BB2 : Hid (Below w.heap.size w w2) := Lib.hid (BB.out.trans (d2.mono BB.out.size))
    clear d2
    have HH := Lib.hid hh; clear hh
    cases hq : eqi u u' <;> (have HQ := Lib.hid hq; clear hq; go_wp2_with fail; go_ret; exact ⟨ret_bool (by rw [sameF, HH.out, HQ.out]; rfl), BB2.out⟩)
  · have hf : eqi r r' = false := by simpa using hh
    rw [hf]
    have BB : Hid (Below w.heap.size w w1) := Lib.hid ((B1.out _ _).trans (d1.mono (by simp <;> omega)))
    have HH := Lib.hid hf; clear d1 hf hh
    go_wp2_with fail
    go_ret
    exact ⟨ret_bool (by rw [sameF, HH.out]; rfl), BB.out⟩
end Go.Proofs.YtpmojmhamgcfmaaGreat.sf

/-
  Contracts of RenamePerm, of the model and of the program.
-/
namespace Go.Proofs.YtpmojmhamgcfmaaGreat.fns
open Go.ChangeShapes Go.WideShapes Go.ChangeAt Go.RowKit
open Go.Proofs.YtpmojmhamgcfmaaGreat.mem Go.Proofs.YtpmojmhamgcfmaaGreat.ints Go.Proofs.YtpmojmhamgcfmaaGreat.arr Go.Proofs.YtpmojmhamgcfmaaGreat.pm Go.Proofs.YtpmojmhamgcfmaaGreat.permOk Go.Proofs.YtpmojmhamgcfmaaGreat.permOf Go.Proofs.YtpmojmhamgcfmaaGreat.inv
set_option linter.unusedVariables false
set_option maxRecDepth 100000

theorem Made.drew {n : Nat} {w wr : World} {l : List Int} (h : Made n w wr l) : Made n w wr.drew l := ⟨h.1.drew, ⟨h.2.os, h.2.tape, h.2.output, h.2.size, h.2.block⟩⟩
set_option maxHeartbeats 1000000 in
theorem l02ren_any (A : Option Addr) (n c : Nat) (B : Option Addr) (m d : Nat) (xs ys : List Int) (h1 h2 : Nat) (w : World) (hx : Rd w h1 A n (V xs)) (hy : Rd w h2 B m (V ys)) (ok : Ok xs) (oky : Ok ys) (hnm : n = m) :
    Calls Tryz.prog 57 #[.slice A n c, .slice B m d] w (Gives (renTo n xs ys n) w) := by
  subst hnm
  obtain ⟨i0, hi0, hz0, hz1, hz2⟩ := info_parts infoI
  have lx : xs.length = n := by simpa [V] using hx.1
  have ly : ys.length = n := by simpa [V] using hy.1
  have hn : n ≤ 24 := by have := ok.len; omega
  have LX := Lib.hid lx; have LY := Lib.hid ly; clear lx ly
  have OK := Lib.hid ok; have OKY := Lib.hid oky; clear ok oky
  have HX := Lib.hid hx; have HY := Lib.hid hy; clear hx hy
  have HZ2 := Lib.hid hz2; clear hz2
  go_enter Tryz.func57, Tryz.ntmps57
  go_wp2_with (at_make; refine wpList_make_full _ rfl _ _ 29 rfl w.heap.size 3 i0 _ 1 Tryz.underlying29 hi0 hz0 hz1 _ _ _ _ n rfl rfl rfl rfl ?b2 ?b3 (Nat.le_refl _) ?_)
  case b2 => rw [HZ2.out]; omega
  case b3 => unfold maxLen; omega
  intro w1 hown hg
  have hb1 : Below w.heap.size w w1 := (Below.refl _ _).grown hg (Nat.le_refl _) (by simp)
  have HM : Hid (Made n w w1 (renTo n xs ys 0)) := Lib.hid ⟨by simpa [renTo, setTo, V, toList_madeCells_one] using hown, hb1⟩
  clear hown hg hb1
  go_wp2
  go_loopw [13] (fun i wr => ∃ k : Nat, k ≤ n ∧ i = .int .i64 k ∧ Made n w wr (renTo n xs ys k)) (fun i _ => n - (intOf i).toNat)
  case atStart => exact ⟨0, Nat.zero_le _, rfl, HM.out⟩
  case round =>
    obtain ⟨k, hk, rfl, hm⟩ := hrel
    have HR := Lib.hid hm; clear hm HM
    by_cases hlt : k < n
    · obtain ⟨g, off, u, rfl, hgl, hxu, hcx⟩ := HX.out.at_ hlt
      obtain ⟨s, hxs, rfl⟩ := V_at hxu
      obtain ⟨z, hz, hqz, hqd⟩ := Ok.nat OK.out (k := k) (by rw [LX.out]; exact hlt)
      rw [hqz] at hxs
      obtain rfl := Option.some.inj hxs
      rw [LX.out] at hz
      obtain ⟨g', off', u', e', hgl', hyu, hcy⟩ := HY.out.at_ hz
      obtain ⟨t, hyt, rfl⟩ := V_at hyu
      obtain ⟨g2, off2, u2, rfl, hgl2, hyu2, hcy2⟩ := HY.out.at_ hlt
      injection e' with e'; injection e' with e1 e2; subst e1; subst e2
      obtain ⟨t2, hyt2, rfl⟩ := V_at hyu2
      obtain ⟨z2, hz2, hqz2, hqd2⟩ := Ok.nat OKY.out (k := k) (by rw [LY.out]; exact hlt)
      rw [hqz2] at hyt2
      obtain rfl := Option.some.inj hyt2
      rw [LY.out] at hz2
      have hgw : g < w.heap.size := Nat.lt_of_lt_of_le hgl HX.out.2.1
      have hgw' : g2 < w.heap.size := Nat.lt_of_lt_of_le hgl' HY.out.2.1
      rw [← HR.out.2.cell (p := ⟨g, off + k, none⟩) hgw] at hcx
      rw [← HR.out.2.cell (p := ⟨g2, off2 + z, none⟩) hgw'] at hcy
      rw [← HR.out.2.cell (p := ⟨g2, off2 + k, none⟩) hgw'] at hcy2
      have hc := HR.out.cell hz2
      have hf := HR.out.1.frozenAt z2
      have HD := Lib.hid hqd; have HD2 := Lib.hid hqd2; have HT := Lib.hid (permOk.getD_of hyt); clear hqd hqz hxs hxu hyu hyt hqz2 hqd2 hyt2 hyu2
      go_wp2
      go_region
      go_wp2
      go_roundw
      case rel =>
        refine ⟨k + 1, by omega, by go_num, ?_⟩
        rw [renTo_succ, HD.out, HD2.out, Int.toNat_natCast, Int.toNat_natCast, HT.out]
        exact (HR.out.set_ z2 _).drew
      case measure => simp [intOf]; omega
    · obtain rfl : k = n := by omega
      go_wp2
      go_ret
      exact ⟨_, rfl, by rw [renTo_len]; exact HR.out.1, HR.out.2⟩

/-- All below base is as it was, and 'top' blocks are there. -/
structure Kp (base top : Nat) (w w' : World) : Prop where
  below : Below base w w'
  size : top ≤ w'.heap.size
theorem range_arr {w : World} {g : Nat} {cs : List Value} {t : TypeId} (h : Arr w g cs t) : w.rangeAt g 0 cs := fun j v hv => by rw [Nat.zero_add]; exact h.cell hv
theorem Kp.start {base a b top : Nat} {w W : World} {xs ys : List Value} {t : TypeId} (h1 : Arr W a xs t) (h2 : Arr W b ys t) (hb : Below base w W) (hs : top ≤ W.heap.size) :
    W.drew.rangeAt a 0 xs ∧ W.drew.rangeAt b 0 ys ∧ Kp base top w W.drew :=
  ⟨by simpa using range_arr h1, by simpa using range_arr h2, ⟨hb.os, hb.tape, hb.output, hb.size, hb.block⟩, hs⟩
theorem Kp.later {base a b top : Nat} {w W W' : World} {xs ys : List Value} (ha : a < top) (hb : b < top) (h : W.rangeAt a 0 xs ∧ W.rangeAt b 0 ys ∧ Kp base top w W) (hB : Below W.heap.size W W') (hw : base ≤ top) :
    W'.rangeAt a 0 xs ∧ W'.rangeAt b 0 ys ∧ Kp base top w W' := by
  obtain ⟨h1, h2, h3⟩ := h
  have hs := h3.size
  refine ⟨fun j v hv => ?_, fun j v hv => ?_, h3.below.trans (hB.mono (by omega)), Nat.le_trans hs hB.size⟩
  · rw [hB.cell (p := ⟨a, 0 + j, none⟩) (show a < _ by omega)]; exact h1 j v hv
  · rw [hB.cell (p := ⟨b, 0 + j, none⟩) (show b < _ by omega)]; exact h2 j v hv

end Go.Proofs.YtpmojmhamgcfmaaGreat.fns

/-
  The program's gluing: two arrays and a number, by value; gluingOf, surface.
-/
namespace Go.Proofs.YtpmojmhamgcfmaaGreat.gl
open Go.ChangeShapes Go.WideShapes Go.ChangeAt Go.RowKit
open Go.Proofs.YtpmojmhamgcfmaaGreat.mem Go.Proofs.YtpmojmhamgcfmaaGreat.ints Go.Proofs.YtpmojmhamgcfmaaGreat.arr Go.Proofs.YtpmojmhamgcfmaaGreat.pm Go.Proofs.YtpmojmhamgcfmaaGreat.permOk Go.Proofs.YtpmojmhamgcfmaaGreat.permOf Go.Proofs.YtpmojmhamgcfmaaGreat.inv Go.Proofs.YtpmojmhamgcfmaaGreat.fns Go.Proofs.YtpmojmhamgcfmaaGreat.sf
set_option linter.unusedVariables false
set_option maxRecDepth 100000

/-- Right, Up and the number of squares, in one row. -/
def gl (p q : List Int) (n : Nat) : List Int := p ++ q ++ [(n : Int)]
def zero49 : List Int := List.replicate 49 0
theorem gl_len {p q : List Int} (hp : p.length = 24) (hq : q.length = 24) (n : Nat) : (gl p q n).length = 49 := by simp [gl, hp, hq]
theorem zero49_len : zero49.length = 49 := by simp [zero49]
theorem info49 : (Tryz.prog.info? 62).map (·.size) = some 49 := by kernel_rfl
theorem size49 {l : List Int} (h : l.length = 49) : (Tryz.prog.info? 62).map (·.size) = some (V l).toArray.size := by rw [info49]; simp [V, h]
theorem list24 {l : List Int} (h : l.length = 24) : ∃ a0 a1 a2 a3 a4 a5 a6 a7 a8 a9 b0 b1 b2 b3 b4 b5 b6 b7 b8 b9 c0 c1 c2 c3, l = [a0, a1, a2, a3, a4, a5, a6, a7, a8, a9, b0, b1, b2, b3, b4, b5, b6, b7, b8, b9, c0, c1, c2, c3] := by
  match l, h with
  | [a0, a1, a2, a3, a4, a5, a6, a7, a8, a9, b0, b1, b2, b3, b4, b5, b6, b7, b8, b9, c0, c1, c2, c3], _ => exact ⟨a0, a1, a2, a3, a4, a5, a6, a7, a8, a9, b0, b1, b2, b3, b4, b5, b6, b7, b8, b9, c0, c1, c2, c3, rfl⟩
theorem built_gl {p q : List Int} (hp : p.length = 24) (hq : q.length = 24) (n : Nat) :
    Tryz.prog.built 62 [(0, .agg (V p).toArray), (1, .agg (V q).toArray), (2, .int .i64 n)] = some (V (gl p q n)).toArray := by
  obtain ⟨a0, a1, a2, a3, a4, a5, a6, a7, a8, a9, b0, b1, b2, b3, b4, b5, b6, b7, b8, b9, c0, c1, c2, c3, rfl⟩ := list24 hp
  obtain ⟨a0', a1', a2', a3', a4', a5', a6', a7', a8', a9', b0', b1', b2', b3', b4', b5', b6', b7', b8', b9', c0', c1', c2', c3', rfl⟩ := list24 hq
  kernel_rfl
theorem built_zero : Tryz.prog.built 62 [] = some (V zero49).toArray := by kernel_rfl
theorem wpList_build {P : Program} {ops : Array Oper} {rest : List Oper} {o : Oper} {a : Act} {w : World} {Q : Exit → Act → World → Prop} (hgd : o.guard = none) (t : TypeId) (parts : Array (Nat × Operand)) (ho : o.op = .build t parts)
    (l : List (Nat × Value)) (hl : (parts.toList.map fun p => (p.1, a.eval p.2)) = l) (cells : Array Value) (hb : P.built t l = some cells)
    (h : wpList P ops Q rest (a.put o.dst (.agg cells)) w) : wpList P ops Q (o :: rest) a w := by
  have hb' : P.built t (parts.map fun (i, x) => (i, a.eval x)).toList = some cells := by
    rw [Array.toList_map]
    subst hl
    exact hb
  refine wpList_plain hgd fun K hK => wp_build t parts ho (by rw [hb']; rfl) ?_
  rw [hb']
  exact hK _ _ h
theorem gl_right {w : World} {b : Nat} {p q : List Int} {n : Nat} {t : TypeId} (hp : p.length = 24) (h : Arr w b (V (gl p q n)) t) : w.rangeAt b 0 (V p) := fun j v hv => by
  have hj : j < 24 := by have := (List.getElem?_eq_some_iff.1 hv).1; simpa [V, hp] using this
  rw [Nat.zero_add]
  refine h.cell ?_
  rw [← hv]
  simp only [gl, V, List.map_append, List.append_assoc]
  rw [List.getElem?_append_left (by simp; omega)]
theorem gl_up {w : World} {b : Nat} {p q : List Int} {n : Nat} {t : TypeId} (hp : p.length = 24) (hq : q.length = 24) (h : Arr w b (V (gl p q n)) t) : w.rangeAt b 24 (V q) := fun j v hv => by
  have hj : j < 24 := by have := (List.getElem?_eq_some_iff.1 hv).1; simpa [V, hq] using this
  refine h.cell ?_
  rw [← hv]
  simp only [gl, V, List.map_append, List.append_assoc]
  rw [List.getElem?_append_right (by simp; omega), List.getElem?_append_left (by simp; omega)]
  congr 1; simp; omega
theorem gl_count {w : World} {b : Nat} {p q : List Int} {n : Nat} {t : TypeId} (hp : p.length = 24) (hq : q.length = 24) (h : Arr w b (V (gl p q n)) t) : w.cell? ⟨b, 48, none⟩ = some (.int .i64 n) := by
  refine h.cell ?_
  simp only [gl, V, List.map_append]
  rw [List.getElem?_append_right (by simp; omega)]
  simp [hp, hq]
theorem right_at {p q : List Int} {n k : Nat} (hp : p.length = 24) (hk : k < 24) : (gl p q n).getD k 0 = p.getD k 0 := by
  simp only [gl, List.append_assoc, List.getD]
  rw [List.getElem?_append_left (by omega)]
theorem up_at {p q : List Int} {n k : Nat} (hp : p.length = 24) (hq : q.length = 24) (hk : k < 24) : (gl p q n).getD (24 + k) 0 = q.getD k 0 := by
  simp only [gl, List.append_assoc, List.getD]
  rw [List.getElem?_append_right (by omega), List.getElem?_append_left (by omega)]
  congr 2; omega

theorem Srd.fst {w : World} {hi : Nat} {P Q : Option Addr} {n c m d : Nat} {r u : List Int} (h : Srd w hi (.agg #[.slice P n c, .slice Q m d]) r u) : Rd w hi P n (V r) := by
  obtain ⟨P', n', c', Q', m', d', e, a, b, _⟩ := h
  simp at e
  obtain ⟨⟨rfl, rfl, rfl⟩, rfl, rfl, rfl⟩ := e
  exact a
theorem Srd.snd {w : World} {hi : Nat} {P Q : Option Addr} {n c m d : Nat} {r u : List Int} (h : Srd w hi (.agg #[.slice P n c, .slice Q m d]) r u) : Rd w hi Q m (V u) := by
  obtain ⟨P', n', c', Q', m', d', e, a, b, _⟩ := h
  simp at e
  obtain ⟨⟨rfl, rfl, rfl⟩, rfl, rfl, rfl⟩ := e
  exact b
/-- What gluingOf gives. -/
def glv (r u : List Int) : List Int := if transB r u then gl (ext r) (ext u) r.length else zero49
theorem glv_len (r u : List Int) : (glv r u).length = 49 := by unfold glv; split; exact gl_len (ext_len _) (ext_len _) _; exact zero49_len
theorem glv_yes {r u : List Int} (h : transB r u = true) : glv r u = gl (ext r) (ext u) r.length := by simp [glv, h]
theorem glv_no {r u : List Int} (h : transB r u = false) : glv r u = zero49 := by simp [glv, h]
def GPost (r u : List Int) (w : World) (e : Ending) (w' : World) : Prop := e = .returned (.tuple #[.agg (V (glv r u)).toArray, .bool (transB r u)]) ∧ Below w.heap.size w w'
theorem gpost {r u l : List Int} {w w' : World} {b : Bool} (h : transB r u = b) (hl : glv r u = l) (hb : Below w.heap.size w w') : GPost r u w (.returned (.tuple #[.agg (V l).toArray, .bool b])) w' := by
  subst h; subst hl; exact ⟨rfl, hb⟩

set_option maxHeartbeats 4000000 in
theorem gluingOf_any (v : Value) (r u : List Int) (hi : Nat) (w : World) (hx : Srd w hi v r u) (hn : r.length ≤ 1048576) (hm : u.length ≤ 1048576) :
    Calls Tryz.prog 52 #[v] w (GPost r u w) := by
  have HX := Lib.hid hx; clear hx
  obtain ⟨P, n, c, Q, m, d, rfl, q1, q2, e1, e2, ht, HR⟩ := HX.out.open
  have L1 := Lib.hid q1
  have N0 := Lib.hid (fun o => Arr.new (w.alloc o) (V zero49) 62 (g := w.heap.size + 1) (by simp))
  have B0 : Hid (∀ a b, Below w.heap.size w ((w.alloc a).alloc b)) := Lib.hid (fun a b => ((Below.refl _ _).alloc (Nat.le_refl _) _).alloc (by simp) _)
  go_enter Tryz.func52, Tryz.ntmps52
  go_wp2_with fail
  refine (ok_impl _ r u hi _ (HX.out.keep (((Below.refl hi w).alloc ht _).alloc (by simp; omega) _) (Nat.le_refl _)) hn hm).mono ?_
  rintro e w1 ⟨rfl, b1⟩
  have hs1 : w.heap.size + 2 ≤ w1.heap.size := by have := b1.size; simpa using this
  have A0 := Lib.hid (((Arr.new w [.slice P n c, .slice Q m d] 31 rfl).alloc _).keep b1 (by simp <;> omega))
  have A1 := Lib.hid ((N0.out _).keep b1 (by simp))
  have B1 : Hid (Below w.heap.size w w1) := Lib.hid ((B0.out _ _).trans (b1.mono (by simp <;> omega)))
  clear b1 N0
  cases hq : transB r u
  · have HQ := Lib.hid hq; clear hq
    have HG := Lib.hid (glv_no HQ.out)
    go_wp2_with (first | (refine wpList_build rfl 62 _ rfl [] rfl (V zero49).toArray built_zero ?_) | (refine wpList_store_row rfl 62 _ _ rfl (w.heap.size + 1) (V zero49).toArray rfl rfl 62 (V zero49).toArray A1.out (size49 zero49_len) rfl (one_V _) ?_))
    exact bodyPost_ret (v := .tuple #[.agg (V zero49).toArray, .bool false]) (permOf.results_cell_tmp rfl _ _ (w.heap.size + 1) 62 (V zero49).toArray (0, 0) _ _ rfl rfl A1.out.row Tryz.underlying62 rfl (size49 zero49_len)) rfl (gpost HQ.out HG.out (below_setRow B1.out (by omega) _))
  · have hok := (transB_iff.1 hq)
    have HQ := Lib.hid hq; clear hq
    have HG := Lib.hid (glv_yes HQ.out)
    have HB : Hid (okBB r u = true) := Lib.hid (okBB_iff.2 ⟨hok.r.b, hok.u.b, by rw [hok.lu]⟩)
    have HS := Lib.hid hok; clear hok
    have c0 := A0.out.cell (k := 0) rfl
    have c1 := A0.out.cell (k := 1) rfl
    go_wp2_with fail
    refine (permsOf_any P n c Q m d r u hi hi _ (Srd.fst (HX.out.keep (B1.out.mono (by omega)) (Nat.le_refl _))) (Srd.snd (HX.out.keep (B1.out.mono (by omega)) (Nat.le_refl _))) (by omega) (by omega) (by omega) (by omega)).mono ?_
    rintro e w2 ⟨rfl, b2⟩
    rw [HB.out, if_pos rfl, if_pos rfl]
    have hs2 := b2.size
    replace A0 := Lib.hid (A0.out.keep b2 A0.out.lt)
    replace A1 := Lib.hid (A1.out.keep b2 A1.out.lt)
    replace B1 : Hid (Below w.heap.size w w2) := Lib.hid (B1.out.trans (b2.mono B1.out.size))
    clear b2 c0 c1
    go_wp2_with (first | (refine wpList_store_row rfl 60 (.tmp 4) (.tmp 17) rfl w2.heap.size (V (ext r)).toArray rfl rfl 60 (V zeros).toArray ((Arr.new w2 (V zeros) _ rfl).alloc _) (size_V (ext_len _)) (by simp [V_len, ext_len, zeros]) (one_V _) ?_; generalize hw3 : ((w2.alloc (.cells #[.int .i64 0, .int .i64 0, .int .i64 0, .int .i64 0, .int .i64 0, .int .i64 0, .int .i64 0, .int .i64 0, .int .i64 0, .int .i64 0, .int .i64 0, .int .i64 0, .int .i64 0, .int .i64 0, .int .i64 0, .int .i64 0, .int .i64 0, .int .i64 0, .int .i64 0, .int .i64 0, .int .i64 0, .int .i64 0, .int .i64 0, .int .i64 0] 60)).alloc (.cells #[.int .i64 0, .int .i64 0, .int .i64 0, .int .i64 0, .int .i64 0, .int .i64 0, .int .i64 0, .int .i64 0, .int .i64 0, .int .i64 0, .int .i64 0, .int .i64 0, .int .i64 0, .int .i64 0, .int .i64 0, .int .i64 0, .int .i64 0, .int .i64 0, .int .i64 0, .int .i64 0, .int .i64 0, .int .i64 0, .int .i64 0, .int .i64 0] 60)).setRow w2.heap.size (V (ext r)).toArray = w3; have S1 : Hid (Arr w3 w2.heap.size (V (ext r)) 60) := Lib.hid (by rw [← hw3]; exact ((Arr.new w2 (V zeros) _ rfl).alloc _).row); have S2 : Hid (Arr w3 (w2.heap.size + 1) (V zeros) 60) := Lib.hid (by rw [← hw3]; exact (Arr.new _ (V zeros) _ (by simp)).rowOther (by omega)); have b3 : Below w2.heap.size w2 w3 := (by rw [← hw3]; exact arr.below_setRow (((Below.refl _ _).alloc (Nat.le_refl _) _).alloc (by simp) _) (Nat.le_refl _) _); replace A0 := Lib.hid (A0.out.keep b3 A0.out.lt); replace A1 := Lib.hid (A1.out.keep b3 A1.out.lt); replace B1 : Hid (Below w.heap.size w w3) := Lib.hid (B1.out.trans (b3.mono B1.out.size)); clear hw3 b3) | (refine wpList_store_row rfl 60 (.tmp 5) (.tmp 18) rfl (w2.heap.size + 1) (V (ext u)).toArray rfl rfl 60 (V zeros).toArray S2.out (size_V (ext_len _)) (by simp [V_len, ext_len, zeros]) (one_V _) ?_; generalize hw4 : w3.setRow (w2.heap.size + 1) (V (ext u)).toArray = w4; have T1 : Hid (Arr w4 w2.heap.size (V (ext r)) 60) := Lib.hid (by rw [← hw4]; exact S1.out.rowOther (by omega)); have T2 : Hid (Arr w4 (w2.heap.size + 1) (V (ext u)) 60) := Lib.hid (by rw [← hw4]; exact S2.out.row); have b4 : Below w2.heap.size w3 w4 := (by rw [← hw4]; exact arr.below_setRow (Below.refl _ _) (by omega) _); replace A0 := Lib.hid (A0.out.keep b4 (by omega)); replace A1 := Lib.hid (A1.out.keep b4 (by omega)); replace B1 : Hid (Below w.heap.size w w4) := Lib.hid (B1.out.trans (b4.mono (by omega))); have c0 := A0.out.cell (k := 0) rfl; clear hw4 S1 S2 b4) | (refine wpList_load_row rfl 60 (.tmp 4) rfl w2.heap.size rfl 60 (V (ext r)).toArray (0, 0) _ T1.out Tryz.underlying60 rfl (size_V (ext_len _)) ?_) | (refine wpList_load_row rfl 60 (.tmp 5) rfl (w2.heap.size + 1) rfl 60 (V (ext u)).toArray (0, 0) _ T2.out Tryz.underlying60 rfl (size_V (ext_len _)) ?_) | (refine wpList_build rfl 62 _ rfl [(0, .agg (V (ext r)).toArray), (1, .agg (V (ext u)).toArray), (2, .int .i64 n)] rfl (V (gl (ext r) (ext u) n)).toArray (built_gl (ext_len _) (ext_len _) n) ?_) | (refine wpList_store_row rfl 62 _ _ rfl (w.heap.size + 1) (V (gl (ext r) (ext u) n)).toArray rfl rfl 62 (V zero49).toArray A1.out (size49 (gl_len (ext_len _) (ext_len _) n)) (by simp [V_len, gl_len, ext_len, zero49]) (one_V _) ?_))
    exact bodyPost_ret (v := .tuple #[.agg (V (gl (ext r) (ext u) n)).toArray, .bool true]) (permOf.results_cell_tmp rfl _ _ (w.heap.size + 1) 62 (V (gl (ext r) (ext u) n)).toArray (0, 0) _ _ rfl rfl A1.out.row Tryz.underlying62 rfl (size49 (gl_len (ext_len _) (ext_len _) n))) rfl (gpost HQ.out (by rw [HG.out, L1.out]) (below_setRow B1.out (by omega) _))
end Go.Proofs.YtpmojmhamgcfmaaGreat.gl

/-
  The program's gluing made a surface again; a gluing renamed.
-/
namespace Go.Proofs.YtpmojmhamgcfmaaGreat.gl
open Go.ChangeShapes Go.WideShapes Go.ChangeAt Go.RowKit
open Go.Proofs.YtpmojmhamgcfmaaGreat.mem Go.Proofs.YtpmojmhamgcfmaaGreat.ints Go.Proofs.YtpmojmhamgcfmaaGreat.arr Go.Proofs.YtpmojmhamgcfmaaGreat.pm Go.Proofs.YtpmojmhamgcfmaaGreat.permOk Go.Proofs.YtpmojmhamgcfmaaGreat.permOf Go.Proofs.YtpmojmhamgcfmaaGreat.inv Go.Proofs.YtpmojmhamgcfmaaGreat.fns Go.Proofs.YtpmojmhamgcfmaaGreat.sf
set_option linter.unusedVariables false
set_option maxRecDepth 100000

theorem rg_right {w : World} {b : Nat} {p q : List Int} {n : Nat} (hp : p.length = 24) (h : w.rangeAt b 0 (V (gl p q n))) : w.rangeAt b 0 (V p) := fun j v hv => by
  have hj : j < 24 := by have := (List.getElem?_eq_some_iff.1 hv).1; simpa [V, hp] using this
  refine h j v ?_
  rw [← hv]
  simp only [gl, V, List.map_append, List.append_assoc]
  rw [List.getElem?_append_left (by simp; omega)]
theorem rg_up {w : World} {b : Nat} {p q : List Int} {n : Nat} (hp : p.length = 24) (hq : q.length = 24) (h : w.rangeAt b 0 (V (gl p q n))) : w.rangeAt b 24 (V q) := fun j v hv => by
  have hj : j < 24 := by have := (List.getElem?_eq_some_iff.1 hv).1; simpa [V, hq] using this
  have := h (24 + j) v (by
    rw [← hv]
    simp only [gl, V, List.map_append, List.append_assoc]
    rw [List.getElem?_append_right (by simp; omega), List.getElem?_append_left (by simp; omega)]
    congr 1; simp; omega)
  rwa [Nat.zero_add] at this
theorem rg_count {w : World} {b : Nat} {p q : List Int} {n : Nat} (hp : p.length = 24) (hq : q.length = 24) (h : w.rangeAt b 0 (V (gl p q n))) : w.cell? ⟨b, 48, none⟩ = some (.int .i64 n) := by
  have := h 48 (.int .i64 n) (by
    simp only [gl, V, List.map_append]
    rw [List.getElem?_append_right (by simp; omega)]
    simp [hp, hq])
  rwa [Nat.zero_add] at this
theorem hi24 {l : List Int} (h : l.length = 24) : (Tryz.prog.info? 60).map (·.size) = some (V l).length := by rw [info44, V_len, h]
theorem hi49 {l : List Int} (h : l.length = 49) : (Tryz.prog.info? 62).map (·.size) = some (V l).length := by rw [info49, V_len, h]
theorem _root_.Go.Proofs.YtpmojmhamgcfmaaGreat.sf.Hld.lower {base base' top : Nat} {w W : World} {bs : List (Nat × List Value)} (h : Hld base top w bs W) (hb : base' ≤ base) : Hld base' top w bs W := ⟨h.at_, h.below.mono hb, h.size⟩
theorem _root_.Go.Proofs.YtpmojmhamgcfmaaGreat.sf.Hld.start3 {w : World} {a b c : Nat} {xs ys zs : List Value} {t t' t'' : TypeId} (h1 : Arr w a xs t) (h2 : Arr w b ys t') (h3 : Arr w c zs t'') : Hld w.heap.size w.heap.size w [(a, xs), (b, ys), (c, zs)] w.drew :=
  ⟨fun p hp => by
    simp only [List.mem_cons, List.not_mem_nil, or_false] at hp
    rcases hp with rfl | rfl | rfl
    · exact ⟨h1.lt, fun j v hv => by rw [Nat.zero_add]; exact h1.cell hv⟩
    · exact ⟨h2.lt, fun j v hv => by rw [Nat.zero_add]; exact h2.cell hv⟩
    · exact ⟨h3.lt, fun j v hv => by rw [Nat.zero_add]; exact h3.cell hv⟩,
    ⟨rfl, rfl, rfl, Nat.le_refl _, fun _ _ => rfl⟩, Nat.le_refl _⟩
theorem _root_.Go.Proofs.YtpmojmhamgcfmaaGreat.sf.Hld.trd {base top a : Nat} {w W : World} {xs : List Value} {p q : Nat × List Value} {l : List (Nat × List Value)} (h : Hld base top w (p :: q :: (a, xs) :: l) W) : W.rangeAt a 0 xs := (h.at_ (a, xs) (by simp)).2
theorem step_build {P : Program} {ops : Array Oper} {o : Oper} {a : Act} {w : World} {K : Act → World → Prop} {Q : Exit → Act → World → Prop} {E : Prop} (hgd : o.guard = none) (t : TypeId) (parts : Array (Nat × Operand)) (ho : o.op = .build t parts)
    (l : List (Nat × Value)) (hl : (parts.toList.map fun p => (p.1, a.eval p.2)) = l) (cells : Array Value) (hb : P.built t l = some cells)
    (h : K (a.put o.dst (.agg cells)) w) : if Region.wanted o (yielded ops a.tmps) = true then Oper.wp P o a w K Q else E := by
  have hw : Region.wanted o (yielded ops a.tmps) = true := by simp [Region.wanted, hgd]
  have hb' : P.built t (parts.map fun (i, x) => (i, a.eval x)).toList = some cells := by
    rw [Array.toList_map]
    subst hl
    exact hb
  rw [if_pos hw]
  refine wp_build t parts ho (by rw [hb']; rfl) ?_
  rw [hb']
  exact h
theorem _root_.Go.Proofs.YtpmojmhamgcfmaaGreat.sf.Hld.other {base top : Nat} {w W : World} {bs : List (Nat × List Value)} (h : Hld base top w bs W) {g : Nat} (hg : base ≤ g) (hne : ∀ p ∈ bs, p.1 ≠ g) (cs : Array Value) : Hld base top w bs (W.setRow g cs) :=
  ⟨fun p hp => ⟨(h.at_ p hp).1, fun j v hv => by
    rw [World.cell?_of_block (w := W) (a := ⟨p.1, 0 + j, none⟩) (setRow_other W g p.1 cs (hne p hp))]
    exact (h.at_ p hp).2 j v hv⟩, below_setRow h.below hg _, by simpa using h.size⟩

set_option maxHeartbeats 4000000 in
theorem surface_any (p q : List Int) (n : Nat) (w : World) (hp : p.length = 24) (hq : q.length = 24) (hn : n ≤ 24) :
    Calls Tryz.prog 43 #[.agg (V (gl p q n)).toArray] w fun e w' => ∃ g, e = .returned g ∧ Svl w' w.heap.size w'.heap.size g (p.take n) (q.take n) ∧ Below w.heap.size w w' := by
  go_enter Tryz.func43, Tryz.ntmps43
  go_wp2_with fail
  generalize hw1 : (w.alloc (.cells (V (gl p q n)).toArray 62)).alloc (.cells #[.slice none 0 0, .slice none 0 0] 31) = w1
  have A0 : Hid (Arr w1 w.heap.size (V (gl p q n)) 62) := Lib.hid (by rw [← hw1]; exact (Arr.new w _ _ rfl).alloc _)
  have A1 : Hid (Arr w1 (w.heap.size + 1) [.slice none 0 0, .slice none 0 0] 31) := Lib.hid (by rw [← hw1]; exact Arr.new _ _ _ (by simp))
  have B1 : Hid (Below w.heap.size w w1) := Lib.hid (by rw [← hw1]; exact ((Below.refl _ _).alloc (Nat.le_refl _) _).alloc (by simp) _)
  have s1 : w1.heap.size = w.heap.size + 2 := by rw [← hw1]; simp
  clear hw1
  refine wp_region_held_drew (S := Hld w.heap.size w1.heap.size w1 [(w.heap.size, V (gl p q n))]) (by kernel_rfl) ((Hld.start1 A0.out).lower (by omega)) (fun hHeld => ?_)
  have b1 : Below w1.heap.size w1 w1.drew := ⟨rfl, rfl, rfl, Nat.le_refl _, fun _ _ => rfl⟩
  generalize w1.drew = w2 at *
  have s2 := b1.size
  replace A1 := Lib.hid (A1.out.keep b1 A1.out.lt)
  replace B1 := Lib.hid (B1.out.trans (b1.mono B1.out.size))
  clear b1 A0
  refine wpAnyH_take (i := 0) (v := .pointer (some ⟨w.heap.size, 0, none⟩)) rfl (by kernel_rfl) (by kernel_rfl) (by kernel_rfl) (fun _ _ _ h => h) (Or.inl ⟨by rfl, fun w hSw => by go_simp⟩) hHeld ?_
  refine wpAnyH_take (i := 2) (v := .pointer (some ⟨w.heap.size, 48, none⟩)) rfl (by kernel_rfl) (by kernel_rfl) (by kernel_rfl) (fun _ _ _ h => h) (Or.inl ⟨by rfl, fun w hSw => by go_simp⟩) hHeld ?_
  refine wpAnyH_take (i := 5) (v := .pointer (some ⟨w.heap.size, 24, none⟩)) rfl (by kernel_rfl) (by kernel_rfl) (by kernel_rfl) (fun _ _ _ h => h) (Or.inl ⟨by rfl, fun w hSw => by go_simp⟩) hHeld ?_
  refine wpAnyH_take (i := 7) (v := .pointer (some ⟨w.heap.size, 48, none⟩)) rfl (by kernel_rfl) (by kernel_rfl) (by kernel_rfl) (fun _ _ _ h => h) (Or.inl ⟨by rfl, fun w hSw => by go_simp⟩) hHeld ?_
  refine wpAnyH_take (i := 1) (v := .agg (V p).toArray) rfl (by kernel_rfl) (by kernel_rfl) (by kernel_rfl) (fun _ _ _ h => h) (yieldsIf_load_mid (by rfl) _ _ rfl w.heap.size 0 rfl (V p) _ (fun w h => rg_right hp h.fst) Tryz.underlying60 rfl (hi24 hp)) hHeld ?_
  refine wpAnyH_take (i := 6) (v := .agg (V q).toArray) rfl (by kernel_rfl) (by kernel_rfl) (by kernel_rfl) (fun _ _ _ h => h) (yieldsIf_load_mid (by rfl) _ _ rfl w.heap.size 24 rfl (V q) _ (fun w h => rg_up hp hq h.fst) Tryz.underlying60 rfl (hi24 hq)) hHeld ?_
  refine wpAnyH_take (i := 3) (v := .int .i64 n) rfl (by kernel_rfl) (by kernel_rfl) (by kernel_rfl) (fun _ _ _ h => h) (Or.inl ⟨by rfl, fun w hSw => by have := rg_count hp hq hSw.fst; go_simp⟩) hHeld ?_
  refine wpAnyH_take (i := 8) (v := .int .i64 n) rfl (by kernel_rfl) (by kernel_rfl) (by kernel_rfl) (fun _ _ _ h => h) (Or.inl ⟨by rfl, fun w hSw => by have := rg_count hp hq hSw.fst; go_simp⟩) hHeld ?_
  refine wpAnyH_ready (rs := [4]) (by kernel_rfl) (by simp) (AllReadyH.cons rfl (fun K hK => ?_) AllReadyH.nil)
  go_simp
  refine (list_gives p n _ hp hn).mono ?_
  rintro e w3 ⟨v1, rfl, o1, b1⟩
  obtain ⟨P1, c1, rfl⟩ := own_form o1
  have R1 := Lib.hid (Row.of_own o1); have C1 := (own_cap o1).2; clear o1
  have s3 := b1.size
  have l1 : (p.take n).length = n := by simp; omega
  have l2 : (q.take n).length = n := by simp; omega
  replace A1 := Lib.hid (A1.out.keep b1 A1.out.lt)
  replace B1 := Lib.hid (B1.out.trans (b1.mono B1.out.size))
  go_wp2_with fail
  have hHeld2 := hHeld.later b1 (by omega); clear b1 hHeld
  refine hK.out _ _ hHeld2 (fun hHeld => ?_)
  clear hK K hHeld2
  refine wpAnyH_ready (rs := [9]) (by kernel_rfl) (by simp) (AllReadyH.cons rfl (fun K hK => ?_) AllReadyH.nil)
  go_simp
  refine (list_gives q n _ hq hn).mono ?_
  rintro e w4 ⟨v2, rfl, o2, b1⟩
  obtain ⟨P2, c2, rfl⟩ := own_form o2
  have R2 := Lib.hid (Row.of_own o2); have C2 := (own_cap o2).2; clear o2
  have s4 := b1.size
  replace A1 := Lib.hid (A1.out.keep b1 A1.out.lt)
  replace R1 := Lib.hid (R1.out.keep b1 R1.out.2.1)
  replace B1 := Lib.hid (B1.out.trans (b1.mono B1.out.size))
  go_wp2_with fail
  have hHeld2 := hHeld.later b1 (by omega); clear b1 hHeld
  refine hK.out _ _ hHeld2 (fun hHeld => ?_)
  clear hK K hHeld2
  refine wpAnyH_ready (rs := [10]) (by kernel_rfl) (by simp) (AllReadyH.cons rfl (fun K hK => ?_) AllReadyH.nil)
  go_simp
  refine hK.out _ _ hHeld (fun hHeld2 => ?_)
  clear hK K hHeld2
  refine wpAnyH_ready (rs := [11]) (by kernel_rfl) (by simp) (AllReadyH.cons rfl (fun K hK => ?_) AllReadyH.nil)
  rw [l1] at R1 C1; rw [l2] at R2 C2
  refine step_store_row rfl 31 _ _ rfl (w.heap.size + 1) #[.slice P1 n c1, .slice P2 n c2] rfl (by simp [go_sem]) 31 #[.slice none 0 0, .slice none 0 0] A1.out size2 rfl (by simp [Value.oneCell']) ?_
  refine hK.out _ _ (hHeld.other (by omega) (by simp) _) (fun hHeld2 => ?_)
  clear hK K hHeld2
  refine wpAnyH_done (by kernel_rfl) ?_ _
  go_wp2_with fail
  refine bodyPost_ret (v := .agg #[.slice P1 n c1, .slice P2 n c2]) (results_cell_row rfl _ _ (w.heap.size + 1) 31 #[.slice P1 n c1, .slice P2 n c2] (0, 0) _ rfl A1.out.row Tryz.underlying31 rfl size2) rfl ⟨_, rfl, ?_, below_setRow B1.out (by omega) _⟩
  have oo : Out w.heap.size w2.heap.size w4 (w4.setRow (w.heap.size + 1) #[.slice P1 n c1, .slice P2 n c2]) := (Out.refl _ _ _).row_ (by omega) (by omega) _
  exact ⟨P1, n, c1, P2, n, c2, w2.heap.size, w3.heap.size, w3.heap.size, w4.heap.size, rfl, R1.out.out oo (.inr (by omega)), R2.out.out oo (.inr (by omega)), C1, C2, by omega, by have := oo.size; omega, by omega, by have := oo.size; omega, .inl (Nat.le_refl _), Nat.le_refl _⟩
end Go.Proofs.YtpmojmhamgcfmaaGreat.gl
