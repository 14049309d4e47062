/-
  The contract of the program's ParseInt: the int whose text is s, and true; or 0 and false, if there is none.
-/
import Derived.Test.YtfcocfaobglbaaaDoorImplFmt
import Derived.Test.YtfcocfaobglbaaaDoorParse
import Derived.Lib.AtoiErrMem
namespace Go.Proofs.YtfcocfaobglbaaaDoor.implParse
open Go.ChangeShapes Go.WideShapes Go.ChangeAt Go.RowKit
open Go.Proofs.YtfcocfaobglbaaaDoor.mem Go.Proofs.YtfcocfaobglbaaaDoor.num Go.Proofs.YtfcocfaobglbaaaDoor.door Go.Proofs.YtfcocfaobglbaaaDoor.parse
set_option linter.unusedVariables false

theorem atoi_ok (s : ByteArray) (hs : s.size ≤ 1048576) (v : Int) (h : Lib.atoiAll s.data.toList = .ok v) (w : World) :
    Calls Tryd.prog 18 #[.string s] w fun e w' => e = .returned (.tuple #[.int .i64 v, .nilIface]) ∧ Below w.heap.size w w' :=
  (Tryd.strconv_Atoi_ok s (by omega) v h w).mono fun e w' ⟨he, hw⟩ => ⟨he, by
    rcases hw with rfl | ⟨t, rfl⟩
    · exact Below.refl _ _
    · exact Lib.bytesWorld_below _ _ _⟩

def Bad (w : World) (e : Ending) (w' : World) : Prop := ∃ x N, e = .returned (.tuple #[.int .i64 x, .iface 55 (.pointer (some ⟨N, 0, none⟩))]) ∧ Below w.heap.size w w'
theorem atoi_bad (s : ByteArray) (hs : s.size ≤ 1048576) (h : ∀ v, Lib.atoiAll s.data.toList ≠ .ok v) (w : World) (errs : Errs w) :
    Calls Tryd.prog 18 #[.string s] w (Bad w) := by
  obtain ⟨⟨t0, p0, c0⟩, ⟨t1, p1, c1⟩⟩ := errs
  cases hc : Lib.atoiAll s.data.toList
  · exact absurd hc (h _)
  · exact (Any.strconv_Atoi_syntax Tryd.laysC172 s (by omega) hc _ w c0 (.inr ⟨_, _, rfl⟩)).mono fun e w' ⟨N, he, _, _, hb⟩ => ⟨_, N, he, hb⟩
  · exact (Any.strconv_Atoi_range Tryd.laysC172 s (by omega) hc _ w c1 (.inr ⟨_, _, rfl⟩)).mono fun e w' ⟨N, he, _, _, hb⟩ => ⟨_, N, he, hb⟩

set_option maxHeartbeats 800000 in
theorem impl_any (s : ByteArray) (w : World) (hs : s.size ≤ 1048576) (tab : Pow w) (errs : Errs w) :
    Calls Tryd.prog 7 #[.string s] w (parse.Post s w) := by
  have TAB := Lib.hid tab; have ERR := Lib.hid errs; clear tab errs
  by_cases hok : ∃ v, Lib.atoiAll s.data.toList = .ok v
  · obtain ⟨v, hv⟩ := hok
    obtain ⟨b1, b2⟩ := Lib.atoiAll_bounds hv
    have HV := Lib.hid hv; clear hv
    go_enter Tryd.func7, Tryd.ntmps7
    go_wp2_with fail
    refine (atoi_ok s hs v HV.out _).mono ?_
    rintro e wa ⟨rfl, ba⟩
    have BA := Lib.hid ba; clear ba
    by_cases heq : Lib.itoa v = s.data.toList
    · have hb1 := beq_yes heq
      have HEQ := Lib.hid heq; clear heq
      go_wp2_with fail
      refine (implFmt.impl_any v _ b1 b2 (TAB.out.keep BA.out TAB.out.lt)).mono ?_
      rintro e wb ⟨rfl, bb⟩
      have BB := Lib.hid (BA.out.trans (bb.mono BA.out.size)); clear bb
      go_wp2_with fail
      go_ret2
      exact .inl ⟨v, ⟨⟨b1, b2⟩, HEQ.out⟩, rfl, BB.out⟩
    · have hb1 := beq_no heq
      have hno : ∀ m, ¬ Num s.data.toList m := fun m hm => by
        have h1 := atoi_itoa hm.1
        rw [hm.2, HV.out] at h1
        injection h1 with h1
        subst h1
        exact heq hm.2
      have HNO := Lib.hid hno; clear hno heq
      go_wp2_with fail
      refine (implFmt.impl_any v _ b1 b2 (TAB.out.keep BA.out TAB.out.lt)).mono ?_
      rintro e wb ⟨rfl, bb⟩
      have BB := Lib.hid (BA.out.trans (bb.mono BA.out.size)); clear bb
      go_wp2_with fail
      go_ret2
      exact .inr ⟨HNO.out, rfl, BB.out⟩
  · have hno : ∀ m, ¬ Num s.data.toList m := fun m hm => by
      have h1 := atoi_itoa hm.1
      rw [hm.2] at h1
      exact hok ⟨_, h1⟩
    have HNO := Lib.hid hno
    have HB := Lib.hid (fun v (hv : Lib.atoiAll s.data.toList = .ok v) => hok ⟨v, hv⟩)
    clear hno hok
    go_enter Tryd.func7, Tryd.ntmps7
    go_wp2_with fail
    refine (atoi_bad s hs HB.out _ ERR.out).mono ?_
    rintro e wa ⟨x, N, rfl, ba⟩
    have BA := Lib.hid ba; clear ba
    go_wp2_with fail
    go_ret2
    exact .inr ⟨HNO.out, rfl, BA.out⟩
end Go.Proofs.YtfcocfaobglbaaaDoor.implParse
