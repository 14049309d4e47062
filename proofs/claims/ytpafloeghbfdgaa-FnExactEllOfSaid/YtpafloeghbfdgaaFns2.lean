/-
  Contracts of the model's InversePerm, ThenPerm, IdentityPerm; the program's ThenPerm, IdentityPerm.
-/
import Derived.Test.YtpafloeghbfdgaaFns
import Derived.Laws.OwnMore
namespace Go.Proofs.Ytpafloeghbfdgaa.fns
open Go.ChangeShapes Go.WideShapes Go.ChangeAt Go.RowKit
open Go.Proofs.Ytpafloeghbfdgaa.mem Go.Proofs.Ytpafloeghbfdgaa.ints Go.Proofs.Ytpafloeghbfdgaa.arr Go.Proofs.Ytpafloeghbfdgaa.pm Go.Proofs.Ytpafloeghbfdgaa.permOk Go.Proofs.Ytpafloeghbfdgaa.permOf Go.Proofs.Ytpafloeghbfdgaa.inv
set_option linter.unusedVariables false
set_option maxRecDepth 100000

theorem Ok.nat {xs : List Int} (h : Ok xs) {k : Nat} (hk : k < xs.length) : ∃ z : Nat, z < xs.length ∧ xs[k]? = some (z : Int) ∧ xs.getD k 0 = (z : Int) := by
  have h1 := h.lo k hk; have h2 := h.hi k hk
  have e : xs[k]? = some (xs.getD k 0) := by rw [List.getD, List.getElem?_eq_getElem hk]; rfl
  exact ⟨(xs.getD k 0).toNat, by omega, by rw [e]; congr 1; omega, by omega⟩
/-- A made row at block w.heap.size holds l. -/
def Made (n : Nat) (w wr : World) (l : List Int) : Prop := wr.ownsRow w.heap.size 3 1 (.slice (some ⟨w.heap.size, 0, none⟩) n n) n (V l) ∧ Below w.heap.size w wr
theorem Made.cell {n : Nat} {w wr : World} {l : List Int} (h : Made n w wr l) {k : Nat} (hk : k < n) : wr.cell? ⟨w.heap.size, k, none⟩ = some (.int .i64 (l.getD k 0)) := by
  have hl : l.length = n := by simpa [V] using h.1.1
  rw [h.1.cellAt k (by omega)]
  exact V_getD (by omega)
theorem Made.set_ {n : Nat} {w wr : World} {l : List Int} (h : Made n w wr l) (k : Nat) (z : Int) : Made n w (wr.setCell ⟨w.heap.size, k, none⟩ (.int .i64 z)) (l.set k z) := by
  have := (h.1.stored k (.int .i64 z)).1
  rw [V_set] at this
  exact ⟨this, h.2.setCell (Nat.le_refl _) _⟩

set_option maxHeartbeats 1000000 in
theorem l02inv_any (A : Option Addr) (n c : Nat) (xs : List Int) (hi : Nat) (w : World) (hx : Rd w hi A n (V xs)) (ok : Ok xs) :
    Calls Try.prog 84 #[.slice A n c] w (Gives (invTo n xs n) w) := by
  obtain ⟨i0, hi0, hz0, hz1, hz2⟩ := info_parts infoI
  have lx : xs.length = n := by simpa [V] using hx.1
  have hn : n ≤ 24 := by have := ok.len; omega
  have LX := Lib.hid lx; clear lx
  have OK := Lib.hid ok; clear ok
  have HX := Lib.hid hx; clear hx
  have HZ2 := Lib.hid hz2; clear hz2
  go_enter Try.func84, Try.ntmps84
  go_wp2_with (at_make; refine wpList_make_full _ rfl _ _ 23 rfl w.heap.size 3 i0 _ 1 Try.underlying23 hi0 hz0 hz1 _ _ _ _ n rfl rfl rfl rfl ?b2 ?b3 (Nat.le_refl _) ?_)
  case b2 => rw [HZ2.out]; omega
  case b3 => unfold maxLen; omega
  intro w1 hown hg
  have hb1 : Below w.heap.size w w1 := (Below.refl _ _).grown hg (Nat.le_refl _) (by simp)
  have HM : Hid (Made n w w1 (invTo n xs 0)) := Lib.hid ⟨by simpa [invTo, V, toList_madeCells_one] using hown, hb1⟩
  clear hown hg hb1
  go_wp2
  go_loopw [11] (fun i wr => ∃ k : Nat, k ≤ n ∧ i = .int .i64 k ∧ Made n w wr (invTo n xs k)) (fun i _ => n - (intOf i).toNat)
  case atStart => exact ⟨0, Nat.zero_le _, rfl, HM.out⟩
  case round =>
    obtain ⟨k, hk, rfl, hm⟩ := hrel
    have HR := Lib.hid hm; clear hm HM
    by_cases hlt : k < n
    · obtain ⟨g, off, u, rfl, hgl, hxu, hcx⟩ := HX.out.at_ hlt
      obtain ⟨s, hxs, rfl⟩ := V_at hxu
      obtain ⟨z, hz, hqz, hqd⟩ := Ok.nat OK.out (k := k) (by rw [LX.out]; exact hlt)
      rw [hqz] at hxs
      obtain rfl := Option.some.inj hxs
      rw [LX.out] at hz
      have hgw : g < w.heap.size := Nat.lt_of_lt_of_le hgl HX.out.2.1
      rw [← HR.out.2.cell (p := ⟨g, off + k, none⟩) hgw] at hcx
      have hc := HR.out.cell hz
      have hf := HR.out.1.frozenAt z
      have HD := Lib.hid hqd; clear hqd hqz hxs hxu
      go_wp2
      go_roundw
      case rel =>
        refine ⟨k + 1, by omega, by go_num, ?_⟩
        have e : invTo n xs (k + 1) = (invTo n xs k).set z (k : Int) := by rw [invTo, HD.out]; rfl
        rw [e]
        exact HR.out.set_ z _
      case measure => simp [intOf]; omega
    · obtain rfl : k = n := by omega
      go_wp2
      go_ret
      exact ⟨_, rfl, by rw [invTo_len]; exact HR.out.1, HR.out.2⟩

end Go.Proofs.Ytpafloeghbfdgaa.fns
