/-
  Contracts of the laws' helpers on slices of strings that came in: szStringS (a bound on their sizes), toStringS (a copy).
-/
import Derived.Test.YtfcocfaobglbaaaStrs
namespace Go.Proofs.Ytfcocfaobglbaaa.strsArg
open Go.ChangeShapes Go.WideShapes Go.ChangeAt Go.RowKit
open Go.Proofs.Ytfcocfaobglbaaa.mem Go.Proofs.Ytfcocfaobglbaaa.strs
set_option linter.unusedVariables false

def sm (l : List ByteArray) : Nat := (l.map (·.size)).sum
theorem sm_take {l : List ByteArray} {k : Nat} {s : ByteArray} (h : l[k]? = some s) : sm (l.take (k + 1)) = sm (l.take k) + s.size := by
  rw [List.take_add_one, h]; simp [sm]
theorem sm_le (l : List ByteArray) (k : Nat) : sm (l.take k) ≤ sm l := by
  have h : sm l = sm (l.take k) + sm (l.drop k) := by
    conv => lhs; rw [← List.take_append_drop k l]
    simp only [sm, List.map_append, List.sum_append]
  omega

def szOf (k : Int) (xs : List ByteArray) : Int := if xs.length + (sm xs : Int) ≤ k then k - xs.length - sm xs else -1

set_option maxHeartbeats 400000 in
theorem sz_any (A : Option Addr) (n c : Nat) (xs : List ByteArray) (hi : Nat) (k : Int) (w : World)
    (hx : Rd w hi A n (S xs)) (hn : n ≤ maxLen) (he : ∀ s ∈ xs, s.size ≤ maxLen) (h1 : 0 ≤ k) (h2 : k ≤ 4611686018427387904) :
    Calls Try.prog 20 #[.slice A n c, .int .i64 k] w fun e w' => e = .returned (.int .i64 (szOf k xs)) ∧ w = w' := by
  unfold maxLen at hn
  have lx : xs.length = n := by simpa [S] using hx.1
  have HX := Lib.hid hx; clear hx
  have HE := Lib.hid he; clear he
  by_cases hkn : k < n
  · have e : szOf k xs = -1 := by unfold szOf; rw [if_neg (by omega)]
    have E := Lib.hid e; clear e lx
    go_enter Try.func20, Try.ntmps20
    go_wp2
    go_ret
    exact ⟨ret_int E.out.symm, rfl⟩
  · have LX := Lib.hid lx; clear lx
    have hd : decide (k - (n : Int) < 0) = false := by simp; omega
    go_enter Try.func20, Try.ntmps20
    go_wp2
    go_loop [1, 5] (fun q i => ∃ j : Nat, j ≤ n ∧ i = .int .i64 j ∧ (sm (xs.take j) : Int) ≤ k - n ∧ q = .int .i64 (k - n - sm (xs.take j))) (fun _ i => n - (intOf i).toNat)
    case atStart => exact ⟨0, Nat.zero_le _, rfl, by simp [sm]; omega, by simp [sm]⟩
    case round =>
      obtain ⟨j, hj, rfl, hle, rfl⟩ := hrel
      by_cases hlt : j < n
      · obtain ⟨g, off, u, rfl, hgl, hxu, hcx⟩ := HX.out.at_ hlt
        obtain ⟨s, hxs, rfl⟩ := S_at hxu
        have hsz : s.size ≤ 9223372036854775807 := by have := HE.out s (List.mem_of_getElem? hxs); unfold maxLen at this; omega
        have hst := sm_take hxs
        have hsl := sm_le xs (j + 1)
        have HST := Lib.hid hst; clear hst hxs hxu
        generalize HT : sm (xs.take j) = t at *
        have HT' := Lib.hid HT; clear HT
        by_cases hneg : k - (n : Int) - (t : Int) - (s.size : Int) < 0
        · have e : szOf k xs = -1 := by
            have := HST.out; have := LX.out
            unfold szOf; rw [if_neg (by omega)]
          have E := Lib.hid e; clear e hsl
          go_wp2
          go_ret
          exact ⟨ret_int E.out.symm, rfl⟩
        · clear hsl
          go_wp2
          go_round
          case rel => exact ⟨j + 1, by omega, by go_num, by rw [HST.out]; omega, by rw [HST.out]; go_num⟩
          case measure => simp [intOf]; omega
      · obtain rfl : j = n := by omega
        go_wp2
        go_ret
        have e : xs.take j = xs := List.take_of_length_le (by rw [LX.out]; exact Nat.le_refl _)
        rw [e] at hle ⊢
        refine ⟨ret_int ?_, rfl⟩
        unfold szOf
        rw [if_pos (by rw [LX.out]; omega), LX.out]

theorem infoS : (Try.prog.info? 9).map (fun i => (i.zero, i.size, i.bytes)) = some (some (.string ⟨#[]⟩), 1, 16) := by kernel_rfl
def Upto (ys : List Value) (xs : List ByteArray) (j : Nat) : Prop := ∀ i : Nat, i < j → ys[i]? = (S xs)[i]?
theorem Upto.step {ys : List Value} {xs : List ByteArray} {j : Nat} {s : ByteArray} (h : Upto ys xs j) (hl : j < ys.length) (hs : (S xs)[j]? = some (.string s)) : Upto (ys.set j (.string s)) xs (j + 1) := by
  intro i hi
  by_cases e : i = j
  · subst e; rw [List.getElem?_set_self hl, hs]
  · rw [List.getElem?_set_ne (by omega)]; exact h i (by omega)
theorem Upto.all {ys : List Value} {xs : List ByteArray} {n : Nat} (h : Upto ys xs n) (hl : ys.length = n) (hx : xs.length = n) : ys = S xs := by
  refine List.ext_getElem? fun i => ?_
  by_cases hi : i < n
  · exact h i hi
  · rw [List.getElem?_eq_none (by omega), List.getElem?_eq_none (by simp [S]; omega)]
def CopyRel (xs : List ByteArray) (n : Nat) (w wr : World) (j : Nat) : Prop := ∃ ys, wr.ownsRow w.heap.size 9 1 (.slice (some ⟨w.heap.size, 0, none⟩) n n) n ys ∧ Upto ys xs j ∧ Below w.heap.size w wr

set_option maxHeartbeats 400000 in
theorem to_any (A : Option Addr) (n c : Nat) (xs : List ByteArray) (hi : Nat) (w : World)
    (hx : Rd w hi A n (S xs)) (hn : n ≤ 1048576) :
    Calls Try.prog 22 #[.slice A n c] w fun e w' => e = .returned (.slice (some ⟨w.heap.size, 0, none⟩) n n) ∧ w'.ownsRow w.heap.size 9 1 (.slice (some ⟨w.heap.size, 0, none⟩) n n) n (S xs) ∧ Below w.heap.size w w' := by
  obtain ⟨i0, hi0, hz0, hz1, hz2⟩ := info_parts infoS
  have lx : xs.length = n := by simpa [S] using hx.1
  have LX := Lib.hid lx; clear lx
  have HX := Lib.hid hx; clear hx
  have HZ2 := Lib.hid hz2; clear hz2
  go_enter Try.func22, Try.ntmps22
  go_wp2_with (at_make; refine wpList_make_full _ rfl _ _ 23 rfl w.heap.size 9 i0 _ 1 Try.underlying23 hi0 hz0 hz1 _ _ _ _ n rfl rfl rfl rfl ?b2 ?b3 (Nat.le_refl _) ?_)
  case b2 => rw [HZ2.out]; omega
  case b3 => unfold maxLen; omega
  intro w1 hown hg
  have hb1 : Below w.heap.size w w1 := (Below.refl _ _).grown hg (Nat.le_refl _) (by simp)
  have HO := Lib.hid hown; have HB := Lib.hid hb1; clear hown hg hb1
  go_wp2
  go_loopw [4] (fun i wr => ∃ j : Nat, j ≤ n ∧ i = .int .i64 j ∧ CopyRel xs n w wr j) (fun i _ => n - (intOf i).toNat)
  case atStart => exact ⟨0, Nat.zero_le _, rfl, _, HO.out, fun i hi => by omega, HB.out⟩
  case round =>
    obtain ⟨j, hj, rfl, hcr⟩ := hrel
    have HC := Lib.hid hcr; clear hcr
    by_cases hlt : j < n
    · obtain ⟨ys, hown, hu, hb⟩ := HC.out
      obtain ⟨g, off, u, rfl, hgl, hxu, hcx⟩ := HX.out.at_ hlt
      obtain ⟨s, hxs, rfl⟩ := S_at hxu
      have hgw : g < w.heap.size := Nat.lt_of_lt_of_le hgl HX.out.2.1
      have hcx' : wr.cell? ⟨g, off + j, none⟩ = some (.string s) := by rw [hb.cell (p := ⟨g, off + j, none⟩) hgw]; exact hcx
      have hly : ys.length = n := by simpa using hown.1
      have hcy : wr.cell? ⟨w.heap.size, j, none⟩ = some (ys.getD j undef) := by
        rw [hown.cellAt j (by omega), List.getElem?_eq_getElem (by omega)]; simp [List.getD, List.getElem?_eq_getElem (show j < ys.length by omega)]
      have hfy := hown.frozenAt j
      have HOW := Lib.hid hown; have HU := Lib.hid hu; have HBB := Lib.hid hb; have HXU := Lib.hid hxu; have HLY := Lib.hid hly
      clear hown hu hb hxu hxs hcx HC hly
      go_wp2
      go_roundw
      case rel => exact ⟨j + 1, by omega, by go_num, _, (HOW.out.stored j (.string s)).1, HU.out.step (by rw [HLY.out]; exact hlt) HXU.out, HBB.out.setCell (Nat.le_refl _) _⟩
      case measure => simp [intOf]; omega
    · obtain rfl : j = n := by omega
      go_wp2
      go_ret
      obtain ⟨ys, hown, hu, hb⟩ := HC.out
      refine ⟨rfl, ?_, hb⟩
      rw [← hu.all (by simpa using hown.1) LX.out]
      exact hown

end Go.Proofs.Ytfcocfaobglbaaa.strsArg
