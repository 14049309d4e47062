/-
  Contracts of the laws' helpers on slices of strings: eqStringS, markText, markStringS, heldStringS.
-/
import Derived.Test.YtfcocfaobglbaaaMem
import Derived.Outline
import Derived.Laws.Concat
import Derived.Deep.AppendLies
import Derived.Deep.RegionHeld3
namespace Go.Proofs.Ytfcocfaobglbaaa.strs
open Go.ChangeShapes Go.WideShapes Go.ChangeAt Go.RowKit
open Go.Proofs.Ytfcocfaobglbaaa.mem
set_option linter.unusedVariables false

def S (l : List ByteArray) : List Value := l.map Value.string
theorem S_at {l : List ByteArray} {k : Nat} {u : Value} (h : (S l)[k]? = some u) : ∃ s, l[k]? = some s ∧ u = .string s := by
  simp only [S, List.getElem?_map, Option.map_eq_some_iff] at h
  obtain ⟨s, h1, h2⟩ := h
  exact ⟨s, h1, h2.symm⟩

def Drawn (w w' : World) : Prop := ∃ m, w' = w.drewN m
def eqs (xs ys : List ByteArray) : Bool := decide (xs = ys)
def Same (xs ys : List ByteArray) (k : Nat) : Prop := ∀ j, j < k → xs[j]? = ys[j]?

theorem Drawn.cell {w w' : World} (h : Drawn w w') (p : Addr) : w'.cell? p = w.cell? p := by obtain ⟨m, rfl⟩ := h; rfl
theorem Drawn.frozen {w w' : World} (h : Drawn w w') (p : Addr) : w'.frozen? p = w.frozen? p := by obtain ⟨m, rfl⟩ := h; rfl
theorem Drawn.more {w w' : World} (h : Drawn w w') (n : Nat) : Drawn w (w'.drewN n) := by obtain ⟨m, rfl⟩ := h; exact ⟨m + n, by simp⟩
theorem Drawn.below {w w' : World} (h : Drawn w w') (B : Nat) : Below B w w' := by obtain ⟨m, rfl⟩ := h; exact below_drewN (Below.refl _ _) _
theorem beq_yes {s t : ByteArray} (h : s = t) : (s.toList == t.toList) = true := by simp [h]
theorem beq_no {s t : ByteArray} (h : s ≠ t) : (s.toList == t.toList) = false := by
  rw [beq_eq_false_iff_ne]
  intro e
  rw [ByteArray.toList_eq, ByteArray.toList_eq] at e
  exact h (bytes_inj e)
theorem Same.step {xs ys : List ByteArray} {k : Nat} {s : ByteArray} (h : Same xs ys k) (h1 : xs[k]? = some s) (h2 : ys[k]? = some s) : Same xs ys (k + 1) := by
  intro j hj
  by_cases e : j = k
  · subst e; rw [h1, h2]
  · exact h j (by omega)
theorem eqs_no {xs ys : List ByteArray} {k : Nat} {s t : ByteArray} (h1 : xs[k]? = some s) (h2 : ys[k]? = some t) (h : s ≠ t) : eqs xs ys = false := by
  unfold eqs
  rw [decide_eq_false_iff_not]
  rintro rfl
  rw [h1] at h2
  exact h (Option.some.inj h2)
theorem eqs_len {xs ys : List ByteArray} (h : xs.length ≠ ys.length) : eqs xs ys = false := by
  unfold eqs
  rw [decide_eq_false_iff_not]
  rintro rfl
  exact h rfl
theorem eqs_yes {xs ys : List ByteArray} {n : Nat} (h1 : xs.length = n) (h2 : ys.length = n) (h : Same xs ys n) : eqs xs ys = true := by
  unfold eqs
  rw [decide_eq_true_iff]
  refine List.ext_getElem? fun i => ?_
  by_cases hi : i < n
  · exact h i hi
  · rw [List.getElem?_eq_none (by omega), List.getElem?_eq_none (by omega)]

set_option maxHeartbeats 400000 in
theorem eq_any (A : Option Addr) (n c : Nat) (B : Option Addr) (m d : Nat) (xs ys : List ByteArray) (h1 h2 : Nat) (w : World)
    (hx : Rd w h1 A n (S xs)) (hy : Rd w h2 B m (S ys)) (hn : n ≤ maxLen) (hm : m ≤ maxLen) :
    Calls Try.prog 15 #[.slice A n c, .slice B m d] w fun e w' => e = .returned (.bool (eqs xs ys)) ∧ Drawn w w' := by
  unfold maxLen at hn hm
  have lx : xs.length = n := by simpa [S] using hx.1
  have ly : ys.length = m := by simpa [S] using hy.1
  have LX := Lib.hid lx; have LY := Lib.hid ly; clear lx ly
  have HX := Lib.hid hx; have HY := Lib.hid hy; clear hx hy
  by_cases hnm : n = m
  · obtain rfl : m = n := hnm.symm
    clear hnm
    go_enter Try.func15, Try.ntmps15
    go_wp2
    go_loopw [5] (fun i wr => ∃ k : Nat, k ≤ m ∧ i = .int .i64 k ∧ Drawn w wr ∧ Same xs ys k) (fun i _ => m - (intOf i).toNat)
    case atStart => exact ⟨0, Nat.zero_le _, rfl, ⟨0, rfl⟩, fun j hj => by omega⟩
    case round =>
      obtain ⟨k, hk, rfl, hdr, hsame⟩ := hrel
      have HS := Lib.hid hsame; have HD := Lib.hid hdr; clear hsame hdr
      by_cases hlt : k < m
      · obtain ⟨g, off, u, rfl, _, hxu, hcx⟩ := HX.out.at_ hlt
        obtain ⟨g', off', u', rfl, _, hyu, hcy⟩ := HY.out.at_ hlt
        obtain ⟨s, hxs, rfl⟩ := S_at hxu
        obtain ⟨t, hyt, rfl⟩ := S_at hyu
        rw [← HD.out.cell] at hcx hcy
        have HXS := Lib.hid hxs; have HYT := Lib.hid hyt; clear hxs hyt hxu hyu
        by_cases hst : s = t
        · subst hst
          go_wp2
          go_quiet (fail)
          go_wp2
          go_roundw
          case rel => exact ⟨k + 1, by omega, by go_num, HD.out.more _, HS.out.step HXS.out HYT.out⟩
          case measure => simp [intOf]; omega
        · have hb := beq_no hst
          have HST := Lib.hid hst; clear hst
          go_wp2
          go_quiet (fail)
          go_wp2
          go_ret
          exact ⟨ret_bool (eqs_no HXS.out HYT.out HST.out).symm, HD.out.more _⟩
      · obtain rfl : k = m := by omega
        go_wp2
        go_ret
        exact ⟨ret_bool (eqs_yes LX.out LY.out HS.out).symm, HD.out⟩
  · have hb : ((n : Int) != (m : Int)) = true := by simp; omega
    have HB : eqs xs ys = false := eqs_len (by rw [LX.out, LY.out]; exact hnm)
    have HB := Lib.hid HB
    clear hnm
    go_enter Try.func15, Try.ntmps15
    go_wp2
    go_ret
    exact ⟨ret_bool HB.out.symm, 0, rfl⟩

def dg : Nat → Int → List UInt8 → List UInt8
  | 0, _, acc => acc
  | b + 1, k, acc => if k ≤ 0 then acc else dg b (k / 10) (UInt8.ofNat (48 + k % 10).toNat :: acc)
def mk (k : Int) : ByteArray := ⟨(109 :: dg k.toNat k []).toArray⟩

set_option maxHeartbeats 400000 in
theorem mark_text (k : Int) (w : World) (h1 : 1 ≤ k) (h2 : k ≤ 4611686018427387904) :
    Calls Try.prog 29 #[.int .i64 k] w fun e w' => e = .returned (.string (mk k)) ∧ Below w.heap.size w w' := by
  have kc := fun (W : World) (n : Int) => run_byte_string (P := Try.prog) W 39 9 5 5 n Try.underlying39 Try.underlying5 Try.underlying9
  have hk0 : decide (k ≤ 0) = false := by simp; omega
  go_enter Try.func29, Try.ntmps29
  go_wp2
  go_loopw [0, 3] (fun i s wr => ∃ (b : Nat) (j : Int) (acc : List UInt8), 0 ≤ j ∧ j ≤ k ∧ j ≤ b ∧ i = .int .i64 j ∧ s = .string ⟨acc.toArray⟩ ∧ dg b j acc = dg k.toNat k [] ∧ acc.length + b ≤ k.toNat ∧ Below w.heap.size w wr) (fun i _ _ => (intOf i).toNat)
  case atStart => exact ⟨k.toNat, k, [], by omega, by omega, by omega, rfl, rfl, rfl, by simp, Below.refl _ _⟩
  case round =>
    obtain ⟨b, j, acc, hj0, hjk, hjb, rfl, rfl, hdg, hal, hbl⟩ := hrel
    have HD := Lib.hid hdg; have HB := Lib.hid hbl; clear hdg hbl
    by_cases hlt : 0 < j
    · go_wp2
      go_roundw
      case rel =>
        obtain ⟨b, rfl⟩ : ∃ c, b = c + 1 := ⟨b - 1, by omega⟩
        refine ⟨b, j / 10, UInt8.ofNat (48 + j % 10).toNat :: acc, by omega, by omega, by omega, rfl, ?_, ?_, by simp; omega, ((HB.out).alloc HB.out.size _)⟩
        · exact congrArg Value.string (ByteArray.mk_append_mk [UInt8.ofNat (48 + j % 10).toNat] acc)
        · rw [← HD.out, dg, if_neg (by omega)]
      case measure => simp [intOf]; omega
    · go_wp2
      go_ret
      obtain rfl : j = 0 := by omega
      refine ⟨ret_str ?_, HB.out⟩
      have : acc = dg k.toNat k [] := by rw [← HD.out]; cases b <;> simp [dg]
      unfold mk
      rw [← this]
      exact ByteArray.mk_append_mk [109] acc

def Marks (k : Int) (n : Nat) : List ByteArray := (List.range n).map fun (i : Nat) => mk (k + (i : Int))
theorem marks_at {k : Int} {n j : Nat} (h : j < n) : (S (Marks k n))[j]? = some (.string (mk (k + j))) := by
  simp [S, Marks, h]
def Upto (ys : List Value) (k : Int) (j : Nat) : Prop := ∀ i : Nat, i < j → ys[i]? = some (.string (mk (k + i)))
theorem Upto.all {ys : List Value} {k : Int} {n : Nat} (h : Upto ys k n) (hl : ys.length = n) : ys = S (Marks k n) := by
  refine List.ext_getElem? fun i => ?_
  by_cases hi : i < n
  · rw [h i hi, marks_at hi]
  · rw [List.getElem?_eq_none (by omega), List.getElem?_eq_none (by simp [S, Marks]; omega)]
theorem Upto.step {ys : List Value} {k : Int} {j : Nat} (h : Upto ys k j) (hl : j < ys.length) : Upto (ys.set j (.string (mk (k + j)))) k (j + 1) := by
  intro i hi
  by_cases e : i = j
  · subst e; rw [List.getElem?_set_self hl]
  · rw [List.getElem?_set_ne (by omega)]; exact h i (by omega)
def MarkRel (A : Option Addr) (n lo hi : Nat) (k : Int) (w wr : World) (j : Nat) : Prop := ∃ ys, Row wr lo hi A n ys ∧ Upto ys k j ∧ Out lo hi w wr

set_option maxHeartbeats 400000 in
theorem mark_any (A : Option Addr) (n c : Nat) (xs : List Value) (lo hi : Nat) (k : Int) (w : World)
    (hx : Row w lo hi A n xs) (hn : n ≤ 4611686018427387904) (h1 : 1 ≤ k) (h2 : k + n ≤ 4611686018427387904) :
    Calls Try.prog 16 #[.slice A n c, .int .i64 k] w fun e w' => e = .returned (.int .i64 (k + n)) ∧ Row w' lo hi A n (S (Marks k n)) ∧ Out lo hi w w' := by
  have HX := Lib.hid hx; clear hx
  go_enter Try.func16, Try.ntmps16
  go_wp2
  go_loopw [1, 5] (fun q i wr => ∃ j : Nat, j ≤ n ∧ q = .int .i64 (k + j) ∧ i = .int .i64 j ∧ MarkRel A n lo hi k w wr j) (fun _ i _ => n - (intOf i).toNat)
  case atStart => exact ⟨0, Nat.zero_le _, by simp, rfl, xs, HX.out, fun i hi => by omega, Out.refl _ _ _⟩
  case round =>
    obtain ⟨j, hj, rfl, rfl, hm⟩ := hrel
    have HM := Lib.hid hm; clear hm
    by_cases hlt : j < n
    · obtain ⟨ys, hr, hu, hbut⟩ := HM.out
      obtain ⟨g, off, u, rfl, hbg, hgl, hyu, hcy, hfr⟩ := hr.at_ hlt
      have HR := Lib.hid hr; have HU := Lib.hid hu; have HB := Lib.hid hbut; clear hr hu hbut hyu
      go_wp2_with fail
      refine (mark_text _ _ (by omega) (by omega)).mono ?_
      rintro e w' ⟨rfl, hb⟩
      have hgs : g < wr.heap.size := Nat.lt_of_lt_of_le hgl HR.out.2.1
      have hc' : w'.cell? ⟨g, off + j, none⟩ = some u := by rw [hb.cell (p := ⟨g, off + j, none⟩) hgs]; exact hcy
      have hf' : w'.frozen? ⟨g, off + j, none⟩ = false := by rw [hb.frozen (p := ⟨g, off + j, none⟩) hgs]; exact hfr
      have HW := Lib.hid hb; clear hb hcy hfr
      go_wp2
      go_roundw
      case rel =>
        refine ⟨j + 1, by omega, by go_num, by go_num, ys.set j (.string (mk (k + j))), ?_, HU.out.step (by have := HR.out.1; omega), ?_⟩
        · exact (HR.out.keep HW.out HR.out.2.1).set_ hlt _
        · exact (HB.out.trans (Out.of_below HW.out)).set_ hbg hgl _
      case measure => simp [intOf]; omega
    · obtain rfl : j = n := by omega
      go_wp2
      go_ret
      obtain ⟨ys, hr, hu, hbut⟩ := HM.out
      refine ⟨rfl, ?_, hbut⟩
      rw [← hu.all hr.1]; exact hr

set_option maxHeartbeats 400000 in
theorem held_any (A : Option Addr) (n c : Nat) (lo hi : Nat) (k : Int) (w : World)
    (hx : Row w lo hi A n (S (Marks k n))) (hn : n ≤ 4611686018427387904) (h1 : 1 ≤ k) (h2 : k + n ≤ 4611686018427387904) :
    Calls Try.prog 17 #[.slice A n c, .int .i64 k] w fun e w' => e = .returned (.int .i64 (k + n)) ∧ Below w.heap.size w w' := by
  have HX := Lib.hid hx; clear hx
  go_enter Try.func17, Try.ntmps17
  go_wp2
  go_loopw [1, 5] (fun q i wr => ∃ j : Nat, j ≤ n ∧ q = .int .i64 (k + j) ∧ i = .int .i64 j ∧ Below w.heap.size w wr) (fun _ i _ => n - (intOf i).toNat)
  case atStart => exact ⟨0, Nat.zero_le _, by simp, rfl, Below.refl _ _⟩
  case round =>
    obtain ⟨j, hj, rfl, rfl, hb⟩ := hrel
    by_cases hlt : j < n
    · obtain ⟨g, off, u, rfl, hbg, hgl, hyu, hcy, hfr⟩ := HX.out.at_ hlt
      rw [marks_at hlt] at hyu
      obtain rfl := Option.some.inj hyu
      have hgs : g < w.heap.size := Nat.lt_of_lt_of_le hgl HX.out.2.1
      rw [← hb.cell (p := ⟨g, off + j, none⟩) hgs] at hcy
      have HB := Lib.hid hb; clear hb hyu hfr
      have hgl' : g < wr.heap.size := Nat.lt_of_lt_of_le hgs HB.out.size
      have k1 : 1 ≤ k + (j : Int) := by omega
      have k2 : k + (j : Int) ≤ 4611686018427387904 := by omega
      go_wp2_with fail
      go_region_held3 (fun w' => w'.cell? ⟨g, off + j, none⟩ = some (.string (mk (k + j))) ∧ g < w'.heap.size)
        (first
          | go_keep
          | (refine ⟨?_, ?_⟩
             · (rw [hb.cell (p := ⟨g, off + j, none⟩) (by simpa using hgl')]; simpa using hcy)
             · (exact Nat.lt_of_lt_of_le (by simpa using hgl') hb.size)))
        (first | (go_at_call 29; refine (mark_text _ _ k1 k2).mono ?_; rintro e w' ⟨rfl, hb⟩))
      go_wp2_with fail
      go_roundw
      case rel => exact ⟨j + 1, by omega, by go_num, by go_num, HB.out.trans (by first | exact hb.mono HB.out.size | exact ((Below.refl _ _).drew.trans hb).mono HB.out.size)⟩
      case measure => simp [intOf]; omega
    · obtain rfl : j = n := by omega
      go_wp2
      go_ret
      exact ⟨rfl, hb⟩
end Go.Proofs.Ytfcocfaobglbaaa.strs
