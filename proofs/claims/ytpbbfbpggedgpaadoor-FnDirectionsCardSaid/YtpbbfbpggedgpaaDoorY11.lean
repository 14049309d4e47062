import Derived.Test.YtpbbfbpggedgpaaDoorY01
import Derived.Outline
import Derived.Test.YtpbbfbpggedgpaaDoorY06
import Derived.Test.YtpbbfbpggedgpaaDoorY04
import Derived.RegionTactic
import Derived.BigRegion
import Derived.Test.YtpbbfbpggedgpaaDoorY09
/-
  The cursor that the laws draw from: contracts of l01New, l01Byte, l01Below and their kin, as far as ranges go.
-/
namespace Go.Proofs.YtpbbfbpggedgpaaDoor.cur
open Go.ChangeShapes Go.WideShapes Go.ChangeAt Go.RowKit
open Go.Proofs.YtpbbfbpggedgpaaDoor.mem
set_option linter.unusedVariables false
set_option maxRecDepth 100000

def U (l : List Int) : List Value := l.map (Value.int .u8)
def Bytes (l : List Int) : Prop := ∀ z ∈ l, 0 ≤ z ∧ z ≤ 255
theorem U_at {l : List Int} {k : Nat} {u : Value} (h : (U l)[k]? = some u) (hb : Bytes l) : ∃ z, u = .int .u8 z ∧ 0 ≤ z ∧ z ≤ 255 := by
  simp only [U, List.getElem?_map, Option.map_eq_some_iff] at h
  obtain ⟨s, h1, h2⟩ := h
  have := hb s (List.mem_of_getElem? h1)
  exact ⟨s, h2.symm, this.1, this.2⟩

/-- The code: a slice of bytes below block 'hi'. -/
structure Code (w : World) (hi : Nat) (A : Option Addr) (n : Nat) (l : List Int) : Prop where
  rd : Rd w hi A n (U l)
  byt : Bytes l
  small : n ≤ 1048576
/-- Block g is a cursor over the code. -/
structure Cur (w : World) (g : Nat) (A : Option Addr) (n c : Nat) (l : List Int) : Prop where
  blk : ∃ i h : Int, w.heap[g]? = some (.cells #[.slice A n c, .int .i64 i, .int .i64 h] 81 (0, 0)) ∧ 0 ≤ i ∧ i ≤ n ∧ -9223372036854775808 ≤ h ∧ h ≤ 9223372036854775807
  code : Code w g A n l

theorem Code.out {w w' : World} {hi lo' hi' : Nat} {A : Option Addr} {n : Nat} {l : List Int} (h : Code w hi A n l) (ho : Out lo' hi' w w') (hd : hi ≤ lo' ∨ hi' ≤ 0) : Code w' hi A n l :=
  ⟨h.rd.out ho hd, h.byt, h.small⟩
theorem Code.keep {w w' : World} {hi B : Nat} {A : Option Addr} {n : Nat} {l : List Int} (h : Code w hi A n l) (hb : Below B w w') (hB : hi ≤ B) : Code w' hi A n l :=
  ⟨h.rd.keep hb hB, h.byt, h.small⟩
theorem Code.wider {w : World} {hi hi' : Nat} {A : Option Addr} {n : Nat} {l : List Int} (h : Code w hi A n l) (h1 : hi ≤ hi') (h2 : hi' ≤ w.heap.size) : Code w hi' A n l :=
  ⟨⟨h.rd.1, h2, fun hn => by
    obtain ⟨g, off, e, hlt, hc⟩ := h.rd.2.2 hn
    exact ⟨g, off, e, by omega, hc⟩⟩, h.byt, h.small⟩
theorem and255 (n : Int) : 0 ≤ bits .and .i64 n 255 ∧ bits .and .i64 n 255 ≤ 255 := by
  have e : bits .and .i64 n 255 = n % 256 := by
    have h127 : (BitVec.ofInt 64 255).toNat = 2 ^ 8 - 1 := by decide
    have key : (BitVec.ofInt 64 n &&& BitVec.ofInt 64 255).toNat = (n % ((2 ^ 64 : Nat) : Int)).toNat % 2 ^ 8 := by
      rw [BitVec.toNat_and, BitVec.toNat_ofInt, h127, Nat.and_two_pow_sub_one_eq_mod]
    show IntKind.i64.wrap ((BitVec.ofInt 64 n &&& BitVec.ofInt 64 255).toNat : Nat) = n % 256
    rw [key, IntKind.wrap_i64]
    omega
  rw [e]; omega

set_option maxHeartbeats 400000 in
theorem byte_any (w : World) (g : Nat) (A : Option Addr) (n c : Nat) (l : List Int) (hc : Cur w g A n c l) :
    Calls Tryd.prog 38 #[.pointer (some ⟨g, 0, none⟩)] w fun e w' => ∃ x : Int, 0 ≤ x ∧ x ≤ 255 ∧ e = .returned (.int .i64 x) ∧ Cur w' g A n c l ∧ Out g (g + 1) w w' := by
  obtain ⟨⟨i', h, hb, i0', i1', h0, h1⟩, hcode⟩ := hc
  obtain ⟨i, rfl⟩ := Int.eq_ofNat_of_zero_le i0'
  have i1 : i ≤ n := by omega
  clear i0' i1'
  have hsm := hcode.small
  have c2 : w.cell? ⟨g, 2, none⟩ = some (.int .i64 h) := by simp [World.cell?, hb]
  have f2 : w.frozen? ⟨g, 2, none⟩ = false := by simp [World.frozen?, hb]
  have HB := Lib.hid hb; have HC := Lib.hid hcode; clear hb hcode
  go_enter Tryd.func38, Tryd.ntmps38
  go_wp2
  generalize HH : wrap64 (wrap64 (h * 6364136223846793005) + 1442695040888963407) = h' at *
  have hh' : -9223372036854775808 ≤ h' ∧ h' ≤ 9223372036854775807 := by rw [← HH]; unfold wrap64; omega
  clear HH
  obtain ⟨h2, h3⟩ := hh'
  have hw1 := Out.set_ (off := 2) (Out.refl g (g + 1) w) (Nat.le_refl _) (Nat.lt_succ_self _) (.int .i64 h')
  have hb1 : (w.setCell ⟨g, 2, none⟩ (.int .i64 h')).heap[g]? = some (.cells #[.slice A n c, .int .i64 i, .int .i64 h'] 81 (0, 0)) := by
    have hb := HB.out
    simp [World.setCell, Array.getElem?_modify, hb]
  generalize HW : w.setCell ⟨g, 2, none⟩ (.int .i64 h') = w1 at *
  clear HW c2 f2
  have c0 : w1.cell? ⟨g, 0, none⟩ = some (.slice A n c) := by simp [World.cell?, hb1]
  have c1 : w1.cell? ⟨g, 1, none⟩ = some (.int .i64 i) := by simp [World.cell?, hb1]
  have c2 : w1.cell? ⟨g, 2, none⟩ = some (.int .i64 h') := by simp [World.cell?, hb1]
  have f1 : w1.frozen? ⟨g, 1, none⟩ = false := by simp [World.frozen?, hb1]
  have HC1 := Lib.hid (Code.out HC.out hw1 (.inl (Nat.le_refl _)))
  have HB1 := Lib.hid hb1; have HW1 := Lib.hid hw1; clear hb1 hw1
  go_quiet (fail)
  obtain ⟨x0, x1⟩ := and255 (bits BinOp.xor IntKind.i64 (h' / 8589934592) (h' / 35184372088832))
  go_wp2
  generalize bits BinOp.and IntKind.i64 (bits BinOp.xor IntKind.i64 (h' / 8589934592) (h' / 35184372088832)) 255 = x at *
  by_cases hin : i < n
  · obtain ⟨g', off, u, rfl, hgl, hxu, hcx⟩ := HC1.out.rd.at_ hin
    obtain ⟨z, rfl, z0, z1⟩ := U_at hxu HC1.out.byt
    have HXU := Lib.hid hxu; clear hxu
    go_quiet (fail)
    go_wp2
    go_quiet (fail)
    go_wp2
    go_ret
    have hq := and255 (x + z)
    refine ⟨_, hq.1, hq.2, rfl, ⟨⟨i + 1, h', ?_, by omega, by omega, h2, h3⟩, ?_⟩, ?_⟩
    · have hb := HB1.out
      simp [World.setCell, Array.getElem?_modify, hb]
    · exact HC1.out.out (((Out.refl g (g + 1) w1).drewN _).set_ (Nat.le_refl _) (Nat.lt_succ_self _) _) (.inl (Nat.le_refl _))
    · exact (HW1.out.drewN _).set_ (Nat.le_refl _) (Nat.lt_succ_self _) _
  · go_quiet (fail)
    go_wp2
    go_ret
    exact ⟨x, x0, x1, rfl, ⟨⟨i, h', HB1.out, by omega, by omega, h2, h3⟩, HC1.out.out (((Out.refl g (g + 1) w1).drewN _).drewN _) (.inl (Nat.le_refl _))⟩, (HW1.out.drewN _).drewN _⟩
/-- A contract that gives a number of a range and leaves the cursor a cursor. -/
def Gives (lo hi : Int) (g : Nat) (A : Option Addr) (n c : Nat) (l : List Int) (w : World) (e : Ending) (w' : World) : Prop :=
  ∃ x : Int, lo ≤ x ∧ x ≤ hi ∧ e = .returned (.int .i64 x) ∧ Cur w' g A n c l ∧ Out g (g + 1) w w'

theorem and_small (m : Int) : 0 ≤ bits .and .i64 m 1073741823 ∧ bits .and .i64 m 1073741823 ≤ 1073741823 := by
  have e : bits .and .i64 m 1073741823 = m % 1073741824 := by
    have h127 : (BitVec.ofInt 64 1073741823).toNat = 2 ^ 30 - 1 := by decide
    have key : (BitVec.ofInt 64 m &&& BitVec.ofInt 64 1073741823).toNat = (m % ((2 ^ 64 : Nat) : Int)).toNat % 2 ^ 30 := by
      rw [BitVec.toNat_and, BitVec.toNat_ofInt, h127, Nat.and_two_pow_sub_one_eq_mod]
    show IntKind.i64.wrap ((BitVec.ofInt 64 m &&& BitVec.ofInt 64 1073741823).toNat : Nat) = m % 1073741824
    rw [key, IntKind.wrap_i64]
    omega
  rw [e]; omega

/-- l01New makes a cursor in the block at the heap's end. -/
def Made (A : Option Addr) (n c : Nat) (l : List Int) (w : World) (e : Ending) (w' : World) : Prop :=
  ∃ g, w.heap.size ≤ g ∧ g < w'.heap.size ∧ e = .returned (.pointer (some ⟨g, 0, none⟩)) ∧ Cur w' g A n c l ∧ Below w.heap.size w w'

set_option maxRecDepth 100000 in
set_option maxHeartbeats 400000 in
theorem new_any (w : World) (hi : Nat) (A : Option Addr) (n c : Nat) (l : List Int) (hc : Code w hi A n l) :
    Calls Tryd.prog 18 #[.slice A n c] w (Made A n c l w) := by
  have hsm := hc.small
  have HC := Lib.hid hc; clear hc
  go_enter Tryd.func18, Tryd.ntmps18
  go_wp2
  go_loop [3, 4] (fun v i => ∃ (k : Nat) (h : Int), k ≤ n ∧ i = .int .i64 k ∧ v = .int .i64 h ∧ 0 ≤ h ∧ h ≤ 1073741823) (fun _ i => n - (intOf i).toNat)
  case atStart => exact ⟨0, _, Nat.zero_le _, rfl, rfl, by omega, by omega⟩
  case round =>
    obtain ⟨k, h, hk, rfl, rfl, h0, h1⟩ := hrel
    by_cases hlt : k < n
    · by_cases h4 : k < 4000
      · obtain ⟨g', off, u, rfl, hgl, hxu, hcx⟩ := HC.out.rd.at_ hlt
        obtain ⟨z, rfl, z0, z1⟩ := U_at hxu HC.out.byt
        have HXU := Lib.hid hxu; clear hxu
        go_wp2
        go_round
        case rel =>
          have hq := and_small (h * 109 + z + 7)
          exact ⟨k + 1, _, by omega, by go_num, rfl, hq.1, hq.2⟩
        case measure => simp [intOf]; omega
      · go_wp2
        go_ret
        refine ⟨w.heap.size, Nat.le_refl _, by simp, rfl, ⟨⟨0, h, heap_alloc_new _ _, by omega, by omega, by omega, by omega⟩, ?_⟩, (Below.refl _ _).alloc (Nat.le_refl _) _⟩
        exact (HC.out.keep ((Below.refl w.heap.size w).alloc (Nat.le_refl _) _) HC.out.rd.2.1).wider HC.out.rd.2.1 (by simp)
    · go_wp2
      go_ret
      refine ⟨w.heap.size, Nat.le_refl _, by simp, rfl, ⟨⟨0, h, heap_alloc_new _ _, by omega, by omega, by omega, by omega⟩, ?_⟩, (Below.refl _ _).alloc (Nat.le_refl _) _⟩
      exact (HC.out.keep ((Below.refl w.heap.size w).alloc (Nat.le_refl _) _) HC.out.rd.2.1).wider HC.out.rd.2.1 (by simp)
end Go.Proofs.YtpbbfbpggedgpaaDoor.cur

/-
  A slice of bytes that came in: what its reading says of its cells.
-/
namespace Go.Proofs.YtpbbfbpggedgpaaDoor.cur
open Go.ChangeShapes Go.WideShapes Go.ChangeAt Go.RowKit
open Go.Proofs.YtpbbfbpggedgpaaDoor.mem
theorem open_B {H : Type} {enc : TypeId × Value → H} {P : Program} {W : World} {t e : TypeId} {A : Option Addr} {n c : Nat} {d : DataW H} {ps : List MemPlace}
    (ht : P.underlying t = some (.slice e)) (he : P.underlying e = some (.int .u8)) (hc : P.cellsOf e = 1) (h : DataW.Trod enc P W 0 (fun _ => true) true t (.slice A n c) d ps) :
    ∃ xs : List Int, Rd W W.heap.size A n (U xs) ∧ n ≤ c ∧ c ≤ maxLen ∧ Bytes xs := by
  obtain ⟨fuel, hf⟩ := h
  rcases open_ints ht he hc hf with ⟨hcs, _⟩ | ⟨x, l, cap, ss, hcs, _, hl, hm, hz, _, hcell, hwz⟩
  · simp [Value.cells] at hcs
    obtain ⟨rfl, rfl, rfl⟩ := hcs
    exact ⟨[], ⟨rfl, Nat.le_refl _, fun h => absurd h (by omega)⟩, Nat.le_refl _, by simp, fun z hz => by cases hz⟩
  · simp [Value.cells] at hcs
    obtain ⟨rfl, rfl, rfl⟩ := hcs
    have hz' : ss.length = c := by simpa using hz
    refine ⟨ss.take n, Rd.of_cells (by simp [U]; omega) (fun i hi => ?_), hl, hm, fun z hz => ?_⟩
    · rw [hcell i (by omega)]
      simp [U, hi, List.getD, List.getElem?_eq_getElem (show i < ss.length by omega)]
    · have := hwz z (List.mem_of_mem_take hz)
      simpa [Lit.wf, IntKind.min, IntKind.max, IntKind.signed, IntKind.bits] using this
end Go.Proofs.YtpbbfbpggedgpaaDoor.cur

/-
  Draws: contracts of l20New, MakeNum, l01Below, l01Str, as far as ranges go.
-/
namespace Go.Proofs.YtpbbfbpggedgpaaDoor.cur
open Go.ChangeShapes Go.WideShapes Go.ChangeAt Go.RowKit
open Go.Proofs.YtpbbfbpggedgpaaDoor.mem
set_option linter.unusedVariables false
set_option maxRecDepth 100000

theorem Cur.lt {w : World} {g : Nat} {A : Option Addr} {n c : Nat} {l : List Int} (h : Cur w g A n c l) : g < w.heap.size := by
  obtain ⟨⟨i, q, hb, _⟩, _⟩ := h
  rcases Nat.lt_or_ge g w.heap.size with hlt | hge
  · exact hlt
  · rw [Array.getElem?_eq_none hge] at hb; cases hb
theorem Cur.keep {w w' : World} {g B : Nat} {A : Option Addr} {n c : Nat} {l : List Int} (h : Cur w g A n c l) (hb : Below B w w') (hB : g < B) : Cur w' g A n c l := by
  obtain ⟨⟨i, q, hk, r⟩, hc⟩ := h
  exact ⟨⟨i, q, by rw [hb.block g hB]; exact hk, r⟩, hc.keep hb (by omega)⟩
theorem Cur.out {w w' : World} {g lo hi : Nat} {A : Option Addr} {n c : Nat} {l : List Int} (h : Cur w g A n c l) (ho : Out lo hi w w') (hd : g < lo) : Cur w' g A n c l := by
  have hl := h.lt
  obtain ⟨⟨i, q, hk, r⟩, hc⟩ := h
  exact ⟨⟨i, q, by rw [ho.block g hl (.inl hd)]; exact hk, r⟩, hc.out ho (.inl (by omega))⟩

set_option maxHeartbeats 400000 in
theorem skip_any (w : World) (hi : Nat) (A : Option Addr) (n c : Nat) (l : List Int) (m : Nat) (hm : m ≤ 1000) (hc : Code w hi A n l) :
    Calls Tryd.prog 24 #[.slice A n c, .int .i64 m] w (Made A n c l w) := by
  have HC := Lib.hid hc; clear hc
  go_enter Tryd.func24, Tryd.ntmps24
  go_wp2_with fail
  refine (new_any w hi A n c l HC.out).mono ?_
  rintro e w1 ⟨g, hg, hlt, rfl, hcur, hb⟩
  have HCU := Lib.hid hcur; have HB := Lib.hid hb; clear hcur hb
  go_wp2_with fail
  go_loopw [6] (fun i wr => ∃ k : Nat, k ≤ m ∧ i = .int .i64 k ∧ Cur wr g A n c l ∧ Below w.heap.size w wr) (fun i _ => m - (intOf i).toNat)
  case atStart => exact ⟨0, Nat.zero_le _, rfl, HCU.out, HB.out⟩
  case round =>
    obtain ⟨k, hk, rfl, hcur, hb⟩ := hrel
    have HCR := Lib.hid hcur; have HBR := Lib.hid hb; clear hcur hb
    by_cases hkm : k < m
    · go_wp2_with fail
      refine (byte_any _ g A n c l HCR.out).mono ?_
      rintro e w2 ⟨x, x0, x1, rfl, hcur, ho⟩
      have HC2 := Lib.hid hcur; have HO := Lib.hid ho; clear hcur ho
      go_wp2_with fail
      go_roundw
      case rel => exact ⟨k + 1, by omega, by go_num, HC2.out, HBR.out.trans (HO.out.below hg HBR.out.size)⟩
      case measure => simp [intOf]; omega
    · go_wp2_with fail
      go_ret
      exact ⟨g, hg, HCR.out.lt, rfl, HCR.out, HBR.out⟩

/-- A number of a range; nothing that was there has turned. -/
def Number (lo hi : Int) (w : World) (e : Ending) (w' : World) : Prop := ∃ x : Int, lo ≤ x ∧ x ≤ hi ∧ e = .returned (.int .i64 x) ∧ Below w.heap.size w w'

set_option maxHeartbeats 400000 in
theorem below_any (w : World) (g : Nat) (A : Option Addr) (n c : Nat) (l : List Int) (k : Int) (h1 : 1 ≤ k) (h2 : k ≤ 2147483648) (hc : Cur w g A n c l) :
    Calls Tryd.prog 19 #[.pointer (some ⟨g, 0, none⟩), .int .i64 k] w (Gives 0 (k - 1) g A n c l w) := by
  have HC := Lib.hid hc; clear hc
  by_cases hk : k ≤ 256
  · go_enter Tryd.func19, Tryd.ntmps19
    go_wp2_with fail
    refine (byte_any _ g A n c l HC.out).mono ?_
    rintro e w2 ⟨x, x0, x1, rfl, hcur, ho⟩
    have HC2 := Lib.hid hcur; have HO := Lib.hid ho; clear hcur ho
    have hne : (k == 0) = false := by rw [beq_eq_false_iff_ne]; omega
    go_wp2_with fail
    go_ret
    have q1 := Int.emod_nonneg x (show k ≠ 0 by omega)
    have q2 := Int.emod_lt_of_pos x (show 0 < k by omega)
    exact ⟨x % k, q1, by omega, rfl, HC2.out, HO.out⟩
  · go_enter Tryd.func19, Tryd.ntmps19
    go_wp2_with fail
    refine (byte_any _ g A n c l HC.out).mono ?_
    rintro e w2 ⟨x, x0, x1, rfl, hcur, ho⟩
    have HC2 := Lib.hid hcur; have HO := Lib.hid ho; clear hcur ho
    go_wp2_with fail
    refine (byte_any _ g A n c l HC2.out).mono ?_
    rintro e w3 ⟨y, y0, y1, rfl, hcur, ho⟩
    have HC3 := Lib.hid hcur; have HO3 := Lib.hid (HO.out.trans ho); clear hcur ho
    go_wp2_with fail
    refine (byte_any _ g A n c l HC3.out).mono ?_
    rintro e w4 ⟨z, z0, z1, rfl, hcur, ho⟩
    have HC4 := Lib.hid hcur; have HO4 := Lib.hid (HO3.out.trans ho); clear hcur ho
    go_wp2_with fail
    refine (byte_any _ g A n c l HC4.out).mono ?_
    rintro e w5 ⟨u, u0, u1, rfl, hcur, ho⟩
    have HC5 := Lib.hid hcur; have HO5 := Lib.hid (HO4.out.trans ho); clear hcur ho
    have hne : (k == 0) = false := by rw [beq_eq_false_iff_ne]; omega
    go_wp2_with fail
    go_ret
    have q1 := Int.emod_nonneg (x * 16777216 + y * 65536 + z * 256 + u) (show k ≠ 0 by omega)
    have q2 := Int.emod_lt_of_pos (x * 16777216 + y * 65536 + z * 256 + u) (show 0 < k by omega)
    exact ⟨_, q1, by omega, rfl, HC5.out, HO5.out⟩

end Go.Proofs.YtpbbfbpggedgpaaDoor.cur

/-
  Contracts of spec.l02Draw and spec.MakePerm: a permutation.
-/
namespace Go.Proofs.YtpbbfbpggedgpaaDoor.cur
open Go.ChangeShapes Go.WideShapes Go.ChangeAt Go.RowKit
open Go.Proofs.YtpbbfbpggedgpaaDoor.mem Go.Proofs.YtpbbfbpggedgpaaDoor.ints Go.Proofs.YtpbbfbpggedgpaaDoor.arr Go.Proofs.YtpbbfbpggedgpaaDoor.pm Go.Proofs.YtpbbfbpggedgpaaDoor.permOk Go.Proofs.YtpbbfbpggedgpaaDoor.fns
set_option linter.unusedVariables false
set_option maxRecDepth 100000

/-- One more element: k goes to a's place, and what was there to the end. -/
def put (xs : List Int) (a : Nat) : List Int := ((xs ++ [(xs.length : Int)]).set xs.length ((xs ++ [(xs.length : Int)]).getD a 0)).set a (xs.length : Int)
theorem put_len (xs : List Int) (a : Nat) : (put xs a).length = xs.length + 1 := by simp [put]
theorem put_at {xs : List Int} {a i : Nat} (ha : a ≤ xs.length) (hi : i ≤ xs.length) : (put xs a).getD i 0 = if i = a then (xs.length : Int) else if i = xs.length then xs.getD a 0 else xs.getD i 0 := by
  unfold put
  rw [getD_set]
  by_cases e : i = a
  · subst e; rw [if_pos rfl, if_pos ⟨rfl, by simp; omega⟩]
  · rw [if_neg (by omega), if_neg e, getD_set]
    by_cases e2 : i = xs.length
    · rw [if_pos ⟨e2.symm, by simp; omega⟩, if_pos e2]
      simp only [List.getD, List.getElem?_append]
      rw [if_pos (by omega)]
    · rw [if_neg (by omega), if_neg e2]
      simp only [List.getD, List.getElem?_append]
      rw [if_pos (by omega)]
theorem put_ok {xs : List Int} {a : Nat} (h : Ok xs) (hl : xs.length < 24) (ha : a ≤ xs.length) : Ok (put xs a) := by
  have key : ∀ i, i ≤ xs.length → (i = a ∧ (put xs a).getD i 0 = xs.length) ∨ (i ≠ a ∧ ∃ j, j < xs.length ∧ (put xs a).getD i 0 = xs.getD j 0 ∧ (i = xs.length → j = a) ∧ (i ≠ xs.length → j = i)) := by
    intro i hi
    rw [put_at ha hi]
    by_cases e : i = a
    · left; exact ⟨e, if_pos e⟩
    · right
      refine ⟨e, ?_⟩
      rw [if_neg e]
      by_cases e2 : i = xs.length
      · exact ⟨a, by omega, if_pos e2, fun _ => rfl, fun q => absurd e2 q⟩
      · exact ⟨i, by omega, if_neg e2, fun q => absurd q e2, fun _ => rfl⟩
  refine ⟨by rw [put_len]; omega, fun i hi => ?_, fun i hi => ?_, fun i j hi hj e => ?_⟩
  · rw [put_len] at hi
    rcases key i (by omega) with ⟨_, q⟩ | ⟨_, j, hj, q, _⟩
    · omega
    · have := h.lo j hj; omega
  · rw [put_len] at hi ⊢
    rcases key i (by omega) with ⟨_, q⟩ | ⟨_, j, hj, q, _⟩
    · omega
    · have := h.hi j hj; omega
  · rw [put_len] at hi hj
    rcases key i (by omega) with ⟨a1, q1⟩ | ⟨a1, i', b1, q1, c1, d1⟩ <;> rcases key j (by omega) with ⟨a2, q2⟩ | ⟨a2, j', b2, q2, c2, d2⟩
    · omega
    · have := h.hi j' b2; omega
    · have := h.hi i' b1; omega
    · have := h.inj i' j' b1 b2 (by omega)
      by_cases e1 : i = xs.length
      · by_cases e2 : j = xs.length
        · omega
        · have := c1 e1; have := d2 e2; omega
      · by_cases e2 : j = xs.length
        · have := c2 e2; have := d1 e1; omega
        · have := d1 e1; have := d2 e2; omega
theorem ok_nil : Ok [] := ⟨by simp, fun i hi => by simp at hi, fun i hi => by simp at hi, fun i j hi => by simp at hi⟩

/-- A permutation of n elements in new memory; the cursor stays a cursor. -/
def DrawsP (m : Nat) (g : Nat) (A : Option Addr) (n c : Nat) (l : List Int) (w : World) (e : Ending) (w' : World) : Prop :=
  ∃ v xs, Ok xs ∧ xs.length = m ∧ e = .returned v ∧ w'.ownsRow w.heap.size 3 1 v m (V xs) ∧ Cur w' g A n c l ∧ Out g (g + 1) w w'
structure Dr (w wr : World) (g : Nat) (A : Option Addr) (n c : Nat) (l : List Int) (v : Value) (xs : List Int) : Prop where
  own : wr.ownsRow w.heap.size 3 1 v xs.length (V xs)
  cur : Cur wr g A n c l
  out : Out g (g + 1) w wr
  lt : g < w.heap.size
theorem Dr.later {w wr w' : World} {g n c : Nat} {A : Option Addr} {l xs : List Int} {v : Value} (h : Dr w wr g A n c l v xs) (hc : Cur w' g A n c l) (ho : Out g (g + 1) wr w') : Dr w w' g A n c l v xs := by
  refine ⟨⟨h.own.1, ?_⟩, hc, h.out.trans ho, h.lt⟩
  rcases h.own.2 with h0 | ⟨b, cap, cur, q1, q2, q3, q4⟩
  · exact .inl h0
  · exact .inr ⟨b, cap, cur, q1, q2, (ho.block b (Array.getElem?_eq_some_iff.1 q3).1 (.inr (by have := h.lt; omega))).trans q3, q4⟩
theorem Dr.push {w wr w' : World} {g n c k : Nat} {A : Option Addr} {l xs : List Int} {v v' : Value} {z : Int} (h : Dr w wr g A n c l v xs) (ho : w'.ownsRow w.heap.size 3 1 v' (k + 1) (V xs ++ [.int .i64 z])) (hk : k = xs.length) (hg : wr.grownBy w' v.ownBlock) : Dr w w' g A n c l v' (xs ++ [z]) := by
  subst hk
  have e : V (xs ++ [z]) = V xs ++ [.int .i64 z] := by simp [V]
  have hb : Below w.heap.size wr w' := (Below.refl _ _).grown hg h.out.size (fun b hb => (h.own.lt b hb).1)
  exact ⟨by rw [e]; simpa using ho, h.cur.keep hb h.lt, ⟨hb.os.trans h.out.os, hb.tape.trans h.out.tape, hb.output.trans h.out.output, Nat.le_trans h.out.size hb.size, fun b q r => (hb.block b q).trans (h.out.block b q r)⟩, h.lt⟩
theorem Dr.set_ {w wr : World} {g n c b cc : Nat} {A : Option Addr} {l xs : List Int} (h : Dr w wr g A n c l (.slice (some ⟨b, 0, none⟩) xs.length cc) xs) (k : Nat) (z : Int) : Dr w (wr.setCell ⟨b, k, none⟩ (.int .i64 z)) g A n c l (.slice (some ⟨b, 0, none⟩) (xs.set k z).length cc) (xs.set k z) := by
  have hb := h.own.lt b rfl
  have B : Below w.heap.size wr (wr.setCell ⟨b, k, none⟩ (.int .i64 z)) := (Below.refl _ _).setCell hb.1 _
  have := (h.own.stored k (.int .i64 z)).1
  rw [V_set] at this
  refine ⟨by simpa using this, h.cur.keep B h.lt, ⟨h.out.os, h.out.tape, h.out.output, Nat.le_trans h.out.size B.size, fun q r s => (B.block q r).trans (h.out.block q r s)⟩, h.lt⟩

set_option maxHeartbeats 1000000 in
theorem drawP_any (w : World) (g : Nat) (A : Option Addr) (n c : Nat) (l : List Int) (m : Nat) (hm : m ≤ 24) (hc : Cur w g A n c l) :
    Calls Tryd.prog 43 #[.pointer (some ⟨g, 0, none⟩), .int .i64 m] w (DrawsP m g A n c l w) := by
  obtain ⟨i0, hi0, hz0, hz1, hz2⟩ := info_parts infoI
  have hlt0 := hc.lt
  have HC := Lib.hid hc; clear hc
  go_enter Tryd.func43, Tryd.ntmps43
  go_wp2
  go_loopw [5, 6] (fun v i wr => ∃ (k : Nat) (xs : List Int), k ≤ m ∧ i = .int .i64 k ∧ xs.length = k ∧ Ok xs ∧ Dr w wr g A n c l v xs) (fun _ i _ => m - (intOf i).toNat)
  case atStart =>
    have B := (Below.refl w.heap.size w).alloc (Nat.le_refl _) (.cells #[] 3)
    exact ⟨0, [], Nat.zero_le _, rfl, rfl, ok_nil, ⟨rfl, .inr ⟨w.heap.size, 0, #[], rfl, Nat.le_refl _, heap_alloc_last w _, Nat.le_refl _, by simp, rfl, rfl⟩⟩, HC.out.keep B hlt0, Out.of_below B, hlt0⟩
  case round =>
    obtain ⟨k, xs, hk, rfl, hl, ok, hdr⟩ := hrel
    obtain ⟨C, cc, rfl⟩ := own_form hdr.own
    subst hl
    have OK := Lib.hid ok; have DR := Lib.hid hdr; clear ok hdr
    have hsz := DR.out.out.size
    by_cases hlt : xs.length < m
    · go_wp2_with fail
      refine (below_any _ g A n c l ((xs.length : Int) + 1) (by omega) (by omega) DR.out.cur).mono ?_
      rintro e w2 ⟨a0, h0, h1, rfl, hcur, ho⟩
      obtain ⟨a, rfl⟩ := Int.eq_ofNat_of_zero_le h0
      have ha : a ≤ xs.length := by omega
      clear h0 h1
      have D2 := Lib.hid (DR.out.later hcur ho)
      have hsz2 := D2.out.out.size
      clear hcur ho DR
      go_wp2_with (at_builtin; refine wpList_append_one w2 _ _ rfl _ _ 23 rfl w.heap.size 3 i0 _ 8 Tryd.underlying23 hi0 hz0 hz1 hz2 rfl _ _ _ rfl D2.out.own rfl rfl ?c4 (by decide) hsz2 ?_)
      case c4 => omega
      intro v' w' ho hg
      have D3 := D2.out.push ho rfl hg
      clear ho hg D2
      obtain ⟨C', cc', rfl⟩ := own_form D3.own
      have hl1 : (xs ++ [(xs.length : Int)]).length = xs.length + 1 := by simp
      have hown := D3.own
      rw [hl1] at hown
      obtain ⟨b, rfl⟩ : ∃ b, C' = some ⟨b, 0, none⟩ := by
        rcases D3.own.2 with ⟨h0, hn0⟩ | ⟨b, cap, cur, q1, _⟩
        · simp at hn0
        · injection q1 with q1; exact ⟨b, q1⟩
      have hca : w'.cell? ⟨b, a, none⟩ = some (.int .i64 ((xs ++ [(xs.length : Int)]).getD a 0)) := by rw [D3.own.cellAt a (by simp; omega)]; exact V_getD (by simp; omega)
      have hck : w'.cell? ⟨b, xs.length, none⟩ = some (.int .i64 ((xs ++ [(xs.length : Int)]).getD xs.length 0)) := by rw [D3.own.cellAt xs.length (by simp)]; exact V_getD (by simp)
      have fa := D3.own.frozenAt a; have fk := D3.own.frozenAt xs.length
      generalize hq : (xs ++ [(xs.length : Int)]).getD a 0 = qa at *
      have D4 := D3.set_ xs.length qa
      have hca2 : (w'.setCell ⟨b, xs.length, none⟩ (.int .i64 qa)).cell? ⟨b, a, none⟩ = some (.int .i64 (((xs ++ [(xs.length : Int)]).set xs.length qa).getD a 0)) := by rw [D4.own.cellAt a (by simp; omega)]; exact V_getD (by simp; omega)
      have fa2 := D4.own.frozenAt a
      have D5 := D4.set_ a (xs.length : Int)
      have e5 : ((xs ++ [(xs.length : Int)]).set xs.length qa).set a (xs.length : Int) = put xs a := by unfold put; rw [hq]
      rw [e5] at D5
      have PL : Hid ((put xs a).length = xs.length + 1) := Lib.hid (put_len _ _)
      rw [PL.out] at D5
      rw [hl1]
      have D6 := Lib.hid D5
      have POK := Lib.hid (put_ok OK.out (by omega) ha)
      clear D3 D4 D5 hown hl1 hq e5
      go_wp2
      go_roundw
      case rel => exact ⟨xs.length + 1, put xs a, by omega, by go_num, PL.out, POK.out, D6.out⟩
      case measure => simp [intOf]; omega
    · obtain rfl : xs.length = m := by omega
      go_wp2
      go_ret
      exact ⟨_, xs, OK.out, rfl, rfl, DR.out.own, DR.out.cur, DR.out.out⟩

/-- A permutation of m elements in new memory. -/
def PermOut (m : Nat) (w : World) (e : Ending) (w' : World) : Prop :=
  ∃ A c xs, Ok xs ∧ xs.length = m ∧ e = .returned (.slice A m c) ∧ Row w' w.heap.size w'.heap.size A m (V xs) ∧ Below w.heap.size w w'
end Go.Proofs.YtpbbfbpggedgpaaDoor.cur

/-
  TorusOf of the program.
-/
namespace Go.Proofs.YtpbbfbpggedgpaaDoor.gl
open Go.ChangeShapes Go.WideShapes Go.ChangeAt Go.RowKit
open Go.Proofs.YtpbbfbpggedgpaaDoor.mem Go.Proofs.YtpbbfbpggedgpaaDoor.ints Go.Proofs.YtpbbfbpggedgpaaDoor.arr Go.Proofs.YtpbbfbpggedgpaaDoor.pm Go.Proofs.YtpbbfbpggedgpaaDoor.permOk Go.Proofs.YtpbbfbpggedgpaaDoor.permOf Go.Proofs.YtpbbfbpggedgpaaDoor.inv Go.Proofs.YtpbbfbpggedgpaaDoor.fns Go.Proofs.YtpbbfbpggedgpaaDoor.sf
set_option linter.unusedVariables false
set_option maxRecDepth 100000

theorem torg {A i j : Nat} (h1 : i < A) (h2 : j * A + A ≤ 24) : ∃ ja i1 i2 z : Nat, ((j : Int) * (A : Int) = (ja : Int) ∧ IntKind.i64.wrap (ja : Int) = (ja : Int)) ∧ ((i : Int) + 1 = (i1 : Int) ∧ IntKind.i64.wrap (i1 : Int) = (i1 : Int)) ∧ (i1 : Int).tmod (A : Int) = (i2 : Int) ∧ ((ja : Int) + (i2 : Int) = (z : Int) ∧ IntKind.i64.wrap (z : Int) = (z : Int)) ∧ (z : Int) = torAt A (j * A + i) := by
  have b3 : (i + 1) % A < A := Nat.mod_lt _ (by omega)
  have d1 : (j * A + i) / A = j := by rw [Nat.add_comm, Nat.add_mul_div_right _ _ (by omega), Nat.div_eq_of_lt h1]; omega
  have d2 : (j * A + i) % A = i := by rw [Nat.add_comm, Nat.add_mul_mod_self_right, Nat.mod_eq_of_lt h1]
  have e1 : (j : Int) * (A : Int) = ((j * A : Nat) : Int) := (Int.natCast_mul _ _).symm
  have e2 : (i : Int) + 1 = ((i + 1 : Nat) : Int) := by simp
  have e3 : ((i + 1 : Nat) : Int).tmod (A : Int) = (((i + 1) % A : Nat) : Int) := by rw [Int.tmod_eq_emod_of_nonneg (by omega)]; exact (Int.natCast_emod _ A).symm
  have e4 : ((j * A : Nat) : Int) + (((i + 1) % A : Nat) : Int) = ((j * A + (i + 1) % A : Nat) : Int) := (Int.natCast_add _ _).symm
  refine ⟨j * A, i + 1, (i + 1) % A, j * A + (i + 1) % A, ⟨e1, w_in (by omega)⟩, ⟨e2, w_in (by omega)⟩, e3, ⟨e4, w_in (by omega)⟩, ?_⟩
  unfold torAt; rw [d1, d2]
theorem torh {A H N i j : Nat} (h1 : i < A) (h2 : j < H) (hN : N = A * H) (h3 : N ≤ 24) : ∃ j1 j2 ja z : Nat, ((j : Int) + 1 = (j1 : Int) ∧ IntKind.i64.wrap (j1 : Int) = (j1 : Int)) ∧ (j1 : Int).tmod (H : Int) = (j2 : Int) ∧ ((j2 : Int) * (A : Int) = (ja : Int) ∧ IntKind.i64.wrap (ja : Int) = (ja : Int)) ∧ ((ja : Int) + (i : Int) = (z : Int) ∧ IntKind.i64.wrap (z : Int) = (z : Int)) ∧ (z : Int) = torUp A N (j * A + i) := by
  have hH : H ≤ N := by rw [hN]; exact Nat.le_mul_of_pos_left _ (by omega)
  have hA : A ≤ N := by rw [hN]; exact Nat.le_mul_of_pos_right _ (by omega)
  have b1 : (j + 1) % H < H := Nat.mod_lt _ (by omega)
  have b2 : (j + 1) % H * A + A ≤ N := by
    have : ((j + 1) % H + 1) * A ≤ H * A := Nat.mul_le_mul_right _ (by omega)
    rw [Nat.add_mul, Nat.one_mul] at this
    rw [hN, Nat.mul_comm A H]; exact this
  have key : (j * A + i + A) % N = (j + 1) % H * A + i := by
    have e : j * A + i + A = (j + 1) * A + i := by rw [Nat.add_mul, Nat.one_mul]; omega
    rw [e]
    by_cases q : j + 1 < H
    · rw [Nat.mod_eq_of_lt q] at b2 ⊢
      exact Nat.mod_eq_of_lt (by omega)
    · have q2 : j + 1 = H := by omega
      rw [q2, Nat.mod_self, Nat.zero_mul, Nat.zero_add, hN, Nat.mul_comm A H, Nat.add_comm, Nat.add_mod_right, Nat.mod_eq_of_lt]
      rw [← Nat.mul_comm A H, ← hN]; omega
  have e1 : (j : Int) + 1 = ((j + 1 : Nat) : Int) := by simp
  have e2 : ((j + 1 : Nat) : Int).tmod (H : Int) = (((j + 1) % H : Nat) : Int) := by rw [Int.tmod_eq_emod_of_nonneg (by omega)]; exact (Int.natCast_emod _ H).symm
  have e3 : (((j + 1) % H : Nat) : Int) * (A : Int) = (((j + 1) % H * A : Nat) : Int) := (Int.natCast_mul _ _).symm
  have e4 : (((j + 1) % H * A : Nat) : Int) + (i : Int) = (((j + 1) % H * A + i : Nat) : Int) := (Int.natCast_add _ _).symm
  refine ⟨j + 1, (j + 1) % H, (j + 1) % H * A, (j + 1) % H * A + i, ⟨e1, w_in (by omega)⟩, e2, ⟨e3, w_in (by omega)⟩, ⟨e4, w_in (by omega)⟩, ?_⟩
  unfold torUp; rw [key]


theorem to_spec (a h : Int) (w : World) (lo1 : -9223372036854775808 ≤ a) (hi1 : a ≤ 9223372036854775807) (lo2 : -9223372036854775808 ≤ h) (hi2 : h ≤ 9223372036854775807) :
    Calls Tryd.prog 20 #[.int .i64 a, .int .i64 h] w fun e w' => ∃ g, e = .returned (.tuple #[g, .bool (torB a h)]) ∧ Svl w' w.heap.size w'.heap.size g (toR a h) (toU a h) ∧ Below w.heap.size w w' := to_spec0 a h w lo1 hi1 lo2 hi2
end Go.Proofs.YtpbbfbpggedgpaaDoor.gl
