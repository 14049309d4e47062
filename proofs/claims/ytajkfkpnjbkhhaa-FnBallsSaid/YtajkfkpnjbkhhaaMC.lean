import Derived.Test.YtajkfkpnjbkhhaaMem
import Derived.Outline
/-
  The cursor that the laws draw from: contracts of l01New, l01Byte, l01Below and their kin, as far as ranges go.
-/
namespace Go.Proofs.Ytajkfkpnjbkhhaa.cur
open Go.ChangeShapes Go.WideShapes Go.ChangeAt Go.RowKit
open Go.Proofs.Ytajkfkpnjbkhhaa.mem
set_option linter.unusedVariables false
set_option maxRecDepth 100000

def U (l : List Int) : List Value := l.map (Value.int .u8)
def Bytes (l : List Int) : Prop := ∀ z ∈ l, 0 ≤ z ∧ z ≤ 255
theorem U_at {l : List Int} {k : Nat} {u : Value} (h : (U l)[k]? = some u) (hb : Bytes l) : ∃ z, u = .int .u8 z ∧ 0 ≤ z ∧ z ≤ 255 := by
  simp only [U, List.getElem?_map, Option.map_eq_some_iff] at h
  obtain ⟨s, h1, h2⟩ := h
  have := hb s (List.mem_of_getElem? h1)
  exact ⟨s, h2.symm, this.1, this.2⟩

/-- The code: a slice of bytes below block 'hi'. -/
structure Code (w : World) (hi : Nat) (A : Option Addr) (n : Nat) (l : List Int) : Prop where
  rd : Rd w hi A n (U l)
  byt : Bytes l
  small : n ≤ 1048576
/-- Block g is a cursor over the code. -/
structure Cur (w : World) (g : Nat) (A : Option Addr) (n c : Nat) (l : List Int) : Prop where
  blk : ∃ i h : Int, w.heap[g]? = some (.cells #[.slice A n c, .int .i64 i, .int .i64 h] 63 (0, 0)) ∧ 0 ≤ i ∧ i ≤ n ∧ -9223372036854775808 ≤ h ∧ h ≤ 9223372036854775807
  code : Code w g A n l

theorem Code.out {w w' : World} {hi lo' hi' : Nat} {A : Option Addr} {n : Nat} {l : List Int} (h : Code w hi A n l) (ho : Out lo' hi' w w') (hd : hi ≤ lo' ∨ hi' ≤ 0) : Code w' hi A n l :=
  ⟨h.rd.out ho hd, h.byt, h.small⟩
theorem Code.keep {w w' : World} {hi B : Nat} {A : Option Addr} {n : Nat} {l : List Int} (h : Code w hi A n l) (hb : Below B w w') (hB : hi ≤ B) : Code w' hi A n l :=
  ⟨h.rd.keep hb hB, h.byt, h.small⟩
theorem Code.wider {w : World} {hi hi' : Nat} {A : Option Addr} {n : Nat} {l : List Int} (h : Code w hi A n l) (h1 : hi ≤ hi') (h2 : hi' ≤ w.heap.size) : Code w hi' A n l :=
  ⟨⟨h.rd.1, h2, fun hn => by
    obtain ⟨g, off, e, hlt, hc⟩ := h.rd.2.2 hn
    exact ⟨g, off, e, by omega, hc⟩⟩, h.byt, h.small⟩
theorem and255 (n : Int) : 0 ≤ bits .and .i64 n 255 ∧ bits .and .i64 n 255 ≤ 255 := by
  have e : bits .and .i64 n 255 = n % 256 := by
    have h127 : (BitVec.ofInt 64 255).toNat = 2 ^ 8 - 1 := by decide
    have key : (BitVec.ofInt 64 n &&& BitVec.ofInt 64 255).toNat = (n % ((2 ^ 64 : Nat) : Int)).toNat % 2 ^ 8 := by
      rw [BitVec.toNat_and, BitVec.toNat_ofInt, h127, Nat.and_two_pow_sub_one_eq_mod]
    show IntKind.i64.wrap ((BitVec.ofInt 64 n &&& BitVec.ofInt 64 255).toNat : Nat) = n % 256
    rw [key, IntKind.wrap_i64]
    omega
  rw [e]; omega

set_option maxHeartbeats 400000 in
theorem byte_any (w : World) (g : Nat) (A : Option Addr) (n c : Nat) (l : List Int) (hc : Cur w g A n c l) :
    Calls Try.prog 32 #[.pointer (some ⟨g, 0, none⟩)] w fun e w' => ∃ x : Int, 0 ≤ x ∧ x ≤ 255 ∧ e = .returned (.int .i64 x) ∧ Cur w' g A n c l ∧ Out g (g + 1) w w' := by
  obtain ⟨⟨i', h, hb, i0', i1', h0, h1⟩, hcode⟩ := hc
  obtain ⟨i, rfl⟩ := Int.eq_ofNat_of_zero_le i0'
  have i1 : i ≤ n := by omega
  clear i0' i1'
  have hsm := hcode.small
  have c2 : w.cell? ⟨g, 2, none⟩ = some (.int .i64 h) := by simp [World.cell?, hb]
  have f2 : w.frozen? ⟨g, 2, none⟩ = false := by simp [World.frozen?, hb]
  have HB := Lib.hid hb; have HC := Lib.hid hcode; clear hb hcode
  go_enter Try.func32, Try.ntmps32
  go_wp2
  generalize HH : wrap64 (wrap64 (h * 6364136223846793005) + 1442695040888963407) = h' at *
  have hh' : -9223372036854775808 ≤ h' ∧ h' ≤ 9223372036854775807 := by rw [← HH]; unfold wrap64; omega
  clear HH
  obtain ⟨h2, h3⟩ := hh'
  have hw1 := Out.set_ (off := 2) (Out.refl g (g + 1) w) (Nat.le_refl _) (Nat.lt_succ_self _) (.int .i64 h')
  have hb1 : (w.setCell ⟨g, 2, none⟩ (.int .i64 h')).heap[g]? = some (.cells #[.slice A n c, .int .i64 i, .int .i64 h'] 63 (0, 0)) := by
    have hb := HB.out
    simp [World.setCell, Array.getElem?_modify, hb]
  generalize HW : w.setCell ⟨g, 2, none⟩ (.int .i64 h') = w1 at *
  clear HW c2 f2
  have c0 : w1.cell? ⟨g, 0, none⟩ = some (.slice A n c) := by simp [World.cell?, hb1]
  have c1 : w1.cell? ⟨g, 1, none⟩ = some (.int .i64 i) := by simp [World.cell?, hb1]
  have c2 : w1.cell? ⟨g, 2, none⟩ = some (.int .i64 h') := by simp [World.cell?, hb1]
  have f1 : w1.frozen? ⟨g, 1, none⟩ = false := by simp [World.frozen?, hb1]
  have HC1 := Lib.hid (Code.out HC.out hw1 (.inl (Nat.le_refl _)))
  have HB1 := Lib.hid hb1; have HW1 := Lib.hid hw1; clear hb1 hw1
  go_quiet (fail)
  obtain ⟨x0, x1⟩ := and255 (bits BinOp.xor IntKind.i64 (h' / 8589934592) (h' / 35184372088832))
  go_wp2
  generalize bits BinOp.and IntKind.i64 (bits BinOp.xor IntKind.i64 (h' / 8589934592) (h' / 35184372088832)) 255 = x at *
  by_cases hin : i < n
  · obtain ⟨g', off, u, rfl, hgl, hxu, hcx⟩ := HC1.out.rd.at_ hin
    obtain ⟨z, rfl, z0, z1⟩ := U_at hxu HC1.out.byt
    have HXU := Lib.hid hxu; clear hxu
    go_quiet (fail)
    go_wp2
    go_quiet (fail)
    go_wp2
    go_ret
    have hq := and255 (x + z)
    refine ⟨_, hq.1, hq.2, rfl, ⟨⟨i + 1, h', ?_, by omega, by omega, h2, h3⟩, ?_⟩, ?_⟩
    · have hb := HB1.out
      simp [World.setCell, Array.getElem?_modify, hb]
    · exact HC1.out.out (((Out.refl g (g + 1) w1).drewN _).set_ (Nat.le_refl _) (Nat.lt_succ_self _) _) (.inl (Nat.le_refl _))
    · exact (HW1.out.drewN _).set_ (Nat.le_refl _) (Nat.lt_succ_self _) _
  · go_quiet (fail)
    go_wp2
    go_ret
    exact ⟨x, x0, x1, rfl, ⟨⟨i, h', HB1.out, by omega, by omega, h2, h3⟩, HC1.out.out (((Out.refl g (g + 1) w1).drewN _).drewN _) (.inl (Nat.le_refl _))⟩, (HW1.out.drewN _).drewN _⟩
/-- A contract that gives a number of a range and leaves the cursor a cursor. -/
def Gives (lo hi : Int) (g : Nat) (A : Option Addr) (n c : Nat) (l : List Int) (w : World) (e : Ending) (w' : World) : Prop :=
  ∃ x : Int, lo ≤ x ∧ x ≤ hi ∧ e = .returned (.int .i64 x) ∧ Cur w' g A n c l ∧ Out g (g + 1) w w'

theorem and_small (m : Int) : 0 ≤ bits .and .i64 m 1073741823 ∧ bits .and .i64 m 1073741823 ≤ 1073741823 := by
  have e : bits .and .i64 m 1073741823 = m % 1073741824 := by
    have h127 : (BitVec.ofInt 64 1073741823).toNat = 2 ^ 30 - 1 := by decide
    have key : (BitVec.ofInt 64 m &&& BitVec.ofInt 64 1073741823).toNat = (m % ((2 ^ 64 : Nat) : Int)).toNat % 2 ^ 30 := by
      rw [BitVec.toNat_and, BitVec.toNat_ofInt, h127, Nat.and_two_pow_sub_one_eq_mod]
    show IntKind.i64.wrap ((BitVec.ofInt 64 m &&& BitVec.ofInt 64 1073741823).toNat : Nat) = m % 1073741824
    rw [key, IntKind.wrap_i64]
    omega
  rw [e]; omega

/-- l01New makes a cursor in the block at the heap's end. -/
def Made (A : Option Addr) (n c : Nat) (l : List Int) (w : World) (e : Ending) (w' : World) : Prop :=
  ∃ g, w.heap.size ≤ g ∧ g < w'.heap.size ∧ e = .returned (.pointer (some ⟨g, 0, none⟩)) ∧ Cur w' g A n c l ∧ Below w.heap.size w w'

set_option maxRecDepth 100000 in
set_option maxHeartbeats 400000 in
theorem new_any (w : World) (hi : Nat) (A : Option Addr) (n c : Nat) (l : List Int) (hc : Code w hi A n l) :
    Calls Try.prog 30 #[.slice A n c] w (Made A n c l w) := by
  have hsm := hc.small
  have HC := Lib.hid hc; clear hc
  go_enter Try.func30, Try.ntmps30
  go_wp2
  go_loop [3, 4] (fun v i => ∃ (k : Nat) (h : Int), k ≤ n ∧ i = .int .i64 k ∧ v = .int .i64 h ∧ 0 ≤ h ∧ h ≤ 1073741823) (fun _ i => n - (intOf i).toNat)
  case atStart => exact ⟨0, _, Nat.zero_le _, rfl, rfl, by omega, by omega⟩
  case round =>
    obtain ⟨k, h, hk, rfl, rfl, h0, h1⟩ := hrel
    by_cases hlt : k < n
    · by_cases h4 : k < 4000
      · obtain ⟨g', off, u, rfl, hgl, hxu, hcx⟩ := HC.out.rd.at_ hlt
        obtain ⟨z, rfl, z0, z1⟩ := U_at hxu HC.out.byt
        have HXU := Lib.hid hxu; clear hxu
        go_wp2
        go_round
        case rel =>
          have hq := and_small (h * 109 + z + 7)
          exact ⟨k + 1, _, by omega, by go_num, rfl, hq.1, hq.2⟩
        case measure => simp [intOf]; omega
      · go_wp2
        go_ret
        refine ⟨w.heap.size, Nat.le_refl _, by simp, rfl, ⟨⟨0, h, heap_alloc_new _ _, by omega, by omega, by omega, by omega⟩, ?_⟩, (Below.refl _ _).alloc (Nat.le_refl _) _⟩
        exact (HC.out.keep ((Below.refl w.heap.size w).alloc (Nat.le_refl _) _) HC.out.rd.2.1).wider HC.out.rd.2.1 (by simp)
    · go_wp2
      go_ret
      refine ⟨w.heap.size, Nat.le_refl _, by simp, rfl, ⟨⟨0, h, heap_alloc_new _ _, by omega, by omega, by omega, by omega⟩, ?_⟩, (Below.refl _ _).alloc (Nat.le_refl _) _⟩
      exact (HC.out.keep ((Below.refl w.heap.size w).alloc (Nat.le_refl _) _) HC.out.rd.2.1).wider HC.out.rd.2.1 (by simp)
end Go.Proofs.Ytajkfkpnjbkhhaa.cur

/-
  A slice of bytes that came in: what its reading says of its cells.
-/
namespace Go.Proofs.Ytajkfkpnjbkhhaa.cur
open Go.ChangeShapes Go.WideShapes Go.ChangeAt Go.RowKit
open Go.Proofs.Ytajkfkpnjbkhhaa.mem
theorem open_B {H : Type} {enc : TypeId × Value → H} {P : Program} {W : World} {t e : TypeId} {A : Option Addr} {n c : Nat} {d : DataW H} {ps : List MemPlace}
    (ht : P.underlying t = some (.slice e)) (he : P.underlying e = some (.int .u8)) (hc : P.cellsOf e = 1) (h : DataW.Trod enc P W 0 (fun _ => true) true t (.slice A n c) d ps) :
    ∃ xs : List Int, Rd W W.heap.size A n (U xs) ∧ n ≤ c ∧ c ≤ maxLen ∧ Bytes xs := by
  obtain ⟨fuel, hf⟩ := h
  rcases open_ints ht he hc hf with ⟨hcs, _⟩ | ⟨x, l, cap, ss, hcs, _, hl, hm, hz, _, hcell, hwz⟩
  · simp [Value.cells] at hcs
    obtain ⟨rfl, rfl, rfl⟩ := hcs
    exact ⟨[], ⟨rfl, Nat.le_refl _, fun h => absurd h (by omega)⟩, Nat.le_refl _, by simp, fun z hz => by cases hz⟩
  · simp [Value.cells] at hcs
    obtain ⟨rfl, rfl, rfl⟩ := hcs
    have hz' : ss.length = c := by simpa using hz
    refine ⟨ss.take n, Rd.of_cells (by simp [U]; omega) (fun i hi => ?_), hl, hm, fun z hz => ?_⟩
    · rw [hcell i (by omega)]
      simp [U, hi, List.getD, List.getElem?_eq_getElem (show i < ss.length by omega)]
    · have := hwz z (List.mem_of_mem_take hz)
      simpa [Lit.wf, IntKind.min, IntKind.max, IntKind.signed, IntKind.bits] using this
end Go.Proofs.Ytajkfkpnjbkhhaa.cur

/-
  Draws: contracts of l20New, MakeNum, l01Below, l01Str, as far as ranges go.
-/
namespace Go.Proofs.Ytajkfkpnjbkhhaa.cur
open Go.ChangeShapes Go.WideShapes Go.ChangeAt Go.RowKit
open Go.Proofs.Ytajkfkpnjbkhhaa.mem
set_option linter.unusedVariables false
set_option maxRecDepth 100000

theorem Cur.lt {w : World} {g : Nat} {A : Option Addr} {n c : Nat} {l : List Int} (h : Cur w g A n c l) : g < w.heap.size := by
  obtain ⟨⟨i, q, hb, _⟩, _⟩ := h
  rcases Nat.lt_or_ge g w.heap.size with hlt | hge
  · exact hlt
  · rw [Array.getElem?_eq_none hge] at hb; cases hb
theorem Cur.keep {w w' : World} {g B : Nat} {A : Option Addr} {n c : Nat} {l : List Int} (h : Cur w g A n c l) (hb : Below B w w') (hB : g < B) : Cur w' g A n c l := by
  obtain ⟨⟨i, q, hk, r⟩, hc⟩ := h
  exact ⟨⟨i, q, by rw [hb.block g hB]; exact hk, r⟩, hc.keep hb (by omega)⟩
theorem Cur.out {w w' : World} {g lo hi : Nat} {A : Option Addr} {n c : Nat} {l : List Int} (h : Cur w g A n c l) (ho : Out lo hi w w') (hd : g < lo) : Cur w' g A n c l := by
  have hl := h.lt
  obtain ⟨⟨i, q, hk, r⟩, hc⟩ := h
  exact ⟨⟨i, q, by rw [ho.block g hl (.inl hd)]; exact hk, r⟩, hc.out ho (.inl (by omega))⟩

set_option maxHeartbeats 400000 in
theorem skip_any (w : World) (hi : Nat) (A : Option Addr) (n c : Nat) (l : List Int) (m : Nat) (hm : m ≤ 1000) (hc : Code w hi A n l) :
    Calls Try.prog 31 #[.slice A n c, .int .i64 m] w (Made A n c l w) := by
  have HC := Lib.hid hc; clear hc
  go_enter Try.func31, Try.ntmps31
  go_wp2_with fail
  refine (new_any w hi A n c l HC.out).mono ?_
  rintro e w1 ⟨g, hg, hlt, rfl, hcur, hb⟩
  have HCU := Lib.hid hcur; have HB := Lib.hid hb; clear hcur hb
  go_wp2_with fail
  go_loopw [6] (fun i wr => ∃ k : Nat, k ≤ m ∧ i = .int .i64 k ∧ Cur wr g A n c l ∧ Below w.heap.size w wr) (fun i _ => m - (intOf i).toNat)
  case atStart => exact ⟨0, Nat.zero_le _, rfl, HCU.out, HB.out⟩
  case round =>
    obtain ⟨k, hk, rfl, hcur, hb⟩ := hrel
    have HCR := Lib.hid hcur; have HBR := Lib.hid hb; clear hcur hb
    by_cases hkm : k < m
    · go_wp2_with fail
      refine (byte_any _ g A n c l HCR.out).mono ?_
      rintro e w2 ⟨x, x0, x1, rfl, hcur, ho⟩
      have HC2 := Lib.hid hcur; have HO := Lib.hid ho; clear hcur ho
      go_wp2_with fail
      go_roundw
      case rel => exact ⟨k + 1, by omega, by go_num, HC2.out, HBR.out.trans (HO.out.below hg HBR.out.size)⟩
      case measure => simp [intOf]; omega
    · go_wp2_with fail
      go_ret
      exact ⟨g, hg, HCR.out.lt, rfl, HCR.out, HBR.out⟩

/-- A number of a range; nothing that was there has turned. -/
def Number (lo hi : Int) (w : World) (e : Ending) (w' : World) : Prop := ∃ x : Int, lo ≤ x ∧ x ≤ hi ∧ e = .returned (.int .i64 x) ∧ Below w.heap.size w w'

set_option maxHeartbeats 400000 in
theorem num_any (w : World) (hi : Nat) (A : Option Addr) (n c : Nat) (l : List Int) (m : Nat) (hm : m ≤ 1000) (hc : Code w hi A n l) :
    Calls Try.prog 12 #[.slice A n c, .int .i64 m] w (Number 0 65535 w) := by
  have HC := Lib.hid hc; clear hc
  go_enter Try.func12, Try.ntmps12
  go_wp2_with fail
  refine (skip_any w hi A n c l m hm HC.out).mono ?_
  rintro e w1 ⟨g, hg, hlt, rfl, hcur, hb⟩
  have HCU := Lib.hid hcur; have HB := Lib.hid hb; clear hcur hb
  go_wp2_with fail
  refine (byte_any _ g A n c l HCU.out).mono ?_
  rintro e w2 ⟨x, x0, x1, rfl, hcur, ho⟩
  have HC2 := Lib.hid hcur; have HO := Lib.hid ho; clear hcur ho
  go_wp2_with fail
  refine (byte_any _ g A n c l HC2.out).mono ?_
  rintro e w3 ⟨y, y0, y1, rfl, hcur, ho⟩
  have HO3 := Lib.hid ho; clear hcur ho
  go_wp2_with fail
  go_ret
  exact ⟨x * 256 + y, by omega, by omega, rfl, (HB.out.trans (HO.out.below hg HB.out.size)).trans (HO3.out.below hg (Nat.le_trans HB.out.size HO.out.size))⟩

set_option maxHeartbeats 400000 in
theorem below_any (w : World) (g : Nat) (A : Option Addr) (n c : Nat) (l : List Int) (k : Int) (h1 : 1 ≤ k) (h2 : k ≤ 2147483648) (hc : Cur w g A n c l) :
    Calls Try.prog 42 #[.pointer (some ⟨g, 0, none⟩), .int .i64 k] w (Gives 0 (k - 1) g A n c l w) := by
  have HC := Lib.hid hc; clear hc
  by_cases hk : k ≤ 256
  · go_enter Try.func42, Try.ntmps42
    go_wp2_with fail
    refine (byte_any _ g A n c l HC.out).mono ?_
    rintro e w2 ⟨x, x0, x1, rfl, hcur, ho⟩
    have HC2 := Lib.hid hcur; have HO := Lib.hid ho; clear hcur ho
    have hne : (k == 0) = false := by rw [beq_eq_false_iff_ne]; omega
    go_wp2_with fail
    go_ret
    have q1 := Int.emod_nonneg x (show k ≠ 0 by omega)
    have q2 := Int.emod_lt_of_pos x (show 0 < k by omega)
    exact ⟨x % k, q1, by omega, rfl, HC2.out, HO.out⟩
  · go_enter Try.func42, Try.ntmps42
    go_wp2_with fail
    refine (byte_any _ g A n c l HC.out).mono ?_
    rintro e w2 ⟨x, x0, x1, rfl, hcur, ho⟩
    have HC2 := Lib.hid hcur; have HO := Lib.hid ho; clear hcur ho
    go_wp2_with fail
    refine (byte_any _ g A n c l HC2.out).mono ?_
    rintro e w3 ⟨y, y0, y1, rfl, hcur, ho⟩
    have HC3 := Lib.hid hcur; have HO3 := Lib.hid (HO.out.trans ho); clear hcur ho
    go_wp2_with fail
    refine (byte_any _ g A n c l HC3.out).mono ?_
    rintro e w4 ⟨z, z0, z1, rfl, hcur, ho⟩
    have HC4 := Lib.hid hcur; have HO4 := Lib.hid (HO3.out.trans ho); clear hcur ho
    go_wp2_with fail
    refine (byte_any _ g A n c l HC4.out).mono ?_
    rintro e w5 ⟨u, u0, u1, rfl, hcur, ho⟩
    have HC5 := Lib.hid hcur; have HO5 := Lib.hid (HO4.out.trans ho); clear hcur ho
    have hne : (k == 0) = false := by rw [beq_eq_false_iff_ne]; omega
    go_wp2_with fail
    go_ret
    have q1 := Int.emod_nonneg (x * 16777216 + y * 65536 + z * 256 + u) (show k ≠ 0 by omega)
    have q2 := Int.emod_lt_of_pos (x * 16777216 + y * 65536 + z * 256 + u) (show 0 < k by omega)
    exact ⟨_, q1, by omega, rfl, HC5.out, HO5.out⟩

end Go.Proofs.Ytajkfkpnjbkhhaa.cur
