/-
  Contracts of the laws' helpers on slices of ints: eqIntS, markIntS, heldIntS, toIntS; a slice of ints that came in.
-/
import Derived.Test.YtkkklpchkkdhfaaMem
import Derived.Outline
namespace Go.Proofs.Ytkkklpchkkdhfaa.ints
open Go.ChangeShapes Go.WideShapes Go.ChangeAt Go.RowKit
open Go.Proofs.Ytkkklpchkkdhfaa.mem
set_option linter.unusedVariables false
set_option maxRecDepth 100000

def V (l : List Int) : List Value := l.map (Value.int .i64)
theorem V_len (l : List Int) : (V l).length = l.length := by simp [V]
theorem V_at {l : List Int} {k : Nat} {u : Value} (h : (V l)[k]? = some u) : ∃ z, l[k]? = some z ∧ u = .int .i64 z := by
  simp only [V, List.getElem?_map, Option.map_eq_some_iff] at h
  obtain ⟨s, h1, h2⟩ := h
  exact ⟨s, h1, h2.symm⟩
theorem V_get {l : List Int} {k : Nat} {z : Int} (h : l[k]? = some z) : (V l)[k]? = some (.int .i64 z) := by simp [V, h]
theorem V_set (l : List Int) (k : Nat) (z : Int) : (V l).set k (.int .i64 z) = V (l.set k z) := by simp [V, List.map_set]

def Drawn (w w' : World) : Prop := ∃ m, w' = w.drewN m
theorem Drawn.cell {w w' : World} (h : Drawn w w') (p : Addr) : w'.cell? p = w.cell? p := by obtain ⟨m, rfl⟩ := h; rfl
theorem Drawn.more {w w' : World} (h : Drawn w w') (n : Nat) : Drawn w (w'.drewN n) := by obtain ⟨m, rfl⟩ := h; exact ⟨m + n, by simp⟩
theorem Drawn.below {w w' : World} (h : Drawn w w') (B : Nat) : Below B w w' := by obtain ⟨m, rfl⟩ := h; exact below_drewN (Below.refl _ _) _
theorem infoI : (Try.prog.info? 3).map (fun i => (i.zero, i.size, i.bytes)) = some (some (.int .i64 0), 1, 8) := by kernel_rfl

def eqi (xs ys : List Int) : Bool := decide (xs = ys)
def Same (xs ys : List Int) (k : Nat) : Prop := ∀ j, j < k → xs[j]? = ys[j]?
theorem Same.step {xs ys : List Int} {k : Nat} {s : Int} (h : Same xs ys k) (h1 : xs[k]? = some s) (h2 : ys[k]? = some s) : Same xs ys (k + 1) := by
  intro j hj
  by_cases e : j = k
  · subst e; rw [h1, h2]
  · exact h j (by omega)
theorem eqi_no {xs ys : List Int} {k : Nat} {s t : Int} (h1 : xs[k]? = some s) (h2 : ys[k]? = some t) (h : s ≠ t) : eqi xs ys = false := by
  unfold eqi
  rw [decide_eq_false_iff_not]
  rintro rfl
  rw [h1] at h2
  exact h (Option.some.inj h2)
theorem eqi_len {xs ys : List Int} (h : xs.length ≠ ys.length) : eqi xs ys = false := by
  unfold eqi
  rw [decide_eq_false_iff_not]
  rintro rfl
  exact h rfl
theorem eqi_yes {xs ys : List Int} {n : Nat} (h1 : xs.length = n) (h2 : ys.length = n) (h : Same xs ys n) : eqi xs ys = true := by
  unfold eqi
  rw [decide_eq_true_iff]
  refine List.ext_getElem? fun i => ?_
  by_cases hi : i < n
  · exact h i hi
  · rw [List.getElem?_eq_none (by omega), List.getElem?_eq_none (by omega)]
theorem eqi_self (xs : List Int) : eqi xs xs = true := by simp [eqi]

set_option maxHeartbeats 400000 in
theorem eq_any (A : Option Addr) (n c : Nat) (B : Option Addr) (m d : Nat) (xs ys : List Int) (h1 h2 : Nat) (w : World)
    (hx : Rd w h1 A n (V xs)) (hy : Rd w h2 B m (V ys)) (hn : n ≤ maxLen) (hm : m ≤ maxLen) :
    Calls Try.prog 25 #[.slice A n c, .slice B m d] w fun e w' => e = .returned (.bool (eqi xs ys)) ∧ Drawn w w' := by
  unfold maxLen at hn hm
  have lx : xs.length = n := by simpa [V] using hx.1
  have ly : ys.length = m := by simpa [V] using hy.1
  have LX := Lib.hid lx; have LY := Lib.hid ly; clear lx ly
  have HX := Lib.hid hx; have HY := Lib.hid hy; clear hx hy
  by_cases hnm : n = m
  · obtain rfl : m = n := hnm.symm
    clear hnm
    go_enter Try.func25, Try.ntmps25
    go_wp2
    go_loopw [5] (fun i wr => ∃ k : Nat, k ≤ m ∧ i = .int .i64 k ∧ Drawn w wr ∧ Same xs ys k) (fun i _ => m - (intOf i).toNat)
    case atStart => exact ⟨0, Nat.zero_le _, rfl, ⟨0, rfl⟩, fun j hj => by omega⟩
    case round =>
      obtain ⟨k, hk, rfl, hdr, hsame⟩ := hrel
      have HS := Lib.hid hsame; have HD := Lib.hid hdr; clear hsame hdr
      by_cases hlt : k < m
      · obtain ⟨g, off, u, rfl, _, hxu, hcx⟩ := HX.out.at_ hlt
        obtain ⟨g', off', u', rfl, _, hyu, hcy⟩ := HY.out.at_ hlt
        obtain ⟨s, hxs, rfl⟩ := V_at hxu
        obtain ⟨t, hyt, rfl⟩ := V_at hyu
        rw [← HD.out.cell] at hcx hcy
        have HXS := Lib.hid hxs; have HYT := Lib.hid hyt; clear hxs hyt hxu hyu
        by_cases hst : s = t
        · subst hst
          go_wp2
          go_quiet (fail)
          go_wp2
          go_roundw
          case rel => exact ⟨k + 1, by omega, by go_num, HD.out.more _, HS.out.step HXS.out HYT.out⟩
          case measure => simp [intOf]; omega
        · have hb : (s != t) = true := by simpa using hst
          have HST := Lib.hid hst; clear hst
          go_wp2
          go_quiet (fail)
          go_wp2
          go_ret
          exact ⟨ret_bool (eqi_no HXS.out HYT.out HST.out).symm, HD.out.more _⟩
      · obtain rfl : k = m := by omega
        go_wp2
        go_ret
        exact ⟨ret_bool (eqi_yes LX.out LY.out HS.out).symm, HD.out⟩
  · have hb : ((n : Int) != (m : Int)) = true := by simp; omega
    have HB : eqi xs ys = false := eqi_len (by rw [LX.out, LY.out]; exact hnm)
    have HB := Lib.hid HB
    clear hnm
    go_enter Try.func25, Try.ntmps25
    go_wp2
    go_ret
    exact ⟨ret_bool HB.out.symm, 0, rfl⟩

def Marks (k : Int) (n : Nat) : List Int := (List.range n).map fun (i : Nat) => k + (i : Int)
theorem marks_at {k : Int} {n j : Nat} (h : j < n) : (V (Marks k n))[j]? = some (.int .i64 (k + j)) := by
  simp [V, Marks, h]
def MUpto (ys : List Value) (k : Int) (j : Nat) : Prop := ∀ i : Nat, i < j → ys[i]? = some (.int .i64 (k + i))
theorem MUpto.all {ys : List Value} {k : Int} {n : Nat} (h : MUpto ys k n) (hl : ys.length = n) : ys = V (Marks k n) := by
  refine List.ext_getElem? fun i => ?_
  by_cases hi : i < n
  · rw [h i hi, marks_at hi]
  · rw [List.getElem?_eq_none (by omega), List.getElem?_eq_none (by simp [V, Marks]; omega)]
theorem MUpto.step {ys : List Value} {k : Int} {j : Nat} (h : MUpto ys k j) (hl : j < ys.length) : MUpto (ys.set j (.int .i64 (k + j))) k (j + 1) := by
  intro i hi
  by_cases e : i = j
  · subst e; rw [List.getElem?_set_self hl]
  · rw [List.getElem?_set_ne (by omega)]; exact h i (by omega)
def MarkRel (A : Option Addr) (n lo hi : Nat) (k : Int) (w wr : World) (j : Nat) : Prop := ∃ ys, Row wr lo hi A n ys ∧ MUpto ys k j ∧ Out lo hi w wr

set_option maxHeartbeats 400000 in
theorem mark_any (A : Option Addr) (n c : Nat) (xs : List Value) (lo hi : Nat) (k : Int) (w : World)
    (hx : Row w lo hi A n xs) (hn : n ≤ 4611686018427387904) (h1 : 1 ≤ k) (h2 : k + n ≤ 4611686018427387904) :
    Calls Try.prog 28 #[.slice A n c, .int .i64 k] w fun e w' => e = .returned (.int .i64 (k + n)) ∧ Row w' lo hi A n (V (Marks k n)) ∧ Out lo hi w w' := by
  have HX := Lib.hid hx; clear hx
  go_enter Try.func28, Try.ntmps28
  go_wp2
  go_loopw [1, 5] (fun q i wr => ∃ j : Nat, j ≤ n ∧ q = .int .i64 (k + j) ∧ i = .int .i64 j ∧ MarkRel A n lo hi k w wr j) (fun _ i _ => n - (intOf i).toNat)
  case atStart => exact ⟨0, Nat.zero_le _, by simp, rfl, xs, HX.out, fun i hi => by omega, Out.refl _ _ _⟩
  case round =>
    obtain ⟨j, hj, rfl, rfl, hm⟩ := hrel
    have HM := Lib.hid hm; clear hm
    by_cases hlt : j < n
    · obtain ⟨ys, hr, hu, hbut⟩ := HM.out
      obtain ⟨g, off, u, rfl, hbg, hgl, hyu, hcy, hfr⟩ := hr.at_ hlt
      have HR := Lib.hid hr; have HU := Lib.hid hu; have HB := Lib.hid hbut; clear hr hu hbut hyu
      go_wp2
      go_roundw
      case rel =>
        refine ⟨j + 1, by omega, by go_num, by go_num, ys.set j (.int .i64 (k + j)), ?_, HU.out.step (by have := HR.out.1; omega), ?_⟩
        · exact HR.out.set_ hlt _
        · exact HB.out.set_ hbg hgl _
      case measure => simp [intOf]; omega
    · obtain rfl : j = n := by omega
      go_wp2
      go_ret
      obtain ⟨ys, hr, hu, hbut⟩ := HM.out
      refine ⟨rfl, ?_, hbut⟩
      rw [← hu.all hr.1]; exact hr

set_option maxHeartbeats 400000 in
theorem held_any (A : Option Addr) (n c : Nat) (lo hi : Nat) (k : Int) (w : World)
    (hx : Row w lo hi A n (V (Marks k n))) (hn : n ≤ 4611686018427387904) (h1 : 1 ≤ k) (h2 : k + n ≤ 4611686018427387904) :
    Calls Try.prog 29 #[.slice A n c, .int .i64 k] w fun e w' => e = .returned (.int .i64 (k + n)) ∧ Drawn w w' := by
  have HX := Lib.hid hx; clear hx
  go_enter Try.func29, Try.ntmps29
  go_wp2
  go_loopw [1, 5] (fun q i wr => ∃ j : Nat, j ≤ n ∧ q = .int .i64 (k + j) ∧ i = .int .i64 j ∧ Drawn w wr) (fun _ i _ => n - (intOf i).toNat)
  case atStart => exact ⟨0, Nat.zero_le _, by simp, rfl, 0, rfl⟩
  case round =>
    obtain ⟨j, hj, rfl, rfl, hb⟩ := hrel
    by_cases hlt : j < n
    · obtain ⟨g, off, u, rfl, hbg, hgl, hyu, hcy, hfr⟩ := HX.out.at_ hlt
      rw [marks_at hlt] at hyu
      obtain rfl := Option.some.inj hyu
      rw [← hb.cell] at hcy
      have HB := Lib.hid hb; clear hb hyu hfr
      go_wp2
      go_roundw
      case rel => exact ⟨j + 1, by omega, by go_num, by go_num, HB.out⟩
      case measure => simp [intOf]; omega
    · obtain rfl : j = n := by omega
      go_wp2
      go_ret
      exact ⟨rfl, hb⟩

def Upto (ys : List Value) (xs : List Int) (j : Nat) : Prop := ∀ i : Nat, i < j → ys[i]? = (V xs)[i]?
theorem Upto.step {ys : List Value} {xs : List Int} {j : Nat} {s : Int} (h : Upto ys xs j) (hl : j < ys.length) (hs : (V xs)[j]? = some (.int .i64 s)) : Upto (ys.set j (.int .i64 s)) xs (j + 1) := by
  intro i hi
  by_cases e : i = j
  · subst e; rw [List.getElem?_set_self hl, hs]
  · rw [List.getElem?_set_ne (by omega)]; exact h i (by omega)
theorem Upto.all {ys : List Value} {xs : List Int} {n : Nat} (h : Upto ys xs n) (hl : ys.length = n) (hx : xs.length = n) : ys = V xs := by
  refine List.ext_getElem? fun i => ?_
  by_cases hi : i < n
  · exact h i hi
  · rw [List.getElem?_eq_none (by omega), List.getElem?_eq_none (by simp [V]; omega)]
def CopyRel (xs : List Int) (n : Nat) (w wr : World) (j : Nat) : Prop := ∃ ys, wr.ownsRow w.heap.size 3 1 (.slice (some ⟨w.heap.size, 0, none⟩) n n) n ys ∧ Upto ys xs j ∧ Below w.heap.size w wr

set_option maxHeartbeats 400000 in
theorem to_any (A : Option Addr) (n c : Nat) (xs : List Int) (hi : Nat) (w : World)
    (hx : Rd w hi A n (V xs)) (hn : n ≤ 1048576) :
    Calls Try.prog 53 #[.slice A n c] w fun e w' => e = .returned (.slice (some ⟨w.heap.size, 0, none⟩) n n) ∧ w'.ownsRow w.heap.size 3 1 (.slice (some ⟨w.heap.size, 0, none⟩) n n) n (V xs) ∧ Below w.heap.size w w' := by
  obtain ⟨i0, hi0, hz0, hz1, hz2⟩ := info_parts infoI
  have lx : xs.length = n := by simpa [V] using hx.1
  have LX := Lib.hid lx; clear lx
  have HX := Lib.hid hx; clear hx
  have HZ2 := Lib.hid hz2; clear hz2
  go_enter Try.func53, Try.ntmps53
  go_wp2_with (at_make; refine wpList_make_full _ rfl _ _ 30 rfl w.heap.size 3 i0 _ 1 Try.underlying30 hi0 hz0 hz1 _ _ _ _ n rfl rfl rfl rfl ?b2 ?b3 (Nat.le_refl _) ?_)
  case b2 => rw [HZ2.out]; omega
  case b3 => unfold maxLen; omega
  intro w1 hown hg
  have hb1 : Below w.heap.size w w1 := (Below.refl _ _).grown hg (Nat.le_refl _) (by simp)
  have HO := Lib.hid hown; have HB := Lib.hid hb1; clear hown hg hb1
  go_wp2
  go_loopw [4] (fun i wr => ∃ j : Nat, j ≤ n ∧ i = .int .i64 j ∧ CopyRel xs n w wr j) (fun i _ => n - (intOf i).toNat)
  case atStart => exact ⟨0, Nat.zero_le _, rfl, _, HO.out, fun i hi => by omega, HB.out⟩
  case round =>
    obtain ⟨j, hj, rfl, hcr⟩ := hrel
    have HC := Lib.hid hcr; clear hcr
    by_cases hlt : j < n
    · obtain ⟨ys, hown, hu, hb⟩ := HC.out
      obtain ⟨g, off, u, rfl, hgl, hxu, hcx⟩ := HX.out.at_ hlt
      obtain ⟨s, hxs, rfl⟩ := V_at hxu
      have hgw : g < w.heap.size := Nat.lt_of_lt_of_le hgl HX.out.2.1
      have hcx' : wr.cell? ⟨g, off + j, none⟩ = some (.int .i64 s) := by rw [hb.cell (p := ⟨g, off + j, none⟩) hgw]; exact hcx
      have hly : ys.length = n := by simpa using hown.1
      have hcy : wr.cell? ⟨w.heap.size, j, none⟩ = some (ys.getD j undef) := by
        rw [hown.cellAt j (by omega), List.getElem?_eq_getElem (by omega)]; simp [List.getD, List.getElem?_eq_getElem (show j < ys.length by omega)]
      have hfy := hown.frozenAt j
      have HOW := Lib.hid hown; have HU := Lib.hid hu; have HBB := Lib.hid hb; have HXU := Lib.hid hxu; have HLY := Lib.hid hly
      clear hown hu hb hxu hxs hcx HC hly
      go_wp2
      go_roundw
      case rel => exact ⟨j + 1, by omega, by go_num, _, (HOW.out.stored j (.int .i64 s)).1, HU.out.step (by rw [HLY.out]; exact hlt) HXU.out, HBB.out.setCell (Nat.le_refl _) _⟩
      case measure => simp [intOf]; omega
    · obtain rfl : j = n := by omega
      go_wp2
      go_ret
      obtain ⟨ys, hown, hu, hb⟩ := HC.out
      refine ⟨rfl, ?_, hb⟩
      rw [← hu.all (by simpa using hown.1) LX.out]
      exact hown

theorem open_I {H : Type} {enc : TypeId × Value → H} {P : Program} {W : World} {t e : TypeId} {A : Option Addr} {n c : Nat} {d : DataW H} {ps : List MemPlace}
    (ht : P.underlying t = some (.slice e)) (he : P.underlying e = some (.int .i64)) (hc : P.cellsOf e = 1) (h : DataW.Trod enc P W 0 (fun _ => true) true t (.slice A n c) d ps) :
    ∃ xs : List Int, Rd W W.heap.size A n (V xs) ∧ n ≤ c ∧ c ≤ maxLen ∧ True := by
  obtain ⟨fuel, hf⟩ := h
  rcases open_ints ht he hc hf with ⟨hcs, _⟩ | ⟨x, l, cap, ss, hcs, _, hl, hm, hz, _, hcell, hwz⟩
  · simp [Value.cells] at hcs
    obtain ⟨rfl, rfl, rfl⟩ := hcs
    exact ⟨[], ⟨rfl, Nat.le_refl _, fun h => absurd h (by omega)⟩, Nat.le_refl _, by simp, trivial⟩
  · simp [Value.cells] at hcs
    obtain ⟨rfl, rfl, rfl⟩ := hcs
    have hz' : ss.length = c := by simpa using hz
    refine ⟨ss.take n, Rd.of_cells (by simp [V]; omega) (fun i hi => ?_), hl, hm, trivial⟩
    rw [hcell i (by omega)]
    simp [V, hi, List.getD, List.getElem?_eq_getElem (show i < ss.length by omega)]
end Go.Proofs.Ytkkklpchkkdhfaa.ints
