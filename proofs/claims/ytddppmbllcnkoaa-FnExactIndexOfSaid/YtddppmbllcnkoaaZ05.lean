import Derived.Test.YtddppmbllcnkoaaZ04
import Derived.Outline
import Derived.Laws.Rows
import Derived.Deep.WholeRow
import Derived.Lib.SmallJoins
/-
  Contracts of the laws' helpers on slices of ints: eqIntS, markIntS, heldIntS, toIntS; a slice of ints that came in.
-/
namespace Go.Proofs.Ytddppmbllcnkoaa.ints
open Go.ChangeShapes Go.WideShapes Go.ChangeAt Go.RowKit
open Go.Proofs.Ytddppmbllcnkoaa.mem
set_option linter.unusedVariables false
set_option maxRecDepth 100000

def V (l : List Int) : List Value := l.map (Value.int .i64)
theorem V_len (l : List Int) : (V l).length = l.length := by simp [V]
theorem V_at {l : List Int} {k : Nat} {u : Value} (h : (V l)[k]? = some u) : ∃ z, l[k]? = some z ∧ u = .int .i64 z := by
  simp only [V, List.getElem?_map, Option.map_eq_some_iff] at h
  obtain ⟨s, h1, h2⟩ := h
  exact ⟨s, h1, h2.symm⟩
theorem V_get {l : List Int} {k : Nat} {z : Int} (h : l[k]? = some z) : (V l)[k]? = some (.int .i64 z) := by simp [V, h]
theorem V_set (l : List Int) (k : Nat) (z : Int) : (V l).set k (.int .i64 z) = V (l.set k z) := by simp [V, List.map_set]

def Drawn (w w' : World) : Prop := ∃ m, w' = w.drewN m
theorem Drawn.cell {w w' : World} (h : Drawn w w') (p : Addr) : w'.cell? p = w.cell? p := by obtain ⟨m, rfl⟩ := h; rfl
theorem Drawn.more {w w' : World} (h : Drawn w w') (n : Nat) : Drawn w (w'.drewN n) := by obtain ⟨m, rfl⟩ := h; exact ⟨m + n, by simp⟩
theorem Drawn.below {w w' : World} (h : Drawn w w') (B : Nat) : Below B w w' := by obtain ⟨m, rfl⟩ := h; exact below_drewN (Below.refl _ _) _
theorem infoI : (sqp.prog.info? 3).map (fun i => (i.zero, i.size, i.bytes)) = some (some (.int .i64 0), 1, 8) := by kernel_rfl

def eqi (xs ys : List Int) : Bool := decide (xs = ys)
def Same (xs ys : List Int) (k : Nat) : Prop := ∀ j, j < k → xs[j]? = ys[j]?
theorem Same.step {xs ys : List Int} {k : Nat} {s : Int} (h : Same xs ys k) (h1 : xs[k]? = some s) (h2 : ys[k]? = some s) : Same xs ys (k + 1) := by
  intro j hj
  by_cases e : j = k
  · subst e; rw [h1, h2]
  · exact h j (by omega)
theorem eqi_no {xs ys : List Int} {k : Nat} {s t : Int} (h1 : xs[k]? = some s) (h2 : ys[k]? = some t) (h : s ≠ t) : eqi xs ys = false := by
  unfold eqi
  rw [decide_eq_false_iff_not]
  rintro rfl
  rw [h1] at h2
  exact h (Option.some.inj h2)
theorem eqi_len {xs ys : List Int} (h : xs.length ≠ ys.length) : eqi xs ys = false := by
  unfold eqi
  rw [decide_eq_false_iff_not]
  rintro rfl
  exact h rfl
theorem eqi_yes {xs ys : List Int} {n : Nat} (h1 : xs.length = n) (h2 : ys.length = n) (h : Same xs ys n) : eqi xs ys = true := by
  unfold eqi
  rw [decide_eq_true_iff]
  refine List.ext_getElem? fun i => ?_
  by_cases hi : i < n
  · exact h i hi
  · rw [List.getElem?_eq_none (by omega), List.getElem?_eq_none (by omega)]
theorem eqi_self (xs : List Int) : eqi xs xs = true := by simp [eqi]

set_option maxHeartbeats 400000 in
theorem eq_any (A : Option Addr) (n c : Nat) (B : Option Addr) (m d : Nat) (xs ys : List Int) (h1 h2 : Nat) (w : World)
    (hx : Rd w h1 A n (V xs)) (hy : Rd w h2 B m (V ys)) (hn : n ≤ maxLen) (hm : m ≤ maxLen) :
    Calls sqp.prog 39 #[.slice A n c, .slice B m d] w fun e w' => e = .returned (.bool (eqi xs ys)) ∧ Drawn w w' := by
  unfold maxLen at hn hm
  have lx : xs.length = n := by simpa [V] using hx.1
  have ly : ys.length = m := by simpa [V] using hy.1
  have LX := Lib.hid lx; have LY := Lib.hid ly; clear lx ly
  have HX := Lib.hid hx; have HY := Lib.hid hy; clear hx hy
  by_cases hnm : n = m
  · obtain rfl : m = n := hnm.symm
    clear hnm
    go_enter sqp.func39, sqp.ntmps39
    go_wp2
    go_loopw [5] (fun i wr => ∃ k : Nat, k ≤ m ∧ i = .int .i64 k ∧ Drawn w wr ∧ Same xs ys k) (fun i _ => m - (intOf i).toNat)
    case atStart => exact ⟨0, Nat.zero_le _, rfl, ⟨0, rfl⟩, fun j hj => by omega⟩
    case round =>
      obtain ⟨k, hk, rfl, hdr, hsame⟩ := hrel
      have HS := Lib.hid hsame; have HD := Lib.hid hdr; clear hsame hdr
      by_cases hlt : k < m
      · obtain ⟨g, off, u, rfl, _, hxu, hcx⟩ := HX.out.at_ hlt
        obtain ⟨g', off', u', rfl, _, hyu, hcy⟩ := HY.out.at_ hlt
        obtain ⟨s, hxs, rfl⟩ := V_at hxu
        obtain ⟨t, hyt, rfl⟩ := V_at hyu
        rw [← HD.out.cell] at hcx hcy
        have HXS := Lib.hid hxs; have HYT := Lib.hid hyt; clear hxs hyt hxu hyu
        by_cases hst : s = t
        · subst hst
          go_wp2
          go_quiet (fail)
          go_wp2
          go_roundw
          case rel => exact ⟨k + 1, by omega, by go_num, HD.out.more _, HS.out.step HXS.out HYT.out⟩
          case measure => simp [intOf]; omega
        · have hb : (s != t) = true := by simpa using hst
          have HST := Lib.hid hst; clear hst
          go_wp2
          go_quiet (fail)
          go_wp2
          go_ret
          exact ⟨ret_bool (eqi_no HXS.out HYT.out HST.out).symm, HD.out.more _⟩
      · obtain rfl : k = m := by omega
        go_wp2
        go_ret
        exact ⟨ret_bool (eqi_yes LX.out LY.out HS.out).symm, HD.out⟩
  · have hb : ((n : Int) != (m : Int)) = true := by simp; omega
    have HB : eqi xs ys = false := eqi_len (by rw [LX.out, LY.out]; exact hnm)
    have HB := Lib.hid HB
    clear hnm
    go_enter sqp.func39, sqp.ntmps39
    go_wp2
    go_ret
    exact ⟨ret_bool HB.out.symm, 0, rfl⟩

def Marks (k : Int) (n : Nat) : List Int := (List.range n).map fun (i : Nat) => k + (i : Int)
theorem marks_at {k : Int} {n j : Nat} (h : j < n) : (V (Marks k n))[j]? = some (.int .i64 (k + j)) := by
  simp [V, Marks, h]
def MUpto (ys : List Value) (k : Int) (j : Nat) : Prop := ∀ i : Nat, i < j → ys[i]? = some (.int .i64 (k + i))
theorem MUpto.all {ys : List Value} {k : Int} {n : Nat} (h : MUpto ys k n) (hl : ys.length = n) : ys = V (Marks k n) := by
  refine List.ext_getElem? fun i => ?_
  by_cases hi : i < n
  · rw [h i hi, marks_at hi]
  · rw [List.getElem?_eq_none (by omega), List.getElem?_eq_none (by simp [V, Marks]; omega)]
theorem MUpto.step {ys : List Value} {k : Int} {j : Nat} (h : MUpto ys k j) (hl : j < ys.length) : MUpto (ys.set j (.int .i64 (k + j))) k (j + 1) := by
  intro i hi
  by_cases e : i = j
  · subst e; rw [List.getElem?_set_self hl]
  · rw [List.getElem?_set_ne (by omega)]; exact h i (by omega)
def MarkRel (A : Option Addr) (n lo hi : Nat) (k : Int) (w wr : World) (j : Nat) : Prop := ∃ ys, Row wr lo hi A n ys ∧ MUpto ys k j ∧ Out lo hi w wr

set_option maxHeartbeats 400000 in
theorem mark_any (A : Option Addr) (n c : Nat) (xs : List Value) (lo hi : Nat) (k : Int) (w : World)
    (hx : Row w lo hi A n xs) (hn : n ≤ 4611686018427387904) (h1 : 1 ≤ k) (h2 : k + n ≤ 4611686018427387904) :
    Calls sqp.prog 40 #[.slice A n c, .int .i64 k] w fun e w' => e = .returned (.int .i64 (k + n)) ∧ Row w' lo hi A n (V (Marks k n)) ∧ Out lo hi w w' := by
  have HX := Lib.hid hx; clear hx
  go_enter sqp.func40, sqp.ntmps40
  go_wp2
  go_loopw [1, 5] (fun q i wr => ∃ j : Nat, j ≤ n ∧ q = .int .i64 (k + j) ∧ i = .int .i64 j ∧ MarkRel A n lo hi k w wr j) (fun _ i _ => n - (intOf i).toNat)
  case atStart => exact ⟨0, Nat.zero_le _, by simp, rfl, xs, HX.out, fun i hi => by omega, Out.refl _ _ _⟩
  case round =>
    obtain ⟨j, hj, rfl, rfl, hm⟩ := hrel
    have HM := Lib.hid hm; clear hm
    by_cases hlt : j < n
    · obtain ⟨ys, hr, hu, hbut⟩ := HM.out
      obtain ⟨g, off, u, rfl, hbg, hgl, hyu, hcy, hfr⟩ := hr.at_ hlt
      have HR := Lib.hid hr; have HU := Lib.hid hu; have HB := Lib.hid hbut; clear hr hu hbut hyu
      go_wp2
      go_roundw
      case rel =>
        refine ⟨j + 1, by omega, by go_num, by go_num, ys.set j (.int .i64 (k + j)), ?_, HU.out.step (by have := HR.out.1; omega), ?_⟩
        · exact HR.out.set_ hlt _
        · exact HB.out.set_ hbg hgl _
      case measure => simp [intOf]; omega
    · obtain rfl : j = n := by omega
      go_wp2
      go_ret
      obtain ⟨ys, hr, hu, hbut⟩ := HM.out
      refine ⟨rfl, ?_, hbut⟩
      rw [← hu.all hr.1]; exact hr

set_option maxHeartbeats 400000 in
theorem held_any (A : Option Addr) (n c : Nat) (lo hi : Nat) (k : Int) (w : World)
    (hx : Row w lo hi A n (V (Marks k n))) (hn : n ≤ 4611686018427387904) (h1 : 1 ≤ k) (h2 : k + n ≤ 4611686018427387904) :
    Calls sqp.prog 41 #[.slice A n c, .int .i64 k] w fun e w' => e = .returned (.int .i64 (k + n)) ∧ Drawn w w' := by
  have HX := Lib.hid hx; clear hx
  go_enter sqp.func41, sqp.ntmps41
  go_wp2
  go_loopw [1, 5] (fun q i wr => ∃ j : Nat, j ≤ n ∧ q = .int .i64 (k + j) ∧ i = .int .i64 j ∧ Drawn w wr) (fun _ i _ => n - (intOf i).toNat)
  case atStart => exact ⟨0, Nat.zero_le _, by simp, rfl, 0, rfl⟩
  case round =>
    obtain ⟨j, hj, rfl, rfl, hb⟩ := hrel
    by_cases hlt : j < n
    · obtain ⟨g, off, u, rfl, hbg, hgl, hyu, hcy, hfr⟩ := HX.out.at_ hlt
      rw [marks_at hlt] at hyu
      obtain rfl := Option.some.inj hyu
      rw [← hb.cell] at hcy
      have HB := Lib.hid hb; clear hb hyu hfr
      go_wp2
      go_roundw
      case rel => exact ⟨j + 1, by omega, by go_num, by go_num, HB.out⟩
      case measure => simp [intOf]; omega
    · obtain rfl : j = n := by omega
      go_wp2
      go_ret
      exact ⟨rfl, hb⟩

def Upto (ys : List Value) (xs : List Int) (j : Nat) : Prop := ∀ i : Nat, i < j → ys[i]? = (V xs)[i]?
theorem Upto.step {ys : List Value} {xs : List Int} {j : Nat} {s : Int} (h : Upto ys xs j) (hl : j < ys.length) (hs : (V xs)[j]? = some (.int .i64 s)) : Upto (ys.set j (.int .i64 s)) xs (j + 1) := by
  intro i hi
  by_cases e : i = j
  · subst e; rw [List.getElem?_set_self hl, hs]
  · rw [List.getElem?_set_ne (by omega)]; exact h i (by omega)
theorem Upto.all {ys : List Value} {xs : List Int} {n : Nat} (h : Upto ys xs n) (hl : ys.length = n) (hx : xs.length = n) : ys = V xs := by
  refine List.ext_getElem? fun i => ?_
  by_cases hi : i < n
  · exact h i hi
  · rw [List.getElem?_eq_none (by omega), List.getElem?_eq_none (by simp [V]; omega)]
def CopyRel (xs : List Int) (n : Nat) (w wr : World) (j : Nat) : Prop := ∃ ys, wr.ownsRow w.heap.size 3 1 (.slice (some ⟨w.heap.size, 0, none⟩) n n) n ys ∧ Upto ys xs j ∧ Below w.heap.size w wr

set_option maxHeartbeats 400000 in
theorem to_any (A : Option Addr) (n c : Nat) (xs : List Int) (hi : Nat) (w : World)
    (hx : Rd w hi A n (V xs)) (hn : n ≤ 1048576) :
    Calls sqp.prog 67 #[.slice A n c] w fun e w' => e = .returned (.slice (some ⟨w.heap.size, 0, none⟩) n n) ∧ w'.ownsRow w.heap.size 3 1 (.slice (some ⟨w.heap.size, 0, none⟩) n n) n (V xs) ∧ Below w.heap.size w w' := by
  obtain ⟨i0, hi0, hz0, hz1, hz2⟩ := info_parts infoI
  have lx : xs.length = n := by simpa [V] using hx.1
  have LX := Lib.hid lx; clear lx
  have HX := Lib.hid hx; clear hx
  have HZ2 := Lib.hid hz2; clear hz2
  go_enter sqp.func67, sqp.ntmps67
  go_wp2_with (at_make; refine wpList_make_full _ rfl _ _ 23 rfl w.heap.size 3 i0 _ 1 sqp.underlying23 hi0 hz0 hz1 _ _ _ _ n rfl rfl rfl rfl ?b2 ?b3 (Nat.le_refl _) ?_)
  case b2 => rw [HZ2.out]; omega
  case b3 => unfold maxLen; omega
  intro w1 hown hg
  have hb1 : Below w.heap.size w w1 := (Below.refl _ _).grown hg (Nat.le_refl _) (by simp)
  have HO := Lib.hid hown; have HB := Lib.hid hb1; clear hown hg hb1
  go_wp2
  go_loopw [4] (fun i wr => ∃ j : Nat, j ≤ n ∧ i = .int .i64 j ∧ CopyRel xs n w wr j) (fun i _ => n - (intOf i).toNat)
  case atStart => exact ⟨0, Nat.zero_le _, rfl, _, HO.out, fun i hi => by omega, HB.out⟩
  case round =>
    obtain ⟨j, hj, rfl, hcr⟩ := hrel
    have HC := Lib.hid hcr; clear hcr
    by_cases hlt : j < n
    · obtain ⟨ys, hown, hu, hb⟩ := HC.out
      obtain ⟨g, off, u, rfl, hgl, hxu, hcx⟩ := HX.out.at_ hlt
      obtain ⟨s, hxs, rfl⟩ := V_at hxu
      have hgw : g < w.heap.size := Nat.lt_of_lt_of_le hgl HX.out.2.1
      have hcx' : wr.cell? ⟨g, off + j, none⟩ = some (.int .i64 s) := by rw [hb.cell (p := ⟨g, off + j, none⟩) hgw]; exact hcx
      have hly : ys.length = n := by simpa using hown.1
      have hcy : wr.cell? ⟨w.heap.size, j, none⟩ = some (ys.getD j undef) := by
        rw [hown.cellAt j (by omega), List.getElem?_eq_getElem (by omega)]; simp [List.getD, List.getElem?_eq_getElem (show j < ys.length by omega)]
      have hfy := hown.frozenAt j
      have HOW := Lib.hid hown; have HU := Lib.hid hu; have HBB := Lib.hid hb; have HXU := Lib.hid hxu; have HLY := Lib.hid hly
      clear hown hu hb hxu hxs hcx HC hly
      go_wp2
      go_roundw
      case rel => exact ⟨j + 1, by omega, by go_num, _, (HOW.out.stored j (.int .i64 s)).1, HU.out.step (by rw [HLY.out]; exact hlt) HXU.out, HBB.out.setCell (Nat.le_refl _) _⟩
      case measure => simp [intOf]; omega
    · obtain rfl : j = n := by omega
      go_wp2
      go_ret
      obtain ⟨ys, hown, hu, hb⟩ := HC.out
      refine ⟨rfl, ?_, hb⟩
      rw [← hu.all (by simpa using hown.1) LX.out]
      exact hown

end Go.Proofs.Ytddppmbllcnkoaa.ints

/-
  Arrays: a block that holds a whole array; loading, storing and indexing one by value.
-/
namespace Go.Proofs.Ytddppmbllcnkoaa.arr
open Go.ChangeShapes Go.WideShapes Go.ChangeAt Go.RowKit
open Go.Proofs.Ytddppmbllcnkoaa.mem Go.Proofs.Ytddppmbllcnkoaa.ints
set_option linter.unusedVariables false
set_option maxRecDepth 100000

/-- Block g holds the cells cs, none of them frozen. -/
def Arr (w : World) (g : Nat) (cs : List Value) (t : TypeId) : Prop := w.heap[g]? = some (.cells cs.toArray t (0, 0))
theorem Arr.lt {w : World} {g : Nat} {cs : List Value} {t : TypeId} (h : Arr w g cs t) : g < w.heap.size := (Array.getElem?_eq_some_iff.1 h).1
theorem Arr.cell {w : World} {g k : Nat} {cs : List Value} {t : TypeId} {v : Value} (h : Arr w g cs t) (hk : cs[k]? = some v) : w.cell? ⟨g, k, none⟩ = some v := by
  unfold Arr at h
  simp [World.cell?, h, hk]
theorem Arr.frozen {w : World} {g : Nat} {cs : List Value} {t : TypeId} (h : Arr w g cs t) (k : Nat) : w.frozen? ⟨g, k, none⟩ = false := by
  unfold Arr at h
  simp [World.frozen?, h]
theorem Arr.set_ {w : World} {g : Nat} {cs : List Value} {t : TypeId} (h : Arr w g cs t) (k : Nat) (v : Value) : Arr (w.setCell ⟨g, k, none⟩ v) g (cs.set k v) t := by
  have := heap_setCell_same w g k cs.toArray t v h
  simpa [Arr] using this
theorem Arr.other {w : World} {g g' k : Nat} {cs : List Value} {t : TypeId} (h : Arr w g cs t) (hne : g ≠ g') (v : Value) : Arr (w.setCell ⟨g', k, none⟩ v) g cs t :=
  (heap_setCell_other w ⟨g', k, none⟩ g v hne).trans h
theorem Arr.keep {w w' : World} {g B : Nat} {cs : List Value} {t : TypeId} (h : Arr w g cs t) (hb : Below B w w') (hB : g < B) : Arr w' g cs t :=
  (hb.block g hB).trans h
theorem Arr.alloc {w : World} {g : Nat} {cs : List Value} {t : TypeId} (h : Arr w g cs t) (o : Obj) : Arr (w.alloc o) g cs t :=
  (((Below.refl w.heap.size w).alloc (Nat.le_refl _) o).block g h.lt).trans h
theorem Arr.new (w : World) (cs : List Value) (t : TypeId) {g : Nat} (hg : g = w.heap.size) : Arr (w.alloc (.cells cs.toArray t)) g cs t := by
  subst hg
  exact heap_alloc_last w _
theorem Arr.row {w : World} {g : Nat} {cs cs' : List Value} {t : TypeId} (h : Arr w g cs t) : Arr (w.setRow g cs'.toArray) g cs' t := setRow_heap w g _ _ t _ h
theorem Arr.rowOther {w : World} {g g' : Nat} {cs : List Value} {cs' : Array Value} {t : TypeId} (h : Arr w g cs t) (hne : g ≠ g') : Arr (w.setRow g' cs') g cs t := (setRow_other w g' g cs' hne).trans h
theorem Arr.drew {w : World} {g : Nat} {cs : List Value} {t : TypeId} (h : Arr w g cs t) (n : Nat) : Arr (w.drewN n) g cs t := h

theorem below_setRow {B : Nat} {w w' : World} (h : Below B w w') {g : Nat} (hg : B ≤ g) (cs : Array Value) : Below B w (w'.setRow g cs) :=
  ⟨h.os, h.tape, h.output, by simpa using h.size, fun k hk => (setRow_other w' g k cs (by omega)).trans (h.block k hk)⟩

theorem one_V (l : List Int) : (V l).toArray.all (·.oneCell') = true := by simp [V, Value.oneCell']
theorem info44 : (sqp.prog.info? 63).map (·.size) = some 24 := by kernel_rfl
theorem size_V {l : List Int} (h : l.length = 24) : (sqp.prog.info? 63).map (·.size) = some (V l).toArray.size := by rw [info44]; simp [V, h]
def zeros : List Int := List.replicate 24 0

theorem V_getD {l : List Int} {k : Nat} (h : k < l.length) : (V l)[k]? = some (.int .i64 (l.getD k 0)) := by
  simp [V, List.getD, h]
/-- The numbers f 0, f 1, .. up to 24. -/
def tab (f : Nat → Int) : List Int := (List.range 24).map f
theorem tab_len (f : Nat → Int) : (tab f).length = 24 := by simp [tab]
theorem tab_at (f : Nat → Int) {k : Nat} (h : k < 24) : (tab f)[k]? = some (f k) := by simp [tab, h]
theorem tab_get (f : Nat → Int) {k : Nat} (h : k < 24) : (tab f).getD k 0 = f k := by simp [tab, h]
theorem tab_set (f f' : Nat → Int) {k : Nat} (h : ∀ j, j < 24 → f' j = if j = k then f' k else f j) : (tab f).set k (f' k) = tab f' := by
  refine List.ext_getElem? fun i => ?_
  by_cases hi : i < 24
  · rw [tab_at _ hi, List.getElem?_set]
    by_cases e : k = i
    · subst e; simp [tab_len, hi]
    · rw [if_neg e, tab_at _ hi, h i hi, if_neg (by omega)]
  · rw [List.getElem?_eq_none (by simp [tab_len]; omega), List.getElem?_eq_none (by simp [tab_len]; omega)]
def Stay (w wr : World) (k : Nat) : Prop := Arr wr w.heap.size (V zeros) 63 ∧ Arr wr (w.heap.size + 1) (V (tab fun i => if i < k then (i : Int) else 0)) 63 ∧ Below w.heap.size w wr
def idl : List Int := tab fun i => (i : Int)

set_option maxHeartbeats 400000 in
theorem staying_any (w : World) :
    Calls sqp.prog 108 #[] w fun e w' => e = .returned (.agg (V idl).toArray) ∧ Below w.heap.size w w' := by
  go_enter sqp.func108, sqp.ntmps108
  go_wp2
  go_loopw [3] (fun i wr => ∃ k : Nat, k ≤ 24 ∧ i = .int .i64 k ∧ Stay w wr k) (fun i _ => 24 - (intOf i).toNat)
  case atStart =>
    exact ⟨0, Nat.zero_le _, rfl, (Arr.new w (V zeros) _ rfl).alloc _, Arr.new _ (V zeros) _ (by simp), ((Below.refl _ _).alloc (Nat.le_refl _) _).alloc (by simp) _⟩
  case round =>
    obtain ⟨k, hk, rfl, hst⟩ := hrel
    have HS := Lib.hid hst; clear hst
    by_cases hlt : k < 24
    · have hc := HS.out.2.1.cell (V_getD (k := k) (by rw [tab_len]; exact hlt))
      have hf := HS.out.2.1.frozen k
      go_wp2
      go_roundw
      case rel =>
        refine ⟨k + 1, by omega, by go_num, HS.out.1.other (by omega) _, ?_, HS.out.2.2.setCell (by simp) _⟩
        have h := HS.out.2.1.set_ k (.int .i64 (k : Int))
        rw [V_set] at h
        have e := tab_set (fun i => if i < k then (i : Int) else 0) (fun i => if i < k + 1 then (i : Int) else 0) (k := k) (fun j hj => by
          by_cases e : j = k
          · subst e; simp
          · simp [e]; split <;> split <;> omega)
        simp only [Nat.lt_succ_self, if_true] at e
        rw [e] at h
        exact h
      case measure => simp [intOf]; omega
    · obtain rfl : k = 24 := by omega
      have e : tab (fun i => if i < 24 then (i : Int) else 0) = idl := by decide
      have h2 := HS.out.2.1; rw [e] at h2
      have H2 := Lib.hid h2; clear h2 e
      go_wp2_with (first | (refine wpList_load_row rfl 63 _ rfl (w.heap.size + 1) rfl 63 (V idl).toArray (0, 0) _ H2.out sqp.underlying63 rfl (size_V (tab_len _)) ?_) | (refine wpList_store_row rfl 63 _ _ rfl w.heap.size (V idl).toArray rfl rfl 63 (V zeros).toArray HS.out.1 (size_V (tab_len _)) (by simp [V_len, idl, tab_len, zeros]) (one_V _) ?_))
      exact bodyPost_ret (v := .agg (V idl).toArray) (results_cell_row rfl _ _ w.heap.size 63 (V idl).toArray (0, 0) _ rfl HS.out.1.row sqp.underlying63 rfl (size_V (tab_len _))) rfl ⟨rfl, below_setRow HS.out.2.2 (Nat.le_refl _) _⟩
end Go.Proofs.Ytddppmbllcnkoaa.arr

/-
  Surfaces in memory: a struct of two slices of ints; the laws' helpers szSurface, toSurface, eqSurface, markSurface, heldSurface.
-/
namespace Go.Proofs.Ytddppmbllcnkoaa.sf
open Go.ChangeShapes Go.WideShapes Go.ChangeAt Go.RowKit Go.Joins Go.Deep
open Go.Proofs.Ytddppmbllcnkoaa.mem Go.Proofs.Ytddppmbllcnkoaa.ints Go.Proofs.Ytddppmbllcnkoaa.arr
set_option linter.unusedVariables false
set_option maxRecDepth 100000

/-- v is a surface that reads as r, u; both rows may be written, lie apart from one another, from lo on and below hi. -/
def Svl (w : World) (lo hi : Nat) (v : Value) (r u : List Int) : Prop :=
  ∃ P n c Q m d l1 h1 l2 h2, v = .agg #[.slice P n c, .slice Q m d] ∧ Row w l1 h1 P n (V r) ∧ Row w l2 h2 Q m (V u) ∧ n ≤ c ∧ m ≤ d ∧ lo ≤ l1 ∧ h1 ≤ hi ∧ lo ≤ l2 ∧ h2 ≤ hi ∧ (h1 ≤ l2 ∨ h2 ≤ l1) ∧ hi ≤ w.heap.size
/-- The same, to be read only. -/
def Srd (w : World) (hi : Nat) (v : Value) (r u : List Int) : Prop :=
  ∃ P n c Q m d, v = .agg #[.slice P n c, .slice Q m d] ∧ Rd w hi P n (V r) ∧ Rd w hi Q m (V u) ∧ n ≤ c ∧ m ≤ d
theorem Rd.wider {w : World} {hi hi' n : Nat} {A : Option Addr} {xs : List Value} (h : Rd w hi A n xs) (h1 : hi ≤ hi') (h2 : hi' ≤ w.heap.size) : Rd w hi' A n xs :=
  ⟨h.1, h2, fun hn => by
    obtain ⟨g, off, e, hlt, hc⟩ := h.2.2 hn
    exact ⟨g, off, e, by omega, hc⟩⟩
theorem Svl.rd {w : World} {lo hi : Nat} {v : Value} {r u : List Int} (h : Svl w lo hi v r u) : Srd w hi v r u := by
  obtain ⟨P, n, c, Q, m, d, l1, h1, l2, h2, rfl, a, b, e1, e2, f1, f2, f3, f4, f5, f6⟩ := h
  exact ⟨P, n, c, Q, m, d, rfl, Rd.wider a.rd f2 f6, Rd.wider b.rd f4 f6, e1, e2⟩
theorem Svl.top {w : World} {lo hi : Nat} {v : Value} {r u : List Int} (h : Svl w lo hi v r u) : hi ≤ w.heap.size := by
  obtain ⟨P, n, c, Q, m, d, l1, h1, l2, h2, rfl, a, b, e1, e2, f1, f2, f3, f4, f5, f6⟩ := h
  exact f6
theorem Srd.top {w : World} {hi : Nat} {v : Value} {r u : List Int} (h : Srd w hi v r u) : hi ≤ w.heap.size := by
  obtain ⟨P, n, c, Q, m, d, rfl, a, b, e1, e2⟩ := h
  exact a.2.1
theorem Svl.keep {w w' : World} {lo hi B : Nat} {v : Value} {r u : List Int} (h : Svl w lo hi v r u) (hb : Below B w w') (hB : hi ≤ B) : Svl w' lo hi v r u := by
  obtain ⟨P, n, c, Q, m, d, l1, h1, l2, h2, rfl, a, b, e1, e2, f1, f2, f3, f4, f5, f6⟩ := h
  exact ⟨P, n, c, Q, m, d, l1, h1, l2, h2, rfl, a.keep hb (by omega), b.keep hb (by omega), e1, e2, f1, f2, f3, f4, f5, Nat.le_trans f6 hb.size⟩
theorem Srd.keep {w w' : World} {hi B : Nat} {v : Value} {r u : List Int} (h : Srd w hi v r u) (hb : Below B w w') (hB : hi ≤ B) : Srd w' hi v r u := by
  obtain ⟨P, n, c, Q, m, d, rfl, a, b, e1, e2⟩ := h
  exact ⟨P, n, c, Q, m, d, rfl, a.keep hb hB, b.keep hb hB, e1, e2⟩
theorem Svl.out {w w' : World} {lo hi lo' hi' : Nat} {v : Value} {r u : List Int} (h : Svl w lo hi v r u) (ho : Out lo' hi' w w') (hd : hi ≤ lo' ∨ hi' ≤ lo) : Svl w' lo hi v r u := by
  obtain ⟨P, n, c, Q, m, d, l1, h1, l2, h2, rfl, a, b, e1, e2, f1, f2, f3, f4, f5, f6⟩ := h
  exact ⟨P, n, c, Q, m, d, l1, h1, l2, h2, rfl, a.out ho (by omega), b.out ho (by omega), e1, e2, f1, f2, f3, f4, f5, Nat.le_trans f6 ho.size⟩
theorem Svl.later {w : World} {lo lo' hi : Nat} {v : Value} {r u : List Int} (h : Svl w lo hi v r u) (hl : lo' ≤ lo) : Svl w lo' hi v r u := by
  obtain ⟨P, n, c, Q, m, d, l1, h1, l2, h2, rfl, a, b, e1, e2, f1, f2, f3, f4, f5, f6⟩ := h
  exact ⟨P, n, c, Q, m, d, l1, h1, l2, h2, rfl, a, b, e1, e2, by omega, f2, by omega, f4, f5, f6⟩
theorem Svl.wide {w : World} {lo hi : Nat} {v : Value} {r u : List Int} (h : Svl w lo hi v r u) : Svl w lo w.heap.size v r u := by
  obtain ⟨P, n, c, Q, m, d, l1, h1, l2, h2, rfl, a, b, e1, e2, f1, f2, f3, f4, f5, f6⟩ := h
  exact ⟨P, n, c, Q, m, d, l1, h1, l2, h2, rfl, a, b, e1, e2, f1, by omega, f3, by omega, f5, Nat.le_refl _⟩
theorem own_cap {w : World} {base : Nat} {e : TypeId} {n n' c : Nat} {A : Option Addr} {xs : List Value} (h : w.ownsRow base e 1 (.slice A n' c) n xs) : n' = n ∧ n ≤ c := by
  rcases h.2 with ⟨q, rfl⟩ | ⟨g, cap, cur, q, _, _, hc, _⟩
  · injection q with _ q2 q3; subst q2; subst q3; exact ⟨rfl, Nat.le_refl _⟩
  · injection q with _ q2 q3; subst q2; subst q3; exact ⟨rfl, hc⟩
theorem _root_.Go.Proofs.Ytddppmbllcnkoaa.mem.Out.row_ {lo hi g : Nat} {w w' : World} (h : Out lo hi w w') (h1 : lo ≤ g) (h2 : g < hi) (cs : Array Value) : Out lo hi w (w'.setRow g cs) :=
  ⟨h.os, h.tape, h.output, by simpa using h.size, fun k hk hne => (setRow_other w' g k cs (by omega)).trans (h.block k hk hne)⟩
theorem _root_.Go.Proofs.Ytddppmbllcnkoaa.arr.Arr.out {w w' : World} {g lo hi : Nat} {cs : List Value} {t : TypeId} (h : Arr w g cs t) (ho : Out lo hi w w') (hd : g < lo ∨ hi ≤ g) : Arr w' g cs t :=
  (ho.block g h.lt hd).trans h
/-- Two rows of the call's own, one made behind the other. -/
theorem Svl.mk2 {w : World} {lo l2 : Nat} {P Q : Option Addr} {n c m d : Nat} {r u : List Int} (a : Row w lo l2 P n (V r)) (b : Row w l2 w.heap.size Q m (V u)) (hl : lo ≤ l2) (e1 : n ≤ c) (e2 : m ≤ d) : Svl w lo w.heap.size (.agg #[.slice P n c, .slice Q m d]) r u :=
  ⟨P, n, c, Q, m, d, lo, l2, l2, w.heap.size, rfl, a, b, e1, e2, Nat.le_refl _, a.2.1, hl, Nat.le_refl _, .inl (Nat.le_refl _), Nat.le_refl _⟩
theorem Svl.len {w : World} {lo hi : Nat} {v : Value} {r u : List Int} (h : Svl w lo hi v r u) : ∃ P c Q d, v = .agg #[.slice P r.length c, .slice Q u.length d] := by
  obtain ⟨P, n, c, Q, m, d, l1, h1, l2, h2, rfl, a, b, e1, e2, f1, f2, f3, f4, f5, f6⟩ := h
  have q1 : r.length = n := by simpa [V] using a.1
  have q2 : u.length = m := by simpa [V] using b.1
  subst q1; subst q2
  exact ⟨P, c, Q, d, rfl⟩
theorem Svl.lens {w : World} {lo hi : Nat} {v : Value} {r u : List Int} (h : Svl w lo hi v r u) {n m : Nat} (h1 : r.length = n) (h2 : u.length = m) : ∃ P c Q d, v = .agg #[.slice P n c, .slice Q m d] := by
  subst h1; subst h2; exact h.len

set_option maxHeartbeats 400000 in
theorem sz_any (P : Option Addr) (n c : Nat) (Q : Option Addr) (m d : Nat) (l : Int) (w : World) (h1 : (n : Int) ≤ 9223372036854775807) (h1' : (m : Int) ≤ 9223372036854775807) (h2 : 0 ≤ l) (h3 : l ≤ 1048576) :
    Calls sqp.prog 28 #[.agg #[.slice P n c, .slice Q m d], .int .i64 l] w fun e w' => e = .returned (.int .i64 (if l < (n : Int) + m then -1 else l - n - m)) ∧ Below w.heap.size w w' := by
  by_cases hl : l < n
  · have hh : decide (l - (n : Int) < 0) = true := by simp; omega
    rw [if_pos (by omega)]
    clear hl
    go_enter sqp.func28, sqp.ntmps28
    go_wp2
    go_ret
    exact ⟨rfl, (Below.refl _ _).alloc (Nat.le_refl _) _⟩
  · have hh : decide (l - (n : Int) < 0) = false := by simp; omega
    by_cases hl2 : l - n < m
    · rw [if_pos (by omega)]
      have hh2 : decide (l - (n : Int) - m < 0) = true := by simp; omega
      have a1 : 0 ≤ l - (n : Int) := by omega
      clear hl hl2
      go_enter sqp.func28, sqp.ntmps28
      go_wp2
      go_ret
      exact ⟨rfl, (Below.refl _ _).alloc (Nat.le_refl _) _⟩
    · rw [if_neg (by omega)]
      have hh2 : decide (l - (n : Int) - m < 0) = false := by simp; omega
      have a1 : 0 ≤ l - (n : Int) := by omega
      have a2 : 0 ≤ l - (n : Int) - m := by omega
      clear hl hl2
      go_enter sqp.func28, sqp.ntmps28
      go_wp2
      go_ret
      exact ⟨rfl, (Below.refl _ _).alloc (Nat.le_refl _) _⟩

set_option maxHeartbeats 1000000 in
theorem toS_any (v : Value) (r u : List Int) (hi : Nat) (w : World) (hx : Srd w hi v r u) (hn : r.length ≤ 1048576) (hm : u.length ≤ 1048576) :
    Calls sqp.prog 30 #[v] w fun e w' => ∃ g, e = .returned g ∧ Svl w' w.heap.size w'.heap.size g r u ∧ Below w.heap.size w w' := by
  obtain ⟨P, n, c, Q, m, d, rfl, rp, rq, e1, e2⟩ := hx
  have q1 : r.length = n := by simpa [V] using rp.1
  have q2 : u.length = m := by simpa [V] using rq.1
  have RP := Lib.hid rp; have RQ := Lib.hid rq; clear rp rq
  have HI := RP.out.2.1
  go_enter sqp.func30, sqp.ntmps30
  go_wp2_with fail
  refine (to_any P n c r hi _ (RP.out.keep ((((Below.refl hi w).alloc HI _).alloc (by simp <;> omega) _).alloc (by simp <;> omega) _) (Nat.le_refl _)) (by omega)).mono ?_
  rintro e w1 ⟨rfl, o1, b1⟩
  have hs1 : w.heap.size + 1 + 1 + 1 ≤ w1.heap.size := by have := b1.size; simpa using this
  have A1 := Lib.hid ((((Arr.new w [.slice P n c, .slice Q m d] 44 rfl).alloc _).alloc _).keep b1 (by simp <;> omega))
  have A2 := Lib.hid (((Arr.new _ [.slice none 0 0, .slice none 0 0] 25 (g := w.heap.size + 1) (by simp <;> omega)).alloc _).keep b1 (by simp <;> omega))
  have A3 := Lib.hid ((Arr.new _ [.slice none 0 0, .slice none 0 0] 25 (g := w.heap.size + 1 + 1) (by simp <;> omega)).keep b1 (by simp <;> omega))
  have c1 := A1.out.cell (k := 1) rfl
  have c3 := A3.out.cell (k := 0) rfl
  have f3 := A3.out.frozen 0
  have R1 := Lib.hid (Row.of_own o1)
  have B1 : Hid (Below w.heap.size w w1) := Lib.hid (((((Below.refl _ _).alloc (Nat.le_refl _) _).alloc (by simp <;> omega) _).alloc (by simp <;> omega) _).trans (b1.mono (by simp <;> omega)))
  clear b1 o1
  go_wp2_with fail
  refine (to_any Q m d u hi _ (RQ.out.keep ((B1.out.setCell (by simp <;> omega) _).mono (by omega)) (Nat.le_refl _)) (by omega)).mono ?_
  rintro e w2 ⟨rfl, o2, b2⟩
  have hs2 : w1.heap.size ≤ w2.heap.size := by have := b2.size; simpa using this
  have A3' := Lib.hid ((A3.out.set_ 0 _).keep b2 (by simp <;> omega))
  have A2' := Lib.hid ((A2.out.other (by omega) _).keep b2 (by simp <;> omega))
  clear A3 c3 f3
  have c3 := A3'.out.cell (k := 1) rfl
  have f3 := A3'.out.frozen 1
  have R2 := Lib.hid (Row.of_own o2)
  have R1' := Lib.hid ((R1.out.out (Out.set_ (off := 0) (g := w.heap.size + 1 + 1) (lo := w.heap.size) (hi := w.heap.size + 1 + 1 + 1) (Out.refl _ _ _) (by omega) (by omega) _) (.inr (by simp))).keep b2 (by simp))
  have B2 : Hid (Below w.heap.size w w2) := Lib.hid ((B1.out.setCell (by simp <;> omega) _).trans (b2.mono (by simp <;> omega)))
  clear b2 o2
  have N3 := Lib.hid (A3'.out.set_ 1 (.slice (some ⟨w1.heap.size, 0, none⟩) m m))
  have N2 := Lib.hid (A2'.out.other (g' := w.heap.size + 1 + 1) (k := 1) (by omega) (.slice (some ⟨w1.heap.size, 0, none⟩) m m))
  have hS : (sqp.prog.info? 25).map (·.size) = some 2 := by kernel_rfl
  go_wp2_with (first | (refine wpList_load_row rfl 25 _ rfl (w.heap.size + 1 + 1) rfl 25 #[.slice (some ⟨w.heap.size + 1 + 1 + 1, 0, none⟩) n n, .slice (some ⟨w1.heap.size, 0, none⟩) m m] (0, 0) _ N3.out sqp.underlying25 rfl hS ?_) | (refine wpList_store_row rfl 25 _ _ rfl (w.heap.size + 1) #[.slice (some ⟨w.heap.size + 1 + 1 + 1, 0, none⟩) n n, .slice (some ⟨w1.heap.size, 0, none⟩) m m] rfl rfl 25 #[.slice none 0 0, .slice none 0 0] N2.out hS rfl (by simp [Value.oneCell']) ?_))
  refine bodyPost_ret (v := .agg #[.slice (some ⟨w.heap.size + 1 + 1 + 1, 0, none⟩) n n, .slice (some ⟨w1.heap.size, 0, none⟩) m m]) (results_cell_row rfl _ _ (w.heap.size + 1) 25 #[.slice (some ⟨w.heap.size + 1 + 1 + 1, 0, none⟩) n n, .slice (some ⟨w1.heap.size, 0, none⟩) m m] (0, 0) _ rfl N2.out.row sqp.underlying25 rfl hS) rfl ⟨_, rfl, ?_, below_setRow (B2.out.setCell (by simp <;> omega) _) (by omega) _⟩
  have oo : Out w.heap.size (w.heap.size + 1 + 1 + 1) w2 ((w2.setCell ⟨w.heap.size + 1 + 1, 1, none⟩ (.slice (some ⟨w1.heap.size, 0, none⟩) m m)).setRow (w.heap.size + 1) #[.slice (some ⟨w.heap.size + 1 + 1 + 1, 0, none⟩) n n, .slice (some ⟨w1.heap.size, 0, none⟩) m m]) :=
    ((Out.refl w.heap.size (w.heap.size + 1 + 1 + 1) w2).set_ (by omega) (by omega) _).row_ (by omega) (by omega) _
  have a := R1'.out.out oo (.inr (by simp <;> omega))
  have b := R2.out.out oo (.inr (by simp <;> omega))
  have hz := oo.size
  exact ⟨_, n, n, _, m, m, w.heap.size + 1 + 1 + 1, w1.heap.size, w1.heap.size, w2.heap.size, rfl, by simpa using a, by simpa using b, Nat.le_refl _, Nat.le_refl _, by omega, by omega, by omega, by omega, .inl (Nat.le_refl _), by omega⟩

set_option maxHeartbeats 400000 in
theorem eqS_any (x y : Value) (r u r' u' : List Int) (h1 h2 : Nat) (w : World) (hx : Srd w h1 x r u) (hy : Srd w h2 y r' u') (hn : r.length ≤ 1048576) (hm : u.length ≤ 1048576) (hn' : r'.length ≤ 1048576) (hm' : u'.length ≤ 1048576) :
    Calls sqp.prog 32 #[x, y] w fun e w' => e = .returned (.bool (eqi r r' && eqi u u')) ∧ Below w.heap.size w w' := by
  obtain ⟨P, n, c, Q, m, d, rfl, rp, rq, _, _⟩ := hx
  obtain ⟨P', n', c', Q', m', d', rfl, rp', rq', _, _⟩ := hy
  have q1 : r.length = n := by simpa [V] using rp.1
  have q2 : u.length = m := by simpa [V] using rq.1
  have q1' : r'.length = n' := by simpa [V] using rp'.1
  have q2' : u'.length = m' := by simpa [V] using rq'.1
  have RP := Lib.hid rp; have RQ := Lib.hid rq; have RP' := Lib.hid rp'; have RQ' := Lib.hid rq'; clear rp rq rp' rq'
  have HI := RP.out.2.1; have HI' := RP'.out.2.1
  have B1 : Hid (∀ a b, Below w.heap.size w ((w.alloc a).alloc b)) := Lib.hid (fun a b => ((Below.refl _ _).alloc (Nat.le_refl _) _).alloc (by simp <;> omega) _)
  go_enter sqp.func32, sqp.ntmps32
  go_wp2_with fail
  refine (eq_any P n c P' n' c' r r' _ _ _ (RP.out.keep (B1.out _ _) HI) (RP'.out.keep (B1.out _ _) HI') (by unfold maxLen; omega) (by unfold maxLen; omega)).mono ?_
  rintro e w1 ⟨rfl, d1⟩
  by_cases hh : eqi r r' = true
  · rw [hh]
    have D1 := Lib.hid d1; clear d1
    have c1 := (((Arr.new w [.slice P n c, .slice Q m d] 25 rfl).alloc (.cells #[.slice P' n' c', .slice Q' m' d'] 25)).keep (D1.out.below (w.heap.size + 2)) (by omega)).cell (k := 1) rfl
    have c2 := ((Arr.new (w.alloc (.cells #[.slice P n c, .slice Q m d] 25)) [.slice P' n' c', .slice Q' m' d'] 25 (g := w.heap.size + 1) (by simp <;> omega)).keep (D1.out.below (w.heap.size + 2)) (by omega)).cell (k := 1) rfl
    go_wp2_with fail
    refine (eq_any Q m d Q' m' d' u u' _ _ _ (RQ.out.keep ((B1.out _ _).trans (D1.out.below _)) HI) (RQ'.out.keep ((B1.out _ _).trans (D1.out.below _)) HI') (by unfold maxLen; omega) (by unfold maxLen; omega)).mono ?_
    rintro e w2 ⟨rfl, d2⟩
    have BB : Hid (Below w.heap.size w w2) := Lib.hid (((B1.out _ _).trans (D1.out.below _)).trans (d2.below _))
    clear d2
    have HH := Lib.hid hh; clear hh
    cases hq : eqi u u' <;> (have HQ := Lib.hid hq; clear hq; go_wp2_with fail; go_ret; exact ⟨ret_bool (by rw [HH.out, HQ.out]; rfl), BB.out⟩)
  · have hf : eqi r r' = false := by simpa using hh
    rw [hf]
    have BB : Hid (Below w.heap.size w w1) := Lib.hid ((B1.out _ _).trans (d1.below _))
    have HH := Lib.hid hf; clear d1 hf hh
    go_wp2_with fail
    go_ret
    exact ⟨ret_bool (by rw [HH.out]; rfl), BB.out⟩

set_option maxHeartbeats 1000000 in
theorem markS_any (v : Value) (r u : List Int) (lo hi : Nat) (k : Int) (w : World) (hx : Svl w lo hi v r u) (hn : r.length ≤ 1048576) (hm : u.length ≤ 1048576) (k1 : 1 ≤ k) (k2 : k ≤ 1073741824) :
    Calls sqp.prog 33 #[v, .int .i64 k] w fun e w' => e = .returned (.int .i64 (k + r.length + u.length)) ∧ Svl w' lo hi v (Marks k r.length) (Marks (k + r.length) u.length) ∧ Out lo hi w w' := by
  obtain ⟨P, n, c, Q, m, d, l1, h1, l2, h2, rfl, a, b, e1, e2, f1, f2, f3, f4, f5, f6⟩ := hx
  have q1 : r.length = n := by simpa [V] using a.1
  have q2 : u.length = m := by simpa [V] using b.1
  rw [q1, q2]
  have RP := Lib.hid a; have RQ := Lib.hid b; clear a b
  have s1 := RP.out.2.1; have s2 := RQ.out.2.1
  have B0 : Hid (∀ o, Below w.heap.size w (w.alloc o)) := Lib.hid (fun o => (Below.refl _ _).alloc (Nat.le_refl _) _)
  go_enter sqp.func33, sqp.ntmps33
  go_wp2_with fail
  refine (mark_any P n c _ l1 h1 k _ (RP.out.keep (B0.out _) s1) (by omega) (by omega) (by omega)).mono ?_
  rintro e w1 ⟨rfl, rM, oM⟩
  have hs1 := oM.size
  have c1 := (((Arr.new w [.slice P n c, .slice Q m d] 25 rfl).out oM (.inr (by omega)))).cell (k := 1) rfl
  have RP' := Lib.hid rM; have OM := Lib.hid oM; clear rM oM
  go_wp2_with fail
  refine (mark_any Q m d _ l2 h2 (k + n) _ ((RQ.out.keep (B0.out _) s2).out OM.out (by omega)) (by omega) (by omega) (by omega)).mono ?_
  rintro e w2 ⟨rfl, rM, oM⟩
  have hs2 := oM.size
  have O0 : Hid (Out lo hi w w2) := Lib.hid ((((Out.of_below (B0.out _)).trans (OM.out.wider f1 f2))).trans (oM.wider f3 f4))
  have S0 : Hid (Svl w2 lo hi (.agg #[.slice P n c, .slice Q m d]) (Marks k n) (Marks (k + n) m)) := Lib.hid ⟨P, n, c, Q, m, d, l1, h1, l2, h2, rfl, RP'.out.out oM (by omega), rM, e1, e2, f1, f2, f3, f4, f5, Nat.le_trans f6 O0.out.size⟩
  clear rM oM OM RP' RP RQ
  go_wp2_with fail
  go_ret
  exact ⟨rfl, S0.out, O0.out⟩

theorem open_cell {H : Type} {enc : TypeId × Value → H} {P : Program} {W : World} {t e : TypeId} {v : Value} {y : DataW H × List MemPlace} {fuel : Nat}
    (ht : P.underlying t = some (.slice e)) (he : P.underlying e = some (.int .i64)) (hc : P.cellsOf e = 1) (h : DataW.trod enc P W 0 (fun _ => true) true fuel t [v] = some y) :
    ∃ A n c, ∃ xs : List Int, v = .slice A n c ∧ Rd W W.heap.size A n (V xs) ∧ n ≤ c ∧ c ≤ maxLen := by
  rcases open_ints ht he hc h with ⟨hcs, _⟩ | ⟨x, l, cap, ss, hcs, _, hl, hm, hz, _, hcell, hwz⟩
  · simp at hcs
    subst hcs
    exact ⟨none, 0, 0, [], rfl, ⟨rfl, Nat.le_refl _, fun h => absurd h (by omega)⟩, Nat.le_refl _, by simp⟩
  · simp at hcs
    subst hcs
    have hz' : ss.length = cap := by simpa using hz
    refine ⟨some x, l, cap, ss.take l, rfl, Rd.of_cells (by simp [V]; omega) (fun i hi => ?_), hl, hm⟩
    rw [hcell i (by omega)]
    simp [V, hi, List.getD, List.getElem?_eq_getElem (show i < ss.length by omega)]
/-- A struct of two slices of ints that came in. -/
theorem open_S {H : Type} {enc : TypeId × Value → H} {P : Program} {W : World} {r : Reach} {b0 : Nat} {t : TypeId} {f0 f1 : Field} {v : Value} {d : DataW H} {p : List MemPlace} {e : TypeId} (hs : P.underlying t = some (.struct #[f0, f1])) (hone : oneCellFields P #[f0, f1] = true) (hC : P.cellsOf t = 2)
    (ht0 : P.underlying f0.type = some (.slice e)) (ht1 : P.underlying f1.type = some (.slice e)) (he : P.underlying e = some (.int .i64)) (hc : P.cellsOf e = 1)
    (hv : Value.okWide P W r b0 t v) (h : DataW.Trod enc P W 0 (fun _ => true) true t v d p) :
    ∃ r u : List Int, Srd W W.heap.size v r u ∧ r.length ≤ maxLen ∧ u.length ≤ maxLen := by
  obtain ⟨v0, v1, y0, y1, n, rfl, _, _, h0, h1⟩ := open_agg2 hs hone hC hv h
  obtain ⟨A, l, c, xs, rfl, rd, hl, hm⟩ := open_cell ht0 he hc h0
  obtain ⟨B, l', c', ys, rfl, rd', hl', hm'⟩ := open_cell ht1 he hc h1
  have q1 : xs.length = l := by simpa [V] using rd.1
  have q2 : ys.length = l' := by simpa [V] using rd'.1
  exact ⟨xs, ys, ⟨A, l, c, B, l', c', rfl, rd, rd', hl, hl'⟩, by omega, by omega⟩
end Go.Proofs.Ytddppmbllcnkoaa.sf
