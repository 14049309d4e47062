import Derived.Test.YtafpbnjfmieamaaY01
import Derived.RegionTactic
import Derived.BigRegion
import Derived.Deep.RegionHeld3
import Derived.Laws.CopyOwn
/-
  What a region that draws its order holds on to: boxes that no step of it touches.
-/
namespace Go.Proofs.Ytafpbnjfmieamaa.sf
open Go.ChangeShapes Go.WideShapes Go.ChangeAt Go.RowKit
open Go.Proofs.Ytafpbnjfmieamaa.mem Go.Proofs.Ytafpbnjfmieamaa.ints Go.Proofs.Ytafpbnjfmieamaa.arr
set_option linter.unusedVariables false
set_option maxRecDepth 100000

/-- The blocks bs hold what they held, all below base is as in w, and 'top' blocks are there. -/
structure Hld (base top : Nat) (w : World) (bs : List (Nat × List Value)) (w' : World) : Prop where
  at_ : ∀ p ∈ bs, p.1 < top ∧ w'.rangeAt p.1 0 p.2
  below : Below base w w'
  size : top ≤ w'.heap.size
theorem Hld.start1 {w : World} {a : Nat} {xs : List Value} {t : TypeId} (h1 : Arr w a xs t) : Hld w.heap.size w.heap.size w [(a, xs)] w.drew :=
  ⟨fun p hp => by
    simp only [List.mem_cons, List.not_mem_nil, or_false] at hp
    subst hp
    exact ⟨h1.lt, fun j v hv => by rw [Nat.zero_add]; exact h1.cell hv⟩,
    ⟨rfl, rfl, rfl, Nat.le_refl _, fun _ _ => rfl⟩, Nat.le_refl _⟩
theorem Hld.start2 {w : World} {a b : Nat} {xs ys : List Value} {t t' : TypeId} (h1 : Arr w a xs t) (h2 : Arr w b ys t') : Hld w.heap.size w.heap.size w [(a, xs), (b, ys)] w.drew :=
  ⟨fun p hp => by
    simp only [List.mem_cons, List.not_mem_nil, or_false] at hp
    rcases hp with rfl | rfl
    · exact ⟨h1.lt, fun j v hv => by rw [Nat.zero_add]; exact h1.cell hv⟩
    · exact ⟨h2.lt, fun j v hv => by rw [Nat.zero_add]; exact h2.cell hv⟩,
    ⟨rfl, rfl, rfl, Nat.le_refl _, fun _ _ => rfl⟩, Nat.le_refl _⟩
theorem Hld.fst {base top a : Nat} {w W : World} {xs : List Value} {l : List (Nat × List Value)} (h : Hld base top w ((a, xs) :: l) W) : W.rangeAt a 0 xs := (h.at_ _ (List.mem_cons_self ..)).2
theorem Hld.snd {base top a : Nat} {w W : World} {xs : List Value} {p : Nat × List Value} {l : List (Nat × List Value)} (h : Hld base top w (p :: (a, xs) :: l) W) : W.rangeAt a 0 xs := (h.at_ (a, xs) (by simp)).2
theorem Hld.later {base top : Nat} {w W W' : World} {bs : List (Nat × List Value)} (h : Hld base top w bs W) (hB : Below W.heap.size W W') (hb : base ≤ top) : Hld base top w bs W' :=
  ⟨fun p hp => ⟨(h.at_ p hp).1, fun j v hv => by rw [hB.cell (p := ⟨p.1, 0 + j, none⟩) (show p.1 < _ from Nat.lt_of_lt_of_le (h.at_ p hp).1 h.size)]; exact (h.at_ p hp).2 j v hv⟩,
    h.below.trans (hB.mono (Nat.le_trans hb h.size)), Nat.le_trans h.size hB.size⟩
theorem sizeS (a b : Value) : (Try.prog.info? 33).map (·.size) = some [a, b].length := by kernel_rfl
theorem size2 : (Try.prog.info? 33).map (·.size) = some 2 := by kernel_rfl
end Go.Proofs.Ytafpbnjfmieamaa.sf

/-
  Permutations as lists of integers: plain mathematics.
-/
namespace Go.Proofs.Ytafpbnjfmieamaa.pm
open Go.Proofs.Ytafpbnjfmieamaa.arr
set_option linter.unusedVariables false
set_option maxRecDepth 100000

/-- The first k elements are different numbers from 0 up to the length. -/
def OkTo (xs : List Int) (k : Nat) : Prop := ∀ i, i < k → 0 ≤ xs.getD i 0 ∧ xs.getD i 0 < xs.length ∧ ∀ j, j < i → xs.getD j 0 ≠ xs.getD i 0
instance (xs : List Int) (k : Nat) : Decidable (OkTo xs k) := by unfold OkTo; exact inferInstance
def okB (xs : List Int) : Bool := decide (xs.length ≤ 24 ∧ OkTo xs xs.length)
structure Ok (xs : List Int) : Prop where
  len : xs.length ≤ 24
  lo : ∀ i, i < xs.length → 0 ≤ xs.getD i 0
  hi : ∀ i, i < xs.length → xs.getD i 0 < xs.length
  inj : ∀ i j, i < xs.length → j < xs.length → xs.getD i 0 = xs.getD j 0 → i = j
theorem Ok.of (xs : List Int) (h : okB xs = true) : Ok xs := by
  unfold okB at h
  rw [decide_eq_true_iff] at h
  refine ⟨h.1, fun i hi => (h.2 i hi).1, fun i hi => (h.2 i hi).2.1, fun i j hi hj e => ?_⟩
  rcases Nat.lt_trichotomy i j with hl | hl | hl
  · exact absurd e ((h.2 j hj).2.2 i hl)
  · exact hl
  · exact absurd e.symm ((h.2 i hi).2.2 j hl)
theorem Ok.b {xs : List Int} (h : Ok xs) : okB xs = true := by
  unfold okB
  rw [decide_eq_true_iff]
  exact ⟨h.len, fun i hi => ⟨h.lo i hi, h.hi i hi, fun j hj e => by have := h.inj j i (by omega) hi e; omega⟩⟩
theorem okB_long {xs : List Int} (h : 24 < xs.length) : okB xs = false := by
  unfold okB; rw [decide_eq_false_iff_not]; intro e; omega
theorem okB_bad {xs : List Int} {k : Nat} (hk : k < xs.length) (h : xs.getD k 0 < 0 ∨ xs.length ≤ xs.getD k 0) : okB xs = false := by
  unfold okB; rw [decide_eq_false_iff_not]; intro e
  have := e.2 k hk
  omega
theorem okB_dup {xs : List Int} {k : Nat} (hk : k < xs.length) (h : xs.getD k 0 ∈ xs.take k) : okB xs = false := by
  unfold okB; rw [decide_eq_false_iff_not]; intro e
  obtain ⟨j, hj, he⟩ := List.getElem_of_mem h
  simp at hj
  refine (e.2 k hk).2.2 j (by omega) ?_
  rw [← he]
  simp [List.getD, List.getElem?_eq_getElem (show j < xs.length by omega)]
theorem okB_yes {xs : List Int} (h : xs.length ≤ 24) (h2 : OkTo xs xs.length) : okB xs = true := by
  unfold okB; rw [decide_eq_true_iff]; exact ⟨h, h2⟩
theorem OkTo.step {xs : List Int} {k : Nat} (h : OkTo xs k) (hk : k < xs.length) (h1 : 0 ≤ xs.getD k 0) (h2 : xs.getD k 0 < xs.length) (h3 : ¬ xs.getD k 0 ∈ xs.take k) : OkTo xs (k + 1) := by
  intro i hi
  by_cases e : i = k
  · subst e
    refine ⟨h1, h2, fun j hj he => h3 ?_⟩
    rw [← he]
    have hl : j < xs.length := by omega
    have : xs.getD j 0 = (xs.take i)[j]'(by simp; omega) := by simp [List.getD, List.getElem?_eq_getElem hl]
    rw [this]
    exact List.getElem_mem _
  · exact h i (by omega)

def tabB (f : Nat → Bool) : List Bool := (List.range 24).map f
theorem tabB_len (f : Nat → Bool) : (tabB f).length = 24 := by simp [tabB]
theorem tabB_at (f : Nat → Bool) {k : Nat} (h : k < 24) : (tabB f)[k]? = some (f k) := by simp [tabB, h]
theorem tabB_set (f f' : Nat → Bool) {k : Nat} (h : ∀ j, j < 24 → f' j = if j = k then true else f j) : (tabB f).set k true = tabB f' := by
  refine List.ext_getElem? fun i => ?_
  by_cases hi : i < 24
  · rw [tabB_at _ hi, List.getElem?_set, h i hi]
    by_cases e : k = i
    · subst e; simp [tabB_len, hi]
    · rw [if_neg e, tabB_at _ hi, if_neg (by omega)]
  · rw [List.getElem?_eq_none (by simp [tabB_len]; omega), List.getElem?_eq_none (by simp [tabB_len]; omega)]
/-- Which numbers are among the first k. -/
def flags (xs : List Int) (k : Nat) : List Bool := tabB fun j => decide ((j : Int) ∈ xs.take k)
theorem flags_step {xs : List Int} {k z : Nat} (hk : k < xs.length) (hz : xs.getD k 0 = (z : Int)) : (flags xs k).set z true = flags xs (k + 1) := by
  refine tabB_set _ _ fun j hj => ?_
  have e : xs.take (k + 1) = xs.take k ++ [(z : Int)] := by
    rw [List.take_succ_eq_append_getElem hk, ← hz]; simp [List.getD, List.getElem?_eq_getElem hk]
  rw [e]
  by_cases hjz : j = z
  · subst hjz; simp
  · have : ¬ ((j : Int) = (z : Int)) := by omega
    simp [hjz, this]
def extTo (xs : List Int) (k : Nat) : List Int := tab fun i => if i < k then xs.getD i 0 else (i : Int)
theorem extTo_zero (xs : List Int) : extTo xs 0 = idl := by simp [extTo, idl]
theorem extTo_step (xs : List Int) (k : Nat) : (extTo xs k).set k (xs.getD k 0) = extTo xs (k + 1) := by
  have h := tab_set (fun i => if i < k then xs.getD i 0 else (i : Int)) (fun i => if i < k + 1 then xs.getD i 0 else (i : Int)) (k := k) (fun j hj => by
    by_cases e : j = k
    · subst e; simp
    · simp only [if_neg e]; split <;> split <;> first | rfl | omega)
  simpa [extTo] using h
/-- p among 24 elements: the others stay. -/
def ext (xs : List Int) : List Int := extTo xs xs.length
def pv (xs : List Int) : List Int := if okB xs then ext xs else zeros
theorem zeros_len : zeros.length = 24 := by simp [zeros]
theorem ext_len (xs : List Int) : (ext xs).length = 24 := tab_len _
theorem pv_len (xs : List Int) : (pv xs).length = 24 := by unfold pv; split; exact ext_len _; exact zeros_len
theorem ext_at {xs : List Int} {i : Nat} (h : i < 24) : (ext xs).getD i 0 = if i < xs.length then xs.getD i 0 else (i : Int) := by
  unfold ext extTo; rw [tab_get _ h]
end Go.Proofs.Ytafpbnjfmieamaa.pm

/-
  Contracts of spec.l01In, spec.l02Has, spec.PermOk.
-/
namespace Go.Proofs.Ytafpbnjfmieamaa.permOk
open Go.ChangeShapes Go.WideShapes Go.ChangeAt Go.RowKit
open Go.Proofs.Ytafpbnjfmieamaa.mem Go.Proofs.Ytafpbnjfmieamaa.ints Go.Proofs.Ytafpbnjfmieamaa.arr Go.Proofs.Ytafpbnjfmieamaa.pm
set_option linter.unusedVariables false
set_option maxRecDepth 100000

theorem in_yes (x a b : Int) (w : World) (h1 : a ≤ x) (h2 : x ≤ b) :
    Calls Try.prog 37 #[.int .i64 x, .int .i64 a, .int .i64 b] w fun e w' => e = .returned (.bool true) ∧ w = w' := by
  go_enter Try.func37, Try.ntmps37
  go_wp2
  go_ret
  exact ⟨rfl, rfl⟩
theorem in_no (x a b : Int) (w : World) (h : x < a ∨ b < x) :
    Calls Try.prog 37 #[.int .i64 x, .int .i64 a, .int .i64 b] w fun e w' => e = .returned (.bool false) ∧ w = w' := by
  by_cases h1 : x < a
  · clear h
    have hd : decide (a ≤ x) = false := by simp; omega
    go_enter Try.func37, Try.ntmps37
    go_wp2
    go_ret
    exact ⟨rfl, rfl⟩
  · have h2 : b < x := by omega
    have hd : decide (x ≤ b) = false := by simp; omega
    clear h
    go_enter Try.func37, Try.ntmps37
    go_wp2
    go_ret
    exact ⟨rfl, rfl⟩

def hasB (xs : List Int) (z : Int) : Bool := decide (z ∈ xs)
theorem take_no {xs : List Int} {k : Nat} {z s : Int} (h : ¬ z ∈ xs.take k) (hk : xs[k]? = some s) (hs : ¬ s = z) : ¬ z ∈ xs.take (k + 1) := by
  rw [List.take_add_one, hk]
  simp
  exact ⟨h, fun e => hs e.symm⟩

set_option maxHeartbeats 400000 in
theorem has_any (A : Option Addr) (n c : Nat) (xs : List Int) (hi : Nat) (z : Int) (w : World) (hx : Rd w hi A n (V xs)) (hn : n ≤ 1048576) :
    Calls Try.prog 66 #[.slice A n c, .int .i64 z] w fun e w' => e = .returned (.bool (hasB xs z)) ∧ w = w' := by
  have lx : xs.length = n := by simpa [V] using hx.1
  have LX := Lib.hid lx; clear lx
  have HX := Lib.hid hx; clear hx
  go_enter Try.func66, Try.ntmps66
  go_wp2
  go_loop [9] (fun i => ∃ k : Nat, k ≤ n ∧ i = .int .i64 k ∧ Hid (¬ z ∈ xs.take k)) (fun i => n - (intOf i).toNat)
  case atStart => exact ⟨0, Nat.zero_le _, rfl, Lib.hid (by simp)⟩
  case round =>
    obtain ⟨k, hk, rfl, HN⟩ := hrel
    by_cases hlt : k < n
    · obtain ⟨g, off, u, rfl, _, hxu, hcx⟩ := HX.out.at_ hlt
      obtain ⟨s, hxs, rfl⟩ := V_at hxu
      have HS := Lib.hid hxs; clear hxs hxu
      by_cases hst : s = z
      · subst hst
        go_wp2
        go_ret
        refine ⟨ret_bool ?_, rfl⟩
        unfold hasB; rw [eq_comm, decide_eq_true_iff]; exact List.mem_of_getElem? HS.out
      · have hb : (s == z) = false := by simpa using hst
        have HST := Lib.hid hst; clear hst
        go_wp2
        go_round
        case rel => exact ⟨k + 1, by omega, by go_num, Lib.hid (take_no HN.out HS.out HST.out)⟩
        case measure => simp [intOf]; omega
    · obtain rfl : k = n := by omega
      go_wp2
      go_ret
      refine ⟨ret_bool ?_, rfl⟩
      unfold hasB; rw [eq_comm, decide_eq_false_iff_not]
      have := HN.out
      rw [List.take_of_length_le (by rw [LX.out]; exact Nat.le_refl _)] at this
      exact this

theorem Rd.take {w : World} {hi n k : Nat} {A : Option Addr} {xs : List Int} (h : Rd w hi A n (V xs)) (hk : k ≤ n) : Rd w hi A k (V (xs.take k)) := by
  have hl : xs.length = n := by simpa [V] using h.1
  refine ⟨by simp [V]; omega, h.2.1, fun h0 => ?_⟩
  obtain ⟨g, off, e, hlt, hc⟩ := h.2.2 (by omega)
  refine ⟨g, off, e, hlt, fun j hj => ?_⟩
  rw [hc j (by omega)]
  simp [V, hj]
theorem getD_of {xs : List Int} {k : Nat} {s : Int} (h : xs[k]? = some s) : xs.getD k 0 = s := by simp [List.getD, h]

set_option maxHeartbeats 800000 in
theorem spec_any (A : Option Addr) (n c : Nat) (xs : List Int) (hi : Nat) (w : World) (hx : Rd w hi A n (V xs)) (hn : n ≤ 1048576) (hc : n ≤ c) :
    Calls Try.prog 89 #[.slice A n c] w fun e w' => e = .returned (.bool (okB xs)) ∧ w = w' := by
  have lx : xs.length = n := by simpa [V] using hx.1
  have LX := Lib.hid lx; clear lx
  have HX := Lib.hid hx; clear hx
  by_cases h24 : 24 < n
  · have e := Lib.hid (okB_long (xs := xs) (by rw [LX.out]; exact h24))
    go_enter Try.func89, Try.ntmps89
    go_wp2
    go_ret
    exact ⟨ret_bool e.out.symm, rfl⟩
  go_enter Try.func89, Try.ntmps89
  go_wp2
  go_loop [10] (fun i => ∃ k : Nat, k ≤ n ∧ i = .int .i64 k ∧ Hid (OkTo xs k)) (fun i => n - (intOf i).toNat)
  case atStart => exact ⟨0, Nat.zero_le _, rfl, Lib.hid (fun i hi => by omega)⟩
  case round =>
    obtain ⟨k, hk, rfl, HO⟩ := hrel
    by_cases hlt : k < n
    · obtain ⟨g, off, u, rfl, _, hxu, hcx⟩ := HX.out.at_ hlt
      obtain ⟨s, hxs, rfl⟩ := V_at hxu
      have HG := Lib.hid (getD_of hxs)
      clear hxs hxu
      by_cases hin : 0 ≤ s ∧ s ≤ (n : Int) - 1
      · obtain ⟨i1, i2⟩ := hin
        by_cases hh : hasB (xs.take k) s = true
        · have HF : Hid (okB xs = false) := Lib.hid (okB_dup (by rw [LX.out]; exact hlt) (by rw [HG.out]; simpa [hasB] using hh))
          have HH := Lib.hid hh; clear hh
          go_wp2_with (go_at_call 37; refine (in_yes _ _ _ _ i1 i2).mono ?_; rintro e w' ⟨rfl, rfl⟩)
          refine (has_any _ k _ (xs.take k) _ s _ (Rd.take HX.out (by omega)) (by omega)).mono ?_
          rintro e w' ⟨rfl, rfl⟩
          rw [HH.out]
          go_wp2
          go_ret
          exact ⟨ret_bool HF.out.symm, rfl⟩
        · have hh' : hasB (xs.take k) s = false := by simpa using hh
          have HH := Lib.hid hh'; clear hh hh'
          go_wp2_with (go_at_call 37; refine (in_yes _ _ _ _ i1 i2).mono ?_; rintro e w' ⟨rfl, rfl⟩)
          refine (has_any _ k _ (xs.take k) _ s _ (Rd.take HX.out (by omega)) (by omega)).mono ?_
          rintro e w' ⟨rfl, rfl⟩
          rw [HH.out]
          go_wp2
          go_round
          case rel => exact ⟨k + 1, by omega, by go_num, Lib.hid (HO.out.step (by rw [LX.out]; exact hlt) (by rw [HG.out]; exact i1) (by rw [HG.out, LX.out]; omega) (by rw [HG.out]; simpa [hasB] using HH.out))⟩
          case measure => simp [intOf]; omega
      · have hno : s < 0 ∨ (n : Int) - 1 < s := by omega
        have HF : Hid (okB xs = false) := Lib.hid (okB_bad (k := k) (by rw [LX.out]; exact hlt) (by rw [HG.out, LX.out]; omega))
        clear hin
        go_wp2_with (go_at_call 37; refine (in_no _ _ _ _ hno).mono ?_; rintro e w' ⟨rfl, rfl⟩)
        go_ret
        exact ⟨ret_bool HF.out.symm, rfl⟩
    · obtain rfl : k = n := by omega
      go_wp2
      go_ret
      exact ⟨ret_bool (okB_yes (by rw [LX.out]; omega) (by rw [LX.out]; exact HO.out)).symm, rfl⟩
end Go.Proofs.Ytafpbnjfmieamaa.permOk

/-
  Contracts of impl.permOf, impl.permsOf.
-/
namespace Go.Proofs.Ytafpbnjfmieamaa.permOf
open Go.ChangeShapes Go.WideShapes Go.ChangeAt Go.RowKit
open Go.Proofs.Ytafpbnjfmieamaa.mem Go.Proofs.Ytafpbnjfmieamaa.ints Go.Proofs.Ytafpbnjfmieamaa.arr Go.Proofs.Ytafpbnjfmieamaa.pm Go.Proofs.Ytafpbnjfmieamaa.permOk
set_option linter.unusedVariables false
set_option maxRecDepth 100000

theorem results_cell_tmp {P : Program} {fn : Func} {p q : Tmp} {ty : TypeId} (h : fn.results = #[.cell p ty, .tmp q]) (tmps : Array Value) (w : World) (g : Nat) (t : TypeId) (cs : Array Value) (fr : Nat × Nat) (d : TypeDesc) (v : Value)
    (hp : tmps.getD p undef = .pointer (some ⟨g, 0, none⟩)) (hq : tmps.getD q undef = v) (hg : w.heap[g]? = some (.cells cs t fr))
    (hu : P.underlying ty = some d) (hd : (match d with | .struct _ | .array _ _ => true | _ => false) = true) (hi : (P.info? ty).map (·.size) = some cs.size) :
    (results fn tmps).run P w = .ok (.tuple #[.agg cs, v]) w := by
  have hp' : tmps[p]?.getD undef = .pointer (some ⟨g, 0, none⟩) := by simpa using hp
  have hq' : tmps[q]?.getD undef = v := by simpa using hq
  simp [results, h, hp', hq', asAddr, run_loadVar_row w g t ty cs fr d hg hu hd hi]
theorem results_cell2_tmp {P : Program} {fn : Func} {p p2 q : Tmp} {ty : TypeId} (h : fn.results = #[.cell p ty, .cell p2 ty, .tmp q]) (tmps : Array Value) (w : World) (g g2 : Nat) (t : TypeId) (cs cs2 : Array Value) (fr : Nat × Nat) (d : TypeDesc) (v : Value)
    (hp : tmps.getD p undef = .pointer (some ⟨g, 0, none⟩)) (hp2 : tmps.getD p2 undef = .pointer (some ⟨g2, 0, none⟩)) (hq : tmps.getD q undef = v) (hg : w.heap[g]? = some (.cells cs t fr)) (hg2 : w.heap[g2]? = some (.cells cs2 t fr))
    (hu : P.underlying ty = some d) (hd : (match d with | .struct _ | .array _ _ => true | _ => false) = true) (hi : (P.info? ty).map (·.size) = some cs.size) (hi2 : (P.info? ty).map (·.size) = some cs2.size) :
    (results fn tmps).run P w = .ok (.tuple #[.agg cs, .agg cs2, v]) w := by
  have hp' : tmps[p]?.getD undef = .pointer (some ⟨g, 0, none⟩) := by simpa using hp
  have hp2' : tmps[p2]?.getD undef = .pointer (some ⟨g2, 0, none⟩) := by simpa using hp2
  have hq' : tmps[q]?.getD undef = v := by simpa using hq
  simp [results, h, hp', hp2', hq', asAddr, run_loadVar_row w g t ty cs fr d hg hu hd hi, run_loadVar_row w g2 t ty cs2 fr d hg2 hu hd hi2]

def VB (l : List Bool) : List Value := l.map Value.bool
theorem VB_set (l : List Bool) (k : Nat) (b : Bool) : (VB l).set k (.bool b) = VB (l.set k b) := by simp [VB, List.map_set]
theorem flags_cell {w : World} {g : Nat} {f : Nat → Bool} {t : TypeId} (h : Arr w g (VB (tabB f)) t) {k : Nat} (hk : k < 24) {b : Bool} (hb : f k = b) : w.cell? ⟨g, k, none⟩ = some (.bool b) :=
  h.cell (by simp [VB, tabB_at f hk, hb])

def PRel (xs : List Int) (R G : Nat) (w wr : World) (k : Nat) : Prop :=
  Arr wr R (V zeros) 60 ∧ Arr wr G (V (extTo xs k)) 60 ∧ Arr wr (G + 1) (VB (flags xs k)) 106 ∧ Below w.heap.size w wr ∧ OkTo xs k
def PermPost (xs : List Int) (w : World) (e : Ending) (w' : World) : Prop := e = .returned (.tuple #[.agg (V (pv xs)).toArray, .bool (okB xs)]) ∧ Below w.heap.size w w'
theorem post_no {xs : List Int} {w w' : World} (h : okB xs = false) (hb : Below w.heap.size w w') : PermPost xs w (.returned (.tuple #[.agg (V zeros).toArray, .bool false])) w' := by
  refine ⟨?_, hb⟩
  unfold pv
  simp [h]
theorem post_yes {xs : List Int} {w w' : World} (h : okB xs = true) (hb : Below w.heap.size w w') : PermPost xs w (.returned (.tuple #[.agg (V (ext xs)).toArray, .bool true])) w' := by
  refine ⟨?_, hb⟩
  unfold pv
  simp [h]
theorem flags_zero (xs : List Int) : flags xs 0 = List.replicate 24 false := by
  simp only [flags, List.take_zero, List.not_mem_nil, decide_false]; decide

set_option maxHeartbeats 1000000 in
theorem permOf_any (A : Option Addr) (n c : Nat) (xs : List Int) (hi : Nat) (w : World) (hx : Rd w hi A n (V xs)) (hn : n ≤ 1048576) :
    Calls Try.prog 86 #[.slice A n c] w (PermPost xs w) := by
  have lx : xs.length = n := by simpa [V] using hx.1
  have LX := Lib.hid lx; clear lx
  have HX := Lib.hid hx; clear hx
  by_cases h24 : 24 < n
  · have E := Lib.hid (okB_long (xs := xs) (by rw [LX.out]; exact h24))
    have N := Lib.hid (Arr.new w (V zeros) 60 rfl)
    go_enter Try.func86, Try.ntmps86
    go_wp2_with (refine wpList_store_row rfl 60 _ _ rfl w.heap.size (V zeros).toArray rfl rfl 60 (V zeros).toArray N.out (size_V zeros_len) rfl (one_V _) ?_)
    exact bodyPost_ret (v := .tuple #[.agg (V zeros).toArray, .bool false]) (results_cell_tmp rfl _ _ w.heap.size 60 (V zeros).toArray (0, 0) _ _ rfl rfl N.out.row Try.underlying60 rfl (size_V zeros_len)) rfl (post_no E.out (below_setRow ((Below.refl _ _).alloc (Nat.le_refl _) _) (Nat.le_refl _) _))
  have N := Lib.hid (Arr.new w (V zeros) 60 rfl)
  go_enter Try.func86, Try.ntmps86
  go_wp2_with fail
  refine (staying_any _).mono ?_
  rintro e w1 ⟨rfl, b1⟩
  have hs1 : w.heap.size + 1 ≤ w1.heap.size := by have := b1.size; simpa using this
  have A1 := Lib.hid (N.out.keep b1 (by simp))
  have B1 : Hid (Below w.heap.size w w1) := Lib.hid (((Below.refl _ _).alloc (Nat.le_refl _) _).trans (b1.mono (by simp)))
  clear b1
  go_wp2_with (refine wpList_store_row rfl 60 _ _ rfl w1.heap.size (V idl).toArray rfl rfl 60 (V zeros).toArray (Arr.new w1 (V zeros) _ rfl) (size_V (tab_len _)) rfl (one_V _) ?_)
  go_loopw [15] (fun i wr => ∃ k : Nat, k ≤ n ∧ i = .int .i64 k ∧ PRel xs w.heap.size w1.heap.size w wr k) (fun i _ => n - (intOf i).toNat)
  case atStart =>
    refine ⟨0, Nat.zero_le _, rfl, ((A1.out.alloc _).rowOther (by omega)).alloc _, ?_, ?_, (below_setRow (B1.out.alloc B1.out.size _) (by omega) _).alloc (by simp; omega) _, fun i hi => by omega⟩
    · rw [extTo_zero]
      exact (Arr.new w1 (V zeros) _ rfl).row.alloc _
    · rw [flags_zero]
      exact Arr.new _ (VB (List.replicate 24 false)) _ (by simp)
  case round =>
    obtain ⟨k, hk, rfl, hp⟩ := hrel
    have HP := Lib.hid hp; clear hp
    by_cases hlt : k < n
    · obtain ⟨g, off, u, rfl, hgl, hxu, hcx⟩ := HX.out.at_ hlt
      obtain ⟨s, hxs, rfl⟩ := V_at hxu
      have HG := Lib.hid (getD_of hxs)
      clear hxs hxu
      have hgw : g < w.heap.size := Nat.lt_of_lt_of_le hgl HX.out.2.1
      rw [← HP.out.2.2.2.1.cell (p := ⟨g, off + k, none⟩) hgw] at hcx
      clear hgl hgw
      have arm := HP.out.1
      have ARM := Lib.hid arm; clear arm
      by_cases hbad : s < 0 ∨ (n : Int) ≤ s
      · have HF : Hid (okB xs = false) := Lib.hid (okB_bad (k := k) (by rw [LX.out]; exact hlt) (by rw [HG.out, LX.out]; omega))
        by_cases hneg : s < 0
        · clear hbad
          go_wp2_with (refine wpList_store_row rfl 60 _ _ rfl w.heap.size (V zeros).toArray rfl rfl 60 (V zeros).toArray ARM.out (size_V zeros_len) rfl (one_V _) ?_)
          exact bodyPost_ret (v := .tuple #[.agg (V zeros).toArray, .bool false]) (results_cell_tmp rfl _ _ w.heap.size 60 (V zeros).toArray (0, 0) _ _ rfl rfl ARM.out.row Try.underlying60 rfl (size_V zeros_len)) rfl (post_no HF.out (below_setRow HP.out.2.2.2.1 (Nat.le_refl _) _))
        · have hge : (n : Int) ≤ s := by omega
          have hd : decide (s < 0) = false := by simp; omega
          clear hbad
          go_wp2_with (refine wpList_store_row rfl 60 _ _ rfl w.heap.size (V zeros).toArray rfl rfl 60 (V zeros).toArray ARM.out (size_V zeros_len) rfl (one_V _) ?_)
          exact bodyPost_ret (v := .tuple #[.agg (V zeros).toArray, .bool false]) (results_cell_tmp rfl _ _ w.heap.size 60 (V zeros).toArray (0, 0) _ _ rfl rfl ARM.out.row Try.underlying60 rfl (size_V zeros_len)) rfl (post_no HF.out (below_setRow HP.out.2.2.2.1 (Nat.le_refl _) _))
      · have i1 : 0 ≤ s := by omega
        have i2 : s < n := by omega
        clear hbad
        obtain ⟨z, rfl⟩ := Int.eq_ofNat_of_zero_le i1
        have hz : z < n := by omega
        have hz24 : z < 24 := by omega
        clear i1 i2
        by_cases hin : (z : Int) ∈ xs.take k
        · have HF : Hid (okB xs = false) := Lib.hid (okB_dup (k := k) (by rw [LX.out]; exact hlt) (by rw [HG.out]; exact hin))
          have hfl : wr.cell? ⟨w1.heap.size + 1, z, none⟩ = some (.bool true) := flags_cell HP.out.2.2.1 hz24 (by simpa using hin)
          clear hin
          go_wp2_with (refine wpList_store_row rfl 60 _ _ rfl w.heap.size (V zeros).toArray rfl rfl 60 (V zeros).toArray ARM.out (size_V zeros_len) rfl (one_V _) ?_)
          exact bodyPost_ret (v := .tuple #[.agg (V zeros).toArray, .bool false]) (results_cell_tmp rfl _ _ w.heap.size 60 (V zeros).toArray (0, 0) _ _ rfl rfl ARM.out.row Try.underlying60 rfl (size_V zeros_len)) rfl (post_no HF.out (below_setRow HP.out.2.2.2.1 (Nat.le_refl _) _))
        · have hfl : wr.cell? ⟨w1.heap.size + 1, z, none⟩ = some (.bool false) := flags_cell HP.out.2.2.1 hz24 (by simpa using hin)
          have hff := HP.out.2.2.1.frozen z
          have hc2 : wr.cell? ⟨w1.heap.size, k, none⟩ = some (.int .i64 ((extTo xs k).getD k 0)) := HP.out.2.1.cell (V_getD (by rw [extTo, tab_len]; omega))
          have hf2 := HP.out.2.1.frozen k
          have HIN := Lib.hid hin; clear hin
          go_wp2
          go_roundw
          case rel =>
            refine ⟨k + 1, by omega, by go_num, (HP.out.1.other (by omega) _).other (by omega) _, ?_, ?_, (HP.out.2.2.2.1.setCell (by simp; omega) _).setCell (by simp; omega) _, HP.out.2.2.2.2.step (by rw [LX.out]; exact hlt) (by rw [HG.out]; omega) (by rw [HG.out, LX.out]; omega) (by rw [HG.out]; exact HIN.out)⟩
            · have h := (HP.out.2.1.other (k := z) (g' := w1.heap.size + 1) (by omega) (.bool true)).set_ k (.int .i64 (z : Int))
              rw [V_set, ← HG.out, extTo_step] at h
              rw [← HG.out]
              exact h
            · have h := HP.out.2.2.1.set_ z (.bool true)
              rw [VB_set, flags_step (by rw [LX.out]; exact hlt) HG.out] at h
              exact h.other (by omega) _
          case measure => simp [intOf]; omega
    · obtain rfl : k = n := by omega
      have HY : Hid (okB xs = true) := Lib.hid (okB_yes (by rw [LX.out]; omega) (by rw [LX.out]; exact HP.out.2.2.2.2))
      have h2 := HP.out.2.1
      rw [← LX.out] at h2
      have H2 : Hid (Arr wr w1.heap.size (V (ext xs)) 60) := Lib.hid h2
      have H1 := Lib.hid HP.out.1; have HB := Lib.hid HP.out.2.2.2.1
      clear h2 HP
      go_wp2_with (first | (refine wpList_load_row rfl 60 _ rfl w1.heap.size rfl 60 (V (ext xs)).toArray (0, 0) _ H2.out Try.underlying60 rfl (size_V (ext_len _)) ?_) | (refine wpList_store_row rfl 60 _ _ rfl w.heap.size (V (ext xs)).toArray rfl rfl 60 (V zeros).toArray H1.out (size_V (ext_len _)) (by simp [V_len, ext_len, zeros]) (one_V _) ?_))
      exact bodyPost_ret (v := .tuple #[.agg (V (ext xs)).toArray, .bool true]) (results_cell_tmp rfl _ _ w.heap.size 60 (V (ext xs)).toArray (0, 0) _ _ rfl rfl H1.out.row Try.underlying60 rfl (size_V (ext_len _))) rfl (post_yes HY.out (below_setRow HB.out (Nat.le_refl _) _))

end Go.Proofs.Ytafpbnjfmieamaa.permOf

/-
  Contracts of the methods of impl.perm: list, inverse, then.
-/
namespace Go.Proofs.Ytafpbnjfmieamaa.inv
open Go.ChangeShapes Go.WideShapes Go.ChangeAt Go.RowKit
open Go.Proofs.Ytafpbnjfmieamaa.mem Go.Proofs.Ytafpbnjfmieamaa.ints Go.Proofs.Ytafpbnjfmieamaa.arr Go.Proofs.Ytafpbnjfmieamaa.pm Go.Proofs.Ytafpbnjfmieamaa.permOk Go.Proofs.Ytafpbnjfmieamaa.permOf
set_option linter.unusedVariables false
set_option maxRecDepth 100000

/-- All numbers are from 0 up to 24. -/
structure Sq (qs : List Int) : Prop where
  len : qs.length = 24
  lo : ∀ i, i < 24 → 0 ≤ qs.getD i 0
  hi : ∀ i, i < 24 → qs.getD i 0 < 24
theorem Sq.at_ {qs : List Int} (h : Sq qs) {i : Nat} (hi : i < 24) : ∃ z : Nat, z < 24 ∧ qs[i]? = some (z : Int) ∧ qs.getD i 0 = (z : Int) := by
  have h1 := h.lo i hi; have h2 := h.hi i hi
  have e : qs[i]? = some (qs.getD i 0) := by rw [List.getD, List.getElem?_eq_getElem (by rw [h.len]; exact hi)]; rfl
  exact ⟨(qs.getD i 0).toNat, by omega, by rw [e]; congr 1; omega, by omega⟩

theorem index_row (l : List Int) (k : Nat) (z : Int) (hk : k < 24) (hz : l[k]? = some z) (w : World) :
    (Instr.index 60 (.agg (V l).toArray) (.int .i64 (k : Int))).run Try.prog w = .ok (.int .i64 z) w := by
  have hs : (sizeOf 3).run Try.prog w = .ok 1 w := by kernel_rfl
  have h2 : (V l)[k]? = some (.int .i64 z) := V_get hz
  simp [Instr.index, asIntOf, run_underlying Try.underlying60, hk, hs, part, h2]

/-- Where k up to n goes under the inverse of qs, as far as the first k elements say. -/
def invTo (n : Nat) (qs : List Int) : Nat → List Int
  | 0 => List.replicate n 0
  | k + 1 => (invTo n qs k).set (qs.getD k 0).toNat (k : Int)
theorem invTo_len (n : Nat) (qs : List Int) (k : Nat) : (invTo n qs k).length = n := by
  induction k with
  | zero => simp [invTo]
  | succ k ih => simp [invTo, ih]
def InvRel (qs : List Int) (w wr : World) (k : Nat) : Prop :=
  Arr wr (w.heap.size + 1) (V zeros) 60 ∧ Arr wr (w.heap.size + 2) (V (invTo 24 qs k)) 60 ∧ Below w.heap.size w wr

set_option maxHeartbeats 1000000 in
theorem inverse_any (qs : List Int) (w : World) (hq : Sq qs) :
    Calls Try.prog 87 #[.agg (V qs).toArray] w fun e w' => e = .returned (.agg (V (invTo 24 qs 24)).toArray) ∧ Below w.heap.size w w' := by
  have HQ := Lib.hid hq; clear hq
  go_enter Try.func87, Try.ntmps87
  go_wp2_with (refine wpList_load_row rfl 60 _ rfl w.heap.size rfl 60 (V qs).toArray (0, 0) _ (((Arr.new w (V qs) 60 rfl).alloc _).alloc _) Try.underlying60 rfl (size_V HQ.out.len) ?_)
  go_loopw [7] (fun i wr => ∃ k : Nat, k ≤ 24 ∧ i = .int .i64 k ∧ InvRel qs w wr k) (fun i _ => 24 - (intOf i).toNat)
  case atStart =>
    exact ⟨0, Nat.zero_le _, rfl, (Arr.new _ (V zeros) _ (by simp)).alloc _, Arr.new _ (V zeros) _ (by simp), (((Below.refl _ _).alloc (Nat.le_refl _) _).alloc (by simp) _).alloc (by simp; omega) _⟩
  case round =>
    obtain ⟨k, hk, rfl, hr⟩ := hrel
    have HR := Lib.hid hr; clear hr
    by_cases hlt : k < 24
    · obtain ⟨z, hz, hqz, hqd⟩ := HQ.out.at_ hlt
      have hvz := index_row qs k z hlt hqz
      have HD := Lib.hid hqd; clear hqz hqd
      have hc : wr.cell? ⟨w.heap.size + 2, z, none⟩ = some (.int .i64 ((invTo 24 qs k).getD z 0)) := HR.out.2.1.cell (V_getD (by rw [invTo_len]; exact hz))
      have hf := HR.out.2.1.frozen z
      go_wp2
      go_roundw
      case rel =>
        refine ⟨k + 1, by omega, by go_num, HR.out.1.other (by omega) _, ?_, HR.out.2.2.setCell (by simp; omega) _⟩
        have h := HR.out.2.1.set_ z (.int .i64 (k : Int))
        rw [V_set] at h
        have e : invTo 24 qs (k + 1) = (invTo 24 qs k).set z (k : Int) := by rw [invTo, HD.out]; rfl
        rw [e]
        exact h
      case measure => simp [intOf]; omega
    · obtain rfl : k = 24 := by omega
      have H1 := Lib.hid HR.out.1; have H2 := Lib.hid HR.out.2.1; have HB := Lib.hid HR.out.2.2; clear HR
      have HL := Lib.hid (invTo_len 24 qs 24)
      generalize hr : invTo 24 qs 24 = r at H2 HL
      have HRR := Lib.hid hr; clear hr
      go_wp2_with (first | (refine wpList_load_row rfl 60 (.tmp 3) rfl (w.heap.size + 2) rfl 60 (V r).toArray (0, 0) _ H2.out Try.underlying60 rfl (size_V HL.out) ?_) | (refine wpList_store_row rfl 60 (.tmp 2) (.tmp 15) rfl (w.heap.size + 1) (V r).toArray rfl rfl 60 (V zeros).toArray H1.out (size_V HL.out) (by simp [V_len, HL.out, zeros]) (one_V _) ?_))
      exact bodyPost_ret (v := .agg (V r).toArray) (results_cell_row rfl _ _ (w.heap.size + 1) 60 (V r).toArray (0, 0) _ rfl H1.out.row Try.underlying60 rfl (size_V HL.out)) rfl ⟨by rw [HRR.out], arr.below_setRow HB.out (by omega) _⟩

/-- First ps, then qs. -/
def thenL (ps qs : List Int) : List Int := tab fun i => qs.getD (ps.getD i 0).toNat 0
def ThenRel (ps qs : List Int) (w wr : World) (k : Nat) : Prop :=
  Arr wr (w.heap.size + 1) (V qs) 60 ∧ Arr wr (w.heap.size + 2) (V zeros) 60 ∧ Arr wr (w.heap.size + 3) (V (tab fun i => if i < k then qs.getD (ps.getD i 0).toNat 0 else 0)) 60 ∧ Below w.heap.size w wr

set_option maxHeartbeats 1000000 in
theorem then_any (ps qs : List Int) (w : World) (hp : Sq ps) (hq : Sq qs) :
    Calls Try.prog 88 #[.agg (V ps).toArray, .agg (V qs).toArray] w fun e w' => e = .returned (.agg (V (thenL ps qs)).toArray) ∧ Below w.heap.size w w' := by
  have HP := Lib.hid hp; have HQ := Lib.hid hq; clear hp hq
  go_enter Try.func88, Try.ntmps88
  go_wp2_with (refine wpList_load_row rfl 60 _ rfl w.heap.size rfl 60 (V ps).toArray (0, 0) _ ((((Arr.new w (V ps) 60 rfl).alloc _).alloc _).alloc _) Try.underlying60 rfl (size_V HP.out.len) ?_)
  go_loopw [9] (fun i wr => ∃ k : Nat, k ≤ 24 ∧ i = .int .i64 k ∧ ThenRel ps qs w wr k) (fun i _ => 24 - (intOf i).toNat)
  case atStart =>
    exact ⟨0, Nat.zero_le _, rfl, ((Arr.new _ (V qs) _ (by simp)).alloc _).alloc _, (Arr.new _ (V zeros) _ (by simp)).alloc _, Arr.new _ (V zeros) _ (by simp), ((((Below.refl _ _).alloc (Nat.le_refl _) _).alloc (by simp) _).alloc (by simp; omega) _).alloc (by simp; omega) _⟩
  case round =>
    obtain ⟨k, hk, rfl, hr⟩ := hrel
    have HR := Lib.hid hr; clear hr
    by_cases hlt : k < 24
    · obtain ⟨z, hz, hqz, hqd⟩ := HP.out.at_ hlt
      have hvz := index_row ps k z hlt hqz
      have HD := Lib.hid hqd; clear hqz hqd
      have hcq : wr.cell? ⟨w.heap.size + 1, z, none⟩ = some (.int .i64 (qs.getD z 0)) := HR.out.1.cell (V_getD (by rw [HQ.out.len]; exact hz))
      have hc : wr.cell? ⟨w.heap.size + 3, k, none⟩ = some (.int .i64 ((tab fun i => if i < k then qs.getD (ps.getD i 0).toNat 0 else 0).getD k 0)) := HR.out.2.2.1.cell (V_getD (by rw [tab_len]; exact hlt))
      have hf := HR.out.2.2.1.frozen k
      go_wp2
      go_roundw
      case rel =>
        refine ⟨k + 1, by omega, by go_num, HR.out.1.other (by omega) _, HR.out.2.1.other (by omega) _, ?_, HR.out.2.2.2.setCell (by simp; omega) _⟩
        have h := HR.out.2.2.1.set_ k (.int .i64 (qs.getD z 0))
        rw [V_set] at h
        have e := tab_set (fun i => if i < k then qs.getD (ps.getD i 0).toNat 0 else 0) (fun i => if i < k + 1 then qs.getD (ps.getD i 0).toNat 0 else 0) (k := k) (fun j hj => by
          by_cases e : j = k
          · subst e; simp
          · simp only [if_neg e]; split <;> split <;> first | rfl | omega)
        simp only [Nat.lt_succ_self, if_true] at e
        rw [HD.out, Int.toNat_natCast] at e
        rw [e] at h
        exact h
      case measure => simp [intOf]; omega
    · obtain rfl : k = 24 := by omega
      have er : (tab fun i => if i < 24 then qs.getD (ps.getD i 0).toNat 0 else 0) = thenL ps qs := by
        unfold thenL tab
        refine List.map_congr_left fun i hi => ?_
        simp at hi
        simp [hi]
      have H1 := Lib.hid HR.out.2.1; have h2 := HR.out.2.2.1; have HB := Lib.hid HR.out.2.2.2; clear HR
      rw [er] at h2
      have H2 := Lib.hid h2; clear h2 er
      have HL : Hid ((thenL ps qs).length = 24) := Lib.hid (tab_len _)
      generalize hr : thenL ps qs = r at H2 HL
      have HRR := Lib.hid hr; clear hr
      go_wp2_with (first | (refine wpList_load_row rfl 60 (.tmp 5) rfl (w.heap.size + 3) rfl 60 (V r).toArray (0, 0) _ H2.out Try.underlying60 rfl (size_V HL.out) ?_) | (refine wpList_store_row rfl 60 (.tmp 4) (.tmp 19) rfl (w.heap.size + 2) (V r).toArray rfl rfl 60 (V zeros).toArray H1.out (size_V HL.out) (by simp [V_len, HL.out, zeros]) (one_V _) ?_))
      exact bodyPost_ret (v := .agg (V r).toArray) (results_cell_row rfl _ _ (w.heap.size + 2) 60 (V r).toArray (0, 0) _ rfl H1.out.row Try.underlying60 rfl (size_V HL.out)) rfl ⟨by rw [HRR.out], arr.below_setRow HB.out (by omega) _⟩

theorem slice_row (b n : Nat) (w : World) (hn : n ≤ 24) :
    (Instr.sliceAt 60 (.pointer (some ⟨b, 0, none⟩)) none (some (.int .i64 (n : Int))) none).run Try.prog w = .ok (.slice (some ⟨b, 0, none⟩) n 24) w := by
  have h := run_sliceAt_array_h (P := Try.prog) (t := 60) (w := w) (a := ⟨b, 0, none⟩) Try.underlying60 .i64 (n : Int) (by omega) (by show (n : Int) ≤ 24; omega)
  exact h.trans (by kernel_rfl)
set_option maxHeartbeats 1000000 in
theorem list_any (qs : List Int) (n : Nat) (w : World) (hl : qs.length = 24) (hn : n ≤ 24) :
    Calls Try.prog 65 #[.agg (V qs).toArray, .int .i64 n] w fun e w' => ∃ v, e = .returned v ∧ w'.ownsRow w.heap.size 3 1 v (qs.take n).length (V (qs.take n)) ∧ Below w.heap.size w w' := by
  obtain ⟨i0, hi0, hz0, hz1, hz2⟩ := info_parts infoI
  have HL := Lib.hid hl; clear hl
  have HZ2 := Lib.hid hz2; clear hz2
  go_enter Try.func65, Try.ntmps65
  go_wp2_with (at_make; refine wpList_make_full _ rfl _ _ 23 rfl (w.heap.size + 1) 3 i0 _ 1 Try.underlying23 hi0 hz0 hz1 _ _ _ _ n rfl rfl rfl rfl ?b2 ?b3 (by simp) ?_)
  case b2 => rw [HZ2.out]; omega
  case b3 => unfold maxLen; omega
  intro w1 hown hg
  have hb1 : Below (w.heap.size + 1) (w.alloc (.cells (V qs).toArray 60)) w1 := (Below.refl _ _).grown hg (by simp) (by simp)
  have hcu : ∃ cur : Array Value, w1.heap[w.heap.size + 1]? = some (.cells cur 3 (0, 0)) ∧ cur.size = n := by
    rcases hown.2 with ⟨hv, _⟩ | ⟨g, cap, cur, hv, _, hh, _, _, hsz, _⟩
    · cases hv
    · injection hv with e1 e2 e3
      injection e1 with e1
      injection e1 with e1
      subst e1; subst e3
      exact ⟨cur, hh, by simpa using hsz⟩
  obtain ⟨cur, hh, hsz⟩ := hcu
  have HH := Lib.hid hh; have HSZ := Lib.hid hsz; clear hh hsz hown hg
  have A1 := Lib.hid ((Arr.new w (V qs) 60 rfl).keep hb1 (by simp))
  have hs1 : w.heap.size + 1 ≤ w1.heap.size := by have := hb1.size; simpa using this
  have B1 : Hid (Below w.heap.size w w1) := Lib.hid (((Below.refl _ _).alloc (Nat.le_refl _) _).trans (hb1.mono (by omega)))
  clear hb1
  have HT : Hid ((qs.take n).length = n) := Lib.hid (by simp [HL.out]; omega)
  have hin : Hid (∀ j v, (V (qs.take n))[j]? = some v → w1.cell? ((⟨w.heap.size, 0, none⟩ : Addr).add j) = some v) := Lib.hid (by
    intro j v hv
    obtain ⟨z, hz, rfl⟩ := V_at hv
    have hj : j < n := by
      rcases Nat.lt_or_ge j n with h | h
      · exact h
      · rw [List.getElem?_eq_none (by rw [HT.out]; exact h)] at hz; cases hz
    have hadd : (⟨w.heap.size, 0, none⟩ : Addr).add j = ⟨w.heap.size, j, none⟩ := by unfold Addr.add; split <;> simp_all
    rw [hadd]
    refine A1.out.cell (V_get ?_)
    simpa [List.getElem?_take, hj] using hz)
  have hsl := fun W => slice_row w.heap.size n W hn
  have hsz3 : (Try.prog.info? 3).map (·.size) = some 1 := by kernel_rfl
  go_wp2_with (refine wpList_copy_own rfl (.tmp 8) (.tmp 10) 23 23 rfl 3 Try.underlying23 hsz3 (w.heap.size + 1) 0 n n ⟨w.heap.size, 0, none⟩ n 24 rfl rfl cur 3 HH.out (V (qs.take n)) ?c1 hin.out ?c2 ?c3 ?_)
  case c1 => rw [V_len, HT.out]; exact (Nat.min_self n).symm
  case c2 => rw [V_len, HT.out, HSZ.out]; omega
  case c3 => intro v hv; unfold V at hv; rw [List.mem_map] at hv; obtain ⟨z, _, rfl⟩ := hv; rfl
  go_ret
  refine ⟨_, rfl, ⟨by simp [V_len], .inr ⟨w.heap.size + 1, n, _, ?_, by omega, setRow_heap _ _ _ _ _ _ HH.out, ?_, ?_, ?_, ?_⟩⟩, arr.below_setRow B1.out (by omega) _⟩
  · rw [HT.out]; rfl
  · rw [HT.out]; exact Nat.le_refl _
  · unfold maxLen; omega
  · have h1 := HT.out; have h2 := HSZ.out
    simp [V_len]; omega
  · have h1 := HT.out; have h2 := HSZ.out
    simp only [Nat.mul_one]
    rw [V_len, h1, List.drop_of_length_le (by simp [h2]), List.append_nil, List.take_of_length_le (by rw [V_len, h1]; exact Nat.le_refl _)]
end Go.Proofs.Ytafpbnjfmieamaa.inv
