import Derived.Test.YtngglhbcpeigcaaY15
/-
  (*row).cylinder.
-/
namespace Go.Proofs.Ytngglhbcpeigcaa.cy
open Go.ChangeShapes Go.WideShapes Go.ChangeAt Go.RowKit
open Go.Proofs.Ytngglhbcpeigcaa.mem Go.Proofs.Ytngglhbcpeigcaa.ints Go.Proofs.Ytngglhbcpeigcaa.arr Go.Proofs.Ytngglhbcpeigcaa.pm Go.Proofs.Ytngglhbcpeigcaa.sf Go.Proofs.Ytngglhbcpeigcaa.mat Go.Proofs.Ytngglhbcpeigcaa.gl Go.Proofs.Ytngglhbcpeigcaa.lp
set_option linter.unusedVariables false
set_option maxRecDepth 100000

/-- All blocks but the rows' boxes are as they were. -/
structure Fr (N : Nat) (bs : Nat → Nat) (w w' : World) : Prop where
  os : w'.os = w.os
  tape : w'.tape = w.tape
  output : w'.output = w.output
  size : w.heap.size ≤ w'.heap.size
  block : ∀ k, k < w.heap.size → (∀ i, i < N → k ≠ bs i) → w'.heap[k]? = w.heap[k]?
theorem Fr.below {N : Nat} {bs : Nat → Nat} {w w' : World} (h : Below w.heap.size w w') : Fr N bs w w' := ⟨h.os, h.tape, h.output, h.size, fun k hk _ => h.block k hk⟩
theorem Fr.trans {N : Nat} {bs : Nat → Nat} {a b c : World} (h : Fr N bs a b) (k : Fr N bs b c) : Fr N bs a c :=
  ⟨k.os.trans h.os, k.tape.trans h.tape, k.output.trans h.output, Nat.le_trans h.size k.size, fun q h1 h2 => (k.block q (Nat.lt_of_lt_of_le h1 h.size) h2).trans (h.block q h1 h2)⟩
theorem Fr.set_ {N : Nat} {bs : Nat → Nat} {w w' : World} (h : Fr N bs w w') {m : Nat} (hm : m < N) (off : Nat) (v : Value) : Fr N bs w (w'.setCell ⟨bs m, off, none⟩ v) :=
  ⟨h.os, h.tape, h.output, by simpa [World.setCell] using h.size, fun k h1 h2 => (Below.heap_setCell _ _ _ _ (by intro e; exact h2 m hm e)).trans (h.block k h1 h2)⟩
theorem Fr.new_ {N : Nat} {bs : Nat → Nat} {w w' : World} (h : Fr N bs w w') {g : Nat} (hg : w.heap.size ≤ g) (off : Nat) (v : Value) : Fr N bs w (w'.setCell ⟨g, off, none⟩ v) :=
  ⟨h.os, h.tape, h.output, by simpa [World.setCell] using h.size, fun k h1 h2 => (Below.heap_setCell _ _ _ _ (by intro e; have e2 : k = g := e; omega)).trans (h.block k h1 h2)⟩
theorem Rm.other {w : World} {B H0 N g : Nat} {A : Option Addr} {rr : List (List Int)} {bs : Nat → Nat} {ab bl : List Int} {M : List Bool} (h : Rm w B H0 A N rr bs ab bl M) (h1 : ∀ i, i < N → bs i ≠ g) (h2 : H0 ≤ g) (h3 : ∀ q, A = some ⟨q, 0, none⟩ → q ≠ g) (off : Nat) (v : Value) : Rm (w.setCell ⟨g, off, none⟩ v) B H0 A N rr bs ab bl M := by
  refine ⟨fun hN => ?_, fun i xs hx => ?_, h.ge, h.inj, h.len, h.low⟩
  · obtain ⟨q, e, q0, q1, q2, q3⟩ := h.ptr hN
    refine ⟨q, e, q0, by simpa [World.setCell] using q1, q2, fun i hi => ?_⟩
    rw [World.cell?_setCell_other w _ _ _ (by intro e2; injection e2 with e3; exact h3 q e e3.symm)]
    exact q3 i hi
  · obtain ⟨P, c, q1, q2⟩ := h.box i xs hx
    exact ⟨P, c, q1.other (h1 i (by have := (List.getElem?_eq_some_iff.1 hx).1; have := h.len; omega)) v, q2.keep ((Below.refl H0 w).setCell h2 v) (Nat.le_refl _)⟩
/-- A world in which the low blocks are as they were. -/
theorem Rm.lows {w w' : World} {B H0 N top : Nat} {A : Option Addr} {rr : List (List Int)} {bs : Nat → Nat} {ab bl : List Int} {M : List Bool} (h : Rm w B H0 A N rr bs ab bl M) (hl : ∀ q, q < top → w'.heap[q]? = w.heap[q]?) (hs : w.heap.size ≤ w'.heap.size) (ha : ∀ q, A = some ⟨q, 0, none⟩ → q < top) (hb : ∀ i, i < N → bs i < top) (hH : H0 ≤ top) : Rm w' B H0 A N rr bs ab bl M := by
  refine ⟨fun hN => ?_, fun i xs hx => ?_, h.ge, h.inj, h.len, h.low⟩
  · obtain ⟨q, e, q0, q1, q2, q3⟩ := h.ptr hN
    refine ⟨q, e, q0, by omega, q2, fun i hi => ?_⟩
    rw [World.cell?_of_block (w := w) (a := ⟨q, i, none⟩) (hl q (ha q e))]
    exact q3 i hi
  · obtain ⟨P, c, q1, q2⟩ := h.box i xs hx
    have hi : i < N := by have := (List.getElem?_eq_some_iff.1 hx).1; have := h.len; omega
    exact ⟨P, c, (hl _ (hb i hi)).trans q1, Row.lows q2 hs (fun k hk => hl k (by omega))⟩
/-- Amid the walk over a cylinder. -/
structure Cw (w wr : World) (B H0 : Nat) (A : Option Addr) (N : Nat) (rr : List (List Int)) (bs : Nat → Nat) (ab bl : List Int) (S M : List Bool) (l h : Nat) : Prop where
  rm : Rm wr B H0 A N rr bs ab bl M
  box : Arr wr (w.heap.size + 1) [.int .i64 l, .int .i64 h] 34
  res : Arr wr w.heap.size [.int .i64 0, .int .i64 0] 34
  cnt : h + cnt S = cnt M
  fr : Fr N bs w wr
  far : ∀ i, i < N → bs i < w.heap.size
  frA : ∀ q, A = some ⟨q, 0, none⟩ → q < w.heap.size
  frH : H0 ≤ w.heap.size
theorem Cw.mark {w wr : World} {B H0 N l h c : Nat} {A : Option Addr} {rr : List (List Int)} {bs : Nat → Nat} {ab bl : List Int} {S M : List Bool} (k : Cw w wr B H0 A N rr bs ab bl S M l h) (hc : c < N) (hM : M.length = N) (hf : M[c]? = some false) :
    (∃ P q m, Arr wr (bs c) (rowC P q m (ptrV bs (at_ ab c)) (ptrV bs (at_ bl c)) false) 91) ∧
    Arr (wr.setCell ⟨bs c, 3, none⟩ (.bool true)) (w.heap.size + 1) [.int .i64 l, .int .i64 h] 34 ∧
    (∃ P q m, Arr ((wr.setCell ⟨bs c, 3, none⟩ (.bool true)).setCell ⟨w.heap.size + 1, 1, none⟩ (.int .i64 ((h : Int) + 1))) (bs c) (rowC P q m (ptrV bs (at_ ab c)) (ptrV bs (at_ bl c)) true) 91) ∧
    Cw w ((wr.setCell ⟨bs c, 3, none⟩ (.bool true)).setCell ⟨w.heap.size + 1, 1, none⟩ (.int .i64 ((h : Int) + 1))) B H0 A N rr bs ab bl S (M.set c true) l (h + 1) := by
  have eh : ((h : Int) + 1) = ((h + 1 : Nat) : Int) := by omega
  rw [eh]
  have hb := k.far c hc
  obtain ⟨xs, hx⟩ : ∃ xs, rr[c]? = some xs := ⟨_, List.getElem?_eq_getElem (by have := k.rm.len; omega)⟩
  obtain ⟨P, q, b1, _⟩ := k.rm.box c xs hx
  have hv : M.getD c false = false := by simp [List.getD, hf]
  rw [hv] at b1
  have m1 := k.rm.mark hc hM
  have m2 := m1.other (g := w.heap.size + 1) (fun i hi => by have := k.far i hi; omega) (by have := k.frH; omega) (fun q e => by have := k.frA q e; omega) 1 (.int .i64 ((h + 1 : Nat) : Int))
  obtain ⟨P2, q2, b2, _⟩ := m2.box c xs hx
  have hv2 : (M.set c true).getD c false = true := by simp [List.getD, hM, hc]
  rw [hv2] at b2
  have e1 : Arr (wr.setCell ⟨bs c, 3, none⟩ (.bool true)) (w.heap.size + 1) [.int .i64 l, .int .i64 h] 34 := k.box.other (by omega) _
  refine ⟨⟨P, _, q, b1⟩, e1, ⟨P2, _, q2, b2⟩, m2, ?_, ?_, by rw [cnt_set hf]; have := k.cnt; omega, (k.fr.set_ hc 3 _).new_ (by omega) 1 _, k.far, k.frA, k.frH⟩
  · exact e1.set_ 1 _
  · exact (k.res.other (by omega) _).other (by omega) _

theorem ptrV_nat (bs : Nat → Nat) {z : Int} {c : Nat} (h : z = c) : ptrV bs z = .pointer (some ⟨bs c, 0, none⟩) := by rw [h, ptrV_yes]
def hOf (E : Nat) (w : World) : Nat := (intOf ((w.cell? ⟨E, 1, none⟩).getD undef)).toNat
theorem hOf_at {E l h : Nat} {w : World} (k : Arr w E [.int .i64 l, .int .i64 h] 34) : hOf E w = h := by
  have := k.cell (k := 1) rfl
  simp [hOf, this, intOf]

set_option maxHeartbeats 4000000 in
theorem cyl_any (w : World) (B H0 N r : Nat) (A : Option Addr) (rr : List (List Int)) (bs : Nat → Nat) (ab bl : List Int) (S : List Bool) (xs : List Int) (hm : Rm w B H0 A N rr bs ab bl S) (hr : rr[r]? = some xs) (hS : S.length = N) (hc : Closed N ab (on S)) (hf : S[r]? = some false)
    (hi : Inj N ab) (hb : Back N ab bl) (hN : N ≤ 24) (hx : xs.length ≤ 24) :
    Calls Try.prog 54 #[.pointer (some ⟨bs r, 0, none⟩)] w fun e w' => e = .returned (.agg #[.int .i64 xs.length, .int .i64 ((cnt (clos N ab S r) - cnt S : Nat) : Int)]) ∧ Rm w' B H0 A N rr bs ab bl (clos N ab S r) ∧ Fr N bs w w' := by
  have hrN : r < N := by have := (List.getElem?_eq_some_iff.1 hf).1; omega
  have RM := Lib.hid hm
  obtain ⟨P, c, hbox, hrow⟩ := hm.box r xs hr
  have FAR : Hid (∀ i, i < N → bs i < w.heap.size) := Lib.hid (fun i hi => hm.lt hi)
  have FRA : Hid (∀ q, A = some ⟨q, 0, none⟩ → q < w.heap.size) := Lib.hid (fun q e => by
    obtain ⟨g, e2, _, h2, _⟩ := hm.ptr (by omega)
    rw [e2] at e; injection e with e; injection e with e; omega)
  have FRH : Hid (H0 ≤ w.heap.size) := Lib.hid hrow.2.1
  have US := Lib.hid (Up.start hS hrN hc)
  have HI := Lib.hid hi; have HB := Lib.hid hb; have HC := Lib.hid hc
  have PR : Hid (∀ k : Nat, ptrV bs (k : Int) = .pointer (some ⟨bs k, 0, none⟩)) := Lib.hid (fun k => ptrV_yes bs k)
  have c0 := (hbox.alloc (.cells #[.int .i64 0, .int .i64 0] 34)).cell (k := 0) rfl
  have CW0 : Hid (∀ W, W = ((w.alloc (.cells #[.int .i64 0, .int .i64 0] 34)).alloc (.cells #[.int .i64 xs.length, .int .i64 0] 34)) → Cw w W B H0 A N rr bs ab bl S S xs.length 0) := Lib.hid (fun W e => by
    have b0 : Below w.heap.size w W := by rw [e]; exact ((Below.refl _ _).alloc (Nat.le_refl _) _).alloc (by simp) _
    refine ⟨RM.out.keep b0, by rw [e]; exact Arr.new _ _ _ (by simp), by rw [e]; exact (Arr.new w _ _ rfl).alloc _, by omega, Fr.below b0, FAR.out, FRA.out, FRH.out⟩)
  have XR := Lib.hid hr
  clear hm hbox hrow hi hb hc hf hr
  go_enter Try.func54, Try.ntmps54
  go_wp2
  go_loopw [4] (fun x wr => ∃ (M : List Bool) (cur : Int) (h : Nat), x = ptrV bs cur ∧ Cw w wr B H0 A N rr bs ab bl S M xs.length h ∧ Up N ab S r M cur) (fun x wr => N - hOf (w.heap.size + 1) wr)
  case atStart => exact ⟨S, r, 0, (PR.out r).symm, CW0.out _ rfl, US.out⟩
  case round =>
    obtain ⟨M, cur, h, rfl, hcw, hup⟩ := hrel
    have CW := Lib.hid hcw; have UP := Lib.hid hup; clear hcw hup
    have mm := hOf_at CW.out.box
    have hle : h ≤ N := by have := CW.out.cnt; have := cnt_le M; have := UP.out.len; omega
    by_cases hneg : cur < 0
    · have PN : ptrV bs cur = .pointer none := ptrV_no hneg
      rw [PN]
      have DN := Lib.hid (UP.out.done (.inl hneg))
      clear hneg PN mm
      obtain ⟨P9, c9, B9, _⟩ := CW.out.rm.box r xs XR.out
      have r2 := B9.cell (k := 2) rfl
      have WD := Lib.hid (DN.out.dw HI.out HB.out HC.out hrN)
      clear B9 UP DN
      go_wp2
      clear r2
      go_loopw [5] (fun x wr => ∃ (M : List Bool) (cur : Int) (h : Nat), x = ptrV bs cur ∧ Cw w wr B H0 A N rr bs ab bl S M xs.length h ∧ Dw N ab S r M cur) (fun x wr => N - hOf (w.heap.size + 1) wr)
      case atStart => exact ⟨M, _, h, rfl, CW.out, WD.out⟩
      case round =>
        obtain ⟨M, cur, h, rfl, hcw, hup⟩ := hrel
        have CW := Lib.hid hcw; have UP := Lib.hid hup; clear hcw hup
        have mm := hOf_at CW.out.box
        have hle : h ≤ N := by have := CW.out.cnt; have := cnt_le M; have := UP.out.len; omega
        by_cases hneg : cur < 0
        · have PN : ptrV bs cur = .pointer none := ptrV_no hneg
          rw [PN]
          have DN := Lib.hid (UP.out.done (.inl hneg))
          clear hneg PN mm
          have b0 := CW.out.box
          have e0 : Arr wr (w.heap.size + 1) [.int .i64 xs.length, .int .i64 h] 34 := b0
          have d0 := CW.out.res
          have HE : Hid (M = clos N ab S r) := DN
          have HH : Hid (h = cnt M - cnt S) := Lib.hid (by have := CW.out.cnt; omega)
          have FIN := Lib.hid ((CW.out.rm.other (g := w.heap.size) (fun i hi => by have := CW.out.far i hi; omega) CW.out.frH (fun q e => by have := CW.out.frA q e; omega) 0 (.int .i64 xs.length)).other (g := w.heap.size) (fun i hi => by have := CW.out.far i hi; omega) CW.out.frH (fun q e => by have := CW.out.frA q e; omega) 1 (.int .i64 h))
          have FRI := Lib.hid ((CW.out.fr.new_ (Nat.le_refl w.heap.size) 0 (.int .i64 xs.length)).new_ (Nat.le_refl w.heap.size) 1 (.int .i64 h))
          have g0 := d0.cell (k := 0) rfl
          have g1 := d0.cell (k := 1) rfl
          have h0 := e0.cell (k := 0) rfl
          have h1 := e0.cell (k := 1) rfl
          have fg0 := d0.frozen 0
          have NN : Hid (Arr ((wr.setCell ⟨w.heap.size, 0, none⟩ (.int .i64 xs.length)).setCell ⟨w.heap.size, 1, none⟩ (.int .i64 h)) w.heap.size [.int .i64 xs.length, .int .i64 h] 34) := Lib.hid ((d0.set_ 0 (.int .i64 xs.length)).set_ 1 (.int .i64 h))
          have i1 := (d0.set_ 0 (.int .i64 xs.length)).cell (k := 1) rfl
          have fi1 := (d0.set_ 0 (.int .i64 xs.length)).frozen 1
          clear b0 e0 d0 CW UP DN
          go_wp2
          exact bodyPost_ret (v := .agg #[.int .i64 xs.length, .int .i64 h]) (results_cell_row rfl _ _ w.heap.size 34 #[.int .i64 xs.length, .int .i64 h] (0, 0) _ rfl NN.out Try.underlying34 rfl (sizeCy _ _)) rfl ⟨by rw [HH.out, ← HE.out], by rw [← HE.out]; exact FIN.out, FRI.out⟩
        · obtain ⟨k, rfl⟩ : ∃ k : Nat, cur = k := ⟨cur.toNat, by omega⟩
          have hkN : k < N := by have := UP.out.hi; omega
          rw [PR.out]
          cases hMk : M[k]? with
          | none => have := UP.out.len; rw [List.getElem?_eq_none_iff] at hMk; omega
          | some b =>
            obtain ⟨ys, hy⟩ : ∃ ys, rr[k]? = some ys := ⟨_, List.getElem?_eq_getElem (by have := CW.out.rm.len; omega)⟩
            obtain ⟨P1, c1, B1, _⟩ := CW.out.rm.box k ys hy
            have hv : M.getD k false = b := by simp [List.getD, hMk]
            rw [hv] at B1
            have k3 := B1.cell (k := 3) rfl
            cases b with
            | true =>
              have DN := Lib.hid (UP.out.done (.inr ⟨k, rfl, hMk⟩))
              clear hMk hv hy mm B1
              have b0 := CW.out.box
              have e0 : Arr wr (w.heap.size + 1) [.int .i64 xs.length, .int .i64 h] 34 := b0
              have d0 := CW.out.res
              have HE : Hid (M = clos N ab S r) := DN
              have HH : Hid (h = cnt M - cnt S) := Lib.hid (by have := CW.out.cnt; omega)
              have FIN := Lib.hid ((CW.out.rm.other (g := w.heap.size) (fun i hi => by have := CW.out.far i hi; omega) CW.out.frH (fun q e => by have := CW.out.frA q e; omega) 0 (.int .i64 xs.length)).other (g := w.heap.size) (fun i hi => by have := CW.out.far i hi; omega) CW.out.frH (fun q e => by have := CW.out.frA q e; omega) 1 (.int .i64 h))
              have FRI := Lib.hid ((CW.out.fr.new_ (Nat.le_refl w.heap.size) 0 (.int .i64 xs.length)).new_ (Nat.le_refl w.heap.size) 1 (.int .i64 h))
              have g0 := d0.cell (k := 0) rfl
              have g1 := d0.cell (k := 1) rfl
              have h0 := e0.cell (k := 0) rfl
              have h1 := e0.cell (k := 1) rfl
              have fg0 := d0.frozen 0
              have NN : Hid (Arr ((wr.setCell ⟨w.heap.size, 0, none⟩ (.int .i64 xs.length)).setCell ⟨w.heap.size, 1, none⟩ (.int .i64 h)) w.heap.size [.int .i64 xs.length, .int .i64 h] 34) := Lib.hid ((d0.set_ 0 (.int .i64 xs.length)).set_ 1 (.int .i64 h))
              have i1 := (d0.set_ 0 (.int .i64 xs.length)).cell (k := 1) rfl
              have fi1 := (d0.set_ 0 (.int .i64 xs.length)).frozen 1
              clear b0 e0 d0 CW UP DN
              go_wp2
              exact bodyPost_ret (v := .agg #[.int .i64 xs.length, .int .i64 h]) (results_cell_row rfl _ _ w.heap.size 34 #[.int .i64 xs.length, .int .i64 h] (0, 0) _ rfl NN.out Try.underlying34 rfl (sizeCy _ _)) rfl ⟨by rw [HH.out, ← HE.out], by rw [← HE.out]; exact FIN.out, FRI.out⟩
            | false =>
              obtain ⟨m1, m2, m3, m4⟩ := CW.out.mark hkN UP.out.len hMk
              obtain ⟨Q3, q3, p3, B3⟩ := m3
              have f3 := B1.frozen 3
              have e1 := m2.cell (k := 1) rfl
              have fe1 := m2.frozen 1
              have l1 := B3.cell (k := 2) rfl
              have NC := Lib.hid m4
              have NU := Lib.hid (UP.out.step HB.out hMk)
              have ME := hOf_at m4.box
              clear hMk hv hy m1 m2 m4 B1 B3 hneg
              go_wp2
              go_roundw
              case rel => exact ⟨M.set k true, at_ bl k, h + 1, rfl, NC.out, NU.out⟩
              case measure => rw [ME, mm]; have := NC.out.cnt; have := cnt_le (M.set k true); have := NU.out.len; omega
    · obtain ⟨k, rfl⟩ : ∃ k : Nat, cur = k := ⟨cur.toNat, by omega⟩
      have hkN : k < N := by have := UP.out.hi; omega
      rw [PR.out]
      cases hMk : M[k]? with
      | none => have := UP.out.len; rw [List.getElem?_eq_none_iff] at hMk; omega
      | some b =>
        obtain ⟨ys, hy⟩ : ∃ ys, rr[k]? = some ys := ⟨_, List.getElem?_eq_getElem (by have := CW.out.rm.len; omega)⟩
        obtain ⟨P1, c1, B1, _⟩ := CW.out.rm.box k ys hy
        have hv : M.getD k false = b := by simp [List.getD, hMk]
        rw [hv] at B1
        have k3 := B1.cell (k := 3) rfl
        cases b with
        | true =>
          have DN := Lib.hid (UP.out.done (.inr ⟨k, rfl, hMk⟩))
          clear hMk hv hy mm B1
          obtain ⟨P9, c9, B9, _⟩ := CW.out.rm.box r xs XR.out
          have r2 := B9.cell (k := 2) rfl
          have WD := Lib.hid (DN.out.dw HI.out HB.out HC.out hrN)
          clear B9 UP DN
          go_wp2
          clear r2
          go_loopw [5] (fun x wr => ∃ (M : List Bool) (cur : Int) (h : Nat), x = ptrV bs cur ∧ Cw w wr B H0 A N rr bs ab bl S M xs.length h ∧ Dw N ab S r M cur) (fun x wr => N - hOf (w.heap.size + 1) wr)
          case atStart => exact ⟨M, _, h, rfl, CW.out, WD.out⟩
          case round =>
            obtain ⟨M, cur, h, rfl, hcw, hup⟩ := hrel
            have CW := Lib.hid hcw; have UP := Lib.hid hup; clear hcw hup
            have mm := hOf_at CW.out.box
            have hle : h ≤ N := by have := CW.out.cnt; have := cnt_le M; have := UP.out.len; omega
            by_cases hneg : cur < 0
            · have PN : ptrV bs cur = .pointer none := ptrV_no hneg
              rw [PN]
              have DN := Lib.hid (UP.out.done (.inl hneg))
              clear hneg PN mm
              have b0 := CW.out.box
              have e0 : Arr wr (w.heap.size + 1) [.int .i64 xs.length, .int .i64 h] 34 := b0
              have d0 := CW.out.res
              have HE : Hid (M = clos N ab S r) := DN
              have HH : Hid (h = cnt M - cnt S) := Lib.hid (by have := CW.out.cnt; omega)
              have FIN := Lib.hid ((CW.out.rm.other (g := w.heap.size) (fun i hi => by have := CW.out.far i hi; omega) CW.out.frH (fun q e => by have := CW.out.frA q e; omega) 0 (.int .i64 xs.length)).other (g := w.heap.size) (fun i hi => by have := CW.out.far i hi; omega) CW.out.frH (fun q e => by have := CW.out.frA q e; omega) 1 (.int .i64 h))
              have FRI := Lib.hid ((CW.out.fr.new_ (Nat.le_refl w.heap.size) 0 (.int .i64 xs.length)).new_ (Nat.le_refl w.heap.size) 1 (.int .i64 h))
              have g0 := d0.cell (k := 0) rfl
              have g1 := d0.cell (k := 1) rfl
              have h0 := e0.cell (k := 0) rfl
              have h1 := e0.cell (k := 1) rfl
              have fg0 := d0.frozen 0
              have NN : Hid (Arr ((wr.setCell ⟨w.heap.size, 0, none⟩ (.int .i64 xs.length)).setCell ⟨w.heap.size, 1, none⟩ (.int .i64 h)) w.heap.size [.int .i64 xs.length, .int .i64 h] 34) := Lib.hid ((d0.set_ 0 (.int .i64 xs.length)).set_ 1 (.int .i64 h))
              have i1 := (d0.set_ 0 (.int .i64 xs.length)).cell (k := 1) rfl
              have fi1 := (d0.set_ 0 (.int .i64 xs.length)).frozen 1
              clear b0 e0 d0 CW UP DN
              go_wp2
              exact bodyPost_ret (v := .agg #[.int .i64 xs.length, .int .i64 h]) (results_cell_row rfl _ _ w.heap.size 34 #[.int .i64 xs.length, .int .i64 h] (0, 0) _ rfl NN.out Try.underlying34 rfl (sizeCy _ _)) rfl ⟨by rw [HH.out, ← HE.out], by rw [← HE.out]; exact FIN.out, FRI.out⟩
            · obtain ⟨k, rfl⟩ : ∃ k : Nat, cur = k := ⟨cur.toNat, by omega⟩
              have hkN : k < N := by have := UP.out.hi; omega
              rw [PR.out]
              cases hMk : M[k]? with
              | none => have := UP.out.len; rw [List.getElem?_eq_none_iff] at hMk; omega
              | some b =>
                obtain ⟨ys, hy⟩ : ∃ ys, rr[k]? = some ys := ⟨_, List.getElem?_eq_getElem (by have := CW.out.rm.len; omega)⟩
                obtain ⟨P1, c1, B1, _⟩ := CW.out.rm.box k ys hy
                have hv : M.getD k false = b := by simp [List.getD, hMk]
                rw [hv] at B1
                have k3 := B1.cell (k := 3) rfl
                cases b with
                | true =>
                  have DN := Lib.hid (UP.out.done (.inr ⟨k, rfl, hMk⟩))
                  clear hMk hv hy mm B1
                  have b0 := CW.out.box
                  have e0 : Arr wr (w.heap.size + 1) [.int .i64 xs.length, .int .i64 h] 34 := b0
                  have d0 := CW.out.res
                  have HE : Hid (M = clos N ab S r) := DN
                  have HH : Hid (h = cnt M - cnt S) := Lib.hid (by have := CW.out.cnt; omega)
                  have FIN := Lib.hid ((CW.out.rm.other (g := w.heap.size) (fun i hi => by have := CW.out.far i hi; omega) CW.out.frH (fun q e => by have := CW.out.frA q e; omega) 0 (.int .i64 xs.length)).other (g := w.heap.size) (fun i hi => by have := CW.out.far i hi; omega) CW.out.frH (fun q e => by have := CW.out.frA q e; omega) 1 (.int .i64 h))
                  have FRI := Lib.hid ((CW.out.fr.new_ (Nat.le_refl w.heap.size) 0 (.int .i64 xs.length)).new_ (Nat.le_refl w.heap.size) 1 (.int .i64 h))
                  have g0 := d0.cell (k := 0) rfl
                  have g1 := d0.cell (k := 1) rfl
                  have h0 := e0.cell (k := 0) rfl
                  have h1 := e0.cell (k := 1) rfl
                  have fg0 := d0.frozen 0
                  have NN : Hid (Arr ((wr.setCell ⟨w.heap.size, 0, none⟩ (.int .i64 xs.length)).setCell ⟨w.heap.size, 1, none⟩ (.int .i64 h)) w.heap.size [.int .i64 xs.length, .int .i64 h] 34) := Lib.hid ((d0.set_ 0 (.int .i64 xs.length)).set_ 1 (.int .i64 h))
                  have i1 := (d0.set_ 0 (.int .i64 xs.length)).cell (k := 1) rfl
                  have fi1 := (d0.set_ 0 (.int .i64 xs.length)).frozen 1
                  clear b0 e0 d0 CW UP DN
                  go_wp2
                  exact bodyPost_ret (v := .agg #[.int .i64 xs.length, .int .i64 h]) (results_cell_row rfl _ _ w.heap.size 34 #[.int .i64 xs.length, .int .i64 h] (0, 0) _ rfl NN.out Try.underlying34 rfl (sizeCy _ _)) rfl ⟨by rw [HH.out, ← HE.out], by rw [← HE.out]; exact FIN.out, FRI.out⟩
                | false =>
                  obtain ⟨m1, m2, m3, m4⟩ := CW.out.mark hkN UP.out.len hMk
                  obtain ⟨Q3, q3, p3, B3⟩ := m3
                  have f3 := B1.frozen 3
                  have e1 := m2.cell (k := 1) rfl
                  have fe1 := m2.frozen 1
                  have l1 := B3.cell (k := 2) rfl
                  have NC := Lib.hid m4
                  have NU := Lib.hid (UP.out.step HB.out hMk)
                  have ME := hOf_at m4.box
                  clear hMk hv hy m1 m2 m4 B1 B3 hneg
                  go_wp2
                  go_roundw
                  case rel => exact ⟨M.set k true, at_ bl k, h + 1, rfl, NC.out, NU.out⟩
                  case measure => rw [ME, mm]; have := NC.out.cnt; have := cnt_le (M.set k true); have := NU.out.len; omega
        | false =>
          obtain ⟨m1, m2, m3, m4⟩ := CW.out.mark hkN UP.out.len hMk
          obtain ⟨Q3, q3, p3, B3⟩ := m3
          have f3 := B1.frozen 3
          have e1 := m2.cell (k := 1) rfl
          have fe1 := m2.frozen 1
          have l1 := B3.cell (k := 1) rfl
          have NC := Lib.hid m4
          have NU := Lib.hid (UP.out.step HI.out hMk)
          have ME := hOf_at m4.box
          clear hMk hv hy m1 m2 m4 B1 B3 hneg
          go_wp2
          go_roundw
          case rel => exact ⟨M.set k true, at_ ab k, h + 1, rfl, NC.out, NU.out⟩
          case measure => rw [ME, mm]; have := NC.out.cnt; have := cnt_le (M.set k true); have := NU.out.len; omega
end Go.Proofs.Ytngglhbcpeigcaa.cy

/-
  (impl.gluing).cylinders and impl.CylindersOf.
-/
namespace Go.Proofs.Ytngglhbcpeigcaa.cy
open Go.ChangeShapes Go.WideShapes Go.ChangeAt Go.RowKit
open Go.Proofs.Ytngglhbcpeigcaa.mem Go.Proofs.Ytngglhbcpeigcaa.ints Go.Proofs.Ytngglhbcpeigcaa.arr Go.Proofs.Ytngglhbcpeigcaa.pm Go.Proofs.Ytngglhbcpeigcaa.sf Go.Proofs.Ytngglhbcpeigcaa.mat Go.Proofs.Ytngglhbcpeigcaa.gl Go.Proofs.Ytngglhbcpeigcaa.lp
set_option linter.unusedVariables false
set_option maxRecDepth 100000

noncomputable def cyF (r u : List Int) : List Cy := if transB r u then cyL (abF (comm r u) u (cycF r)) (cycF r) else []
theorem cyF_yes {r u : List Int} (h : transB r u = true) : cyF r u = cyL (abF (comm r u) u (cycF r)) (cycF r) := by simp [cyF, h]
theorem cyF_no {r u : List Int} (h : transB r u = false) : cyF r u = [] := by simp [cyF, h]
theorem cyF_24 (r u : List Int) : (cyF r u).length ≤ 24 := by
  cases h : transB r u with
  | false => rw [cyF_no h]; simp
  | true =>
    have s := cycF_rows h rfl
    rw [cyF_yes h]
    have := (cyS_ok (ab_inj s.sf s.rw) (cycF r).length (Nat.le_refl _)).2.2
    have := s.rw.len
    have := s.sf.small
    unfold cyL
    omega
theorem cyF_len (r u : List Int) : (cyF r u).length ≤ 1048576 := by have := cyF_24 r u; omega
/-- A list of cylinders of the call's own. -/
def CGives (L : List Cy) (w : World) (e : Ending) (w' : World) : Prop := ∃ A c, e = .returned (.slice A L.length c) ∧ Crow w' w.heap.size w'.heap.size A L.length L ∧ Below w.heap.size w w'
theorem Crow.of_own' {w : World} {base : Nat} {e : TypeId} {A : Option Addr} {n c : Nat} {L : List Cy} (hl : L.length = n) (h : w.ownsRow base e 2 (.slice A n c) n (V (fl L))) : Crow w base w.heap.size A n L := by
  refine ⟨hl, by simp [V, fl_len, hl], Nat.le_refl _, fun hn => ?_⟩
  have hlen := h.1
  rcases h.2 with ⟨hv, h0⟩ | ⟨g, cap, cur, hv, hb, hh, r⟩
  · omega
  · injection hv with hA hn' hc'
    subst hA; subst hc'
    have hlt : g < w.heap.size := by
      rcases Nat.lt_or_ge g w.heap.size with hlt | hge
      · exact hlt
      · rw [Array.getElem?_eq_none hge] at hh; cases hh
    refine ⟨g, 0, rfl, hb, hlt, fun j hj => ?_⟩
    rw [Nat.zero_add]
    exact ⟨h.cellAt j (by omega), h.frozenAt j⟩
theorem Crow.low {w : World} {lo lo' hi n : Nat} {A : Option Addr} {L : List Cy} (h : Crow w lo hi A n L) (hl : lo' ≤ lo) : Crow w lo' hi A n L := ⟨h.1, h.2.wider hl (Nat.le_refl _) h.2.2.1⟩
/-- Amid the list. -/
structure Cl (w1 wr : World) (B H0 : Nat) (A : Option Addr) (N : Nat) (rr : List (List Int)) (bs : Nat → Nat) (ab bl : List Int) (v : Value) (k : Nat) : Prop where
  rm : Rm wr B H0 A N rr bs ab bl (cyS ab rr k).1
  own : wr.ownsRow w1.heap.size 34 2 v (cyS ab rr k).2.length (V (fl (cyS ab rr k).2))
  fr : Fr N bs w1 wr
theorem own_Fr {w w' : World} {base n N : Nat} {bs : Nat → Nat} {v : Value} {xs : List Value} {e : TypeId} {size : Nat} (h : w.ownsRow base e size v n xs) (hf : Fr N bs w w') (hb : ∀ i, i < N → bs i < base) : w'.ownsRow base e size v n xs := by
  refine ⟨h.1, ?_⟩
  rcases h.2 with h0 | ⟨g, cap, cur, h1, h2, h3, h4⟩
  · exact .inl h0
  · refine .inr ⟨g, cap, cur, h1, h2, ?_, h4⟩
    have hlt : g < w.heap.size := by
      rcases Nat.lt_or_ge g w.heap.size with q | q
      · exact q
      · rw [Array.getElem?_eq_none q] at h3; cases h3
    rw [hf.block g hlt (fun i hi e => by have := hb i hi; omega)]
    exact h3
theorem Fr.grown {N : Nat} {bs : Nat → Nat} {w W w' : World} {base n : Nat} {v : Value} {xs : List Value} {e : TypeId} {size : Nat} (h : Fr N bs w W) (ho : W.ownsRow base e size v n xs) (hb : w.heap.size ≤ base) (hg : W.grownBy w' v.ownBlock) : Fr N bs w w' :=
  ⟨hg.os.trans h.os, hg.tape.trans h.tape, hg.output.trans h.output, Nat.le_trans h.size hg.size, fun k h1 h2 => (hg.block k (Nat.lt_of_lt_of_le h1 h.size) (fun e => by have := (ho.lt k e.symm).1; omega)).trans (h.block k h1 h2)⟩

set_option maxHeartbeats 2000000 in
theorem cys_any (r u : List Int) (n : Nat) (w : World) (hs : Sf n r u) :
    Calls Try.prog 31 #[.agg (V (gl (ext r) (ext u) n)).toArray] w (CGives (cyL (abF (comm r u) u (cycF r)) (cycF r)) w) := by
  have HS := Lib.hid hs
  have L49 := gl_len (ext_len r) (ext_len u) n
  have SW : Hid (Sw n r u (cycF r)) := Lib.hid (cycF_rows (transB_iff.2 (by rw [hs.lr]; exact hs)) hs.lr)
  have hn24 : n ≤ 24 := hs.small
  have G0 := Lib.hid (Arr.new w (V (gl (ext r) (ext u) n)) 62 rfl)
  clear hs
  go_enter Try.func31, Try.ntmps31
  go_wp2_with (refine wpList_load_row rfl 62 _ rfl w.heap.size rfl 62 (V (gl (ext r) (ext u) n)).toArray (0, 0) _ G0.out Try.underlying62 rfl (size49 L49) ?_)
  refine (rows_any r u n _ HS.out).mono ?_
  rintro e w1 ⟨A, c, H0, bs, rfl, b1, hrm⟩
  have B1 := Lib.hid (below1 _ _ b1)
  have hBH : w.heap.size + 1 ≤ (w.alloc (.cells (V (gl (ext r) (ext u) n)).toArray 62)).heap.size := by simp
  generalize (w.alloc (.cells (V (gl (ext r) (ext u) n)).toArray 62)).heap.size = B at *
  clear b1 G0
  have CI : Hid (∀ k, cyS (abF (comm r u) u (cycF r)) (cycF r) k = cyS (abF (comm r u) u (cycF r)) (cycF r) k) := Lib.hid (fun _ => rfl)
  generalize hL : cyL (abF (comm r u) u (cycF r)) (cycF r) = L at *
  have HLL := Lib.hid hL; clear hL
  have LNn : Hid ((cycF r).length ≤ n) := Lib.hid SW.out.rw.len
  have INJ := Lib.hid (ab_inj SW.out.sf SW.out.rw)
  generalize hN : (cycF r).length = N at *
  have LN := Lib.hid hN; clear hN
  have hN24 : N ≤ 24 := by have := LNn.out; omega
  have BK := Lib.hid (back_ok INJ.out)
  generalize hrr : cycF r = rr at *
  clear hrr
  generalize hbl : backL (abF (comm r u) u rr) N = bl at *
  clear hbl
  generalize hab : abF (comm r u) u rr = ab at *
  clear hab CI
  have OK : Hid (∀ k, k ≤ N → (cyS ab rr k).1.length = N ∧ Closed N ab (on (cyS ab rr k).1) ∧ (cyS ab rr k).2.length ≤ k) := Lib.hid (fun k hk => by have h := cyS_ok (ab := ab) (rr := rr) (by rw [LN.out]; exact INJ.out) k (by rw [LN.out]; exact hk); rwa [LN.out] at h)
  have CL0 : Hid (Cl w1 w1 B H0 A N rr bs ab bl (.slice none 0 0) 0) := Lib.hid ⟨by have h := hrm; rw [cyS, LN.out]; exact h, ⟨rfl, .inl ⟨rfl, rfl⟩⟩, Fr.below (Below.refl _ _)⟩
  have BSL : Hid (∀ i, i < N → bs i < w1.heap.size) := Lib.hid (fun i hi => hrm.lt hi)
  have hN0 : 0 < N := by
    obtain ⟨i, xs, h1, _⟩ := SW.out.rw.has (y := 0) (by omega) (by have := HS.out.pos; omega)
    have := (List.getElem?_eq_some_iff.1 h1).1
    rw [LN.out] at this
    omega
  have PTR : Hid (∀ q, A = some ⟨q, 0, none⟩ → q < w1.heap.size) := Lib.hid (fun q e => by
    obtain ⟨g, e2, _, h2, _⟩ := hrm.ptr hN0
    rw [e2] at e; injection e with e; injection e with e; omega)
  have HH0 : Hid (H0 ≤ w1.heap.size) := Lib.hid (by
    obtain ⟨P, c, _, q2⟩ := hrm.box 0 _ (List.getElem?_eq_getElem (by rw [LN.out]; exact hN0))
    exact q2.2.1)
  have BSG : Hid (∀ i, i < N → w.heap.size ≤ bs i) := Lib.hid (fun i hi => by have := hrm.ge i hi; have := hrm.low; omega)
  clear hrm
  obtain ⟨i0, hi0, hz0, hz1, hz2⟩ := info_parts infoCy
  go_wp2
  go_loopw [3, 9] (fun v i wr => ∃ k : Nat, k ≤ N ∧ i = .int .i64 k ∧ Cl w1 wr B H0 A N rr bs ab bl v k) (fun _ i _ => N - (intOf i).toNat)
  case atStart => exact ⟨0, Nat.zero_le _, rfl, CL0.out⟩
  case round =>
    obtain ⟨k, hk, rfl, hcl⟩ := hrel
    obtain ⟨C, cc, rfl⟩ := own_form hcl.own
    have CL := Lib.hid hcl; clear hcl CL0
    have hsz := CL.out.fr.size
    by_cases hlt : k < N
    · obtain ⟨gp, rfl, _, hgl, hne, hcp⟩ := CL.out.rm.ptr (by omega)
      have hcp := hcp k hlt
      obtain ⟨xs, hxk⟩ : ∃ xs, rr[k]? = some xs := ⟨_, List.getElem?_eq_getElem (by rw [LN.out]; exact hlt)⟩
      have XK := Lib.hid hxk
      obtain ⟨P1, c1, B1x, _⟩ := CL.out.rm.box k xs hxk
      have xl : xs.length ≤ 24 := by have := (SW.out.rw.way hxk).choose_spec.2.2.inn.len; omega
      have WID : Hid (rr.getD k [] = xs) := Lib.hid (by simp [List.getD, hxk])
      obtain ⟨ok1, ok2, ok3⟩ := OK.out k hk
      have OK2 := Lib.hid ok2
      cases hMk : (cyS ab rr k).1[k]? with
      | none => rw [List.getElem?_eq_none_iff] at hMk; omega
      | some b =>
        have hv : (cyS ab rr k).1.getD k false = b := by simp [List.getD, hMk]
        rw [hv] at B1x
        have k3 := B1x.cell (k := 3) rfl
        cases b with
        | true =>
          have NX : Hid (Cl w1 wr B H0 (some ⟨gp, 0, none⟩) N rr bs ab bl (.slice C (cyS ab rr k).2.length cc) (k + 1)) := Lib.hid (by
            have e := cyS_yes hMk
            exact ⟨by rw [e]; exact CL.out.rm, by rw [e]; exact CL.out.own, CL.out.fr⟩)
          clear hMk hv hxk B1x ok2 OK2
          generalize (cyS ab rr k).2.length = ll at *
          go_wp2
          go_roundw
          case rel => exact ⟨k + 1, by omega, by go_num, NX.out⟩
          case measure => simp [intOf]; omega
        | false =>
          have MK := Lib.hid hMk
          have EQ := Lib.hid (cyS_no hMk)
          rw [LN.out, WID.out] at EQ
          have RMk := Lib.hid CL.out.rm
          have OWk := Lib.hid CL.out.own
          have FRk := Lib.hid CL.out.fr
          have ok3' : (cyS ab rr k).2.length ≤ 24 := by omega
          clear hMk hv hxk B1x ok2
          generalize (cyS ab rr k).2 = Lk at *
          generalize (cyS ab rr k).1 = S at *
          go_wp2_with fail
          refine (cyl_any wr B H0 N k (some ⟨gp, 0, none⟩) rr bs ab bl S xs RMk.out XK.out ok1 OK2.out MK.out INJ.out BK.out hN24 xl).mono ?_
          rintro e w5 ⟨rfl, rm5, f5⟩
          have RM5 := Lib.hid rm5
          have OW5 := Lib.hid (own_Fr OWk.out f5 BSL.out)
          have FR5 := Lib.hid (FRk.out.trans f5)
          have s5 := f5.size
          clear rm5 f5 RMk OWk FRk k3 hcp
          generalize hh : ((cnt (clos N ab S k) - cnt S : Nat) : Int) = hgt at *
          have FL : Hid (V (fl (Lk ++ [((xs.length : Int), hgt)])) = V (fl Lk) ++ [.int .i64 xs.length, .int .i64 hgt]) := Lib.hid (by rw [fl_app]; simp [V, fl])
          clear hh
          go_wp2_with (at_builtin; refine wpList_append_lies (w5.alloc (.cells #[.int .i64 xs.length, .int .i64 hgt] 34)) rfl _ _ 30 rfl w1.heap.size 34 i0 _ 2 16 Try.underlying30 hi0 hz0 hz1 hz2 rfl (by decide) _ Lk.length (V (fl Lk)) rfl (OW5.out.alloc _) ⟨w5.heap.size, 0, none⟩ 1 1 [.int .i64 xs.length, .int .i64 hgt] rfl rfl ?hn ?h1 (by decide) ?c4 ?c5 ?c6 _ rfl ?_)
          case hn => exact World.news_of_block (Arr.new w5 _ _ rfl)
          case h1 => intro q hq; simp at hq; rcases hq with rfl | rfl <;> rfl
          case c4 => unfold maxLen; omega
          case c5 => omega
          case c6 => simp; omega
          intro g7 cap7 w7 ho hg hb hlt7
          have FW : Fr N bs w1 (w5.alloc (.cells #[.int .i64 xs.length, .int .i64 hgt] 34)) := FR5.out.trans (Fr.below ((Below.refl _ _).alloc (Nat.le_refl _) _))
          have OWW := OW5.out.alloc (.cells #[.int .i64 xs.length, .int .i64 hgt] 34)
          have F7 := Lib.hid (FW.grown OWW (Nat.le_refl _) hg)
          have R7 : Hid (Rm w7 B H0 (some ⟨gp, 0, none⟩) N rr bs ab bl (clos N ab S k)) := Lib.hid (by
            have hW := RM5.out.keep ((Below.refl w5.heap.size w5).alloc (Nat.le_refl _) (.cells #[.int .i64 xs.length, .int .i64 hgt] 34))
            have lo : ∀ q, q < w1.heap.size → w7.heap[q]? = (w5.alloc (.cells #[.int .i64 xs.length, .int .i64 hgt] 34)).heap[q]? := fun q hq => hg.block q (by have := hW; simp; omega) (fun e => by have := (OWW.lt q e.symm).1; omega)
            exact hW.lows lo hg.size (fun q e => PTR.out q e) BSL.out HH0.out)
          have NX : Hid (Cl w1 w7 B H0 (some ⟨gp, 0, none⟩) N rr bs ab bl (.slice (some ⟨g7, 0, none⟩) (Lk.length + 1) cap7) (k + 1)) := Lib.hid ⟨by rw [EQ.out]; exact R7.out, by rw [EQ.out, FL.out]; simpa using ho, F7.out⟩
          clear ho hg hb FW OWW RM5 OW5 FR5 EQ R7 F7
          go_wp2
          go_roundw
          case rel => exact ⟨k + 1, by omega, by go_num, NX.out⟩
          case measure => simp [intOf]; omega
    · obtain rfl : N = k := by omega
      have HE : Hid (L = (cyS ab rr N).2) := Lib.hid (by rw [← HLL.out, cyL, LN.out])
      have OW := Lib.hid CL.out.own
      have BF : Hid (Below w.heap.size w wr) := Lib.hid ⟨CL.out.fr.os.trans B1.out.os, CL.out.fr.tape.trans B1.out.tape, CL.out.fr.output.trans B1.out.output, Nat.le_trans B1.out.size hsz, fun q hq => (CL.out.fr.block q (by have := B1.out.size; omega) (fun i hi e => by have := BSG.out i hi; omega)).trans (B1.out.block q hq)⟩
      clear CL HLL OK
      rw [← HE.out] at OW ⊢
      clear HE
      go_wp2
      go_ret
      exact ⟨C, cc, rfl, (Crow.of_own' rfl OW.out).low B1.out.size, BF.out⟩

/-- What CylindersOf answers. -/
def CYPost (r u : List Int) (w : World) (e : Ending) (w' : World) : Prop := ∃ A c, e = .returned (.tuple #[.slice A (cyF r u).length c, .bool (transB r u)]) ∧ Crow w' w.heap.size w'.heap.size A (cyF r u).length (cyF r u) ∧ Below w.heap.size w w'
theorem cy_no {r u : List Int} {w w' : World} (h : transB r u = false) (hb : Below w.heap.size w w') : CYPost r u w (.returned (.tuple #[.slice none 0 0, .bool false])) w' := by
  refine ⟨none, 0, by rw [h, cyF_no h]; rfl, ?_, hb⟩
  rw [cyF_no h]
  exact ⟨rfl, rfl, Nat.le_refl _, fun q => absurd q (by simp)⟩
set_option maxHeartbeats 2000000 in
theorem cyo_impl (v : Value) (r u : List Int) (hi : Nat) (w : World) (hx : Srd w hi v r u) (hn : r.length ≤ 1048576) (hm : u.length ≤ 1048576) :
    Calls Try.prog 9 #[v] w (CYPost r u w) := by
  have HX := Lib.hid hx; clear hx
  obtain ⟨P, n, c, Q, m, d, rfl, q1, q2, e1, e2, ht, HR⟩ := HX.out.open
  have L1 := Lib.hid q1
  clear HR q1 q2
  go_enter Try.func9, Try.ntmps9
  go_wp2_with fail
  refine (gluingOf_any _ r u hi _ (HX.out.keep ((Below.refl hi w).alloc ht _) (Nat.le_refl _)) hn hm).mono ?_
  rintro e w1 ⟨rfl, b1⟩
  have B1 := Lib.hid (below1 _ _ b1); clear b1
  cases hq : transB r u
  · have HF := Lib.hid hq; clear hq
    go_wp2_with (refine wpList_store_row rfl 62 _ _ rfl w1.heap.size (V (glv r u)).toArray rfl rfl 62 (V zero49).toArray (Arr.new w1 (V zero49) _ rfl) (size49 (glv_len _ _)) (by simp [V_len, glv_len, zero49]) (one_V _) ?_; generalize hw_ : (w1.alloc (.cells #[.int .i64 0, .int .i64 0, .int .i64 0, .int .i64 0, .int .i64 0, .int .i64 0, .int .i64 0, .int .i64 0, .int .i64 0, .int .i64 0, .int .i64 0, .int .i64 0, .int .i64 0, .int .i64 0, .int .i64 0, .int .i64 0, .int .i64 0, .int .i64 0, .int .i64 0, .int .i64 0, .int .i64 0, .int .i64 0, .int .i64 0, .int .i64 0, .int .i64 0, .int .i64 0, .int .i64 0, .int .i64 0, .int .i64 0, .int .i64 0, .int .i64 0, .int .i64 0, .int .i64 0, .int .i64 0, .int .i64 0, .int .i64 0, .int .i64 0, .int .i64 0, .int .i64 0, .int .i64 0, .int .i64 0, .int .i64 0, .int .i64 0, .int .i64 0, .int .i64 0, .int .i64 0, .int .i64 0, .int .i64 0, .int .i64 0] 62)).setRow w1.heap.size (V (glv r u)).toArray = w2; have A2 : Hid (Arr w2 w1.heap.size (V (glv r u)) 62) := Lib.hid (by rw [← hw_]; exact (Arr.new w1 (V zero49) _ rfl).row); have b1 : Below w1.heap.size w1 w2 := (by rw [← hw_]; exact arr.below_setRow ((Below.refl _ _).alloc (Nat.le_refl _) _) (Nat.le_refl _) _); have t_ : w1.heap.size + 1 ≤ w2.heap.size := (by rw [← hw_]; simp); clear hw_; replace B1 := Lib.hid (B1.out.trans (b1.mono B1.out.size)); clear b1)
    go_ret2
    exact cy_no HF.out B1.out
  · have HS : Hid (Sf n r u) := Lib.hid (by have := transB_iff.1 hq; rwa [L1.out] at this)
    have HF : Hid (cyL (abF (comm r u) u (cycF r)) (cycF r) = cyF r u ∧ transB r u = true) := Lib.hid ⟨(cyF_yes hq).symm, hq⟩
    have HG : Hid (glv r u = gl (ext r) (ext u) n) := Lib.hid (by rw [glv_yes hq, L1.out])
    clear hq
    rw [HG.out]
    go_wp2_with (first | (refine wpList_store_row rfl 62 _ _ rfl w1.heap.size (V (gl (ext r) (ext u) n)).toArray rfl rfl 62 (V zero49).toArray (Arr.new w1 (V zero49) _ rfl) (size49 (gl_len (ext_len _) (ext_len _) n)) (by simp [V_len, gl_len, ext_len, zero49]) (one_V _) ?_; generalize hw_ : (w1.alloc (.cells #[.int .i64 0, .int .i64 0, .int .i64 0, .int .i64 0, .int .i64 0, .int .i64 0, .int .i64 0, .int .i64 0, .int .i64 0, .int .i64 0, .int .i64 0, .int .i64 0, .int .i64 0, .int .i64 0, .int .i64 0, .int .i64 0, .int .i64 0, .int .i64 0, .int .i64 0, .int .i64 0, .int .i64 0, .int .i64 0, .int .i64 0, .int .i64 0, .int .i64 0, .int .i64 0, .int .i64 0, .int .i64 0, .int .i64 0, .int .i64 0, .int .i64 0, .int .i64 0, .int .i64 0, .int .i64 0, .int .i64 0, .int .i64 0, .int .i64 0, .int .i64 0, .int .i64 0, .int .i64 0, .int .i64 0, .int .i64 0, .int .i64 0, .int .i64 0, .int .i64 0, .int .i64 0, .int .i64 0, .int .i64 0, .int .i64 0] 62)).setRow w1.heap.size (V (gl (ext r) (ext u) n)).toArray = w2; have A2 : Hid (Arr w2 w1.heap.size (V (gl (ext r) (ext u) n)) 62) := Lib.hid (by rw [← hw_]; exact (Arr.new w1 (V zero49) _ rfl).row); have b1 : Below w1.heap.size w1 w2 := (by rw [← hw_]; exact arr.below_setRow ((Below.refl _ _).alloc (Nat.le_refl _) _) (Nat.le_refl _) _); have t_ : w1.heap.size + 1 ≤ w2.heap.size := (by rw [← hw_]; simp); clear hw_; replace B1 := Lib.hid (B1.out.trans (b1.mono B1.out.size)); clear b1) | (refine wpList_load_row rfl 62 _ rfl w1.heap.size rfl 62 (V (gl (ext r) (ext u) n)).toArray (0, 0) _ A2.out Try.underlying62 rfl (size49 (gl_len (ext_len _) (ext_len _) n)) ?_))
    refine (cys_any r u n _ HS.out).mono ?_
    rw [HF.out.1]
    rintro e w4 ⟨C, cc, rfl, o4, b4⟩
    have O4 := Lib.hid (o4.low B1.out.size)
    have B4 := Lib.hid (B1.out.trans (b4.mono B1.out.size))
    have HT := Lib.hid HF.out.2
    clear o4 b4 HF
    generalize hL : cyF r u = L at *
    go_wp2_with fail
    go_ret2
    refine ⟨C, cc, by (rw [HT.out, hL] <;> rfl), ?_, B4.out⟩
    rw [hL]; exact O4.out
end Go.Proofs.Ytngglhbcpeigcaa.cy
