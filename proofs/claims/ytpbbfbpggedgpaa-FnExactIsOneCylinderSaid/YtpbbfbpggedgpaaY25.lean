import Derived.Test.YtpbbfbpggedgpaaY24
/-
  (*row).cylinder.
-/
namespace Go.Proofs.Ytpbbfbpggedgpaa.cy
open Go.ChangeShapes Go.WideShapes Go.ChangeAt Go.RowKit
open Go.Proofs.Ytpbbfbpggedgpaa.mem Go.Proofs.Ytpbbfbpggedgpaa.ints Go.Proofs.Ytpbbfbpggedgpaa.arr Go.Proofs.Ytpbbfbpggedgpaa.pm Go.Proofs.Ytpbbfbpggedgpaa.sf Go.Proofs.Ytpbbfbpggedgpaa.mat Go.Proofs.Ytpbbfbpggedgpaa.gl Go.Proofs.Ytpbbfbpggedgpaa.lp
set_option linter.unusedVariables false
set_option maxRecDepth 100000

/-- All blocks but the rows' boxes are as they were. -/
structure Fr (N : Nat) (bs : Nat → Nat) (w w' : World) : Prop where
  os : w'.os = w.os
  tape : w'.tape = w.tape
  output : w'.output = w.output
  size : w.heap.size ≤ w'.heap.size
  block : ∀ k, k < w.heap.size → (∀ i, i < N → k ≠ bs i) → w'.heap[k]? = w.heap[k]?
theorem Fr.below {N : Nat} {bs : Nat → Nat} {w w' : World} (h : Below w.heap.size w w') : Fr N bs w w' := ⟨h.os, h.tape, h.output, h.size, fun k hk _ => h.block k hk⟩
theorem Fr.trans {N : Nat} {bs : Nat → Nat} {a b c : World} (h : Fr N bs a b) (k : Fr N bs b c) : Fr N bs a c :=
  ⟨k.os.trans h.os, k.tape.trans h.tape, k.output.trans h.output, Nat.le_trans h.size k.size, fun q h1 h2 => (k.block q (Nat.lt_of_lt_of_le h1 h.size) h2).trans (h.block q h1 h2)⟩
theorem Fr.set_ {N : Nat} {bs : Nat → Nat} {w w' : World} (h : Fr N bs w w') {m : Nat} (hm : m < N) (off : Nat) (v : Value) : Fr N bs w (w'.setCell ⟨bs m, off, none⟩ v) :=
  ⟨h.os, h.tape, h.output, by simpa [World.setCell] using h.size, fun k h1 h2 => (Below.heap_setCell _ _ _ _ (by intro e; exact h2 m hm e)).trans (h.block k h1 h2)⟩
theorem Fr.new_ {N : Nat} {bs : Nat → Nat} {w w' : World} (h : Fr N bs w w') {g : Nat} (hg : w.heap.size ≤ g) (off : Nat) (v : Value) : Fr N bs w (w'.setCell ⟨g, off, none⟩ v) :=
  ⟨h.os, h.tape, h.output, by simpa [World.setCell] using h.size, fun k h1 h2 => (Below.heap_setCell _ _ _ _ (by intro e; have e2 : k = g := e; omega)).trans (h.block k h1 h2)⟩
theorem Rm.other {w : World} {B H0 N g : Nat} {A : Option Addr} {rr : List (List Int)} {bs : Nat → Nat} {ab bl : List Int} {M : List Bool} (h : Rm w B H0 A N rr bs ab bl M) (h1 : ∀ i, i < N → bs i ≠ g) (h2 : H0 ≤ g) (h3 : ∀ q, A = some ⟨q, 0, none⟩ → q ≠ g) (off : Nat) (v : Value) : Rm (w.setCell ⟨g, off, none⟩ v) B H0 A N rr bs ab bl M := by
  refine ⟨fun hN => ?_, fun i xs hx => ?_, h.ge, h.inj, h.len, h.low⟩
  · obtain ⟨q, e, q0, q1, q2, q3⟩ := h.ptr hN
    refine ⟨q, e, q0, by simpa [World.setCell] using q1, q2, fun i hi => ?_⟩
    rw [World.cell?_setCell_other w _ _ _ (by intro e2; injection e2 with e3; exact h3 q e e3.symm)]
    exact q3 i hi
  · obtain ⟨P, c, q1, q2⟩ := h.box i xs hx
    exact ⟨P, c, q1.other (h1 i (by have := (List.getElem?_eq_some_iff.1 hx).1; have := h.len; omega)) v, q2.keep ((Below.refl H0 w).setCell h2 v) (Nat.le_refl _)⟩
/-- A world in which the low blocks are as they were. -/
theorem Rm.lows {w w' : World} {B H0 N top : Nat} {A : Option Addr} {rr : List (List Int)} {bs : Nat → Nat} {ab bl : List Int} {M : List Bool} (h : Rm w B H0 A N rr bs ab bl M) (hl : ∀ q, q < top → w'.heap[q]? = w.heap[q]?) (hs : w.heap.size ≤ w'.heap.size) (ha : ∀ q, A = some ⟨q, 0, none⟩ → q < top) (hb : ∀ i, i < N → bs i < top) (hH : H0 ≤ top) : Rm w' B H0 A N rr bs ab bl M := by
  refine ⟨fun hN => ?_, fun i xs hx => ?_, h.ge, h.inj, h.len, h.low⟩
  · obtain ⟨q, e, q0, q1, q2, q3⟩ := h.ptr hN
    refine ⟨q, e, q0, by omega, q2, fun i hi => ?_⟩
    rw [World.cell?_of_block (w := w) (a := ⟨q, i, none⟩) (hl q (ha q e))]
    exact q3 i hi
  · obtain ⟨P, c, q1, q2⟩ := h.box i xs hx
    have hi : i < N := by have := (List.getElem?_eq_some_iff.1 hx).1; have := h.len; omega
    exact ⟨P, c, (hl _ (hb i hi)).trans q1, Row.lows q2 hs (fun k hk => hl k (by omega))⟩
/-- Amid the walk over a cylinder. -/
structure Cw (w wr : World) (B H0 : Nat) (A : Option Addr) (N : Nat) (rr : List (List Int)) (bs : Nat → Nat) (ab bl : List Int) (S M : List Bool) (l h : Nat) : Prop where
  rm : Rm wr B H0 A N rr bs ab bl M
  box : Arr wr (w.heap.size + 1) [.int .i64 l, .int .i64 h] 64
  res : Arr wr w.heap.size [.int .i64 0, .int .i64 0] 64
  cnt : h + cnt S = cnt M
  fr : Fr N bs w wr
  far : ∀ i, i < N → bs i < w.heap.size
  frA : ∀ q, A = some ⟨q, 0, none⟩ → q < w.heap.size
  frH : H0 ≤ w.heap.size
theorem Cw.mark {w wr : World} {B H0 N l h c : Nat} {A : Option Addr} {rr : List (List Int)} {bs : Nat → Nat} {ab bl : List Int} {S M : List Bool} (k : Cw w wr B H0 A N rr bs ab bl S M l h) (hc : c < N) (hM : M.length = N) (hf : M[c]? = some false) :
    (∃ P q m, Arr wr (bs c) (rowC P q m (ptrV bs (at_ ab c)) (ptrV bs (at_ bl c)) false) 97) ∧
    Arr (wr.setCell ⟨bs c, 3, none⟩ (.bool true)) (w.heap.size + 1) [.int .i64 l, .int .i64 h] 64 ∧
    (∃ P q m, Arr ((wr.setCell ⟨bs c, 3, none⟩ (.bool true)).setCell ⟨w.heap.size + 1, 1, none⟩ (.int .i64 ((h : Int) + 1))) (bs c) (rowC P q m (ptrV bs (at_ ab c)) (ptrV bs (at_ bl c)) true) 97) ∧
    Cw w ((wr.setCell ⟨bs c, 3, none⟩ (.bool true)).setCell ⟨w.heap.size + 1, 1, none⟩ (.int .i64 ((h : Int) + 1))) B H0 A N rr bs ab bl S (M.set c true) l (h + 1) := by
  have eh : ((h : Int) + 1) = ((h + 1 : Nat) : Int) := by omega
  rw [eh]
  have hb := k.far c hc
  obtain ⟨xs, hx⟩ : ∃ xs, rr[c]? = some xs := ⟨_, List.getElem?_eq_getElem (by have := k.rm.len; omega)⟩
  obtain ⟨P, q, b1, _⟩ := k.rm.box c xs hx
  have hv : M.getD c false = false := by simp [List.getD, hf]
  rw [hv] at b1
  have m1 := k.rm.mark hc hM
  have m2 := m1.other (g := w.heap.size + 1) (fun i hi => by have := k.far i hi; omega) (by have := k.frH; omega) (fun q e => by have := k.frA q e; omega) 1 (.int .i64 ((h + 1 : Nat) : Int))
  obtain ⟨P2, q2, b2, _⟩ := m2.box c xs hx
  have hv2 : (M.set c true).getD c false = true := by simp [List.getD, hM, hc]
  rw [hv2] at b2
  have e1 : Arr (wr.setCell ⟨bs c, 3, none⟩ (.bool true)) (w.heap.size + 1) [.int .i64 l, .int .i64 h] 64 := k.box.other (by omega) _
  refine ⟨⟨P, _, q, b1⟩, e1, ⟨P2, _, q2, b2⟩, m2, ?_, ?_, by rw [cnt_set hf]; have := k.cnt; omega, (k.fr.set_ hc 3 _).new_ (by omega) 1 _, k.far, k.frA, k.frH⟩
  · exact e1.set_ 1 _
  · exact (k.res.other (by omega) _).other (by omega) _

theorem ptrV_nat (bs : Nat → Nat) {z : Int} {c : Nat} (h : z = c) : ptrV bs z = .pointer (some ⟨bs c, 0, none⟩) := by rw [h, ptrV_yes]
def hOf (E : Nat) (w : World) : Nat := (intOf ((w.cell? ⟨E, 1, none⟩).getD undef)).toNat
theorem hOf_at {E l h : Nat} {w : World} (k : Arr w E [.int .i64 l, .int .i64 h] 64) : hOf E w = h := by
  have := k.cell (k := 1) rfl
  simp [hOf, this, intOf]

set_option maxHeartbeats 4000000 in
theorem cyl_any (w : World) (B H0 N r : Nat) (A : Option Addr) (rr : List (List Int)) (bs : Nat → Nat) (ab bl : List Int) (S : List Bool) (xs : List Int) (hm : Rm w B H0 A N rr bs ab bl S) (hr : rr[r]? = some xs) (hS : S.length = N) (hc : Closed N ab (on S)) (hf : S[r]? = some false)
    (hi : Inj N ab) (hb : Back N ab bl) (hN : N ≤ 24) (hx : xs.length ≤ 24) :
    Calls Try.prog 75 #[.pointer (some ⟨bs r, 0, none⟩)] w fun e w' => e = .returned (.agg #[.int .i64 xs.length, .int .i64 ((cnt (clos N ab S r) - cnt S : Nat) : Int)]) ∧ Rm w' B H0 A N rr bs ab bl (clos N ab S r) ∧ Fr N bs w w' := by
  have hrN : r < N := by have := (List.getElem?_eq_some_iff.1 hf).1; omega
  have RM := Lib.hid hm
  obtain ⟨P, c, hbox, hrow⟩ := hm.box r xs hr
  have FAR : Hid (∀ i, i < N → bs i < w.heap.size) := Lib.hid (fun i hi => hm.lt hi)
  have FRA : Hid (∀ q, A = some ⟨q, 0, none⟩ → q < w.heap.size) := Lib.hid (fun q e => by
    obtain ⟨g, e2, _, h2, _⟩ := hm.ptr (by omega)
    rw [e2] at e; injection e with e; injection e with e; omega)
  have FRH : Hid (H0 ≤ w.heap.size) := Lib.hid hrow.2.1
  have US := Lib.hid (Up.start hS hrN hc)
  have HI := Lib.hid hi; have HB := Lib.hid hb; have HC := Lib.hid hc
  have PR : Hid (∀ k : Nat, ptrV bs (k : Int) = .pointer (some ⟨bs k, 0, none⟩)) := Lib.hid (fun k => ptrV_yes bs k)
  have c0 := (hbox.alloc (.cells #[.int .i64 0, .int .i64 0] 64)).cell (k := 0) rfl
  have CW0 : Hid (∀ W, W = ((w.alloc (.cells #[.int .i64 0, .int .i64 0] 64)).alloc (.cells #[.int .i64 xs.length, .int .i64 0] 64)) → Cw w W B H0 A N rr bs ab bl S S xs.length 0) := Lib.hid (fun W e => by
    have b0 : Below w.heap.size w W := by rw [e]; exact ((Below.refl _ _).alloc (Nat.le_refl _) _).alloc (by simp) _
    refine ⟨RM.out.keep b0, by rw [e]; exact Arr.new _ _ _ (by simp), by rw [e]; exact (Arr.new w _ _ rfl).alloc _, by omega, Fr.below b0, FAR.out, FRA.out, FRH.out⟩)
  have XR := Lib.hid hr
  clear hm hbox hrow hi hb hc hf hr
  go_enter Try.func75, Try.ntmps75
  go_wp2
  go_loopw [4] (fun x wr => ∃ (M : List Bool) (cur : Int) (h : Nat), x = ptrV bs cur ∧ Cw w wr B H0 A N rr bs ab bl S M xs.length h ∧ Up N ab S r M cur) (fun x wr => N - hOf (w.heap.size + 1) wr)
  case atStart => exact ⟨S, r, 0, (PR.out r).symm, CW0.out _ rfl, US.out⟩
  case round =>
    obtain ⟨M, cur, h, rfl, hcw, hup⟩ := hrel
    have CW := Lib.hid hcw; have UP := Lib.hid hup; clear hcw hup
    have mm := hOf_at CW.out.box
    have hle : h ≤ N := by have := CW.out.cnt; have := cnt_le M; have := UP.out.len; omega
    by_cases hneg : cur < 0
    · have PN : ptrV bs cur = .pointer none := ptrV_no hneg
      rw [PN]
      have DN := Lib.hid (UP.out.done (.inl hneg))
      clear hneg PN mm
      obtain ⟨P9, c9, B9, _⟩ := CW.out.rm.box r xs XR.out
      have r2 := B9.cell (k := 2) rfl
      have WD := Lib.hid (DN.out.dw HI.out HB.out HC.out hrN)
      clear B9 UP DN
      go_wp2
      clear r2
      go_loopw [5] (fun x wr => ∃ (M : List Bool) (cur : Int) (h : Nat), x = ptrV bs cur ∧ Cw w wr B H0 A N rr bs ab bl S M xs.length h ∧ Dw N ab S r M cur) (fun x wr => N - hOf (w.heap.size + 1) wr)
      case atStart => exact ⟨M, _, h, rfl, CW.out, WD.out⟩
      case round =>
        obtain ⟨M, cur, h, rfl, hcw, hup⟩ := hrel
        have CW := Lib.hid hcw; have UP := Lib.hid hup; clear hcw hup
        have mm := hOf_at CW.out.box
        have hle : h ≤ N := by have := CW.out.cnt; have := cnt_le M; have := UP.out.len; omega
        by_cases hneg : cur < 0
        · have PN : ptrV bs cur = .pointer none := ptrV_no hneg
          rw [PN]
          have DN := Lib.hid (UP.out.done (.inl hneg))
          clear hneg PN mm
          have b0 := CW.out.box
          have e0 : Arr wr (w.heap.size + 1) [.int .i64 xs.length, .int .i64 h] 64 := b0
          have d0 := CW.out.res
          have HE : Hid (M = clos N ab S r) := DN
          have HH : Hid (h = cnt M - cnt S) := Lib.hid (by have := CW.out.cnt; omega)
          have FIN := Lib.hid ((CW.out.rm.other (g := w.heap.size) (fun i hi => by have := CW.out.far i hi; omega) CW.out.frH (fun q e => by have := CW.out.frA q e; omega) 0 (.int .i64 xs.length)).other (g := w.heap.size) (fun i hi => by have := CW.out.far i hi; omega) CW.out.frH (fun q e => by have := CW.out.frA q e; omega) 1 (.int .i64 h))
          have FRI := Lib.hid ((CW.out.fr.new_ (Nat.le_refl w.heap.size) 0 (.int .i64 xs.length)).new_ (Nat.le_refl w.heap.size) 1 (.int .i64 h))
          have g0 := d0.cell (k := 0) rfl
          have g1 := d0.cell (k := 1) rfl
          have h0 := e0.cell (k := 0) rfl
          have h1 := e0.cell (k := 1) rfl
          have fg0 := d0.frozen 0
          have NN : Hid (Arr ((wr.setCell ⟨w.heap.size, 0, none⟩ (.int .i64 xs.length)).setCell ⟨w.heap.size, 1, none⟩ (.int .i64 h)) w.heap.size [.int .i64 xs.length, .int .i64 h] 64) := Lib.hid ((d0.set_ 0 (.int .i64 xs.length)).set_ 1 (.int .i64 h))
          have i1 := (d0.set_ 0 (.int .i64 xs.length)).cell (k := 1) rfl
          have fi1 := (d0.set_ 0 (.int .i64 xs.length)).frozen 1
          clear b0 e0 d0 CW UP DN
          go_wp2
          exact bodyPost_ret (v := .agg #[.int .i64 xs.length, .int .i64 h]) (results_cell_row rfl _ _ w.heap.size 64 #[.int .i64 xs.length, .int .i64 h] (0, 0) _ rfl NN.out Try.underlying64 rfl (sizeCy _ _)) rfl ⟨by rw [HH.out, ← HE.out], by rw [← HE.out]; exact FIN.out, FRI.out⟩
        · obtain ⟨k, rfl⟩ : ∃ k : Nat, cur = k := ⟨cur.toNat, by omega⟩
          have hkN : k < N := by have := UP.out.hi; omega
          rw [PR.out]
          cases hMk : M[k]? with
          | none => have := UP.out.len; rw [List.getElem?_eq_none_iff] at hMk; omega
          | some b =>
            obtain ⟨ys, hy⟩ : ∃ ys, rr[k]? = some ys := ⟨_, List.getElem?_eq_getElem (by have := CW.out.rm.len; omega)⟩
            obtain ⟨P1, c1, B1, _⟩ := CW.out.rm.box k ys hy
            have hv : M.getD k false = b := by simp [List.getD, hMk]
            rw [hv] at B1
            have k3 := B1.cell (k := 3) rfl
            cases b with
            | true =>
              have DN := Lib.hid (UP.out.done (.inr ⟨k, rfl, hMk⟩))
              clear hMk hv hy mm B1
              have b0 := CW.out.box
              have e0 : Arr wr (w.heap.size + 1) [.int .i64 xs.length, .int .i64 h] 64 := b0
              have d0 := CW.out.res
              have HE : Hid (M = clos N ab S r) := DN
              have HH : Hid (h = cnt M - cnt S) := Lib.hid (by have := CW.out.cnt; omega)
              have FIN := Lib.hid ((CW.out.rm.other (g := w.heap.size) (fun i hi => by have := CW.out.far i hi; omega) CW.out.frH (fun q e => by have := CW.out.frA q e; omega) 0 (.int .i64 xs.length)).other (g := w.heap.size) (fun i hi => by have := CW.out.far i hi; omega) CW.out.frH (fun q e => by have := CW.out.frA q e; omega) 1 (.int .i64 h))
              have FRI := Lib.hid ((CW.out.fr.new_ (Nat.le_refl w.heap.size) 0 (.int .i64 xs.length)).new_ (Nat.le_refl w.heap.size) 1 (.int .i64 h))
              have g0 := d0.cell (k := 0) rfl
              have g1 := d0.cell (k := 1) rfl
              have h0 := e0.cell (k := 0) rfl
              have h1 := e0.cell (k := 1) rfl
              have fg0 := d0.frozen 0
              have NN : Hid (Arr ((wr.setCell ⟨w.heap.size, 0, none⟩ (.int .i64 xs.length)).setCell ⟨w.heap.size, 1, none⟩ (.int .i64 h)) w.heap.size [.int .i64 xs.length, .int .i64 h] 64) := Lib.hid ((d0.set_ 0 (.int .i64 xs.length)).set_ 1 (.int .i64 h))
              have i1 := (d0.set_ 0 (.int .i64 xs.length)).cell (k := 1) rfl
              have fi1 := (d0.set_ 0 (.int .i64 xs.length)).frozen 1
              clear b0 e0 d0 CW UP DN
              go_wp2
              exact bodyPost_ret (v := .agg #[.int .i64 xs.length, .int .i64 h]) (results_cell_row rfl _ _ w.heap.size 64 #[.int .i64 xs.length, .int .i64 h] (0, 0) _ rfl NN.out Try.underlying64 rfl (sizeCy _ _)) rfl ⟨by rw [HH.out, ← HE.out], by rw [← HE.out]; exact FIN.out, FRI.out⟩
            | false =>
              obtain ⟨m1, m2, m3, m4⟩ := CW.out.mark hkN UP.out.len hMk
              obtain ⟨Q3, q3, p3, B3⟩ := m3
              have f3 := B1.frozen 3
              have e1 := m2.cell (k := 1) rfl
              have fe1 := m2.frozen 1
              have l1 := B3.cell (k := 2) rfl
              have NC := Lib.hid m4
              have NU := Lib.hid (UP.out.step HB.out hMk)
              have ME := hOf_at m4.box
              clear hMk hv hy m1 m2 m4 B1 B3 hneg
              go_wp2
              go_roundw
              case rel => exact ⟨M.set k true, at_ bl k, h + 1, rfl, NC.out, NU.out⟩
              case measure => rw [ME, mm]; have := NC.out.cnt; have := cnt_le (M.set k true); have := NU.out.len; omega
    · obtain ⟨k, rfl⟩ : ∃ k : Nat, cur = k := ⟨cur.toNat, by omega⟩
      have hkN : k < N := by have := UP.out.hi; omega
      rw [PR.out]
      cases hMk : M[k]? with
      | none => have := UP.out.len; rw [List.getElem?_eq_none_iff] at hMk; omega
      | some b =>
        obtain ⟨ys, hy⟩ : ∃ ys, rr[k]? = some ys := ⟨_, List.getElem?_eq_getElem (by have := CW.out.rm.len; omega)⟩
        obtain ⟨P1, c1, B1, _⟩ := CW.out.rm.box k ys hy
        have hv : M.getD k false = b := by simp [List.getD, hMk]
        rw [hv] at B1
        have k3 := B1.cell (k := 3) rfl
        cases b with
        | true =>
          have DN := Lib.hid (UP.out.done (.inr ⟨k, rfl, hMk⟩))
          clear hMk hv hy mm B1
          obtain ⟨P9, c9, B9, _⟩ := CW.out.rm.box r xs XR.out
          have r2 := B9.cell (k := 2) rfl
          have WD := Lib.hid (DN.out.dw HI.out HB.out HC.out hrN)
          clear B9 UP DN
          go_wp2
          clear r2
          go_loopw [5] (fun x wr => ∃ (M : List Bool) (cur : Int) (h : Nat), x = ptrV bs cur ∧ Cw w wr B H0 A N rr bs ab bl S M xs.length h ∧ Dw N ab S r M cur) (fun x wr => N - hOf (w.heap.size + 1) wr)
          case atStart => exact ⟨M, _, h, rfl, CW.out, WD.out⟩
          case round =>
            obtain ⟨M, cur, h, rfl, hcw, hup⟩ := hrel
            have CW := Lib.hid hcw; have UP := Lib.hid hup; clear hcw hup
            have mm := hOf_at CW.out.box
            have hle : h ≤ N := by have := CW.out.cnt; have := cnt_le M; have := UP.out.len; omega
            by_cases hneg : cur < 0
            · have PN : ptrV bs cur = .pointer none := ptrV_no hneg
              rw [PN]
              have DN := Lib.hid (UP.out.done (.inl hneg))
              clear hneg PN mm
              have b0 := CW.out.box
              have e0 : Arr wr (w.heap.size + 1) [.int .i64 xs.length, .int .i64 h] 64 := b0
              have d0 := CW.out.res
              have HE : Hid (M = clos N ab S r) := DN
              have HH : Hid (h = cnt M - cnt S) := Lib.hid (by have := CW.out.cnt; omega)
              have FIN := Lib.hid ((CW.out.rm.other (g := w.heap.size) (fun i hi => by have := CW.out.far i hi; omega) CW.out.frH (fun q e => by have := CW.out.frA q e; omega) 0 (.int .i64 xs.length)).other (g := w.heap.size) (fun i hi => by have := CW.out.far i hi; omega) CW.out.frH (fun q e => by have := CW.out.frA q e; omega) 1 (.int .i64 h))
              have FRI := Lib.hid ((CW.out.fr.new_ (Nat.le_refl w.heap.size) 0 (.int .i64 xs.length)).new_ (Nat.le_refl w.heap.size) 1 (.int .i64 h))
              have g0 := d0.cell (k := 0) rfl
              have g1 := d0.cell (k := 1) rfl
              have h0 := e0.cell (k := 0) rfl
              have h1 := e0.cell (k := 1) rfl
              have fg0 := d0.frozen 0
              have NN : Hid (Arr ((wr.setCell ⟨w.heap.size, 0, none⟩ (.int .i64 xs.length)).setCell ⟨w.heap.size, 1, none⟩ (.int .i64 h)) w.heap.size [.int .i64 xs.length, .int .i64 h] 64) := Lib.hid ((d0.set_ 0 (.int .i64 xs.length)).set_ 1 (.int .i64 h))
              have i1 := (d0.set_ 0 (.int .i64 xs.length)).cell (k := 1) rfl
              have fi1 := (d0.set_ 0 (.int .i64 xs.length)).frozen 1
              clear b0 e0 d0 CW UP DN
              go_wp2
              exact bodyPost_ret (v := .agg #[.int .i64 xs.length, .int .i64 h]) (results_cell_row rfl _ _ w.heap.size 64 #[.int .i64 xs.length, .int .i64 h] (0, 0) _ rfl NN.out Try.underlying64 rfl (sizeCy _ _)) rfl ⟨by rw [HH.out, ← HE.out], by rw [← HE.out]; exact FIN.out, FRI.out⟩
            · obtain ⟨k, rfl⟩ : ∃ k : Nat, cur = k := ⟨cur.toNat, by omega⟩
              have hkN : k < N := by have := UP.out.hi; omega
              rw [PR.out]
              cases hMk : M[k]? with
              | none => have := UP.out.len; rw [List.getElem?_eq_none_iff] at hMk; omega
              | some b =>
                obtain ⟨ys, hy⟩ : ∃ ys, rr[k]? = some ys := ⟨_, List.getElem?_eq_getElem (by have := CW.out.rm.len; omega)⟩
                obtain ⟨P1, c1, B1, _⟩ := CW.out.rm.box k ys hy
                have hv : M.getD k false = b := by simp [List.getD, hMk]
                rw [hv] at B1
                have k3 := B1.cell (k := 3) rfl
                cases b with
                | true =>
                  have DN := Lib.hid (UP.out.done (.inr ⟨k, rfl, hMk⟩))
                  clear hMk hv hy mm B1
                  have b0 := CW.out.box
                  have e0 : Arr wr (w.heap.size + 1) [.int .i64 xs.length, .int .i64 h] 64 := b0
                  have d0 := CW.out.res
                  have HE : Hid (M = clos N ab S r) := DN
                  have HH : Hid (h = cnt M - cnt S) := Lib.hid (by have := CW.out.cnt; omega)
                  have FIN := Lib.hid ((CW.out.rm.other (g := w.heap.size) (fun i hi => by have := CW.out.far i hi; omega) CW.out.frH (fun q e => by have := CW.out.frA q e; omega) 0 (.int .i64 xs.length)).other (g := w.heap.size) (fun i hi => by have := CW.out.far i hi; omega) CW.out.frH (fun q e => by have := CW.out.frA q e; omega) 1 (.int .i64 h))
                  have FRI := Lib.hid ((CW.out.fr.new_ (Nat.le_refl w.heap.size) 0 (.int .i64 xs.length)).new_ (Nat.le_refl w.heap.size) 1 (.int .i64 h))
                  have g0 := d0.cell (k := 0) rfl
                  have g1 := d0.cell (k := 1) rfl
                  have h0 := e0.cell (k := 0) rfl
                  have h1 := e0.cell (k := 1) rfl
                  have fg0 := d0.frozen 0
                  have NN : Hid (Arr ((wr.setCell ⟨w.heap.size, 0, none⟩ (.int .i64 xs.length)).setCell ⟨w.heap.size, 1, none⟩ (.int .i64 h)) w.heap.size [.int .i64 xs.length, .int .i64 h] 64) := Lib.hid ((d0.set_ 0 (.int .i64 xs.length)).set_ 1 (.int .i64 h))
                  have i1 := (d0.set_ 0 (.int .i64 xs.length)).cell (k := 1) rfl
                  have fi1 := (d0.set_ 0 (.int .i64 xs.length)).frozen 1
                  clear b0 e0 d0 CW UP DN
                  go_wp2
                  exact bodyPost_ret (v := .agg #[.int .i64 xs.length, .int .i64 h]) (results_cell_row rfl _ _ w.heap.size 64 #[.int .i64 xs.length, .int .i64 h] (0, 0) _ rfl NN.out Try.underlying64 rfl (sizeCy _ _)) rfl ⟨by rw [HH.out, ← HE.out], by rw [← HE.out]; exact FIN.out, FRI.out⟩
                | false =>
                  obtain ⟨m1, m2, m3, m4⟩ := CW.out.mark hkN UP.out.len hMk
                  obtain ⟨Q3, q3, p3, B3⟩ := m3
                  have f3 := B1.frozen 3
                  have e1 := m2.cell (k := 1) rfl
                  have fe1 := m2.frozen 1
                  have l1 := B3.cell (k := 2) rfl
                  have NC := Lib.hid m4
                  have NU := Lib.hid (UP.out.step HB.out hMk)
                  have ME := hOf_at m4.box
                  clear hMk hv hy m1 m2 m4 B1 B3 hneg
                  go_wp2
                  go_roundw
                  case rel => exact ⟨M.set k true, at_ bl k, h + 1, rfl, NC.out, NU.out⟩
                  case measure => rw [ME, mm]; have := NC.out.cnt; have := cnt_le (M.set k true); have := NU.out.len; omega
        | false =>
          obtain ⟨m1, m2, m3, m4⟩ := CW.out.mark hkN UP.out.len hMk
          obtain ⟨Q3, q3, p3, B3⟩ := m3
          have f3 := B1.frozen 3
          have e1 := m2.cell (k := 1) rfl
          have fe1 := m2.frozen 1
          have l1 := B3.cell (k := 1) rfl
          have NC := Lib.hid m4
          have NU := Lib.hid (UP.out.step HI.out hMk)
          have ME := hOf_at m4.box
          clear hMk hv hy m1 m2 m4 B1 B3 hneg
          go_wp2
          go_roundw
          case rel => exact ⟨M.set k true, at_ ab k, h + 1, rfl, NC.out, NU.out⟩
          case measure => rw [ME, mm]; have := NC.out.cnt; have := cnt_le (M.set k true); have := NU.out.len; omega
end Go.Proofs.Ytpbbfbpggedgpaa.cy
