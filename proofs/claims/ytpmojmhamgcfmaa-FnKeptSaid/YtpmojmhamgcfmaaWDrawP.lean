/-
  Contracts of spec.l02Draw and spec.MakePerm: a permutation.
-/
import Derived.Test.YtpmojmhamgcfmaaWDrawN
import Derived.Test.YtpmojmhamgcfmaaY08
import Derived.Test.YtpmojmhamgcfmaaY04
import Derived.RegionTactic
import Derived.BigRegion
namespace Go.Proofs.Ytpmojmhamgcfmaa.cur
open Go.ChangeShapes Go.WideShapes Go.ChangeAt Go.RowKit
open Go.Proofs.Ytpmojmhamgcfmaa.mem Go.Proofs.Ytpmojmhamgcfmaa.ints Go.Proofs.Ytpmojmhamgcfmaa.arr Go.Proofs.Ytpmojmhamgcfmaa.pm Go.Proofs.Ytpmojmhamgcfmaa.permOk Go.Proofs.Ytpmojmhamgcfmaa.fns
set_option linter.unusedVariables false
set_option maxRecDepth 100000

/-- One more element: k goes to a's place, and what was there to the end. -/
def put (xs : List Int) (a : Nat) : List Int := ((xs ++ [(xs.length : Int)]).set xs.length ((xs ++ [(xs.length : Int)]).getD a 0)).set a (xs.length : Int)
theorem put_len (xs : List Int) (a : Nat) : (put xs a).length = xs.length + 1 := by simp [put]
theorem put_at {xs : List Int} {a i : Nat} (ha : a ≤ xs.length) (hi : i ≤ xs.length) : (put xs a).getD i 0 = if i = a then (xs.length : Int) else if i = xs.length then xs.getD a 0 else xs.getD i 0 := by
  unfold put
  rw [getD_set]
  by_cases e : i = a
  · subst e; rw [if_pos rfl, if_pos ⟨rfl, by simp; omega⟩]
  · rw [if_neg (by omega), if_neg e, getD_set]
    by_cases e2 : i = xs.length
    · rw [if_pos ⟨e2.symm, by simp; omega⟩, if_pos e2]
      simp only [List.getD, List.getElem?_append]
      rw [if_pos (by omega)]
    · rw [if_neg (by omega), if_neg e2]
      simp only [List.getD, List.getElem?_append]
      rw [if_pos (by omega)]
theorem put_ok {xs : List Int} {a : Nat} (h : Ok xs) (hl : xs.length < 24) (ha : a ≤ xs.length) : Ok (put xs a) := by
  have key : ∀ i, i ≤ xs.length → (i = a ∧ (put xs a).getD i 0 = xs.length) ∨ (i ≠ a ∧ ∃ j, j < xs.length ∧ (put xs a).getD i 0 = xs.getD j 0 ∧ (i = xs.length → j = a) ∧ (i ≠ xs.length → j = i)) := by
    intro i hi
    rw [put_at ha hi]
    by_cases e : i = a
    · left; exact ⟨e, if_pos e⟩
    · right
      refine ⟨e, ?_⟩
      rw [if_neg e]
      by_cases e2 : i = xs.length
      · exact ⟨a, by omega, if_pos e2, fun _ => rfl, fun q => absurd e2 q⟩
      · exact ⟨i, by omega, if_neg e2, fun q => absurd q e2, fun _ => rfl⟩
  refine ⟨by rw [put_len]; omega, fun i hi => ?_, fun i hi => ?_, fun i j hi hj e => ?_⟩
  · rw [put_len] at hi
    rcases key i (by omega) with ⟨_, q⟩ | ⟨_, j, hj, q, _⟩
    · omega
    · have := h.lo j hj; omega
  · rw [put_len] at hi ⊢
    rcases key i (by omega) with ⟨_, q⟩ | ⟨_, j, hj, q, _⟩
    · omega
    · have := h.hi j hj; omega
  · rw [put_len] at hi hj
    rcases key i (by omega) with ⟨a1, q1⟩ | ⟨a1, i', b1, q1, c1, d1⟩ <;> rcases key j (by omega) with ⟨a2, q2⟩ | ⟨a2, j', b2, q2, c2, d2⟩
    · omega
    · have := h.hi j' b2; omega
    · have := h.hi i' b1; omega
    · have := h.inj i' j' b1 b2 (by omega)
      by_cases e1 : i = xs.length
      · by_cases e2 : j = xs.length
        · omega
        · have := c1 e1; have := d2 e2; omega
      · by_cases e2 : j = xs.length
        · have := c2 e2; have := d1 e1; omega
        · have := d1 e1; have := d2 e2; omega
theorem ok_nil : Ok [] := ⟨by simp, fun i hi => by simp at hi, fun i hi => by simp at hi, fun i j hi => by simp at hi⟩

/-- A permutation of n elements in new memory; the cursor stays a cursor. -/
def DrawsP (m : Nat) (g : Nat) (A : Option Addr) (n c : Nat) (l : List Int) (w : World) (e : Ending) (w' : World) : Prop :=
  ∃ v xs, Ok xs ∧ xs.length = m ∧ e = .returned v ∧ w'.ownsRow w.heap.size 3 1 v m (V xs) ∧ Cur w' g A n c l ∧ Out g (g + 1) w w'
structure Dr (w wr : World) (g : Nat) (A : Option Addr) (n c : Nat) (l : List Int) (v : Value) (xs : List Int) : Prop where
  own : wr.ownsRow w.heap.size 3 1 v xs.length (V xs)
  cur : Cur wr g A n c l
  out : Out g (g + 1) w wr
  lt : g < w.heap.size
theorem Dr.later {w wr w' : World} {g n c : Nat} {A : Option Addr} {l xs : List Int} {v : Value} (h : Dr w wr g A n c l v xs) (hc : Cur w' g A n c l) (ho : Out g (g + 1) wr w') : Dr w w' g A n c l v xs := by
  refine ⟨⟨h.own.1, ?_⟩, hc, h.out.trans ho, h.lt⟩
  rcases h.own.2 with h0 | ⟨b, cap, cur, q1, q2, q3, q4⟩
  · exact .inl h0
  · exact .inr ⟨b, cap, cur, q1, q2, (ho.block b (Array.getElem?_eq_some_iff.1 q3).1 (.inr (by have := h.lt; omega))).trans q3, q4⟩
theorem Dr.push {w wr w' : World} {g n c k : Nat} {A : Option Addr} {l xs : List Int} {v v' : Value} {z : Int} (h : Dr w wr g A n c l v xs) (ho : w'.ownsRow w.heap.size 3 1 v' (k + 1) (V xs ++ [.int .i64 z])) (hk : k = xs.length) (hg : wr.grownBy w' v.ownBlock) : Dr w w' g A n c l v' (xs ++ [z]) := by
  subst hk
  have e : V (xs ++ [z]) = V xs ++ [.int .i64 z] := by simp [V]
  have hb : Below w.heap.size wr w' := (Below.refl _ _).grown hg h.out.size (fun b hb => (h.own.lt b hb).1)
  exact ⟨by rw [e]; simpa using ho, h.cur.keep hb h.lt, ⟨hb.os.trans h.out.os, hb.tape.trans h.out.tape, hb.output.trans h.out.output, Nat.le_trans h.out.size hb.size, fun b q r => (hb.block b q).trans (h.out.block b q r)⟩, h.lt⟩
theorem Dr.set_ {w wr : World} {g n c b cc : Nat} {A : Option Addr} {l xs : List Int} (h : Dr w wr g A n c l (.slice (some ⟨b, 0, none⟩) xs.length cc) xs) (k : Nat) (z : Int) : Dr w (wr.setCell ⟨b, k, none⟩ (.int .i64 z)) g A n c l (.slice (some ⟨b, 0, none⟩) (xs.set k z).length cc) (xs.set k z) := by
  have hb := h.own.lt b rfl
  have B : Below w.heap.size wr (wr.setCell ⟨b, k, none⟩ (.int .i64 z)) := (Below.refl _ _).setCell hb.1 _
  have := (h.own.stored k (.int .i64 z)).1
  rw [V_set] at this
  refine ⟨by simpa using this, h.cur.keep B h.lt, ⟨h.out.os, h.out.tape, h.out.output, Nat.le_trans h.out.size B.size, fun q r s => (B.block q r).trans (h.out.block q r s)⟩, h.lt⟩

set_option maxHeartbeats 1000000 in
theorem drawP_any (w : World) (g : Nat) (A : Option Addr) (n c : Nat) (l : List Int) (m : Nat) (hm : m ≤ 24) (hc : Cur w g A n c l) :
    Calls Try.prog 64 #[.pointer (some ⟨g, 0, none⟩), .int .i64 m] w (DrawsP m g A n c l w) := by
  obtain ⟨i0, hi0, hz0, hz1, hz2⟩ := info_parts infoI
  have hlt0 := hc.lt
  have HC := Lib.hid hc; clear hc
  go_enter Try.func64, Try.ntmps64
  go_wp2
  go_loopw [5, 6] (fun v i wr => ∃ (k : Nat) (xs : List Int), k ≤ m ∧ i = .int .i64 k ∧ xs.length = k ∧ Ok xs ∧ Dr w wr g A n c l v xs) (fun _ i _ => m - (intOf i).toNat)
  case atStart =>
    have B := (Below.refl w.heap.size w).alloc (Nat.le_refl _) (.cells #[] 3)
    exact ⟨0, [], Nat.zero_le _, rfl, rfl, ok_nil, ⟨rfl, .inr ⟨w.heap.size, 0, #[], rfl, Nat.le_refl _, heap_alloc_last w _, Nat.le_refl _, by simp, rfl, rfl⟩⟩, HC.out.keep B hlt0, Out.of_below B, hlt0⟩
  case round =>
    obtain ⟨k, xs, hk, rfl, hl, ok, hdr⟩ := hrel
    obtain ⟨C, cc, rfl⟩ := own_form hdr.own
    subst hl
    have OK := Lib.hid ok; have DR := Lib.hid hdr; clear ok hdr
    have hsz := DR.out.out.size
    by_cases hlt : xs.length < m
    · go_wp2_with fail
      refine (below_any _ g A n c l ((xs.length : Int) + 1) (by omega) (by omega) DR.out.cur).mono ?_
      rintro e w2 ⟨a0, h0, h1, rfl, hcur, ho⟩
      obtain ⟨a, rfl⟩ := Int.eq_ofNat_of_zero_le h0
      have ha : a ≤ xs.length := by omega
      clear h0 h1
      have D2 := Lib.hid (DR.out.later hcur ho)
      have hsz2 := D2.out.out.size
      clear hcur ho DR
      go_wp2_with (at_builtin; refine wpList_append_one w2 _ _ rfl _ _ 23 rfl w.heap.size 3 i0 _ 8 Try.underlying23 hi0 hz0 hz1 hz2 rfl _ _ _ rfl D2.out.own rfl rfl ?c4 (by decide) hsz2 ?_)
      case c4 => omega
      intro v' w' ho hg
      have D3 := D2.out.push ho rfl hg
      clear ho hg D2
      obtain ⟨C', cc', rfl⟩ := own_form D3.own
      have hl1 : (xs ++ [(xs.length : Int)]).length = xs.length + 1 := by simp
      have hown := D3.own
      rw [hl1] at hown
      obtain ⟨b, rfl⟩ : ∃ b, C' = some ⟨b, 0, none⟩ := by
        rcases D3.own.2 with ⟨h0, hn0⟩ | ⟨b, cap, cur, q1, _⟩
        · simp at hn0
        · injection q1 with q1; exact ⟨b, q1⟩
      have hca : w'.cell? ⟨b, a, none⟩ = some (.int .i64 ((xs ++ [(xs.length : Int)]).getD a 0)) := by rw [D3.own.cellAt a (by simp; omega)]; exact V_getD (by simp; omega)
      have hck : w'.cell? ⟨b, xs.length, none⟩ = some (.int .i64 ((xs ++ [(xs.length : Int)]).getD xs.length 0)) := by rw [D3.own.cellAt xs.length (by simp)]; exact V_getD (by simp)
      have fa := D3.own.frozenAt a; have fk := D3.own.frozenAt xs.length
      generalize hq : (xs ++ [(xs.length : Int)]).getD a 0 = qa at *
      have D4 := D3.set_ xs.length qa
      have hca2 : (w'.setCell ⟨b, xs.length, none⟩ (.int .i64 qa)).cell? ⟨b, a, none⟩ = some (.int .i64 (((xs ++ [(xs.length : Int)]).set xs.length qa).getD a 0)) := by rw [D4.own.cellAt a (by simp; omega)]; exact V_getD (by simp; omega)
      have fa2 := D4.own.frozenAt a
      have D5 := D4.set_ a (xs.length : Int)
      have e5 : ((xs ++ [(xs.length : Int)]).set xs.length qa).set a (xs.length : Int) = put xs a := by unfold put; rw [hq]
      rw [e5] at D5
      have PL : Hid ((put xs a).length = xs.length + 1) := Lib.hid (put_len _ _)
      rw [PL.out] at D5
      rw [hl1]
      have D6 := Lib.hid D5
      have POK := Lib.hid (put_ok OK.out (by omega) ha)
      clear D3 D4 D5 hown hl1 hq e5
      go_wp2
      go_roundw
      case rel => exact ⟨xs.length + 1, put xs a, by omega, by go_num, PL.out, POK.out, D6.out⟩
      case measure => simp [intOf]; omega
    · obtain rfl : xs.length = m := by omega
      go_wp2
      go_ret
      exact ⟨_, xs, OK.out, rfl, rfl, DR.out.own, DR.out.cur, DR.out.out⟩

/-- A permutation of m elements in new memory. -/
def PermOut (m : Nat) (w : World) (e : Ending) (w' : World) : Prop :=
  ∃ A c xs, Ok xs ∧ xs.length = m ∧ e = .returned (.slice A m c) ∧ Row w' w.heap.size w'.heap.size A m (V xs) ∧ Below w.heap.size w w'
end Go.Proofs.Ytpmojmhamgcfmaa.cur
