/-
  Lists of lists in a row of headers, each list in a block of its own; slices.BinarySearchFunc over them.
-/
import Derived.Test.YtafpbnjfmieamaaWBs
import Derived.Test.YtafpbnjfmieamaaWBt
import Derived.Test.YtafpbnjfmieamaaY16
namespace Go.Proofs.Ytafpbnjfmieamaa.lst
open Go.ChangeShapes Go.WideShapes Go.ChangeAt Go.RowKit
open Go.Proofs.Ytafpbnjfmieamaa.mem Go.Proofs.Ytafpbnjfmieamaa.ints Go.Proofs.Ytafpbnjfmieamaa.arr Go.Proofs.Ytafpbnjfmieamaa.pm Go.Proofs.Ytafpbnjfmieamaa.sf Go.Proofs.Ytafpbnjfmieamaa.gl Go.Proofs.Ytafpbnjfmieamaa.orb
open Go.Proofs.Ytafpbnjfmieamaa.wd
set_option linter.unusedVariables false
set_option maxRecDepth 100000

/-- A block, a header, a list. -/
abbrev RI := Nat × Value × List Int
def lOf (z : RI) : List Int := z.2.2
def hdOf (Z : List RI) : List Value := Z.map fun z => z.2.1
/-- The lists lie in blocks of their own, from lo on and below hi, none in ex. -/
structure Rk (w : World) (lo hi : Nat) (ex : Nat → Prop) (Z : List RI) : Prop where
  top : hi ≤ w.heap.size
  each : ∀ z ∈ Z, ∃ A c, z.2.1 = .slice A (lOf z).length c ∧ (lOf z).length ≤ c ∧ (lOf z).length ≤ 100 ∧ (0 < (lOf z).length → lo ≤ z.1 ∧ z.1 < hi ∧ ¬ ex z.1 ∧ Row w z.1 (z.1 + 1) A (lOf z).length (V (lOf z)))
  ne : Z.Pairwise fun a b => 0 < (lOf a).length → 0 < (lOf b).length → a.1 ≠ b.1
theorem Rk.keep {w w' : World} {lo hi : Nat} {ex : Nat → Prop} {Z : List RI} (h : Rk w lo hi ex Z) (hz : w.heap.size ≤ w'.heap.size) (hk : ∀ b, lo ≤ b → b < hi → ¬ ex b → w'.heap[b]? = w.heap[b]?) : Rk w' lo hi ex Z :=
  ⟨Nat.le_trans h.top hz, fun z q => by
    obtain ⟨A, c, e1, e2, e3, r⟩ := h.each z q
    exact ⟨A, c, e1, e2, e3, fun p => ⟨(r p).1, (r p).2.1, (r p).2.2.1, mat.Row.block (r p).2.2.2 (hk _ (r p).1 (r p).2.1 (r p).2.2.1) hz⟩⟩, h.ne⟩
theorem Rk.to {w : World} {lo hi lo' hi' : Nat} {ex ex' : Nat → Prop} {Z : List RI} (h : Rk w lo hi ex Z) (h1 : lo' ≤ lo) (h2 : hi ≤ hi') (h3 : hi' ≤ w.heap.size) (he : ∀ b, lo ≤ b → b < hi → ¬ ex b → ¬ ex' b) : Rk w lo' hi' ex' Z :=
  ⟨h3, fun z q => by
    obtain ⟨A, c, e1, e2, e3, r⟩ := h.each z q
    exact ⟨A, c, e1, e2, e3, fun p => ⟨Nat.le_trans h1 (r p).1, Nat.lt_of_lt_of_le (r p).2.1 h2, he _ (r p).1 (r p).2.1 (r p).2.2.1, (r p).2.2.2⟩⟩, h.ne⟩
theorem Rk.perm {w : World} {lo hi : Nat} {ex : Nat → Prop} {Z Z' : List RI} (h : Rk w lo hi ex Z) (p : Z.Perm Z') : Rk w lo hi ex Z' :=
  ⟨h.top, fun z hz => h.each z (p.mem_iff.2 hz), (p.pairwise_iff (fun hab p q => fun e => hab q p e.symm)).1 h.ne⟩
theorem Rk.nil (w : World) (lo hi : Nat) (ex : Nat → Prop) (h : hi ≤ w.heap.size) : Rk w lo hi ex [] := ⟨h, fun z hz => by simp at hz, List.Pairwise.nil⟩
theorem rd_row {w : World} {b hi n : Nat} {A : Option Addr} {xs : List Value} (hh : hi ≤ w.heap.size) (hl : xs.length = n) (r : 0 < n → b < hi ∧ Row w b (b + 1) A n xs) : Rd w hi A n xs := by
  rcases Nat.eq_zero_or_pos n with e | e
  · subst e
    exact ⟨hl, hh, fun h => by omega⟩
  · exact sf.Rd.wider (r e).2.rd (by have := (r e).1; omega) hh
theorem Rk.rd {w : World} {lo hi : Nat} {ex : Nat → Prop} {Z : List RI} {z : RI} (h : Rk w lo hi ex Z) (hz : z ∈ Z) : ∃ A c, z.2.1 = .slice A (lOf z).length c ∧ (lOf z).length ≤ 100 ∧ Rd w hi A (lOf z).length (V (lOf z)) := by
  obtain ⟨A, c, e1, e2, e3, r⟩ := h.each z hz
  exact ⟨A, c, e1, e3, rd_row h.top (V_len _) (fun p => ⟨(r p).2.1, (r p).2.2.2⟩)⟩
/-- A fresh list joins. -/
theorem Rk.cons {w : World} {lo hi hi' n c : Nat} {ex : Nat → Prop} {Z : List RI} {A : Option Addr} {xs : List Int} (h : Rk w lo hi ex Z) (ho : w.ownsRow hi 3 1 (.slice A n c) n (V xs)) (hl : lo ≤ hi) (hh : hi ≤ hi') (ht : hi' = w.heap.size) (hx : xs.length ≤ 100) (he : ∀ b, hi ≤ b → b < hi' → ¬ ex b) :
    ∃ b, n = xs.length ∧ Rk w lo hi' ex ((b, .slice A n c, xs) :: Z) := by
  have hn : n = xs.length := by have := ho.1; rw [V_len] at this; omega
  subst hn
  rcases ho.2 with ⟨q, q2⟩ | ⟨g, cap, cur, q, h1, h2, h3, h4, h5, h6⟩
  · injection q with q0 q1 q3
    subst q0; subst q3
    refine ⟨0, rfl, by omega, fun z hz => ?_, List.pairwise_cons.2 ⟨fun z hz p => by dsimp only [lOf] at p; omega, h.ne⟩⟩
    rcases List.mem_cons.1 hz with rfl | e
    · exact ⟨none, 0, rfl, by dsimp only [lOf]; omega, hx, fun p => by dsimp only [lOf] at p; omega⟩
    · exact (h.to (Nat.le_refl _) hh (by omega) (fun _ _ _ q => q)).each z e
  · have hg : g < w.heap.size := (Array.getElem?_eq_some_iff.1 h2).1
    injection q with q1 q2 q3
    subst q1; subst q3
    have rr := Row.of_own ho
    have RB : 0 < xs.length → Row w g (g + 1) (some ⟨g, 0, none⟩) xs.length (V xs) := fun p => by
      refine ⟨rr.1, hg, fun hp => ?_⟩
      obtain ⟨g', off, e, l1, l2, hc⟩ := rr.2.2 hp
      injection e with e
      injection e with e1 e2
      subst e1; subst e2
      exact ⟨g, 0, rfl, Nat.le_refl _, by omega, hc⟩
    refine ⟨g, rfl, by omega, fun z hz => ?_, List.pairwise_cons.2 ⟨fun z hz p1 p2 => ?_, h.ne⟩⟩
    · rcases List.mem_cons.1 hz with rfl | e
      · exact ⟨_, _, rfl, h3, hx, fun p => ⟨by show lo ≤ g; omega, by show g < hi'; omega, he g h1 (by omega), RB p⟩⟩
      · exact (h.to (Nat.le_refl _) hh (by omega) (fun _ _ _ q => q)).each z e
    · obtain ⟨A', c', _, _, _, r⟩ := h.each z hz
      have := (r p2).2.1
      show g ≠ z.1
      omega
theorem hd_len (Z : List RI) : (hdOf Z).length = Z.length := by simp [hdOf]
theorem hd_at {Z : List RI} {k : Nat} {z : RI} (h : Z[k]? = some z) : (hdOf Z)[k]? = some z.2.1 := by simp [hdOf, h]
theorem l_at {Z : List RI} {k : Nat} {z : RI} (h : Z[k]? = some z) : (Z.map lOf)[k]? = some (lOf z) := by simp [h]
set_option maxHeartbeats 2000000 in
theorem bsH_any (base lo hi h1 : Nat) (v : Value) (Z : List RI) (t : List Int) (At : Option Addr) (ct : Nat) (ex : Nat → Prop) (w : World) (ho : w.ownsRow base 23 1 v Z.length (hdOf Z)) (hp : Rk w lo hi ex Z) (ha : (Z.map lOf).Pairwise fun a b => lessX a b = true) (ht : Rd w h1 At t.length (V t)) (hl : Z.length ≤ 1000) (hx : t.length ≤ 100) :
    Calls Try.prog 55 #[v, .slice At t.length ct, .func (.func 25) #[] #[]] w fun e w' => ∃ i : Nat, Pt (Z.map lOf) t i ∧ e = .returned (.tuple #[.int .i64 i, .bool (decide ((Z.map lOf)[i]? = some t))]) ∧ w' = w := by
  have HO := Lib.hid ho; have HP := Lib.hid hp; have HA := Lib.hid ha; have HT := Lib.hid ht
  have hZ : ∃ A c, v = .slice A Z.length c := mem.own_form ho
  obtain ⟨A, c, rfl⟩ := hZ
  have HL : Hid ((Z.map lOf).length = Z.length) := Lib.hid (List.length_map ..)
  clear ho hp ha ht
  go_enter Try.func55, Try.ntmps55
  go_wp2_with fail
  go_loopw [9, 10] (fun u v wr => ∃ i j : Nat, u = .int .i64 i ∧ v = .int .i64 j ∧ St (Z.map lOf) t i j ∧ wr = w) (fun u v _ => (intOf v).toNat - (intOf u).toNat)
  case atStart => exact ⟨0, Z.length, rfl, rfl, by have := St.start (Z.map lOf) t; rwa [HL.out] at this, rfl⟩
  case round =>
    obtain ⟨i, j, rfl, rfl, sr, rfl⟩ := hrel
    have SR := Lib.hid sr; clear sr
    have hij := SR.out.le; have hjl : j ≤ Z.length := by have := SR.out.top; rwa [HL.out] at this
    by_cases hlt : i < j
    · obtain ⟨h, hh⟩ : ∃ h, h = (i + j) / 2 := ⟨_, rfl⟩
      have h1 : i ≤ h := by omega
      have h2 : h < j := by omega
      have hhl : h < Z.length := by omega
      obtain ⟨x, hx⟩ : ∃ x, Z[h]? = some x := ⟨_, List.getElem?_eq_getElem hhl⟩
      have HX := Lib.hid (l_at hx)
      obtain ⟨Ax, cx, ex', hx100, rdx⟩ := HP.out.rd (List.mem_of_getElem? hx)
      obtain ⟨g, off, u, eA, _, hgs, hcu, hcell, _⟩ := (Row.of_own HO.out).at_ hhl
      rw [hd_at hx] at hcu
      obtain rfl := Option.some.inj hcu
      subst eA
      have hc0 : wr.cell? ⟨g, off + h, none⟩ = some (.slice Ax (lOf x).length cx) := by rw [hcell, ex']
      have RX := Lib.hid rdx
      have hd := (cmpX_less (lOf x) t).1
      have hcast : ((i : Int) + (j : Int)) / 2 = ((h : Nat) : Int) := by omega
      generalize lOf x = xl at *
      clear hx hh rdx ex' hcell
      go_wp2_with fail
      refine (cmpX_any Ax xl.length cx At t.length ct xl t _ _ _ RX.out HT.out (by omega) (by omega)).mono ?_
      rintro e w1 ⟨rfl, rfl⟩
      generalize cmpX xl t = cz at *
      cases hb : lessX xl t
      · rw [hb] at hd
        have SN := Lib.hid (SR.out.left HA.out h1 h2 HX.out hb)
        clear hb
        go_wp2_with fail
        go_roundw
        case rel => exact ⟨i, h, rfl, rfl, SN.out, by first | rfl | trivial⟩
        case measure => simp [intOf]; omega
      · rw [hb] at hd
        have SN := Lib.hid (SR.out.right HA.out h2 HX.out hb)
        clear hb
        go_wp2_with fail
        go_roundw
        case rel => exact ⟨h + 1, j, by go_num, rfl, SN.out, by first | rfl | trivial⟩
        case measure => simp [intOf]; omega
    · obtain rfl : i = j := by omega
      have PL : Hid (Pt (Z.map lOf) t i) := Lib.hid ⟨SR.out.top, SR.out.lo, SR.out.hi⟩
      by_cases hil : i < Z.length
      · obtain ⟨x, hx⟩ : ∃ x, Z[i]? = some x := ⟨_, List.getElem?_eq_getElem hil⟩
        have HX := Lib.hid (l_at hx)
        obtain ⟨Ax, cx, ex', hx100, rdx⟩ := HP.out.rd (List.mem_of_getElem? hx)
        obtain ⟨g, off, u, eA, _, hgs, hcu, hcell, _⟩ := (Row.of_own HO.out).at_ hil
        rw [hd_at hx] at hcu
        obtain rfl := Option.some.inj hcu
        subst eA
        have hc0 : wr.cell? ⟨g, off + i, none⟩ = some (.slice Ax (lOf x).length cx) := by rw [hcell, ex']
        have RX := Lib.hid rdx
        have HD : Hid ((cmpX (lOf x) t == 0) = decide ((Z.map lOf)[i]? = some t)) := Lib.hid (by
          rw [HX.out, show (cmpX (lOf x) t == 0) = decide (cmpX (lOf x) t = 0) from rfl]
          have := (cmpX_less (lOf x) t).2
          by_cases e : lOf x = t
          · rw [decide_eq_true (this.2 e), decide_eq_true (by rw [e])]
          · rw [decide_eq_false (fun q => e (this.1 q)), decide_eq_false (fun q => e (Option.some.inj q))])
        generalize lOf x = xl at *
        clear hx rdx ex' hcell SR HX
        go_wp2_with fail
        refine (cmpX_any Ax xl.length cx At t.length ct xl t _ _ _ RX.out HT.out (by omega) (by omega)).mono ?_
        rintro e w1 ⟨rfl, rfl⟩
        generalize cmpX xl t = cz at *
        go_wp2_with fail
        go_ret2
        refine ⟨i, PL.out, ?_, rfl⟩
        rw [← HD.out]
        rfl
      · obtain rfl : i = Z.length := by omega
        have HD : Hid (false = decide ((Z.map lOf)[Z.length]? = some t)) := Lib.hid (by
          rw [List.getElem?_eq_none (by rw [HL.out]; exact Nat.le_refl _)]
          simp)
        clear SR
        go_wp2_with fail
        go_ret2
        refine ⟨Z.length, PL.out, ?_, rfl⟩
        rw [← HD.out]
        rfl
end Go.Proofs.Ytafpbnjfmieamaa.lst
