import Derived.Test.YtgcnemkhppkkcaaU04
import Derived.Test.YtgcnemkhppkkcaaU16
import Derived.Test.YtgcnemkhppkkcaaU14
import Derived.Test.YtgcnemkhppkkcaaU09
import Derived.Test.YtgcnemkhppkkcaaU13
import Derived.Laws.IdiomStrings
import Derived.Laws.BytesArg
import Derived.Test.YtgcnemkhppkkcaaU05
import Derived.Test.YtgcnemkhppkkcaaU10
import Derived.Test.YtgcnemkhppkkcaaU12
namespace Go.Proofs.Ytgcnemkhppkkcaa.orb
open Go.ChangeShapes Go.WideShapes Go.ChangeAt Go.RowKit Go.Maps
open mem ints arr pm sf gl
set_option linter.unusedVariables false
set_option maxRecDepth 100000
theorem os_nil (w : World) : Os w w w.heap.size w.heap.size (.slice none 0 0) (.slice none 0 0) ([], []) :=
  ⟨⟨[], fun _ => (0, 0), ⟨rfl, .inl ⟨rfl, rfl⟩⟩, Ls.nil _ _ _ _ _ (Nat.le_refl _)⟩, ⟨rfl, .inl ⟨rfl, rfl⟩⟩, fun b e => by simp [Value.ownBlock] at e, fun b e => by simp [Value.ownBlock] at e, fun b e => by simp [Value.ownBlock] at e, Below.refl _ _, Nat.le_refl _, Nat.le_refl _⟩
theorem fd_pre {s : Sur} {n p l : Nat} {j : Nat} {v : Value} (h : (V (gS s n))[j]? = some v) : (V (fdL s n p l))[j]? = some v := by
  have hj := (List.getElem?_eq_some_iff.1 h).1
  have e : V (fdL s n p l) = V (gS s n) ++ V [(p : Int), (l : Int)] := by simp [V, fdL]
  rw [e, List.getElem?_append_left hj]
  exact h
set_option maxHeartbeats 2000000 in
theorem oo_impl (v : Value) (r u : List Int) (hi : Nat) (w : World) (hx : Srd w hi v r u) (hn : r.length ≤ 1048576) (hm : u.length ≤ 1048576) :
    Calls sqp.prog 9 #[v] w (OOPost r u w) := by
  have HX := Lib.hid hx
  obtain ⟨P, n, c, Q, m, d, rfl, q1, q2, e1, e2, ht, HR⟩ := hx.open
  have L1 := Lib.hid q1
  clear hx q1 q2 HR
  have NO : Hid (transB r u = false ∨ 120 < (finds (r, u)).length → orbF r u = none) := Lib.hid fin_shut
  go_enter sqp.func9, sqp.ntmps9
  go_wp2_with fail
  refine (orbitOf_any _ r u hi _ (HX.out.keep ((Below.refl hi w).alloc ht _) (Nat.le_refl _)) hn hm).mono ?_
  rintro e w1 ⟨b1, h⟩
  have B1 := Lib.hid (below1 _ _ b1); clear b1
  rcases h with ⟨h1, h2, A, cp, rfl, h3⟩ | ⟨h1, rfl⟩
  · have HO := Lib.hid (fin_open h1 h2)
    have HP := finds_pos (r, u)
    have HM := Lib.hid (fds_mem h3 rfl HP)
    clear h3 NO h1
    rw [L1.out] at HM HO
    generalize hxs : finds (r, u) = xs at *
    have HL : Hid (orbL r u = xs.map Prod.fst ∧ orbB r u = true ∧ ∀ x ∈ xs, Sf n x.1.1 x.1.2) := Lib.hid (by obtain ⟨q, a, b, c, d, e, f⟩ := HO.out; exact ⟨c, d, f⟩)
    clear HO hxs
    obtain ⟨g, rfl, hg1, hcell⟩ := HM.out
    have HC := Lib.hid hcell; clear hcell HM
    go_wp2_with fail
    go_loopw [6, 18] (fun v6 i wr => ∃ k : Nat, k ≤ xs.length ∧ i = .int .i64 k ∧ Os w1 wr w1.heap.size wr.heap.size v6 (.slice none 0 0) ((xs.take k).map Prod.fst, [])) (fun _ i _ => xs.length - (intOf i).toNat)
    case atStart => exact ⟨0, Nat.zero_le _, rfl, by simpa using os_nil w1⟩
    case round =>
      obtain ⟨k, hk, rfl, hos⟩ := hrel
      obtain ⟨A6, c6, B6, d6, rfl, _⟩ := hos.forms
      have OS := Lib.hid hos; clear hos
      have hlk : ((xs.take k).map Prod.fst).length = k := by simp; omega
      rw [hlk] at OS ⊢
      by_cases hlt : k < xs.length
      · obtain ⟨x, hxk⟩ : ∃ x, xs[k]? = some x := ⟨_, List.getElem?_eq_getElem hlt⟩
        have SX := Lib.hid (HL.out.2.2 x (List.mem_of_getElem? hxk))
        have TK : Hid ((xs.take (k + 1)).map Prod.fst = (xs.take k).map Prod.fst ++ [x.1]) := Lib.hid (by rw [List.take_add_one, hxk]; simp)
        have hwr : w1.heap.size ≤ wr.heap.size := OS.out.bel.size
        have PX : Hid (∀ (j : Nat) v, (V (fdL x.1 n x.2.1 x.2.2))[j]? = some v → wr.cell? ⟨g, k * 51 + j, none⟩ = some v) := Lib.hid (fun j v hv => by rw [OS.out.bel.cell (p := ⟨g, k * 51 + j, none⟩) hg1]; exact HC.out k x hxk j v hv)
        have L51 := fdL_len x.1 n x.2.1 x.2.2
        have L49 := gS_len x.1 n
        clear hxk
        have HLK := Lib.hid hlk; clear hlk
        have FP : Hid (∀ (j : Nat) v, (V (gS x.1 n))[j]? = some v → (V (fdL x.1 n x.2.1 x.2.2))[j]? = some v) := Lib.hid (fun j v h => fd_pre h)
        generalize hLX : fdL x.1 n x.2.1 x.2.2 = LX at *
        clear hLX
        go_wp2_with (first | (refine wpList_load_part rfl 65 _ rfl g (k * 51) rfl (V LX) _ PX.out sqp.underlying65 rfl (by rw [size51 L51]; simp) ?_) | (refine wpList_store_row rfl 65 _ _ rfl wr.heap.size (V LX).toArray rfl rfl 65 (V zero51).toArray (Arr.new wr (V zero51) _ rfl) (size51 L51) (by simp [V_len, L51, zero51]) (one_V _) ?_; generalize hw6 : (wr.alloc (.cells #[.int .i64 0, .int .i64 0, .int .i64 0, .int .i64 0, .int .i64 0, .int .i64 0, .int .i64 0, .int .i64 0, .int .i64 0, .int .i64 0, .int .i64 0, .int .i64 0, .int .i64 0, .int .i64 0, .int .i64 0, .int .i64 0, .int .i64 0, .int .i64 0, .int .i64 0, .int .i64 0, .int .i64 0, .int .i64 0, .int .i64 0, .int .i64 0, .int .i64 0, .int .i64 0, .int .i64 0, .int .i64 0, .int .i64 0, .int .i64 0, .int .i64 0, .int .i64 0, .int .i64 0, .int .i64 0, .int .i64 0, .int .i64 0, .int .i64 0, .int .i64 0, .int .i64 0, .int .i64 0, .int .i64 0, .int .i64 0, .int .i64 0, .int .i64 0, .int .i64 0, .int .i64 0, .int .i64 0, .int .i64 0, .int .i64 0, .int .i64 0, .int .i64 0] 65)).setRow wr.heap.size (V LX).toArray = w6; have A6_ : Hid (Arr w6 wr.heap.size (V LX) 65) := Lib.hid (by rw [← hw6]; exact (Arr.new wr (V zero51) _ rfl).row); have B6_ : Hid (Below wr.heap.size wr w6) := Lib.hid (by rw [← hw6]; exact arr.below_setRow ((Below.refl _ _).alloc (Nat.le_refl _) _) (Nat.le_refl _) _); have t6 : wr.heap.size + 1 ≤ w6.heap.size := (by rw [← hw6]; simp); clear hw6; have GP : Hid (∀ (j : Nat) v, (V (gS x.1 n))[j]? = some v → w6.cell? ⟨wr.heap.size, 0 + j, none⟩ = some v) := Lib.hid (fun j v h => by rw [Nat.zero_add]; exact A6_.out.cell (FP.out j v h))) | (refine wpList_load_part rfl 62 _ rfl wr.heap.size 0 rfl (V (gS x.1 n)) _ GP.out sqp.underlying62 rfl (by rw [size49 L49]; simp) ?_))
        refine (surface_any (ext x.1.1) (ext x.1.2) n w6 (ext_len _) (ext_len _) SX.out.small).mono ?_
        rintro e w7 ⟨gs, rfl, sg, b7⟩
        have hpos := SX.out.pos
        have ET1 : (ext x.1.1).take n = x.1.1 := by have := take_ext x.1.1 SX.out.r.len; rwa [SX.out.lr] at this
        have ET2 : (ext x.1.2).take n = x.1.2 := by have := take_ext x.1.2 SX.out.u.len; rwa [SX.out.lu] at this
        rw [ET1, ET2] at sg
        clear ET1 ET2
        obtain ⟨P4, c4, Q4, d4, rfl⟩ := sg.lens SX.out.lr SX.out.lu
        have SG := Lib.hid sg
        have OS7 := Lib.hid ((OS.out.keep B6_.out (Nat.le_refl _)).keep b7 (by have := B6_.out.size; omega))
        have s7 := b7.size
        clear sg b7 A6_ GP PX FP B6_
        obtain ⟨hs, bl, o1, r1⟩ := OS7.out.ex
        have O1 : Hid (w7.ownsRow w1.heap.size 25 2 (.slice A6 k c6) k hs) := Lib.hid (by have h := o1; rwa [HLK.out] at h)
        have R1 := Lib.hid r1; clear o1 r1
        obtain ⟨i0, hi0, hz0, hz1, hz2⟩ := info_parts infoSf
        go_wp2_with (at_builtin; refine wpList_append_lies (w7.alloc (.cells #[.slice P4 n c4, .slice Q4 n d4] 25)) rfl _ _ 27 rfl w1.heap.size 25 i0 _ 2 48 sqp.underlying27 hi0 hz0 hz1 hz2 rfl (by decide) _ k hs rfl (O1.out.alloc _) ⟨w7.heap.size, 0, none⟩ 1 1 [.slice P4 n c4, .slice Q4 n d4] rfl rfl ?hn ?h1 (by decide) ?c4 ?c5 ?c6 _ rfl ?_)
        case hn => exact World.news_of_block (Arr.new w7 _ _ rfl)
        case h1 => intro q hq; simp at hq; rcases hq with rfl | rfl <;> rfl
        case c4 => unfold maxLen; omega
        case c5 => omega
        case c6 => simp; omega
        intro g8 cap8 w8 ho hg hb hlt8
        have OS8 := Lib.hid (Os.push OS7.out R1.out SG.out.wide hpos hpos (by omega) ((Below.refl w7.heap.size w7).alloc (Nat.le_refl _) _) HLK.out.symm ho hg (by simpa using hb) hlt8)
        clear ho hg hb O1 R1 OS7 SG OS
        go_wp2_with fail
        go_roundw
        case rel => exact ⟨k + 1, by omega, by go_num, by rw [TK.out]; exact OS8.out⟩
        case measure => simp [intOf]; omega
      · have HE : Hid (xs.take k = xs) := Lib.hid (List.take_of_length_le (by omega))
        have HK : Hid (k = (orbL r u).length) := Lib.hid (by rw [HL.out.1]; simp; omega)
        have HB := Lib.hid (HL.out.2.1)
        go_wp2_with fail
        go_ret2
        refine ⟨A6, c6, by (rw [HB.out, ← HK.out] <;> rfl), ?_, B1.out.trans (OS.out.bel.mono B1.out.size)⟩
        have h := OS.out.lo.low (base' := w.heap.size) B1.out.size
        rw [HE.out, ← HL.out.1] at h
        rw [← HK.out]
        exact h.up
  · have HI := Lib.hid (NO.out h1)
    clear NO h1
    go_wp2_with fail
    go_ret2
    exact oo_no HI.out B1.out
end Go.Proofs.Ytgcnemkhppkkcaa.orb

namespace Go.Proofs.Ytgcnemkhppkkcaa.orb
open Go.ChangeShapes Go.WideShapes Go.ChangeAt Go.RowKit Go.Maps
open mem ints arr pm sf gl
set_option linter.unusedVariables false
set_option maxRecDepth 100000
theorem ext_eq {xs ys : List Int} {n : Nat} (hx : xs.length = n) (hy : ys.length = n) (hn : n ≤ 24) (h : ext xs = ext ys) : xs = ys := by
  have h1 := take_ext xs (by omega)
  have h2 := take_ext ys (by omega)
  calc xs = (ext xs).take xs.length := h1.symm
    _ = (ext ys).take ys.length := by rw [h, hx, hy]
    _ = ys := h2
theorem gS_eq {s x : Sur} {n n' : Nat} (hs : Sf n s.1 s.2) (hx : Sf n' x.1 x.2) : (ext s.1 = ext x.1 ∧ ext s.2 = ext x.2 ∧ n = n') ↔ s = x := by
  constructor
  · rintro ⟨h1, h2, rfl⟩
    have n24 : n ≤ 24 := hs.small
    exact Prod.ext (ext_eq hs.lr hx.lr n24 h1) (ext_eq hs.lu hx.lu n24 h2)
  · rintro rfl
    exact ⟨rfl, rfl, by rw [← hs.lr, ← hx.lr]⟩
theorem eqv_gl {s x : Sur} {n n' : Nat} (hs : Sf n s.1 s.2) (hx : Sf n' x.1 x.2) (w : World) :
    (Op.equalIn 10000 62 (.agg (V (gS s n)).toArray) (.agg (V (gS x n')).toArray)).run sqp.prog w = .ok (decide (s = x)) w := by
  have h := eq_gl2 (ext_len s.1) (ext_len s.2) (ext_len x.1) (ext_len x.2) n n' w
  have e : decide (ext s.1 = ext x.1 ∧ ext s.2 = ext x.2 ∧ n = n') = decide (s = x) := by rw [decide_eq_decide]; exact gS_eq hs hx
  rw [e] at h
  exact h
set_option maxHeartbeats 1000000 in
theorem clo_any (s : Sur) (n p l : Nat) (x : Sur) (n' fb : Nat) (w : World) (hs : Sf n s.1 s.2) (hx : Sf n' x.1 x.2) (hb : Arr w fb (V (gS x n')) 62) :
    Calls sqp.prog 70 #[.agg (V (fdL s n p l)).toArray, .pointer (some ⟨fb, 0, none⟩)] w fun e w' => e = .returned (.bool (decide (s = x))) ∧ Below w.heap.size w w' := by
  have EQ := Lib.hid (eqv_gl hs hx)
  have FB := Lib.hid (hb.alloc (.cells (V (fdL s n p l)).toArray 65))
  have L49 := gS_len s n
  have M49 := gS_len x n'
  have L51 := fdL_len s n p l
  have PX : Hid (∀ (j : Nat) v, (V (gS s n))[j]? = some v → (w.alloc (.cells (V (fdL s n p l)).toArray 65)).cell? ⟨w.heap.size, 0 + j, none⟩ = some v) := Lib.hid (fun j v h => by rw [Nat.zero_add]; exact (Arr.new w _ _ rfl).cell (part_find s n p l j v h))
  have B1 : Hid (Below w.heap.size w (w.alloc (.cells (V (fdL s n p l)).toArray 65))) := Lib.hid ((Below.refl _ _).alloc (Nat.le_refl _) _)
  clear hs hx hb
  generalize hd : decide (s = x) = d at *
  clear hd
  generalize fdL s n p l = LX at *
  generalize gS s n = GS at *
  generalize gS x n' = GX at *
  go_enter sqp.func70, sqp.ntmps70
  go_wp2_with (first | (refine wpList_load_part rfl 62 _ rfl w.heap.size 0 rfl (V GS) _ PX.out sqp.underlying62 rfl (size49 L49) ?_) | (refine wpList_load_row rfl 62 _ rfl fb rfl 62 (V GX).toArray (0, 0) _ FB.out sqp.underlying62 rfl (size49 M49) ?_) | (refine wpList_eql_gl rfl _ _ _ rfl _ _ rfl rfl d (EQ.out _) ?_))
  go_ret
  exact ⟨rfl, B1.out⟩
def Fm (w : World) (A : Option Addr) (n : Nat) (xs : List Fd) : Prop :=
  ∀ (k : Nat) x, xs[k]? = some x → ∃ g, A = some ⟨g, 0, none⟩ ∧ g < w.heap.size ∧ ∀ (j : Nat) v, (V (fdL x.1 n x.2.1 x.2.2))[j]? = some v → w.cell? ⟨g, k * 51 + j, none⟩ = some v
theorem Fm.keep {w w' : World} {A : Option Addr} {n B : Nat} {xs : List Fd} (h : Fm w A n xs) (hb : Below B w w') (hB : w.heap.size ≤ B) : Fm w' A n xs := fun k x hx => by
  obtain ⟨g, e, hg, hc⟩ := h k x hx
  exact ⟨g, e, Nat.lt_of_lt_of_le hg hb.size, fun j v hv => by rw [hb.cell (p := ⟨g, k * 51 + j, none⟩) (Nat.lt_of_lt_of_le hg hB)]; exact hc j v hv⟩
theorem Fm.nil (w : World) (A : Option Addr) (n : Nat) : Fm w A n [] := fun k x hx => by simp at hx
theorem Fm.of {w : World} {B n : Nat} {xs : List Fd} {A : Option Addr} {cp m : Nat} (h : w.ownsRow B 65 51 (.slice A m cp) m (fdsV n xs)) (hm : m = xs.length) (h0 : 0 < m) : Fm w A n xs := fun k x hx => by
  obtain ⟨g, e, hg, hc⟩ := fds_mem h hm h0
  exact ⟨g, e, hg, hc k x hx⟩
set_option maxHeartbeats 2000000 in
theorem ixf_any (xs : List Fd) (n : Nat) (x : Sur) (n' : Nat) (A : Option Addr) (N cp fb : Nat) (w : World) (hN : xs.length = N) (hm : Fm w A n xs) (hb : Arr w fb (V (gS x n')) 62) (hl : N ≤ 1000) (hs : ∀ y ∈ xs, Sf n y.1.1 y.1.2) (hx : Sf n' x.1 x.2) :
    Calls sqp.prog 69 #[.slice A N cp, .func (.func 70) #[] #[.pointer (some ⟨fb, 0, none⟩)]] w
      fun e w' => e = .returned (.int .i64 (fnd (xs.map Prod.fst) x)) ∧ Below w.heap.size w w' := by
  have HM := Lib.hid hm; have HB := Lib.hid hb; have HS := Lib.hid hs; have HX := Lib.hid hx; have LN := Lib.hid hN
  clear hm hb hs hx hN
  go_enter sqp.func69, sqp.ntmps69
  go_wp2
  go_loopw [5, 8] (fun _ i wr => ∃ k : Nat, k ≤ N ∧ i = .int .i64 k ∧ Below w.heap.size w wr ∧ Hid (∀ j, j < k → (xs.map Prod.fst)[j]? ≠ some x)) (fun _ i _ => N - (intOf i).toNat)
  case atStart => exact ⟨0, Nat.zero_le _, rfl, Below.refl _ _, Lib.hid (fun j hj => by omega)⟩
  case round =>
    obtain ⟨k, hk, rfl, hbl, HNO⟩ := hrel
    have BL := Lib.hid hbl; clear hbl
    have hsz := BL.out.size
    by_cases hlt : k < N
    · obtain ⟨y, hyk⟩ : ∃ y, xs[k]? = some y := ⟨_, List.getElem?_eq_getElem (by rw [LN.out]; exact hlt)⟩
      obtain ⟨g, rfl, hg, hc⟩ := HM.out k y hyk
      have PX : Hid (∀ (j : Nat) v, (V (fdL y.1 n y.2.1 y.2.2))[j]? = some v → wr.cell? ⟨g, k * 51 + j, none⟩ = some v) := Lib.hid (fun j v hv => by rw [BL.out.cell (p := ⟨g, k * 51 + j, none⟩) hg]; exact hc j v hv)
      have FY : Hid ((xs.map Prod.fst)[k]? = some y.1) := Lib.hid (by simp [hyk])
      have CL := Lib.hid (clo_any y.1 n y.2.1 y.2.2 x n' fb wr (HS.out y (List.mem_of_getElem? hyk)) HX.out (HB.out.keep BL.out HB.out.lt))
      have L51 := fdL_len y.1 n y.2.1 y.2.2
      clear hc hyk
      generalize hLX : fdL y.1 n y.2.1 y.2.2 = LX at *
      clear hLX
      go_wp2_with (refine wpList_load_part rfl 65 _ rfl g (k * 51) rfl (V LX) _ PX.out sqp.underlying65 rfl (by rw [size51 L51]; simp) ?_)
      refine CL.out.mono ?_
      rintro e w3 ⟨rfl, b1⟩
      have B3 := Lib.hid (BL.out.trans (b1.mono hsz)); clear b1 CL PX
      by_cases hyx : y.1 = x
      · have HF : Hid (fnd (xs.map Prod.fst) x = k) := Lib.hid (fnd_at (by rw [FY.out, hyx]) HNO.out)
        rw [decide_eq_true hyx]
        clear hyx
        go_wp2
        go_ret
        exact ⟨ret_int HF.out.symm, B3.out⟩
      · have NX : Hid (∀ j, j < k + 1 → (xs.map Prod.fst)[j]? ≠ some x) := Lib.hid (fun j hj => by
          by_cases e : j = k
          · subst e; rw [FY.out]; exact fun h => hyx (Option.some.inj h)
          · exact HNO.out j (by omega))
        rw [decide_eq_false hyx]
        clear hyx
        go_wp2
        go_roundw
        case rel => exact ⟨k + 1, by omega, by go_num, B3.out, NX⟩
        case measure => simp [intOf]; omega
    · have HF : Hid (fnd (xs.map Prod.fst) x = -1) := Lib.hid (fnd_none (fun j hj => HNO.out j (by simp at hj; have := LN.out; omega)))
      go_wp2
      go_ret
      exact ⟨ret_int HF.out.symm, BL.out⟩
def poF (L : List Sur) (r u : List Int) : Int := if transB r u then fnd L (cn (r, u)) else -1
theorem poF_no {L : List Sur} {r u : List Int} (h : transB r u = false) : poF L r u = -1 := by simp [poF, h]
theorem poF_yes {L : List Sur} {r u : List Int} (h : transB r u = true) : poF L r u = fnd L (cn (r, u)) := by simp [poF, h]
theorem poF_nil (r u : List Int) : poF [] r u = -1 := by unfold poF; split <;> rfl
set_option maxHeartbeats 4000000 in
theorem po_any (xs : List Fd) (n : Nat) (A : Option Addr) (N cp : Nat) (v : Value) (r u : List Int) (hi : Nat) (w : World) (hN : xs.length = N) (hf : Fm w A n xs) (hl : N ≤ 1000) (hs : ∀ y ∈ xs, Sf n y.1.1 y.1.2) (hx : Srd w hi v r u) (hn : r.length ≤ 1048576) (hm : u.length ≤ 1048576) :
    Calls sqp.prog 41 #[.slice A N cp, v] w fun e w' => e = .returned (.int .i64 (poF (xs.map Prod.fst) r u)) ∧ Below w.heap.size w w' := by
  have HX := Lib.hid hx; have HF := Lib.hid hf; have HS := Lib.hid hs; have LN := Lib.hid hN; clear hf hs hN
  obtain ⟨P, k, c, Q, m, d, rfl, q1, q2, e1, e2, ht, HR⟩ := hx.open
  have L1 := Lib.hid q1
  clear hx q1 q2 HR
  go_enter sqp.func41, sqp.ntmps41
  go_wp2_with fail
  refine (gluingOf_any _ r u hi _ (HX.out.keep ((Below.refl hi w).alloc ht _) (Nat.le_refl _)) hn hm).mono ?_
  rintro e w1 ⟨rfl, b1⟩
  have B1 := Lib.hid (below1 _ _ b1)
  have hs1 : w.heap.size + 1 ≤ w1.heap.size := by have := b1.size; simpa using this
  clear b1
  cases hq : transB r u
  · have HO := Lib.hid (poF_no (L := xs.map Prod.fst) hq); clear hq
    go_wp2_with (refine wpList_store_row rfl 62 _ _ rfl w1.heap.size (V (glv r u)).toArray rfl rfl 62 (V zero49).toArray (Arr.new w1 (V zero49) _ rfl) (size49 (glv_len _ _)) (by simp [V_len, glv_len, zero49]) (one_V _) ?_; generalize hw_ : (w1.alloc (.cells #[.int .i64 0, .int .i64 0, .int .i64 0, .int .i64 0, .int .i64 0, .int .i64 0, .int .i64 0, .int .i64 0, .int .i64 0, .int .i64 0, .int .i64 0, .int .i64 0, .int .i64 0, .int .i64 0, .int .i64 0, .int .i64 0, .int .i64 0, .int .i64 0, .int .i64 0, .int .i64 0, .int .i64 0, .int .i64 0, .int .i64 0, .int .i64 0, .int .i64 0, .int .i64 0, .int .i64 0, .int .i64 0, .int .i64 0, .int .i64 0, .int .i64 0, .int .i64 0, .int .i64 0, .int .i64 0, .int .i64 0, .int .i64 0, .int .i64 0, .int .i64 0, .int .i64 0, .int .i64 0, .int .i64 0, .int .i64 0, .int .i64 0, .int .i64 0, .int .i64 0, .int .i64 0, .int .i64 0, .int .i64 0, .int .i64 0] 62)).setRow w1.heap.size (V (glv r u)).toArray = w2; have A2 : Hid (Arr w2 w1.heap.size (V (glv r u)) 62) := Lib.hid (by rw [← hw_]; exact (Arr.new w1 (V zero49) _ rfl).row); have b1 : Below w1.heap.size w1 w2 := (by rw [← hw_]; exact arr.below_setRow ((Below.refl _ _).alloc (Nat.le_refl _) _) (Nat.le_refl _) _); have t_w2 : w1.heap.size + 1 ≤ w2.heap.size := (by rw [← hw_]; simp); clear hw_; replace B1 := Lib.hid (B1.out.trans (b1.mono B1.out.size)); clear b1)
    go_ret
    exact ⟨ret_int HO.out.symm, B1.out⟩
  · have HO := Lib.hid (poF_yes (L := xs.map Prod.fst) hq)
    have SF : Hid (Sf k r u) := Lib.hid (by have := transB_iff.1 hq; rwa [L1.out] at this)
    have HG : Hid (glv r u = gl (ext r) (ext u) k) := Lib.hid (by rw [glv_yes hq, L1.out])
    have CS := Lib.hid (cn_sf (s := (r, u)) SF.out)
    clear hq
    rw [HG.out]
    go_wp2_with (first | (refine wpList_store_row rfl 62 _ _ rfl w1.heap.size (V (gl (ext r) (ext u) k)).toArray rfl rfl 62 (V zero49).toArray (Arr.new w1 (V zero49) _ rfl) (size49 (gl_len (ext_len _) (ext_len _) k)) (by simp [V_len, gl_len, ext_len, zero49]) (one_V _) ?_; generalize hw_ : (w1.alloc (.cells #[.int .i64 0, .int .i64 0, .int .i64 0, .int .i64 0, .int .i64 0, .int .i64 0, .int .i64 0, .int .i64 0, .int .i64 0, .int .i64 0, .int .i64 0, .int .i64 0, .int .i64 0, .int .i64 0, .int .i64 0, .int .i64 0, .int .i64 0, .int .i64 0, .int .i64 0, .int .i64 0, .int .i64 0, .int .i64 0, .int .i64 0, .int .i64 0, .int .i64 0, .int .i64 0, .int .i64 0, .int .i64 0, .int .i64 0, .int .i64 0, .int .i64 0, .int .i64 0, .int .i64 0, .int .i64 0, .int .i64 0, .int .i64 0, .int .i64 0, .int .i64 0, .int .i64 0, .int .i64 0, .int .i64 0, .int .i64 0, .int .i64 0, .int .i64 0, .int .i64 0, .int .i64 0, .int .i64 0, .int .i64 0, .int .i64 0] 62)).setRow w1.heap.size (V (gl (ext r) (ext u) k)).toArray = w2; have A2 : Hid (Arr w2 w1.heap.size (V (gl (ext r) (ext u) k)) 62) := Lib.hid (by rw [← hw_]; exact (Arr.new w1 (V zero49) _ rfl).row); have b1 : Below w1.heap.size w1 w2 := (by rw [← hw_]; exact arr.below_setRow ((Below.refl _ _).alloc (Nat.le_refl _) _) (Nat.le_refl _) _); have t_w2 : w1.heap.size + 1 ≤ w2.heap.size := (by rw [← hw_]; simp); clear hw_; replace B1 := Lib.hid (B1.out.trans (b1.mono B1.out.size)); clear b1) | (refine wpList_load_row rfl 62 _ rfl w1.heap.size rfl 62 (V (gl (ext r) (ext u) k)).toArray (0, 0) _ A2.out sqp.underlying62 rfl (size49 (gl_len (ext_len _) (ext_len _) k)) ?_))
    refine (form_any r u k _ SF.out).mono ?_
    rintro e w3 ⟨rfl, b1⟩
    replace B1 := Lib.hid (B1.out.trans (b1.mono B1.out.size))
    have s3 := b1.size
    clear b1 A2
    have G49 := gS_len (cn (r, u)) k
    go_wp2_with (refine wpList_store_row rfl 62 _ _ rfl w3.heap.size (V (gS (cn (r, u)) k)).toArray rfl rfl 62 (V zero49).toArray (Arr.new w3 (V zero49) _ rfl) (size49 G49) (by simp [V_len, G49, zero49]) (one_V _) ?_; generalize hw_ : (w3.alloc (.cells #[.int .i64 0, .int .i64 0, .int .i64 0, .int .i64 0, .int .i64 0, .int .i64 0, .int .i64 0, .int .i64 0, .int .i64 0, .int .i64 0, .int .i64 0, .int .i64 0, .int .i64 0, .int .i64 0, .int .i64 0, .int .i64 0, .int .i64 0, .int .i64 0, .int .i64 0, .int .i64 0, .int .i64 0, .int .i64 0, .int .i64 0, .int .i64 0, .int .i64 0, .int .i64 0, .int .i64 0, .int .i64 0, .int .i64 0, .int .i64 0, .int .i64 0, .int .i64 0, .int .i64 0, .int .i64 0, .int .i64 0, .int .i64 0, .int .i64 0, .int .i64 0, .int .i64 0, .int .i64 0, .int .i64 0, .int .i64 0, .int .i64 0, .int .i64 0, .int .i64 0, .int .i64 0, .int .i64 0, .int .i64 0, .int .i64 0] 62)).setRow w3.heap.size (V (gS (cn (r, u)) k)).toArray = w4; have A4 : Hid (Arr w4 w3.heap.size (V (gS (cn (r, u)) k)) 62) := Lib.hid (by rw [← hw_]; exact (Arr.new w3 (V zero49) _ rfl).row); have b1 : Below w3.heap.size w3 w4 := (by rw [← hw_]; exact arr.below_setRow ((Below.refl _ _).alloc (Nat.le_refl _) _) (Nat.le_refl _) _); have t_w4 : w3.heap.size + 1 ≤ w4.heap.size := (by rw [← hw_]; simp); clear hw_; replace B1 := Lib.hid (B1.out.trans (b1.mono B1.out.size)); clear b1)
    refine (ixf_any xs n (cn (r, u)) k A N cp w3.heap.size _ LN.out (HF.out.keep B1.out (Nat.le_refl _)) A4.out hl HS.out CS.out).mono ?_
    rintro e w5 ⟨rfl, b1⟩
    have B5 := Lib.hid (B1.out.trans (b1.mono B1.out.size)); clear b1
    generalize fnd (xs.map Prod.fst) (cn (r, u)) = F at *
    go_wp2_with fail
    go_ret
    exact ⟨ret_int HO.out.symm, B5.out⟩
theorem orbB_no {r u : List Int} (h : orbF r u = none) : orbB r u = false := (orbL_none h).2
end Go.Proofs.Ytgcnemkhppkkcaa.orb

namespace Go.Proofs.Ytgcnemkhppkkcaa.orb
open Go.ChangeShapes Go.WideShapes Go.ChangeAt Go.RowKit Go.Maps
open mem ints arr pm sf gl
set_option linter.unusedVariables false
set_option maxRecDepth 100000
theorem soF_no {r u r' u' : List Int} (h : orbB r u = false) : soF r u r' u' = false := by simp [soF, h]
theorem soF_po {r u r' u' : List Int} {xs : List Fd} (h : orbB r u = true) (h2 : orbL r u = xs.map Prod.fst) : soF r u r' u' = decide (0 ≤ poF (xs.map Prod.fst) r' u') := by
  unfold soF poF
  rw [h, h2]
  cases transB r' u' <;> simp
set_option maxHeartbeats 2000000 in
theorem so_impl (x : Value) (r u : List Int) (y : Value) (r' u' : List Int) (h1 h2 : Nat) (w : World) (hx : Srd w h1 x r u) (hy : Srd w h2 y r' u') (hn : r.length ≤ 1048576) (hm : u.length ≤ 1048576) (hn' : r'.length ≤ 1048576) (hm' : u'.length ≤ 1048576) :
    Calls sqp.prog 18 #[x, y] w fun e w' => e = .returned (.bool (soF r u r' u')) ∧ Below w.heap.size w w' := by
  have HX := Lib.hid hx; have HY := Lib.hid hy; clear hx hy
  obtain ⟨P, n, c, Q, m, d, rfl, q1, q2, e1, e2, ht, HR⟩ := HX.out.open
  obtain ⟨P', n', c', Q', m', d', rfl, q1', q2', e1', e2', ht', HR'⟩ := HY.out.open
  clear HR q1 q2 HR' q1' q2'
  have B0 : Hid (∀ a b, Below w.heap.size w ((w.alloc a).alloc b)) := Lib.hid (fun a b => ((Below.refl _ _).alloc (Nat.le_refl _) _).alloc (by simp) _)
  go_enter sqp.func18, sqp.ntmps18
  go_wp2_with fail
  refine (orbitOf_any _ r u h1 _ (HX.out.keep ((B0.out _ _).mono ht) (Nat.le_refl _)) hn hm).mono ?_
  rintro e w1 ⟨b1, h⟩
  have BX := Lib.hid ((Arr.new (w.alloc (.cells #[.slice P n c, .slice Q m d] 25)) [.slice P' n' c', .slice Q' m' d'] 25 (g := w.heap.size + 1) (by simp)).keep b1 (by simp))
  have B1 := Lib.hid ((B0.out _ _).trans (b1.mono (by simp; omega)))
  have Y1 := Lib.hid (HY.out.keep (B1.out.mono ht') (Nat.le_refl _))
  clear b1
  have c0 := BX.out.cell (k := 0) rfl; have c1 := BX.out.cell (k := 1) rfl
  rcases h with ⟨h1, h2, A, cp, rfl, h3⟩ | ⟨h1, rfl⟩
  · have HO := Lib.hid (fin_open h1 h2)
    have FM := Lib.hid (Fm.of h3 rfl (finds_pos (r, u)))
    have HF : Hid (soF r u r' u' = decide (0 ≤ poF ((finds (r, u)).map Prod.fst) r' u') ∧ ∀ x ∈ finds (r, u), Sf r.length x.1.1 x.1.2) := Lib.hid (by obtain ⟨q, a, b, c, d, e, f⟩ := HO.out; exact ⟨soF_po d c, f⟩)
    clear h3 h1 HO
    generalize finds (r, u) = xs at *
    obtain ⟨N, hN⟩ : ∃ N, xs.length = N := ⟨_, rfl⟩
    rw [hN] at h2 ⊢
    have LN := Lib.hid hN; clear hN
    go_wp2_with fail
    refine (po_any xs r.length A N cp _ r' u' _ _ LN.out FM.out (by omega) HF.out.2 Y1.out hn' hm').mono ?_
    rintro e w2 ⟨rfl, b1⟩
    have B2 := Lib.hid (B1.out.trans (b1.mono B1.out.size)); clear b1
    have HE := Lib.hid HF.out.1
    generalize poF (xs.map Prod.fst) r' u' = F at *
    go_wp2_with fail
    go_ret
    exact ⟨ret_bool HE.out.symm, B2.out⟩
  · have HE := Lib.hid (soF_no (r' := r') (u' := u') (orbB_no (fin_shut h1)))
    clear h1
    go_wp2_with fail
    go_ret
    exact ⟨ret_bool HE.out.symm, B1.out⟩
end Go.Proofs.Ytgcnemkhppkkcaa.orb

namespace Go.Proofs.Ytgcnemkhppkkcaa.orb
open Go.ChangeShapes Go.WideShapes Go.ChangeAt Go.RowKit Go.Maps
open mem ints arr pm sf gl
set_option linter.unusedVariables false
set_option maxRecDepth 100000
def rvL (xs : List Value) (k : Nat) : List Value := (List.range xs.length).map fun j => if j < k ∨ xs.length - k ≤ j then xs.getD (xs.length - 1 - j) undef else xs.getD j undef
theorem rv_len (xs : List Value) (k : Nat) : (rvL xs k).length = xs.length := by simp [rvL]
theorem rv_get {xs : List Value} {j : Nat} (k : Nat) (h : j < xs.length) : (rvL xs k)[j]? = some (if j < k ∨ xs.length - k ≤ j then xs.getD (xs.length - 1 - j) undef else xs.getD j undef) := by simp [rvL, h]
theorem rv_zero (xs : List Value) : rvL xs 0 = xs := by
  refine List.ext_getElem? fun j => ?_
  by_cases h : j < xs.length
  · rw [rv_get 0 h, if_neg (by omega), List.getElem?_eq_getElem h]; simp [List.getD, h]
  · rw [List.getElem?_eq_none (by rw [rv_len]; omega), List.getElem?_eq_none (by omega)]
theorem rv_step {xs : List Value} {k J : Nat} (h : k < J) (hJ : J + k + 1 = xs.length) : ((rvL xs k).set k (xs.getD J undef)).set J (xs.getD k undef) = rvL xs (k + 1) := by
  refine List.ext_getElem? fun j => ?_
  by_cases hj : j < xs.length
  · rw [rv_get (k + 1) hj, List.getElem?_set, List.length_set, rv_len]
    by_cases e1 : J = j
    · subst e1
      rw [if_pos rfl, if_pos hj, if_pos (by omega), show xs.length - 1 - J = k by omega]
    · rw [if_neg e1, List.getElem?_set, rv_len]
      by_cases e2 : k = j
      · subst e2
        rw [if_pos rfl, if_pos hj, if_pos (by omega), show xs.length - 1 - k = J by omega]
      · rw [if_neg e2, rv_get k hj]
        by_cases q : j < k ∨ xs.length - k ≤ j
        · rw [if_pos q, if_pos (by omega)]
        · rw [if_neg q, if_neg (by omega)]
  · rw [List.getElem?_eq_none (by simp [rv_len]; omega), List.getElem?_eq_none (by rw [rv_len]; omega)]
theorem rv_end {xs : List Value} {k : Nat} (h : xs.length ≤ 2 * k + 1) : rvL xs k = xs.reverse := by
  refine List.ext_getElem? fun j => ?_
  by_cases hj : j < xs.length
  · rw [rv_get k hj, List.getElem?_reverse hj]
    have e : ∀ i, i < xs.length → xs[i]? = some (xs.getD i undef) := fun i hi => by simp [List.getD, hi]
    rw [e _ (by omega)]
    split
    · rfl
    · rw [show xs.length - 1 - j = j by omega]
  · rw [List.getElem?_eq_none (by rw [rv_len]; omega), List.getElem?_eq_none (by simp; omega)]
def BY (L : List UInt8) : List Value := L.map fun c => Value.int .u8 (c.toNat : Int)
theorem BY_at {L : List UInt8} {k : Nat} (h : k < L.length) : ∃ c : UInt8, (BY L).getD k undef = .int .u8 (c.toNat : Int) := ⟨L[k], by simp [BY, List.getD, h]⟩
theorem rv_mid {L : List UInt8} {k j : Nat} (hj : j < L.length) (h1 : k ≤ j) (h2 : j + k < L.length) : (rvL (BY L) k)[j]? = some ((BY L).getD j undef) := by
  have hl : (BY L).length = L.length := by simp [BY]
  rw [rv_get k (by omega), if_neg (by omega)]
set_option maxHeartbeats 2000000 in
theorem revb_any (A : Option Addr) (N c : Nat) (L : List UInt8) (lo hi : Nat) (w : World) (hN : L.length = N) (hr : Row w lo hi A N (BY L)) (hl : N ≤ 1000) :
    Calls sqp.prog 71 #[.slice A N c] w fun e w' => e = .returned (.tuple #[]) ∧ Row w' lo hi A N (BY L.reverse) ∧ Out lo hi w w' := by
  have LN := Lib.hid hN; have HR := Lib.hid hr; clear hr hN
  have ZL : Hid ((BY L).length = N) := Lib.hid (by simp [BY, LN.out])
  go_enter sqp.func71, sqp.ntmps71
  go_wp2
  go_loopw [2, 3] (fun iv jv wr => ∃ k : Nat, 2 * k ≤ N + 1 ∧ iv = .int .i64 k ∧ jv = .int .i64 ((N : Int) - 1 - k) ∧ Row wr lo hi A N (rvL (BY L) k) ∧ Out lo hi w wr) (fun iv _ _ => N + 1 - (intOf iv).toNat)
  case atStart => exact ⟨0, by omega, rfl, by simp, by rw [rv_zero]; exact HR.out, Out.refl _ _ _⟩
  case round =>
    obtain ⟨k, hk, rfl, rfl, hr, ho⟩ := hrel
    have RW := Lib.hid hr; have OW := Lib.hid ho; clear hr ho
    by_cases hlt : (k : Int) < (N : Int) - 1 - k
    · obtain ⟨J, hJ⟩ : ∃ J : Nat, J + k + 1 = N := ⟨N - 1 - k, by omega⟩
      have hJi : (N : Int) - 1 - k = J := by omega
      have hkJ : k < J := by omega
      obtain ⟨ca, hca⟩ := BY_at (L := L) (k := k) (by have := LN.out; omega)
      obtain ⟨cb, hcb⟩ := BY_at (L := L) (k := J) (by have := LN.out; omega)
      obtain ⟨g, off, u1, e1, hg1, hg2, hu1, c1, f1⟩ := RW.out.at_ (k := k) (by omega)
      obtain ⟨g', off', u2, e2, _, _, hu2, c2, f2⟩ := RW.out.at_ (k := J) (by omega)
      subst e1
      injection e2 with e2; injection e2 with e2 e3; subst e2; subst e3
      rw [rv_mid (by have := LN.out; omega) (Nat.le_refl _) (by have := LN.out; omega), hca] at hu1
      rw [rv_mid (by have := LN.out; omega) (by omega) (by have := LN.out; omega), hcb] at hu2
      obtain rfl := Option.some.inj hu1
      obtain rfl := Option.some.inj hu2
      have NR : Hid (Row ((wr.drew.setCell ⟨g, off + k, none⟩ (.int .u8 (cb.toNat : Int))).setCell ⟨g, off + J, none⟩ (.int .u8 (ca.toNat : Int))) lo hi (some ⟨g, off, none⟩) N (rvL (BY L) (k + 1))) := Lib.hid (by
        have h1 := RW.out.set_ (k := k) (by omega) (.int .u8 (cb.toNat : Int))
        have h2 := h1.set_ (k := J) (by omega) (.int .u8 (ca.toNat : Int))
        rw [← hca, ← hcb, rv_step hkJ (by rw [ZL.out]; exact hJ)] at h2
        rw [hca, hcb] at h2
        exact h2)
      have NO : Hid (Out lo hi w ((wr.drew.setCell ⟨g, off + k, none⟩ (.int .u8 (cb.toNat : Int))).setCell ⟨g, off + J, none⟩ (.int .u8 (ca.toNat : Int)))) := Lib.hid (((OW.out.drewN 1).set_ hg1 hg2 _).set_ hg1 hg2 _)
      clear hca hcb hu1 hu2 hlt
      rw [hJi]
      go_wp2
      go_region
      go_wp2
      go_roundw
      case rel => exact ⟨k + 1, by omega, by go_num, by congr 1; omega, NR.out, NO.out⟩
      case measure => simp [intOf]; omega
    · have HE : Hid (rvL (BY L) k = BY L.reverse) := Lib.hid (by rw [rv_end (by rw [ZL.out]; omega)]; simp [BY])
      go_wp2
      go_end0
      exact ⟨rfl, by rw [← HE.out]; exact RW.out, OW.out⟩
theorem infoBy : (sqp.prog.info? 5).map (fun i => (i.zero, i.size, i.bytes)) = some (some (.int .u8 0), 1, 1) := by kernel_rfl
theorem conv_row {W : World} {lo hi N c : Nat} {A : Option Addr} {L : List UInt8} (h : Row W lo hi A N (BY L)) :
    (convert 22 9 (.slice A N c)).run sqp.prog W = .ok (.string ⟨L.toArray⟩) W := by
  have hl : L.length = N := by have := h.1; simpa [BY] using this
  subst hl
  rcases A with _ | a
  · have hz : L = [] := by
      rcases Nat.eq_zero_or_pos L.length with q | q
      · exact List.eq_nil_of_length_eq_zero q
      · obtain ⟨g, off, e, _⟩ := h.2.2 q; cases e
    subst hz
    exact run_convert_bytes_nil W 22 5 sqp.underlying22 sqp.underlying5 0 c 9 sqp.underlying9
  · refine run_convert_bytes_back W _ _ 5 _ c L sqp.underlying22 sqp.underlying5 sqp.underlying9 fun j hj => ?_
    obtain ⟨g, off, e, _, _, hc⟩ := h.2.2 (by omega)
    obtain rfl := Option.some.inj e
    rw [show (⟨g, off, none⟩ : Addr).add j = ⟨g, off + j, none⟩ by unfold Addr.add; split <;> simp_all]
    rw [(hc j hj).1]
    simp [BY, hj]
def Lt (xs : List Fd) : Prop := ∀ x ∈ xs, x.2.2 = 0 ∨ x.2.2 = 2
theorem Lt.add {xs : List Fd} (h : Lt xs) (k : Nat) (c : UInt8) {l : Nat} (hl : l = 0 ∨ l = 2) : Lt (addF k c l xs) := by
  unfold addF
  split
  · exact h
  · intro x hx
    rcases List.mem_append.1 hx with q | q
    · exact h x q
    · rw [List.mem_singleton] at q; subst q; exact hl
theorem Lt.run : ∀ (f k : Nat) {xs : List Fd}, Lt xs → Lt (frun f k xs)
  | 0, _, _, h => h
  | f + 1, k, xs, h => by
    rw [frun]
    split
    · exact Lt.run f (k + 1) ((h.add k 84 (.inl rfl)).add k 83 (.inr rfl))
    · exact h
theorem finds_let (s : Sur) : Lt (finds s) := Lt.run 122 0 (fun x hx => by rw [List.mem_singleton] at hx; subst hx; exact .inl rfl)
theorem fd_from (s : Sur) (n p l : Nat) : (V (fdL s n p l))[49]? = some (.int .i64 p) := by
  have e : V (fdL s n p l) = V (gS s n) ++ V [(p : Int), (l : Int)] := by simp [V, fdL]
  rw [e, List.getElem?_append_right (by rw [V_len, gS_len]; omega), V_len, gS_len]; rfl
theorem fd_by (s : Sur) (n p l : Nat) : (V (fdL s n p l))[50]? = some (.int .i64 l) := by
  have e : V (fdL s n p l) = V (gS s n) ++ V [(p : Int), (l : Int)] := by simp [V, fdL]
  rw [e, List.getElem?_append_right (by rw [V_len, gS_len]; omega), V_len, gS_len]; rfl
structure Bw (w wr : World) (v : Value) (L : List UInt8) : Prop where
  own : wr.ownsRow w.heap.size 5 1 v L.length (BY L)
  bel : Below w.heap.size w wr
set_option maxHeartbeats 2000000 in
theorem wt_any (xs : List Fd) (q : LW) (n : Nat) (A : Option Addr) (N cp k0 : Nat) (w : World) (hN : xs.length = N) (hf : Fm w A n xs) (hq : Fq xs q) (hl : Lt xs) (hk : k0 < N) (hn : N ≤ 1000) :
    Calls sqp.prog 42 #[.slice A N cp, .int .i64 k0] w fun e w' => e = .returned (.string ⟨(q.2.getD k0 []).toArray⟩) ∧ Below w.heap.size w w' := by
  have HF := Lib.hid hf; have HQ := Lib.hid hq; have HL := Lib.hid hl; have LN := Lib.hid hN; clear hf hq hl hN
  obtain ⟨W0, hW0⟩ : ∃ W0, q.2.getD k0 [] = W0 := ⟨_, rfl⟩
  have HW := Lib.hid hW0
  rw [hW0]
  clear hW0
  obtain ⟨i0, hi0, hz0, hz1, hz2⟩ := info_parts infoBy
  have hix0 : ∀ W, (Instr.index 9 (.string { data := #[84, 116, 83, 115] }) (.int .i64 0)).run sqp.prog W = .ok (.int .u8 84) W := fun W => by kernel_rfl
  have hix2 : ∀ W, (Instr.index 9 (.string { data := #[84, 116, 83, 115] }) (.int .i64 2)).run sqp.prog W = .ok (.int .u8 83) W := fun W => by kernel_rfl
  go_enter sqp.func42, sqp.ntmps42
  go_wp2
  go_loopw [1, 5] (fun pv v wr => ∃ (k : Nat) (acc : List UInt8), k < N ∧ pv = .int .i64 k ∧ acc.length + k ≤ 1000 ∧ Bw w wr v acc ∧ Hid (q.2.getD k [] ++ acc.reverse = W0)) (fun pv _ _ => (intOf pv).toNat)
  case atStart => exact ⟨k0, [], hk, rfl, by simp; omega, ⟨World.ownsRow_nil _ _ _ _, Below.refl _ _⟩, Lib.hid (by rw [HW.out]; simp)⟩
  case round =>
    obtain ⟨k, acc, hkN, rfl, hak, hbw, HA⟩ := hrel
    have BW := Lib.hid hbw; clear hbw
    have hsz := BW.out.bel.size
    by_cases h0 : 0 < k
    · obtain ⟨x, hxk⟩ : ∃ x, xs[k]? = some x := ⟨_, List.getElem?_eq_getElem (by rw [LN.out]; exact hkN)⟩
      obtain ⟨hlt2, hwd⟩ := HQ.out.word k x hxk h0
      obtain ⟨g, rfl, hg, hc⟩ := HF.out k x hxk
      have hlet := HL.out x (List.mem_of_getElem? hxk)
      have CB : Hid (∀ W, Below w.heap.size w W → W.cell? ⟨g, k * 51 + 50, none⟩ = some (.int .i64 x.2.2)) := Lib.hid (fun W hW => by rw [hW.cell (p := ⟨g, k * 51 + 50, none⟩) hg]; exact hc 50 _ (fd_by _ _ _ _))
      have CF : Hid (∀ W, Below w.heap.size w W → W.cell? ⟨g, k * 51 + 49, none⟩ = some (.int .i64 x.2.1)) := Lib.hid (fun W hW => by rw [hW.cell (p := ⟨g, k * 51 + 49, none⟩) hg]; exact hc 49 _ (fd_from _ _ _ _))
      have HA2 : Hid (q.2.getD x.2.1 [] ++ (acc ++ [fdB x.2.2]).reverse = W0) := Lib.hid (by rw [← HA.out, hwd]; simp)
      have hb := CB.out _ BW.out.bel
      clear hc hxk hwd CB
      obtain ⟨s, p, l⟩ := x
      dsimp only at hlet hlt2 hb CF HA2
      rcases hlet with rfl | rfl
      · go_wp2_with (at_builtin; refine wpList_append_one wr _ _ rfl _ _ 22 rfl w.heap.size 5 i0 _ 1 sqp.underlying22 hi0 hz0 hz1 hz2 rfl _ _ _ rfl BW.out.own rfl rfl ?c4 (by decide) (by omega) ?_)
        case c4 => omega
        intro v' w2 hown hg
        have HG := Lib.hid (BW.out.bel.trans (own_below (B := w.heap.size) BW.out.own hg (Nat.le_refl _) (by omega)))
        have H1 : Hid (Bw w w2 v' (acc ++ [84])) := Lib.hid ⟨by simpa [BY] using hown, HG.out⟩; clear hown hg
        have hf := CF.out _ HG.out
        go_wp2
        go_roundw
        case rel => exact ⟨p, acc ++ [84], by omega, by first | rfl | go_num, by simp; omega, H1.out, HA2⟩
        case measure => simp [intOf]; omega
      · go_wp2_with (at_builtin; refine wpList_append_one wr _ _ rfl _ _ 22 rfl w.heap.size 5 i0 _ 1 sqp.underlying22 hi0 hz0 hz1 hz2 rfl _ _ _ rfl BW.out.own rfl rfl ?c4 (by decide) (by omega) ?_)
        case c4 => omega
        intro v' w2 hown hg
        have HG := Lib.hid (BW.out.bel.trans (own_below (B := w.heap.size) BW.out.own hg (Nat.le_refl _) (by omega)))
        have H1 : Hid (Bw w w2 v' (acc ++ [83])) := Lib.hid ⟨by simpa [BY] using hown, HG.out⟩; clear hown hg
        have hf := CF.out _ HG.out
        go_wp2
        go_roundw
        case rel => exact ⟨p, acc ++ [83], by omega, by first | rfl | go_num, by simp; omega, H1.out, HA2⟩
        case measure => simp [intOf]; omega
    · obtain rfl : k = 0 := by omega
      have HE : Hid (acc.reverse = W0) := Lib.hid (by
        rw [← HA.out]
        have hlen := HQ.out.len
        have hpos : 0 < q.2.length := by rw [hlen, LN.out]; exact hkN
        have e := HQ.out.zero _ (List.getElem?_eq_getElem hpos)
        have : q.2.getD 0 [] = [] := by simp [List.getD, hpos, e]
        rw [this]; rfl)
      obtain ⟨A5, c5, e5⟩ := own_form BW.out.own
      subst e5
      go_wp2_with fail
      refine (revb_any A5 acc.length c5 acc w.heap.size _ _ rfl (Row.of_own BW.out.own) (by omega)).mono ?_
      rintro e w3 ⟨rfl, rr, oo⟩
      have hcv := conv_row (c := c5) rr
      rw [HE.out] at hcv
      have BO := Lib.hid (BW.out.bel.trans (oo.below (Nat.le_refl _) hsz)); clear rr oo
      go_wp2
      go_ret
      exact ⟨rfl, BO.out⟩
theorem orb_orbF {r u : List Int} {q : LW} (h : orbF r u = some q) (ht : transB r u = true) : orb (r, u) = some q := by rw [← orbF_yes ht]; exact h
theorem ow_none {r u r' u' : List Int} (h : orbF r u = none) : owF r u r' u' = none := by
  unfold owF
  split
  · rename_i ht
    rw [Bool.and_eq_true] at ht
    rw [orbF_yes ht.1] at h
    rw [h]
  · rfl
theorem ow_out {r u r' u' : List Int} {q : LW} {xs : List Fd} (ht : transB r u = true) (h : orb (r, u) = some q) (hq : q.1 = xs.map Prod.fst) (hp : poF (xs.map Prod.fst) r' u' < 0) : owF r u r' u' = none := by
  unfold owF
  split
  · rename_i ht2
    rw [Bool.and_eq_true] at ht2
    rw [poF_yes ht2.2, ← hq] at hp
    rw [h]
    simp only [hp, if_true]
  · rfl
theorem ow_in {r u r' u' : List Int} {q : LW} {xs : List Fd} (ht : transB r u = true) (h : orb (r, u) = some q) (hq : q.1 = xs.map Prod.fst) {k : Nat} (hp : poF (xs.map Prod.fst) r' u' = k) :
    owF r u r' u' = if 40 < (q.2.getD k []).length then none else some (q.2.getD k []) := by
  have ht2 : transB r' u' = true := by
    cases e : transB r' u'
    · rw [poF_no e] at hp; omega
    · rfl
  rw [poF_yes ht2, ← hq] at hp
  unfold owF
  rw [ht, ht2, h]
  simp only [Bool.and_self, if_true, hp, Int.toNat_natCast]
  rw [if_neg (by omega)]
theorem po_lt {xs : List Fd} {r u : List Int} {k : Nat} (hp : poF (xs.map Prod.fst) r u = k) : k < xs.length := by
  unfold poF at hp
  split at hp
  · have := fnd_range (xs.map Prod.fst) (cn (r, u))
    rw [hp, List.length_map] at this
    omega
  · omega
theorem po_range (L : List Sur) (r u : List Int) : poF L r u = -1 ∨ 0 ≤ poF L r u := by
  unfold poF
  split
  · have := fnd_range L (cn (r, u)); omega
  · exact .inl rfl
set_option maxHeartbeats 2000000 in
theorem ow_impl (x : Value) (r u : List Int) (y : Value) (r' u' : List Int) (h1 h2 : Nat) (w : World) (hx : Srd w h1 x r u) (hy : Srd w h2 y r' u') (hn : r.length ≤ 1048576) (hm : u.length ≤ 1048576) (hn' : r'.length ≤ 1048576) (hm' : u'.length ≤ 1048576) :
    Calls sqp.prog 12 #[x, y] w (OWPost r u r' u' w) := by
  have HX := Lib.hid hx; have HY := Lib.hid hy; clear hx hy
  obtain ⟨P, n, c, Q, m, d, rfl, q1, q2, e1, e2, ht, HR⟩ := HX.out.open
  obtain ⟨P', n', c', Q', m', d', rfl, q1', q2', e1', e2', ht', HR'⟩ := HY.out.open
  clear HR q1 q2 HR' q1' q2'
  have B0 : Hid (∀ a b, Below w.heap.size w ((w.alloc a).alloc b)) := Lib.hid (fun a b => ((Below.refl _ _).alloc (Nat.le_refl _) _).alloc (by simp) _)
  go_enter sqp.func12, sqp.ntmps12
  go_wp2_with fail
  refine (orbitOf_any _ r u h1 _ (HX.out.keep ((B0.out _ _).mono ht) (Nat.le_refl _)) hn hm).mono ?_
  rintro e w1 ⟨b1, h⟩
  have BX := Lib.hid ((Arr.new (w.alloc (.cells #[.slice P n c, .slice Q m d] 25)) [.slice P' n' c', .slice Q' m' d'] 25 (g := w.heap.size + 1) (by simp)).keep b1 (by simp))
  have B1 := Lib.hid ((B0.out _ _).trans (b1.mono (by simp; omega)))
  have Y1 := Lib.hid (HY.out.keep (B1.out.mono ht') (Nat.le_refl _))
  clear b1
  have c0 := BX.out.cell (k := 0) rfl; have c1 := BX.out.cell (k := 1) rfl
  rcases h with ⟨h1, h2, A, cp, rfl, h3⟩ | ⟨h1, rfl⟩
  · obtain ⟨q, hq1, hq2, hq3, hq4, hq5, hq6⟩ := fin_open h1 h2
    have OB := Lib.hid (orb_orbF hq1 h1)
    have FQ := Lib.hid hq2
    have SFx := Lib.hid hq6
    have FM := Lib.hid (Fm.of h3 rfl (finds_pos (r, u)))
    have LT := Lib.hid (finds_let (r, u))
    have HT := Lib.hid h1
    clear h3 h1 hq1 hq2 hq3 hq4 hq5 hq6
    generalize finds (r, u) = xs at *
    obtain ⟨N, hN⟩ : ∃ N, xs.length = N := ⟨_, rfl⟩
    rw [hN] at h2 ⊢
    have LN := Lib.hid hN; clear hN
    go_wp2_with fail
    refine (po_any xs r.length A N cp _ r' u' _ _ LN.out FM.out (by omega) SFx.out Y1.out hn' hm').mono ?_
    rintro e w2 ⟨rfl, b1⟩
    have B2 := Lib.hid (B1.out.trans (b1.mono B1.out.size))
    have FM2 := Lib.hid (FM.out.keep b1 (Nat.le_refl _))
    clear b1 c0 c1
    rcases po_range (xs.map Prod.fst) r' u' with hp | hp
    · have HE := Lib.hid (ow_out HT.out OB.out FQ.out.fst (r' := r') (u' := u') (by rw [hp]; omega))
      rw [hp]
      clear hp
      go_wp2_with fail
      go_ret2
      exact ow_no HE.out B2.out
    · obtain ⟨k, hk⟩ := Int.eq_ofNat_of_zero_le hp
      have HK := Lib.hid (po_lt hk)
      have HE := Lib.hid (ow_in HT.out OB.out FQ.out.fst hk)
      rw [hk]
      clear hk hp
      have hkN : k < N := by have := HK.out; rw [LN.out] at this; exact this
      go_wp2_with fail
      refine (wt_any xs q r.length A N cp k _ LN.out FM2.out FQ.out LT.out hkN (by omega)).mono ?_
      rintro e w3 ⟨rfl, b1⟩
      have B3 := Lib.hid (B2.out.trans (b1.mono B2.out.size)); clear b1
      generalize q.2.getD k [] = wd at *
      have hz : (⟨wd.toArray⟩ : ByteArray).size = wd.length := by show wd.toArray.size = _; simp
      by_cases h40 : 40 < wd.length
      · have HE2 : Hid (owF r u r' u' = none) := Lib.hid (by rw [HE.out, if_pos h40])
        go_wp2_with fail
        go_ret2
        exact ow_no HE2.out B3.out
      · have HE2 : Hid (owF r u r' u' = some wd) := Lib.hid (by rw [HE.out, if_neg h40])
        go_wp2_with fail
        go_ret2
        exact ow_yes HE2.out B3.out
  · have HE := Lib.hid (ow_none (r' := r') (u' := u') (fin_shut h1))
    clear h1
    have PN := poF_nil r' u'
    go_wp2_with fail
    refine (po_any [] 0 none 0 0 _ r' u' _ _ rfl (Fm.nil _ _ _) (by omega) (fun y hy => by simp at hy) Y1.out hn' hm').mono ?_
    rintro e w2 ⟨rfl, b1⟩
    have B2 := Lib.hid (B1.out.trans (b1.mono B1.out.size)); clear b1
    rw [List.map_nil, PN]
    clear PN
    go_wp2_with fail
    go_ret2
    exact ow_no HE.out B2.out
end Go.Proofs.Ytgcnemkhppkkcaa.orb

namespace Go.Proofs.Ytgcnemkhppkkcaa.sqb
open Go.ChangeShapes Go.WideShapes Go.ChangeAt Go.RowKit
open Go mem ints sf sq sqw cur
set_option linter.unusedVariables false
set_option maxRecDepth 100000
theorem u_clo (xs : List Int) : ∀ v ∈ U xs, clo 20 v = true := by
  intro v hv
  simp only [U, List.mem_map] at hv
  obtain ⟨x, _, rfl⟩ := hv
  rfl
theorem rd_on {W : World} {ws : Array Wn} {A : Option Addr} {n : Nat} {xs : List Value} (h : Rd (wnW W ws) ws.size A n xs) (τ : Tape) : Rd (retape τ (wnW W ws)) (retape τ (wnW W ws)).heap.size A n xs := by
  have e : ws.size = (wnW W ws).heap.size := by simp [wnW]
  rw [e] at h
  exact h
theorem bytes_new {W : World} {ws : Array Wn} {A : Option Addr} {n c : Nat} {l : List Int} (hw : WnOk W ws) (rd : Rd W W.heap.size A n (U l)) {b : Nat} (hv : Value.okWide Try.prog W .any b 22 (.slice A n c)) :
    ∃ (more : Array Wn) (A' : Option Addr), WnOk W (ws ++ more) ∧ (∀ rest : Array Wn, (∀ τ : Tape, Rd (retape τ (wnW W (ws ++ more ++ rest))) (retape τ (wnW W (ws ++ more ++ rest))).heap.size A' n (U l)) ∧ (∀ C : Cal, @VR C (wnB (ws ++ more ++ rest)) (.slice A' n c) (.slice A n c)) ∧ ∀ C : Cal, @VR C (wnB (wnS (ws ++ more ++ rest))) (.slice A' n c) (.slice A' n c)) := by
  have hk : Cell.okWide Try.prog W .any b 22 (.slice A n c) := by
    have h := hv
    unfold Value.okWide at h
    rw [Try.underlying22] at h
    exact h
  have s0 := slot_of Try.underlying22 hk rd
  obtain ⟨m0, A0, w0, t0⟩ := slot_new hw s0 (u_clo l)
  have z0 : A = none → n = 0 := fun e => by
    subst e
    rcases Nat.eq_zero_or_pos n with z | z
    · exact z
    · obtain ⟨g, off, e, _⟩ := rd.2.2 z; cases e
  refine ⟨m0, A0, w0, fun rest => ?_⟩
  have q0 : Slot (ws ++ m0 ++ rest) (U l) A0 A := t0.ext rest
  exact ⟨fun τ => rd_on (rd_slot q0 rd.1 z0) τ, fun C => @Slot.vr _ _ _ _ _ _ C q0, fun C => @Slot.vrS _ _ _ _ _ _ C q0⟩
end Go.Proofs.Ytgcnemkhppkkcaa.sqb

namespace Go.Proofs.Ytgcnemkhppkkcaa.cur
open Go.ChangeShapes Go.WideShapes Go.ChangeAt Go.RowKit
open mem ints arr pm Go.Proofs.Ytgcnemkhppkkcaa.wd
set_option linter.unusedVariables false
set_option maxRecDepth 100000
def OneOf (xs : List ByteArray) (g : Nat) (A : Option Addr) (n c : Nat) (l : List Int) (w : World) (e : Ending) (w' : World) : Prop :=
  ∃ s ∈ xs, e = .returned (.string s) ∧ Cur w' g A n c l ∧ Out g (g + 1) w w'
set_option maxHeartbeats 400000 in
theorem str_any (w : World) (g : Nat) (A : Option Addr) (n c : Nat) (l : List Int) (b m d : Nat) (xs : List ByteArray) (hm : 1 ≤ m) (hm2 : m ≤ 1000) (hc : Cur w g A n c l) (hx : Rd w w.heap.size (some ⟨b, 0, none⟩) m (xs.map Value.string)) (hbg : b ≠ g) :
    Calls sqp.prog 74 #[.pointer (some ⟨g, 0, none⟩), .slice (some ⟨b, 0, none⟩) m d] w (OneOf xs g A n c l w) := by
  have HC := Lib.hid hc; have HX := Lib.hid hx; clear hc hx
  go_enter sqp.func74, sqp.ntmps74
  go_wp2_with fail
  refine (below_any _ g A n c l m (by omega) (by omega) HC.out).mono ?_
  rintro e w2 ⟨x, x0, x1, rfl, hcur, ho⟩
  obtain ⟨j, rfl⟩ := Int.eq_ofNat_of_zero_le x0
  have hj : j < m := by omega
  obtain ⟨g', off, u, he, hgl, hxu, hcx⟩ := HX.out.at_ hj
  injection he with he; injection he with e1 e2; subst e1; subst e2
  simp only [List.getElem?_map, Option.map_eq_some_iff] at hxu
  obtain ⟨s, hs, rfl⟩ := hxu
  rw [Nat.zero_add] at hcx
  have hc2 : w2.cell? ⟨b, j, none⟩ = some (.string s) := by
    rw [World.cell?_of_block (w := w) (a := ⟨b, j, none⟩) (ho.block b (by omega) (by omega))]; exact hcx
  have HS := Lib.hid (List.mem_of_getElem? hs)
  have HC2 := Lib.hid hcur; have HO := Lib.hid ho; clear hcur ho hs hcx
  go_wp2_with fail
  go_ret
  exact ⟨s, HS.out, rfl, HC2.out, HO.out⟩
def letters5 : List ByteArray := [⟨#[84]⟩, ⟨#[83]⟩, ⟨#[116]⟩, ⟨#[115]⟩, ⟨#[84]⟩]
theorem letters5_is {s : ByteArray} (h : s ∈ letters5) : ∃ c, isL c = true ∧ s = ⟨#[c]⟩ := by
  simp only [letters5, List.mem_cons, List.not_mem_nil, or_false] at h
  rcases h with rfl | rfl | rfl | rfl | rfl
  · exact ⟨84, rfl, rfl⟩
  · exact ⟨83, rfl, rfl⟩
  · exact ⟨116, rfl, rfl⟩
  · exact ⟨115, rfl, rfl⟩
  · exact ⟨84, rfl, rfl⟩
def Wrd (k : Nat) (s : ByteArray) : Prop := s.size ≤ k ∧ s.data.toList.all isL = true
theorem Wrd.snoc {k : Nat} {s : ByteArray} {c : UInt8} (h : Wrd k s) (hc : isL c = true) : Wrd (k + 1) (s ++ ⟨#[c]⟩) := by
  refine ⟨?_, ?_⟩
  · have := h.1; simp [ByteArray.size_append]; show s.size + 1 ≤ k + 1; omega
  · simp [h.2, hc]
theorem Wrd.ok {k : Nat} {s : ByteArray} (h : Wrd k s) (hk : k ≤ 40) : wok s = true := by
  unfold wok; rw [decide_eq_true (Nat.le_trans h.1 hk), h.2]; rfl
def WPost (k : Nat) (g : Nat) (A : Option Addr) (n c : Nat) (l : List Int) (w : World) (e : Ending) (w' : World) : Prop :=
  ∃ s, Wrd k s ∧ e = .returned (.string s) ∧ Cur w' g A n c l ∧ Out g (g + 1) w w'
set_option maxHeartbeats 1000000 in
theorem word_any (w : World) (g : Nat) (A : Option Addr) (n c : Nat) (l : List Int) (hc : Cur w g A n c l) :
    Calls sqp.prog 45 #[.pointer (some ⟨g, 0, none⟩), .int .i64 6] w (WPost 6 g A n c l w) := by
  have HC := Lib.hid hc; clear hc
  go_enter sqp.func45, sqp.ntmps45
  go_wp2_with fail
  refine (below_any _ g A n c l 7 (by omega) (by omega) HC.out).mono ?_
  rintro e w2 ⟨x, x0, x1, rfl, hcur, ho⟩
  obtain ⟨j, rfl⟩ := Int.eq_ofNat_of_zero_le x0
  have HC2 := Lib.hid hcur; have HO := Lib.hid ho; clear hcur ho HC
  go_wp2_with fail
  go_loopw [5, 6] (fun v i wr => ∃ k : Nat, k ≤ j ∧ i = .int .i64 ((j : Int) - k) ∧ (∃ s, v = .string s ∧ Wrd k s) ∧ Cur wr g A n c l ∧ Out g (g + 1) w wr) (fun _ i _ => (intOf i).toNat)
  case atStart => exact ⟨0, Nat.zero_le _, by go_num, ⟨_, rfl, by unfold Wrd; exact ⟨Nat.le_refl _, rfl⟩⟩, HC2.out, HO.out⟩
  case round =>
    clear HC2 HO
    obtain ⟨k, hk, rfl, ⟨s, rfl, hw⟩, hcur, ho⟩ := hrel
    have HC2 := Lib.hid hcur; have HO := Lib.hid ho; have HW := Lib.hid hw
    have hsz : s.size ≤ 6 := by have := hw.1; omega
    clear hcur ho hw
    by_cases hlt : k < j
    · have hpos : (0 : Int) < (j : Int) - k := by omega
      obtain ⟨q, hq⟩ : ∃ q : Nat, (j : Int) - k = (q : Int) := ⟨j - k, by omega⟩
      rw [hq] at hpos ⊢
      have hq6 : q ≤ 6 := by omega
      have HQ := Lib.hid hq; clear hq
      go_wp2_with fail
      have hgl := HC2.out.lt
      have hcu : Cur (wr.alloc (.cells #[.string ⟨#[84]⟩, .string ⟨#[83]⟩, .string ⟨#[116]⟩, .string ⟨#[115]⟩, .string ⟨#[84]⟩] 9)) g A n c l := HC2.out.keep ((Below.refl wr.heap.size wr).alloc (Nat.le_refl _) _) hgl
      have hrd : Rd (wr.alloc (.cells #[.string ⟨#[84]⟩, .string ⟨#[83]⟩, .string ⟨#[116]⟩, .string ⟨#[115]⟩, .string ⟨#[84]⟩] 9)) (wr.alloc (.cells #[.string ⟨#[84]⟩, .string ⟨#[83]⟩, .string ⟨#[116]⟩, .string ⟨#[115]⟩, .string ⟨#[84]⟩] 9)).heap.size (some ⟨wr.heap.size, 0, none⟩) 5 (letters5.map Value.string) := by
        refine ⟨rfl, Nat.le_refl _, fun _ => ⟨wr.heap.size, 0, rfl, by simp, fun j hj => ?_⟩⟩
        rw [Nat.zero_add, World.cell?_alloc_at _ _ _ _ rfl]
        match j, hj with
        | 0, _ => rfl
        | 1, _ => rfl
        | 2, _ => rfl
        | 3, _ => rfl
        | 4, _ => rfl
      refine (str_any _ g A n c l wr.heap.size 5 5 letters5 (by omega) (by omega) hcu hrd (by omega)).mono ?_
      rintro e w3 ⟨s3, hs, rfl, hcur, ho⟩
      obtain ⟨ch, hch, rfl⟩ := letters5_is hs
      have HC3 := Lib.hid hcur
      have HO3 : Hid (Out g (g + 1) w w3) := Lib.hid (HO.out.trans ((Out.of_below ((Below.refl wr.heap.size wr).alloc (Nat.le_refl _) (.cells #[.string ⟨#[84]⟩, .string ⟨#[83]⟩, .string ⟨#[116]⟩, .string ⟨#[115]⟩, .string ⟨#[84]⟩] 9))).trans ho))
      have HW3 := Lib.hid (HW.out.snoc hch)
      clear hcur ho hs hcu hrd hch
      go_wp2_with fail
      go_roundw
      case rel => exact ⟨k + 1, by omega, by rw [show (j : Int) - ((k + 1 : Nat) : Int) = (q : Int) - 1 by have := HQ.out; omega], ⟨_, rfl, HW3.out⟩, HC3.out, HO3.out⟩
      case measure => have := HQ.out; simp [intOf]; omega
    · obtain rfl : k = j := by omega
      have hneg : ¬ (0 : Int) < (k : Int) - k := by omega
      go_wp2_with fail
      go_ret
      exact ⟨s, ⟨by have := HW.out.1; omega, HW.out.2⟩, rfl, HC2.out, HO.out⟩
def MPost (w : World) (e : Ending) (w' : World) : Prop := ∃ s, Wrd 6 s ∧ e = .returned (.string s) ∧ Below w.heap.size w w'
set_option maxHeartbeats 1000000 in
theorem makeW_any (w : World) (hi : Nat) (A : Option Addr) (n c : Nat) (l : List Int) (m : Nat) (hm : m ≤ 1000) (hc : cur.Code w hi A n l) :
    Calls sqp.prog 14 #[.slice A n c, .int .i64 m] w (MPost w) := by
  have HC := Lib.hid hc; clear hc
  go_enter sqp.func14, sqp.ntmps14
  go_wp2_with fail
  refine (skip_any w hi A n c l m hm HC.out).mono ?_
  rintro e w1 ⟨g, hg, hlt, rfl, hcur, hb⟩
  have HCU := Lib.hid hcur; have HB := Lib.hid hb; clear hcur hb
  go_wp2_with fail
  refine (word_any _ g A n c l HCU.out).mono ?_
  rintro e w2 ⟨s, hs, rfl, hcur, ho⟩
  have HB2 := Lib.hid (HB.out.trans (ho.below hg HB.out.size)); have HS := Lib.hid hs
  clear hcur ho hs
  go_wp2_with fail
  go_ret
  exact ⟨s, HS.out, rfl, HB2.out⟩
end Go.Proofs.Ytgcnemkhppkkcaa.cur

namespace Go.Proofs.Ytgcnemkhppkkcaa.cur
open Go.ChangeShapes Go.WideShapes Go.ChangeAt Go.RowKit
open mem
theorem open_B {H : Type} {enc : TypeId × Value → H} {P : Program} {W : World} {t e : TypeId} {A : Option Addr} {n c : Nat} {d : DataW H} {ps : List MemPlace}
    (ht : P.underlying t = some (.slice e)) (he : P.underlying e = some (.int .u8)) (hc : P.cellsOf e = 1) (h : DataW.Trod enc P W 0 (fun _ => true) true t (.slice A n c) d ps) :
    ∃ xs : List Int, Rd W W.heap.size A n (U xs) ∧ n ≤ c ∧ c ≤ maxLen ∧ Bytes xs := by
  obtain ⟨fuel, hf⟩ := h
  rcases open_ints ht he hc hf with ⟨hcs, _⟩ | ⟨x, l, cap, ss, hcs, _, hl, hm, hz, _, hcell, hwz⟩
  · simp [Value.cells] at hcs
    obtain ⟨rfl, rfl, rfl⟩ := hcs
    exact ⟨[], ⟨rfl, Nat.le_refl _, fun h => absurd h (by omega)⟩, Nat.le_refl _, by simp, fun z hz => by cases hz⟩
  · simp [Value.cells] at hcs
    obtain ⟨rfl, rfl, rfl⟩ := hcs
    have hz' : ss.length = c := by simpa using hz
    refine ⟨ss.take n, Rd.of_cells (by simp [U]; omega) (fun i hi => ?_), hl, hm, fun z hz => ?_⟩
    · rw [hcell i (by omega)]
      simp [U, hi, List.getD, List.getElem?_eq_getElem (show i < ss.length by omega)]
    · have := hwz z (List.mem_of_mem_take hz)
      simpa [Lit.wf, IntKind.min, IntKind.max, IntKind.signed, IntKind.bits] using this
end Go.Proofs.Ytgcnemkhppkkcaa.cur
