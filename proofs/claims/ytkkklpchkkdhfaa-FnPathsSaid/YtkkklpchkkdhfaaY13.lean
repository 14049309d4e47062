import Derived.Test.YtkkklpchkkdhfaaY12
import Derived.Test.YtkkklpchkkdhfaaY10
/-
  The program's PathRounds and PathText.
-/
namespace Go.Proofs.Ytkkklpchkkdhfaa.pth
open Go.ChangeShapes Go.WideShapes Go.ChangeAt Go.RowKit
open Go.Proofs.Ytkkklpchkkdhfaa.mem Go.Proofs.Ytkkklpchkkdhfaa.ints Go.Proofs.Ytkkklpchkkdhfaa.arr Go.Proofs.Ytkkklpchkkdhfaa.pm Go.Proofs.Ytkkklpchkkdhfaa.permOk Go.Proofs.Ytkkklpchkkdhfaa.permOf Go.Proofs.Ytkkklpchkkdhfaa.inv Go.Proofs.Ytkkklpchkkdhfaa.fns Go.Proofs.Ytkkklpchkkdhfaa.sf Go.Proofs.Ytkkklpchkkdhfaa.gl Go.Proofs.Ytkkklpchkkdhfaa.dr
set_option linter.unusedVariables false
set_option maxRecDepth 100000
set_option linter.unusedSimpArgs false
theorem rep_wd (L : List UInt8) (k : Nat) : (⟨(Lib.repeatL (wd L).data.toList k).toArray⟩ : ByteArray) = wd (rpL L k) := by
  have h : Lib.repeatL (wd L).data.toList k = rpL L k := by
    have e : (wd L).data.toList = L := by simp [wd]
    rw [e]
    induction k with
    | zero => rfl
    | succ k ih => rw [Lib.repeatL_add L k 1, ih]; simp [Lib.repeatL, rpL]
  rw [h]; rfl
theorem bw_len (r u : List Int) (i p q : Int) : (bwL r u i p q).length ≤ 12 := by
  unfold bwL
  cases h : okQ r u i p q
  · simp
  · obtain ⟨_, _, hs⟩ := okQ_facts h
    obtain ⟨a, b, rfl, rfl, hab, _⟩ := sl_nat hs
    rw [if_pos rfl, swL_len]
    simpa using hab

set_option maxHeartbeats 4000000 in
theorem pr_impl (v : Value) (r u : List Int) (i p q : Int) (hi : Nat) (w : World) (hx : Srd w hi v r u) (hn : r.length ≤ 1048576) (hm : u.length ≤ 1048576) (i0 : -9223372036854775808 ≤ i) (i1 : i ≤ 9223372036854775807) (p0 : -9223372036854775808 ≤ p) (p1 : p ≤ 9223372036854775807) (q0 : -9223372036854775808 ≤ q) (q1' : q ≤ 9223372036854775807) :
    Calls Try.prog 18 #[v, .int .i64 i, .int .i64 p, .int .i64 q] w fun e w' => e = .returned (.int .i64 (rdF r u i p q)) ∧ Below w.heap.size w w' := by
  have HX := Lib.hid hx; clear hx
  obtain ⟨P, n, c, Q, m, d, rfl, q1, q2, e1, e2, ht, HR⟩ := HX.out.open
  clear HR q1 q2
  have hK24 := rd_le r u i p q
  have hL12 := bw_len r u i p q
  go_enter Try.func18, Try.ntmps18
  go_wp2_with fail
  refine (pa_impl _ r u i p q hi _ (HX.out.keep ((Below.refl hi w).alloc ht _) (Nat.le_refl _)) hn hm i0 i1 p0 p1 q0 q1').mono ?_
  rintro e w1 ⟨G, A, c1, hG, hGo, rfl, o1, b1⟩
  have hs1 : w.heap.size + 1 ≤ w1.heap.size := by have := b1.size; simpa using this
  have B1 := Lib.hid (below1 _ _ b1)
  clear b1
  rw [bg_len]
  clear o1 hGo
  obtain ⟨K, hK⟩ : ∃ K, K = rdF r u i p q := ⟨_, rfl⟩
  have RK := Lib.hid hK
  rw [← hK] at hK24 ⊢
  clear hK
  generalize wd (bwL r u i p q) = W at *
  go_wp2_with (refine wpList_store_row rfl 66 _ _ rfl w1.heap.size (pL G W (.slice A K c1)).toArray rfl rfl 66 (pL zero49 (wd []) (.slice none 0 0)).toArray (Arr.new w1 (pL zero49 (wd []) (.slice none 0 0)) _ rfl) (sizeP hG _ _) (by rw [List.size_toArray, List.size_toArray, pL_len hG, pL_len zero49_len]) (oneP _ _ _ _ _) ?_; generalize hw_ : (w1.alloc (.cells #[.int .i64 0, .int .i64 0, .int .i64 0, .int .i64 0, .int .i64 0, .int .i64 0, .int .i64 0, .int .i64 0, .int .i64 0, .int .i64 0, .int .i64 0, .int .i64 0, .int .i64 0, .int .i64 0, .int .i64 0, .int .i64 0, .int .i64 0, .int .i64 0, .int .i64 0, .int .i64 0, .int .i64 0, .int .i64 0, .int .i64 0, .int .i64 0, .int .i64 0, .int .i64 0, .int .i64 0, .int .i64 0, .int .i64 0, .int .i64 0, .int .i64 0, .int .i64 0, .int .i64 0, .int .i64 0, .int .i64 0, .int .i64 0, .int .i64 0, .int .i64 0, .int .i64 0, .int .i64 0, .int .i64 0, .int .i64 0, .int .i64 0, .int .i64 0, .int .i64 0, .int .i64 0, .int .i64 0, .int .i64 0, .int .i64 0, .string ⟨#[]⟩, .slice none 0 0] 66)).setRow w1.heap.size (pL G W (.slice A K c1)).toArray = w2; have A2 : Hid (Arr w2 w1.heap.size (pL G W (.slice A K c1)) 66) := Lib.hid (by rw [← hw_]; exact (Arr.new w1 (pL zero49 (wd []) (.slice none 0 0)) _ rfl).row); have b2 : Below w1.heap.size w1 w2 := (by rw [← hw_]; exact arr.below_setRow ((Below.refl _ _).alloc (Nat.le_refl _) _) (Nat.le_refl _) _); have t_ : w1.heap.size + 1 ≤ w2.heap.size := (by rw [← hw_]; simp); clear hw_; replace B1 := Lib.hid (B1.out.trans (b2.mono B1.out.size)); have c49 := pL_word hG A2.out; have c50 := pL_begins hG A2.out)
  exact bodyPost_ret (v := .int .i64 (K : Int)) (by simp [results]) rfl ⟨by rw [RK.out], B1.out⟩

set_option maxHeartbeats 4000000 in
theorem pt_impl (v : Value) (r u : List Int) (i p q : Int) (hi : Nat) (w : World) (hx : Srd w hi v r u) (hn : r.length ≤ 1048576) (hm : u.length ≤ 1048576) (i0 : -9223372036854775808 ≤ i) (i1 : i ≤ 9223372036854775807) (p0 : -9223372036854775808 ≤ p) (p1 : p ≤ 9223372036854775807) (q0 : -9223372036854775808 ≤ q) (q1' : q ≤ 9223372036854775807) :
    Calls Try.prog 19 #[v, .int .i64 i, .int .i64 p, .int .i64 q] w fun e w' => e = .returned (.string (ptF r u i p q)) ∧ Below w.heap.size w w' := by
  have HX := Lib.hid hx; clear hx
  obtain ⟨P, n, c, Q, m, d, rfl, q1, q2, e1, e2, ht, HR⟩ := HX.out.open
  clear HR q1 q2
  have hK24 := rd_le r u i p q
  have hL12 := bw_len r u i p q
  go_enter Try.func19, Try.ntmps19
  go_wp2_with fail
  refine (pa_impl _ r u i p q hi _ (HX.out.keep ((Below.refl hi w).alloc ht _) (Nat.le_refl _)) hn hm i0 i1 p0 p1 q0 q1').mono ?_
  rintro e w1 ⟨G, A, c1, hG, hGo, rfl, o1, b1⟩
  have hs1 : w.heap.size + 1 ≤ w1.heap.size := by have := b1.size; simpa using this
  have B1 := Lib.hid (below1 _ _ b1)
  clear b1
  rw [bg_len]
  clear o1 hGo
  have PTE := Lib.hid (pt_bw r u i p q)
  generalize rdF r u i p q = K at *
  have hWs : (wd (bwL r u i p q)).size ≤ 12 := by rw [wd_size]; exact hL12
  have RW := Lib.hid (rep_wd (bwL r u i p q) K)
  obtain ⟨W, hW⟩ : ∃ W, W = wd (bwL r u i p q) := ⟨_, rfl⟩
  rw [← hW] at RW hWs ⊢
  clear hW
  go_wp2_with (refine wpList_store_row rfl 66 _ _ rfl w1.heap.size (pL G W (.slice A K c1)).toArray rfl rfl 66 (pL zero49 (wd []) (.slice none 0 0)).toArray (Arr.new w1 (pL zero49 (wd []) (.slice none 0 0)) _ rfl) (sizeP hG _ _) (by rw [List.size_toArray, List.size_toArray, pL_len hG, pL_len zero49_len]) (oneP _ _ _ _ _) ?_; generalize hw_ : (w1.alloc (.cells #[.int .i64 0, .int .i64 0, .int .i64 0, .int .i64 0, .int .i64 0, .int .i64 0, .int .i64 0, .int .i64 0, .int .i64 0, .int .i64 0, .int .i64 0, .int .i64 0, .int .i64 0, .int .i64 0, .int .i64 0, .int .i64 0, .int .i64 0, .int .i64 0, .int .i64 0, .int .i64 0, .int .i64 0, .int .i64 0, .int .i64 0, .int .i64 0, .int .i64 0, .int .i64 0, .int .i64 0, .int .i64 0, .int .i64 0, .int .i64 0, .int .i64 0, .int .i64 0, .int .i64 0, .int .i64 0, .int .i64 0, .int .i64 0, .int .i64 0, .int .i64 0, .int .i64 0, .int .i64 0, .int .i64 0, .int .i64 0, .int .i64 0, .int .i64 0, .int .i64 0, .int .i64 0, .int .i64 0, .int .i64 0, .int .i64 0, .string ⟨#[]⟩, .slice none 0 0] 66)).setRow w1.heap.size (pL G W (.slice A K c1)).toArray = w2; have A2 : Hid (Arr w2 w1.heap.size (pL G W (.slice A K c1)) 66) := Lib.hid (by rw [← hw_]; exact (Arr.new w1 (pL zero49 (wd []) (.slice none 0 0)) _ rfl).row); have b2 : Below w1.heap.size w1 w2 := (by rw [← hw_]; exact arr.below_setRow ((Below.refl _ _).alloc (Nat.le_refl _) _) (Nat.le_refl _) _); have t_ : w1.heap.size + 1 ≤ w2.heap.size := (by rw [← hw_]; simp); clear hw_; replace B1 := Lib.hid (B1.out.trans (b2.mono B1.out.size)); have c49 := pL_word hG A2.out; have c50 := pL_begins hG A2.out)
  clear HX c49 c50
  refine (Try.strings_Repeat W K _ (by omega) (by have := Nat.mul_le_mul hWs hK24; omega)).mono ?_
  rintro e w3 ⟨rfl, b3⟩
  rw [RW.out]
  replace B1 := Lib.hid (B1.out.trans (b3.mono B1.out.size))
  go_wp2_with fail
  exact bodyPost_ret (v := .string (wd (rpL (bwL r u i p q) K))) (by simp [results]) rfl ⟨by rw [PTE.out], B1.out⟩
end Go.Proofs.Ytkkklpchkkdhfaa.pth

/-
  The squares of a path as the program lists them; PathSquares.
-/
namespace Go.Proofs.Ytkkklpchkkdhfaa.pth
open Go.ChangeShapes Go.WideShapes Go.ChangeAt Go.RowKit
open Go.Proofs.Ytkkklpchkkdhfaa.mem Go.Proofs.Ytkkklpchkkdhfaa.ints Go.Proofs.Ytkkklpchkkdhfaa.arr Go.Proofs.Ytkkklpchkkdhfaa.pm Go.Proofs.Ytkkklpchkkdhfaa.permOk Go.Proofs.Ytkkklpchkkdhfaa.permOf Go.Proofs.Ytkkklpchkkdhfaa.inv Go.Proofs.Ytkkklpchkkdhfaa.fns Go.Proofs.Ytkkklpchkkdhfaa.sf Go.Proofs.Ytkkklpchkkdhfaa.gl Go.Proofs.Ytkkklpchkkdhfaa.dr
set_option linter.unusedVariables false
set_option maxRecDepth 100000
set_option linter.unusedSimpArgs false
theorem rg_on {w : World} {b : Nat} {G : List Int} {W : ByteArray} {B : Value} (h : w.rangeAt b 0 (pL G W B)) : w.rangeAt b 0 (V G) := fun j v hv => by
  refine h j v ?_
  rw [← hv]
  unfold pL
  rw [List.getElem?_append_left (List.getElem?_eq_some_iff.1 hv).1]
theorem rg_word {w : World} {b : Nat} {G : List Int} {W : ByteArray} {B : Value} (hG : G.length = 49) (h : w.rangeAt b 0 (pL G W B)) : w.cell? ⟨b, 49, none⟩ = some (.string W) := by
  have := h 49 (.string W) (by unfold pL; rw [List.getElem?_append_right (by rw [V_len, hG]; omega), V_len, hG]; rfl)
  simpa using this
/-- The squares of the rounds that begin in these. -/
def sqM (r u : List Int) (L : List UInt8) : List Int → List Int
  | [] => []
  | x :: xs => sqW r u L x ++ sqM r u L xs
theorem sqM_snoc (r u : List Int) (L : List UInt8) (y : Int) : ∀ xs : List Int, sqM r u L (xs ++ [y]) = sqM r u L xs ++ sqW r u L y
  | [] => by simp [sqM]
  | x :: xs => by simp [sqM, sqM_snoc r u L y xs]
theorem sqM_len (r u : List Int) (L : List UInt8) : ∀ xs : List Int, (sqM r u L xs).length = xs.length * L.length
  | [] => by simp [sqM]
  | x :: xs => by rw [sqM, List.length_append, sqW_len, sqM_len r u L xs, List.length_cons, Nat.add_mul, Nat.one_mul, Nat.add_comm]
/-- The path's cells, and the row of squares that grows. -/
structure Sw (w wr : World) (C : List Value) (v : Value) (l : List Int) : Prop where
  own : wr.ownsRow (w.heap.size + 1) 3 1 v l.length (V l)
  p : Arr wr w.heap.size C 66
  below : Below w.heap.size w wr
structure Iw (w wr : World) (C : List Value) (ib : Nat) (W : ByteArray) (t : Nat) (v : Value) (l : List Int) : Prop where
  own : wr.ownsRow (w.heap.size + 1) 3 1 v l.length (V l)
  p : Arr wr w.heap.size C 66
  below : Below w.heap.size w wr
  ne : v.ownBlock ≠ some ib
  it : wr.heap[ib]? = some (.stringIter W t)
theorem Iw.next {w wr w' : World} {C : List Value} {ib t n : Nat} {W : ByteArray} {v v' : Value} {l : List Int} {z : Int} (h : Iw w wr C ib W t v l) (hib : ib < wr.heap.size)
    (ho : w'.ownsRow (w.heap.size + 1) 3 1 v' (n + 1) (V l ++ [.int .i64 z])) (hn : n = l.length) (hg : wr.grownBy w' v.ownBlock) (hb : v'.ownBlock = v.ownBlock ∨ ∃ k, v'.ownBlock = some k ∧ wr.heap.size + 1 ≤ k) : Iw w w' C ib W t v' (l ++ [z]) := by
  subst hn
  have e : V (l ++ [z]) = V l ++ [.int .i64 z] := by simp [V]
  refine ⟨by rw [e]; simpa using ho, ?_, ?_, ?_, ?_⟩
  · exact (hg.block _ h.p.lt (fun e => by have := (h.own.lt _ e.symm).1; omega)).trans h.p
  · exact h.below.trans ((Below.refl _ _).grown hg h.below.size (fun k hk => by have := (h.own.lt k hk).1; omega))
  · rcases hb with q | ⟨k, q, hk⟩
    · rw [q]; exact h.ne
    · rw [q]; intro e; injection e with e; omega
  · exact (hg.block _ hib (fun e => h.ne e.symm)).trans h.it
theorem wd_cut {L : List UInt8} {t : Nat} (h : t < L.length) : (wd L).extract t (t + 1) = wd [L[t]] := by
  apply ByteArray.ext
  apply Array.toList_inj.1
  rw [Lib.extract_data]
  have e : (wd L).data.toList = L := by simp [wd]
  have e2 : (wd [L[t]]).data.toList = [L[t]] := by simp [wd]
  rw [e, e2]
  rw [List.drop_eq_getElem_cons h, show t + 1 - t = 1 by omega]
  rfl
theorem ext_one {n : Nat} {r u : List Int} (s : Sf n r u) (c : UInt8) {y : Nat} (hy : y < n) : (ext (ev n r u [c]))[y]? = some (stW r u c (y : Int)) := by
  have h24 := s.small
  have hl := (ev_ok s [c]).2
  have e := ev_en s [c] (x := (y : Int)) (by omega) (by omega)
  have a := ext_at (xs := ev n r u [c]) (i := y) (by omega)
  rw [if_pos (by omega)] at a
  rw [Int.toNat_natCast] at e
  rw [e] at a
  have hxl : y < (ext (ev n r u [c])).length := by rw [ext_len]; omega
  rw [List.getElem?_eq_getElem hxl]
  rw [List.getD_eq_getElem?_getD, List.getElem?_eq_getElem hxl] at a
  rw [show (ext (ev n r u [c]))[y] = enW r u [c] (y : Int) from a]
  rfl

set_option maxHeartbeats 8000000 in
theorem sqs_any (G : List Int) (L : List UInt8) (A : Option Addr) (k c n hi : Nat) (xs r u : List Int) (w : World) (hG : G.length = 49) (hR : Rd w hi A k (V xs)) (hx : xs.length = k) (hh : hi ≤ w.heap.size) (hk : k ≤ 24) (hL : L.length ≤ 12) (hc : ∀ c ∈ L, c = 114 ∨ c = 117)
    (hs : k = 0 ∨ (Sf n r u ∧ G = gl (ext r) (ext u) n)) (hi_ : ∀ x ∈ xs, 0 ≤ x ∧ x < n) :
    Calls Try.prog 48 #[.agg (pL G (wd L) (.slice A k c)).toArray] w (Gives (sqM r u L xs) w) := by
  obtain ⟨i0, hi0, hz0, hz1, hz2⟩ := info_parts infoI
  have HR := Lib.hid hR; have HS := Lib.hid hs; have HI := Lib.hid hi_; have HC := Lib.hid hc; clear hR hs hi_ hc
  have hsz := wd_size L
  have A0 := Lib.hid (Arr.new w (pL G (wd L) (.slice A k c)) 66 rfl)
  have hc50 := pL_begins hG A0.out
  have PL := Lib.hid (pL_len hG (wd L) (.slice A k c))
  generalize hPC : pL G (wd L) (.slice A k c) = PC at *
  have HPC := Lib.hid hPC; clear hPC
  go_enter Try.func48, Try.ntmps48
  go_wp2_with fail
  have B0 : Hid (Below w.heap.size w (w.alloc (.cells PC.toArray 66))) := Lib.hid ((Below.refl _ _).alloc (Nat.le_refl _) _)
  have z0 : w.heap.size + 1 ≤ (w.alloc (.cells PC.toArray 66)).heap.size := by simp
  generalize w.alloc (.cells PC.toArray 66) = w1 at *
  clear hc50
  go_loopw [3, 10] (fun sv iv wr => ∃ j : Nat, j ≤ k ∧ iv = .int .i64 j ∧ Hid (Sw w wr PC sv (sqM r u L (xs.take j)))) (fun _ iv _ => k - (intOf iv).toNat)
  case atStart => exact ⟨0, Nat.zero_le _, rfl, Lib.hid ⟨⟨rfl, .inl ⟨rfl, rfl⟩⟩, A0.out, B0.out⟩⟩
  case round =>
    obtain ⟨j, hj, rfl, HW⟩ := hrel
    by_cases hlt : j < k
    · obtain ⟨g, off, rfl, hg, hcx⟩ := rd_ix HR.out hx (by omega)
      have hcell := hcx j hlt
      rw [← HW.out.below.cell (p := ⟨g, off + j, none⟩) (show g < _ by omega)] at hcell
      clear hcx
      obtain ⟨x, hxj⟩ : ∃ x, xs.getD j 0 = x := ⟨_, rfl⟩
      have hmem : x ∈ xs := by rw [← hxj]; exact getD_mem (by omega)
      have hxr := HI.out x hmem
      obtain ⟨hSf, hGe⟩ := HS.out.resolve_left (by omega)
      have SF := Lib.hid hSf
      have GE := Lib.hid hGe
      rw [hxj] at hcell
      have TJ : Hid (xs.take (j + 1) = xs.take j ++ [x]) := Lib.hid (by rw [List.take_add_one, List.getElem?_eq_getElem (by omega)]; rw [List.getD_eq_getElem?_getD, List.getElem?_eq_getElem (by omega)] at hxj; exact congrArg (fun q => xs.take j ++ [q]) hxj)
      clear hSf hGe hmem hxj
      have c49 : wr.cell? ⟨w.heap.size, 49, none⟩ = some (.string (wd L)) := pL_word hG (by rw [← HPC.out] at HW; exact HW.out.p)
      have LS : Hid ((sqM r u L (xs.take j)).length ≤ 288) := Lib.hid (by rw [sqM_len, List.length_take]; exact Nat.mul_le_mul (show min j xs.length ≤ 24 by omega) hL)
      obtain ⟨S0, hS0⟩ : ∃ l, l = sqM r u L (xs.take j) := ⟨_, rfl⟩
      rw [← hS0] at HW LS
      have HS0 := Lib.hid hS0; clear hS0
      go_wp2_with fail
      have LP0 : Hid (∀ b, (u3 : Value).ownBlock = some b → b < wr.heap.size) := Lib.hid (fun b e => (HW.out.own.lt b e).2)
      obtain ⟨ob, hob⟩ : ∃ ob, ob = wr.heap.size := ⟨_, rfl⟩
      have z1 : w.heap.size + 1 ≤ ob := by have := HW.out.p.lt; omega
      rw [← hob]
      have HOB := Lib.hid hob; clear hob
      go_loopw [3, 5] (fun sv xv wi => ∃ t : Nat, t ≤ L.length ∧ ob < wi.heap.size ∧ xv = .int .i64 (enW r u (L.take t) x) ∧ Hid (Iw w wi PC ob (wd L) t sv (S0 ++ sqW r u (L.take t) x))) (fun _ _ wi => L.length - wi.iterPos ob)
      case atStart =>
        refine ⟨0, Nat.zero_le _, by rw [HOB.out]; simp [World.iter], rfl, Lib.hid ⟨?_, HW.out.p.alloc _, HW.out.below.alloc HW.out.below.size _, ?_, by rw [HOB.out]; exact World.iter_heap _ _ _⟩⟩
        · have h := ownk (w' := wr.iter (wd L) 0) HW.out.own (fun b e => ((Below.refl wr.heap.size wr).alloc (Nat.le_refl wr.heap.size) (.stringIter (wd L) 0)).block b (HW.out.own.lt b e).2)
          simpa [sqW] using h
        · intro e
          have := LP0.out _ e
          have := HOB.out
          omega
      case round =>
        obtain ⟨t, ht, hib, rfl, HQ⟩ := hrel
        by_cases hlt2 : t < L.length
        · have hts : t < (wd L).size := by omega
          have hch : (wd L)[t]'hts = L[t] := wd_at hlt2 hts
          have hcc := HC.out L[t] (List.getElem_mem hlt2)
          have YI := enW_in SF.out (L.take t) hxr.1 hxr.2
          obtain ⟨y, hy⟩ : ∃ y : Nat, enW r u (L.take t) x = (y : Int) := ⟨(enW r u (L.take t) x).toNat, by omega⟩
          have TK : L.take (t + 1) = L.take t ++ [L[t]] := by rw [List.take_add_one, List.getElem?_eq_getElem hlt2]; rfl
          have NS : Hid (S0 ++ sqW r u (L.take (t + 1)) x = (S0 ++ sqW r u (L.take t) x) ++ [(y : Int)]) := Lib.hid (by rw [TK, sqW_snoc, hy, List.append_assoc])
          have NE : Hid (enW r u (L.take (t + 1)) x = stW r u L[t] (y : Int)) := Lib.hid (by rw [TK, enW_snoc, hy])
          have LL : (S0 ++ sqW r u (L.take t) x).length ≤ 300 := by have := LS.out; rw [List.length_append, sqW_len, List.length_take]; omega
          have hyn : y < n := by omega
          have n24 := SF.out.small
          rw [hy]
          generalize S0 ++ sqW r u (L.take t) x = LT at *
          have hnx : ∀ ty, (Instr.next (.pointer (some ⟨ob, 0, none⟩)) true ty).run Try.prog wr = .ok (.tuple #[.bool true, .int .i64 t, .int .i32 L[t].toNat]) (nxt wr ob (wd L) (t + 1)) := fun ty => by
            have h9 := dr.run_next_at (P := Try.prog) wr ob (wd L) t ty HQ.out.it hts (by rw [hch]; rcases hcc with h | h <;> rw [h] <;> decide)
            rwa [hch] at h9
          have HQ2 : Hid (Iw w (nxt wr ob (wd L) (t + 1)) PC ob (wd L) (t + 1) u3 LT) := Lib.hid ⟨ownk HQ.out.own (fun b e => nxt_block _ _ _ _ (fun q => HQ.out.ne (by rw [← q]; exact e))), nxt_arr _ _ HQ.out.p (by omega), HQ.out.below.trans (nxt_below _ _ _ _ (by omega)), HQ.out.ne, nxt_at _ _ _ _ hib⟩
          have hib2 : ob < (nxt wr ob (wd L) (t + 1)).heap.size := by rw [nxt_size]; exact hib
          have HP := Lib.hid (it_pos HQ.out.it)
          generalize nxt wr ob (wd L) (t + 1) = w4 at *
          clear HQ hch
          have hsz4 := HQ2.out.p.lt
          have OQ := Lib.hid HQ2.out.own
          go_wp2_with (at_builtin; refine wpList_append_one2 w4 _ _ rfl _ _ 30 rfl (w.heap.size + 1) 3 i0 _ 8 1 Try.underlying30 hi0 hz0 hz1 rfl hz2 rfl _ _ _ rfl OQ.out rfl rfl ?c4 (by decide) (by omega) ?_)
          case c4 => omega
          intro v' w' ho hg hb
          have HN : Hid (Iw w w' PC ob (wd L) (t + 1) v' (S0 ++ sqW r u (L.take (t + 1)) x)) := Lib.hid (by rw [NS.out]; exact HQ2.out.next hib2 ho (by simp) hg hb)
          have hsw : ob < w'.heap.size := by have := hg.size; omega
          clear ho hg hb OQ HQ2 NS hib2
          go_wp2_with fail
          refine wp_region_held_drew (S := Hld w'.heap.size w'.heap.size w' [(w.heap.size, PC)]) (by kernel_rfl) (Hld.start1 HN.out.p) (fun hHeld => ?_)
          have b1 : Below w'.heap.size w' w'.drew := ⟨rfl, rfl, rfl, Nat.le_refl _, fun _ _ => rfl⟩
          have KEEP : Hid (∀ wz, Below w'.heap.size w' wz → Iw w wz PC ob (wd L) (t + 1) v' (S0 ++ sqW r u (L.take (t + 1)) x)) := Lib.hid (fun wz b => ⟨ownk HN.out.own (fun g e => b.block g (HN.out.own.lt g e).2), HN.out.p.keep b HN.out.p.lt, HN.out.below.trans (b.mono HN.out.below.size), HN.out.ne, (b.block ob hsw).trans HN.out.it⟩)
          generalize w'.drew = w5 at *
          have GR : Hid (∀ wx, Hld w'.heap.size w'.heap.size w' [(w.heap.size, PC)] wx → wx.rangeAt w.heap.size 0 (V G)) := Lib.hid (fun wx h => by have := h.fst; rw [← HPC.out] at this; exact rg_on this)
          have GW : Hid (∀ wx, Hld w'.heap.size w'.heap.size w' [(w.heap.size, PC)] wx → wx.cell? ⟨w.heap.size, 49, none⟩ = some (.string (wd L))) := Lib.hid (fun wx h => by have := h.fst; rw [← HPC.out] at this; exact rg_word hG this)
          have CUT : Hid (∀ wx, (Instr.slice 9 (.string (wd L)) (some (.int .i64 (t : Int))) (some (.int .i64 ((t : Int) + 1))) none).run Try.prog wx = .ok (.string (wd [L[t]])) wx) := Lib.hid (fun wx => by
            have h := run_slice_string (P := Try.prog) wx 9 (wd L) .i64 .i64 (t : Int) ((t : Int) + 1) Try.underlying9 (by omega) (by omega) (by omega)
            have e1 : ((t : Int) + 1).toNat = t + 1 := by omega
            rw [h, Int.toNat_natCast, e1, wd_cut hlt2]
            rfl)
          have wt : IntKind.i64.wrap ((t : Int) + 1) = (t : Int) + 1 := IntWalk.i64_in _ (by omega)
          have IX := Lib.hid (fun wx => index_row (ext (ev n r u [L[t]])) y _ (by omega) (ext_one SF.out L[t] hyn) wx)
          have HL1 : Hid (∀ c ∈ [L[t]], c = 114 ∨ c = 117) := Lib.hid (by intro c hc; rw [List.mem_singleton] at hc; rw [hc]; exact hcc)
          have NE2 : Hid (stW r u L[t] (y : Int) = enW r u (L.take (t + 1)) x) := Lib.hid NE.out.symm
          generalize hLt : L[t] = lt at *
          refine wpAnyH_take (i := 0) (v := .pointer (some ⟨w.heap.size, 0, none⟩)) rfl (by kernel_rfl) (by kernel_rfl) (by kernel_rfl) (fun _ _ _ h => h) (Or.inl ⟨by rfl, fun w hSw => by go_simp⟩) hHeld ?_
          refine wpAnyH_take (i := 1) (v := .agg (V G).toArray) rfl (by kernel_rfl) (by kernel_rfl) (by kernel_rfl) (fun _ _ _ h => h) (yieldsIf_load_mid (by rfl) _ _ rfl (w.heap.size) 0 rfl (V G) _ (fun wx h => GR.out wx h) Try.underlying64 rfl (hi49 hG)) hHeld ?_
          refine wpAnyH_take (i := 2) (v := .pointer (some ⟨w.heap.size, 49, none⟩)) rfl (by kernel_rfl) (by kernel_rfl) (by kernel_rfl) (fun _ _ _ h => h) (Or.inl ⟨by rfl, fun w hSw => by go_simp⟩) hHeld ?_
          refine wpAnyH_take (i := 3) (v := .string (wd L)) rfl (by kernel_rfl) (by kernel_rfl) (by kernel_rfl) (fun _ _ _ h => h) (Or.inl ⟨by rfl, fun w hSw => by have := GW.out _ hSw; go_simp⟩) hHeld ?_
          refine wpAnyH_take (i := 4) (v := .int .i64 (t : Int)) rfl (by kernel_rfl) (by kernel_rfl) (by kernel_rfl) (fun _ _ _ h => h) (Or.inl ⟨by rfl, fun w hSw => by go_simp⟩) hHeld ?_
          refine wpAnyH_take (i := 5) (v := .int .i64 (t : Int)) rfl (by kernel_rfl) (by kernel_rfl) (by kernel_rfl) (fun _ _ _ h => h) (Or.inl ⟨by rfl, fun w hSw => by go_simp⟩) hHeld ?_
          refine wpAnyH_take (i := 6) (v := .int .i64 ((t : Int) + 1)) rfl (by kernel_rfl) (by kernel_rfl) (by kernel_rfl) (fun _ _ _ h => h) (Or.inl ⟨by rfl, fun w hSw => by go_simp⟩) hHeld ?_
          refine wpAnyH_take (i := 7) (v := .string (wd [lt])) rfl (by kernel_rfl) (by kernel_rfl) (by kernel_rfl) (fun _ _ _ h => h) (Or.inl ⟨by rfl, fun w hSw => by have := CUT.out; go_simp⟩) hHeld ?_
          refine wpAnyH_take (i := 9) (v := .int .i64 (y : Int)) rfl (by kernel_rfl) (by kernel_rfl) (by kernel_rfl) (fun _ _ _ h => h) (Or.inl ⟨by rfl, fun w hSw => by go_simp⟩) hHeld ?_
          refine wpAnyH_ready (rs := [8]) (by kernel_rfl) (by simp) (AllReadyH.cons rfl (fun K hK => ?_) AllReadyH.nil)
          go_simp
          rw [GE.out]
          refine (along_any r u n [lt] _ SF.out (by simp) HL1.out).mono ?_
          rintro e w6 ⟨rfl, b6⟩
          have hHeld2 := hHeld.later b6 (by have := hHeld.size; omega)
          go_wp2_with fail
          clear b6 hHeld
          refine hK.out _ _ hHeld2 (fun hHeld => ?_)
          clear hK K hHeld2
          refine wpAnyH_take (i := 10) (v := .int .i64 (stW r u lt (y : Int))) rfl (by kernel_rfl) (by kernel_rfl) (by kernel_rfl) (fun _ _ _ h => h) (Or.inl ⟨by rfl, fun w hSw => by have := IX.out; go_simp⟩) hHeld ?_
          refine wpAnyH_take (i := 11) (v := .int .i64 (stW r u lt (y : Int))) rfl (by kernel_rfl) (by kernel_rfl) (by kernel_rfl) (fun _ _ _ h => h) (Or.inl ⟨by rfl, fun w hSw => by go_simp⟩) hHeld ?_
          refine wpAnyH_done (by kernel_rfl) ?_ _
          have IWF := Lib.hid (KEEP.out _ hHeld.below)
          have hszF := hHeld.size
          dsimp only [List.getElem_toArray, List.getElem_cons_zero, List.getElem_cons_succ]
          go_simp
          go_wp2_with fail
          go_roundw
          case rel => exact ⟨t + 1, by omega, by omega, by rw [NE2.out], IWF⟩
          case measure => rw [it_pos IWF.out.it, HP.out]; omega
        · obtain rfl : t = L.length := by omega
          have hfin : ∀ ty, (Instr.next (.pointer (some ⟨ob, 0, none⟩)) true ty).run Try.prog wr = .ok (.tuple #[.bool false]) wr := fun ty => dr.run_next_fin (P := Try.prog) wr ob (wd L) L.length ty HQ.out.it (by omega)
          have SF2 : Hid (Sw w wr PC u3 (sqM r u L (xs.take (j + 1)))) := Lib.hid (by
            rw [TJ.out, sqM_snoc, ← HS0.out]
            have h := HQ.out.own
            rw [List.take_length] at h
            exact ⟨h, HQ.out.p, HQ.out.below⟩)
          clear HQ
          go_wp2_with fail
          go_roundw
          case rel => exact ⟨j + 1, by omega, by go_num, SF2⟩
          case measure => first | (simp [intOf]; done) | (simp [intOf]; omega)
    · obtain rfl : j = k := by omega
      have OW := HW.out.own
      have BB := Lib.hid HW.out.below
      rw [← hx, List.take_length] at OW
      have OW2 := Lib.hid (own_low (base' := w.heap.size) OW (by omega))
      clear OW HW
      go_wp2_with fail
      go_ret
      exact ⟨_, rfl, OW2.out, BB.out⟩
end Go.Proofs.Ytkkklpchkkdhfaa.pth

/-
  What FnPaths asks of a path: it is a walk along its letters that comes back; its visits. Plain mathematics.
-/
namespace Go.Proofs.Ytkkklpchkkdhfaa.pth
open Go.Proofs.Ytkkklpchkkdhfaa.mem Go.Proofs.Ytkkklpchkkdhfaa.ints Go.Proofs.Ytkkklpchkkdhfaa.arr Go.Proofs.Ytkkklpchkkdhfaa.pm Go.Proofs.Ytkkklpchkkdhfaa.permOf Go.Proofs.Ytkkklpchkkdhfaa.inv Go.Proofs.Ytkkklpchkkdhfaa.permOk Go.Proofs.Ytkkklpchkkdhfaa.dr
set_option linter.unusedVariables false
set_option maxRecDepth 100000

theorem enW_app (r u : List Int) (A B : List UInt8) (x : Int) : enW r u (A ++ B) x = enW r u B (enW r u A x) := by simp [enW]
theorem sqW_app (r u : List Int) : ∀ (A B : List UInt8) (x : Int), sqW r u (A ++ B) x = sqW r u A x ++ sqW r u B (enW r u A x)
  | [], _, _ => rfl
  | c :: A, B, x => by
    rw [List.cons_append]
    show x :: sqW r u (A ++ B) (stW r u c x) = x :: (sqW r u A (stW r u c x) ++ sqW r u B (enW r u (c :: A) x))
    rw [sqW_app r u A B]; rfl
theorem sqW_at (r u : List Int) : ∀ (W : List UInt8) (x : Int) (j : Nat), j < W.length → (sqW r u W x)[j]? = some (enW r u (W.take j) x)
  | [], _, j, h => by simp at h
  | c :: W, x, 0, _ => by simp [sqW, enW]
  | c :: W, x, j + 1, h => by
    have := sqW_at r u W (stW r u c x) j (by simpa using h)
    simpa [sqW, enW] using this
theorem enW_take {r u : List Int} {W : List UInt8} {x : Int} {j : Nat} {c : UInt8} (h : W[j]? = some c) : enW r u (W.take (j + 1)) x = stW r u c (enW r u (W.take j) x) := by
  rw [List.take_add_one, h]; exact enW_snoc r u _ c x
section
variable {n : Nat} {r u : List Int} (s : Sf n r u)
include s
theorem rp_en (L : List UInt8) {i : Int} (h0 : 0 ≤ i) (h1 : i < n) : ∀ k, enW r u (rpL L k) i = it (ev n r u L) i k ∧ 0 ≤ it (ev n r u L) i k ∧ it (ev n r u L) i k < n
  | 0 => ⟨rfl, h0, h1⟩
  | k + 1 => by
    obtain ⟨e, a, b⟩ := rp_en L h0 h1 k
    have hstep : it (ev n r u L) i (k + 1) = enW r u L (it (ev n r u L) i k) := ev_en s L a b
    rw [hstep]
    refine ⟨?_, enW_in s L a b⟩
    rw [rpL, enW_app, e]
theorem psK_sq (L : List UInt8) {i : Int} (h0 : 0 ≤ i) (h1 : i < n) : ∀ k, psK r u L (ev n r u L) i k = sqW r u (rpL L k) i
  | 0 => rfl
  | k + 1 => by rw [psK, rpL, sqW_app, psK_sq L h0 h1 k, (rp_en s L h0 h1 k).1]
end
/-- The cycle comes back after its length. -/
theorem it_cyc {n : Nat} {E : List Int} (hb : Bij n E) {i : Int} (h0 : 0 ≤ i) (h1 : i < n) : it E i (cyc E n i).length = i := by
  exact (way_last (cyc_way hb h0 h1)).symm
/-- What FnPaths asks of a path that can begin. -/
structure Pth (r u : List Int) (i : Int) (m : Nat) (l : List Int) (W : List UInt8) (k : Nat) : Prop where
  k1 : 1 ≤ k
  kn : k ≤ r.length
  len : l.length = k * m
  wl : W.length = k * m
  first : l[0]? = some i
  inn : ∀ x ∈ l, 0 ≤ x ∧ x < r.length
  step : ∀ (j : Nat) (x : Int) (c : UInt8), l[j]? = some x → W[j]? = some c → l[(j + 1) % (k * m)]? = some (stW r u c x)
theorem pth_ok {r u : List Int} {i : Int} {a b : Nat} (h : okQ r u i a b = true) (hm : 1 ≤ a + b) : Pth r u i (a + b) (psF r u i a b) (rpL (swL a b) (rdF r u i a b)) (rdF r u i a b) := by
  obtain ⟨s, ⟨i0, i1⟩, hs⟩ := okQ_facts h
  have hb := pe_bij h
  have hk := rd_pos h
  have hw := cyc_way hb i0 i1
  have hkn : rdF r u i a b ≤ r.length := by unfold rdF; rw [if_pos h]; exact hw.inn.len
  have hback : it (peF r u a b) i (rdF r u i a b) = i := by unfold rdF; rw [if_pos h]; exact it_cyc hb i0 i1
  have hps : psF r u i a b = sqW r u (rpL (swL a b) (rdF r u i a b)) i := by
    unfold psF; rw [if_pos h]
    have := psK_sq s (swL a b) i0 i1 (rdF r u i a b)
    simpa [peF] using this
  have hen : enW r u (rpL (swL a b) (rdF r u i a b)) i = i := by
    rw [(rp_en s (swL a b) i0 i1 _).1]
    simpa [peF] using hback
  generalize hK : rdF r u i a b = K at *
  have hl := rpL_len (swL a b) K
  rw [swL_len] at hl
  generalize hW : rpL (swL a b) K = W at *
  have hpos : 0 < K * (a + b) := Nat.mul_pos (by omega) (by omega)
  rw [hps]
  refine ⟨hk.1, hkn, by rw [sqW_len, hl], hl, ?_, ?_, ?_⟩
  · rw [sqW_at r u W i 0 (by omega)]; rfl
  · exact sqW_in s W i0 i1
  · intro j x c hx hc
    have hj : j < W.length := (List.getElem?_eq_some_iff.1 hc).1
    rw [sqW_at r u W i j hj] at hx
    obtain rfl := Option.some.inj hx
    rw [hl] at hj
    rw [← enW_take hc]
    by_cases e : j + 1 = K * (a + b)
    · rw [e, Nat.mod_self, sqW_at r u W i 0 (by omega), List.take_zero, List.take_of_length_le (by omega), hen]; rfl
    · rw [Nat.mod_eq_of_lt (by omega), sqW_at r u W i (j + 1) (by omega)]
/-- How often each square is met. -/
theorem vs_fold (n : Nat) : ∀ (l v : List Int), v.length = n → (∀ x ∈ l, 0 ≤ x ∧ x < n) → (∀ y ∈ v, 0 ≤ y) →
    (l.foldl (fun v x => v.set x.toNat (v.getD x.toNat 0 + 1)) v).length = n ∧ (l.foldl (fun v x => v.set x.toNat (v.getD x.toNat 0 + 1)) v).sum = v.sum + l.length ∧ (∀ y ∈ l.foldl (fun v x => v.set x.toNat (v.getD x.toNat 0 + 1)) v, 0 ≤ y) ∧
    (∀ k, v.getD k 0 ≤ (l.foldl (fun v x => v.set x.toNat (v.getD x.toNat 0 + 1)) v).getD k 0) ∧ ∀ x ∈ l, 1 ≤ (l.foldl (fun v x => v.set x.toNat (v.getD x.toNat 0 + 1)) v).getD x.toNat 0
  | [], v, hv, _, h => ⟨hv, by simp, h, fun _ => Int.le_refl _, fun x hx => by simp at hx⟩
  | x :: l, v, hv, hl, h => by
    obtain ⟨x0, x1⟩ := hl x (by simp)
    have hx : x.toNat < v.length := by omega
    have hge : 0 ≤ v.getD x.toNat 0 := by
      rw [List.getD_eq_getElem?_getD, List.getElem?_eq_getElem hx]
      exact h _ (List.getElem_mem hx)
    have hsum : (v.set x.toNat (v.getD x.toNat 0 + 1)).sum = v.sum + 1 := sum_set v x.toNat hx
    obtain ⟨a, b, c, d, e⟩ := vs_fold n l (v.set x.toNat (v.getD x.toNat 0 + 1)) (by simpa using hv) (fun y hy => hl y (List.mem_cons_of_mem _ hy)) (fun y hy => by
      rcases List.mem_or_eq_of_mem_set hy with q | rfl
      · exact h y q
      · omega)
    rw [List.foldl_cons]
    have hself : (v.set x.toNat (v.getD x.toNat 0 + 1)).getD x.toNat 0 = v.getD x.toNat 0 + 1 := by
      rw [List.getD_eq_getElem?_getD, List.getElem?_set_self hx]; rfl
    refine ⟨a, by rw [b, hsum, List.length_cons]; omega, c, fun k => ?_, fun y hy => ?_⟩
    · refine Int.le_trans ?_ (d k)
      by_cases e : k = x.toNat
      · subst e; rw [hself]; omega
      · rw [List.getD_eq_getElem?_getD, List.getD_eq_getElem?_getD, List.getElem?_set_ne (Ne.symm e)]; exact Int.le_refl _
    · rcases List.mem_cons.1 hy with rfl | q
      · refine Int.le_trans ?_ (d _)
        rw [hself]; omega
      · exact e y q
where sum_set : ∀ (v : List Int) (k : Nat), k < v.length → (v.set k (v.getD k 0 + 1)).sum = v.sum + 1
  | [], k, h => by simp at h
  | y :: v, 0, _ => by simp; omega
  | y :: v, k + 1, h => by
    have := sum_set v k (by simpa using h)
    simp only [List.set_cons_succ, List.getD_cons_succ, List.sum_cons]
    rw [this]; omega
theorem sum_take : ∀ (l : List Int), (∀ y ∈ l, 0 ≤ y) → ∀ k, 0 ≤ (l.take k).sum ∧ (l.take k).sum ≤ l.sum
  | [], _, k => by simp
  | x :: l, h, 0 => by
    have := sum_take l (fun y hy => h y (List.mem_cons_of_mem _ hy)) l.length
    have h0 := h x (List.mem_cons_self ..)
    simp only [List.take_zero, List.sum_nil, List.sum_cons, List.take_length] at *; omega
  | x :: l, h, k + 1 => by
    have := sum_take l (fun y hy => h y (List.mem_cons_of_mem _ hy)) k
    have h0 := h x (List.mem_cons_self ..)
    simp only [List.take_succ_cons, List.sum_cons]; omega
theorem rep_sum (n : Nat) : (List.replicate n (0 : Int)).sum = 0 := by
  induction n with
  | zero => rfl
  | succ n ih => rw [List.replicate_succ, List.sum_cons, ih]; rfl
theorem vs_ok (n : Nat) (l : List Int) (h : ∀ x ∈ l, 0 ≤ x ∧ x < n) : (vsK n l).length = n ∧ (vsK n l).sum = l.length ∧ (∀ y ∈ vsK n l, 0 ≤ y) ∧ ∀ x ∈ l, 1 ≤ (vsK n l).getD x.toNat 0 := by
  obtain ⟨a, b, c, _, e⟩ := vs_fold n l (List.replicate n 0) (by simp) h (fun y hy => by rw [List.eq_of_mem_replicate hy]; exact Int.le_refl _)
  exact ⟨a, by unfold vsK; rw [b, rep_sum]; omega, c, e⟩
end Go.Proofs.Ytkkklpchkkdhfaa.pth
