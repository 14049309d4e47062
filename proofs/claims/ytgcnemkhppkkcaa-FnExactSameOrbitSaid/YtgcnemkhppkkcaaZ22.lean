import Derived.Test.YtgcnemkhppkkcaaZ04
import Derived.Test.YtgcnemkhppkkcaaZ19
import Derived.Laws.IdiomStrings
import Derived.Laws.BytesArg
namespace Go.Proofs.Ytgcnemkhppkkcaa.orb
open Go.ChangeShapes Go.WideShapes Go.ChangeAt Go.RowKit
open mem ints arr pm sf
set_option linter.unusedVariables false
set_option maxRecDepth 100000
theorem orbL_bnd {r u : List Int} : (orbL r u).length ≤ 120 ∧ ∀ y ∈ orbL r u, y.1.length ≤ 24 ∧ y.2.length ≤ 24 := by
  cases h : orbF r u with
  | none => rw [(orbL_none h).1]; exact ⟨by simp, fun y hy => by simp at hy⟩
  | some q =>
    rw [(orbL_some h).1]
    obtain ⟨s, oi, l⟩ := orbF_inv h
    refine ⟨l, fun y hy => ?_⟩
    have sy := oi.sf y hy
    have h1 := sy.r.len; have h2 := sy.u.len
    exact ⟨h1, h2⟩
def soF (r u r' u' : List Int) : Bool := orbB r u && transB r' u' && decide (0 ≤ fnd (orbL r u) (cn (r', u')))
set_option maxHeartbeats 2000000 in
theorem so_spec (x : Value) (r u : List Int) (y : Value) (r' u' : List Int) (h1 h2 : Nat) (w : World) (hx : Srd w h1 x r u) (hy : Srd w h2 y r' u') (hn : r.length ≤ 1048576) (hm : u.length ≤ 1048576) (hn' : r'.length ≤ 1048576) (hm' : u'.length ≤ 1048576) :
    Calls sqp.prog 29 #[x, y] w fun e w' => e = .returned (.bool (soF r u r' u')) ∧ Below w.heap.size w w' := by
  have HX := Lib.hid hx; have HY := Lib.hid hy; clear hx hy
  obtain ⟨P, n, c, Q, m, d, rfl, q1, q2, e1, e2, ht, HR⟩ := HX.out.open
  obtain ⟨P', n', c', Q', m', d', rfl, q1', q2', e1', e2', ht', HR'⟩ := HY.out.open
  clear HR q1 q2 HR' q1' q2'
  have B0 : Hid (∀ a b, Below w.heap.size w ((w.alloc a).alloc b)) := Lib.hid (fun a b => ((Below.refl _ _).alloc (Nat.le_refl _) _).alloc (by simp) _)
  go_enter sqp.func29, sqp.ntmps29
  go_wp2_with fail
  refine (oo_spec _ r u h1 _ (HX.out.keep ((B0.out _ _).mono ht) (Nat.le_refl _)) hn hm).mono ?_
  rintro e w1 ⟨A', ca, rfl, lo, b1⟩
  have BX := Lib.hid ((Arr.new (w.alloc (.cells #[.slice P n c, .slice Q m d] 25)) [.slice P' n' c', .slice Q' m' d'] 25 (g := w.heap.size + 1) (by simp)).keep b1 (by simp))
  have c0 := BX.out.cell (k := 0) rfl; have c1 := BX.out.cell (k := 1) rfl
  have B1 := Lib.hid ((B0.out _ _).trans (b1.mono (by simp; omega)))
  have hs1 := B1.out.size
  have LO := Lib.hid (lo.up)
  have Y1 := Lib.hid (HY.out.keep (B1.out.mono ht') (Nat.le_refl _))
  clear b1 lo
  obtain ⟨l120, l24⟩ := orbL_bnd (r := r) (u := u)
  cases hq : orbB r u
  · have HF : Hid (soF r u r' u' = false) := Lib.hid (by simp [soF, hq])
    clear hq
    go_wp2_with fail
    go_ret
    exact ⟨ret_bool HF.out.symm, B1.out⟩
  · have HQ := Lib.hid hq; clear hq
    go_wp2_with fail
    refine (ok_spec _ r' u' h2 _ Y1.out hn' hm').mono ?_
    rintro e w2 ⟨rfl, b2⟩
    have BX2 := Lib.hid (BX.out.keep b2 BX.out.lt)
    have LO2 := Lib.hid (LO.out.keep b2 (Nat.le_refl _))
    have Y2 := Lib.hid (Y1.out.keep b2 Y1.out.top)
    have B2 := Lib.hid (B1.out.trans (b2.mono hs1))
    have hs2 := b2.size
    clear b2 c0 c1 BX LO Y1 B1
    have c0 := BX2.out.cell (k := 0) rfl; have c1 := BX2.out.cell (k := 1) rfl
    cases ht2 : transB r' u'
    · have HF : Hid (soF r u r' u' = false) := Lib.hid (by simp [soF, ht2])
      clear ht2
      go_wp2_with fail
      go_ret
      exact ⟨ret_bool HF.out.symm, B2.out⟩
    · have HS := Lib.hid (transB_iff.1 ht2)
      have HF : Hid (soF r u r' u' = decide (0 ≤ fnd (orbL r u) (cn (r', u')))) := Lib.hid (by simp [soF, ht2, HQ.out])
      clear ht2
      go_wp2_with fail
      refine (gl.canon_spec _ r' u' _ h2 _ Y2.out HS.out).mono ?_
      rintro e w3 ⟨g, rfl, sg, b3⟩
      have SG : Hid (Svl w3 w2.heap.size w3.heap.size g (cn (r', u')).1 (cn (r', u')).2) := Lib.hid sg
      have CS := Lib.hid (cn_sf (s := (r', u')) HS.out)
      have h24 := HS.out.r.len
      have hs3 := b3.size
      have LO3 := Lib.hid (LO2.out.keep b3 (Nat.le_trans LO2.out.top (Nat.le_refl _)))
      have B3 := Lib.hid (B2.out.trans (b3.mono B2.out.size))
      clear b3 sg c0 c1 BX2 LO2 Y2 B2
      go_wp2_with fail
      refine (find_spec A' (orbL r u).length ca (orbL r u) g (cn (r', u')) _ _ _ (LO3.out.lrd) SG.out.rd (by omega) (fun y hy => ⟨by have := (l24 y hy).1; omega, by have := (l24 y hy).2; omega⟩) (by rw [CS.out.lr]; show r'.length ≤ _; omega) (by rw [CS.out.lu]; show r'.length ≤ _; omega)).mono ?_
      rintro e w4 ⟨rfl, b4⟩
      have B4 := Lib.hid (B3.out.trans (b4.mono B3.out.size))
      clear b4 SG LO3 B3
      generalize fnd (orbL r u) (cn (r', u')) = F at *
      go_wp2_with fail
      go_ret
      exact ⟨ret_bool HF.out.symm, B4.out⟩
def owF (r u r' u' : List Int) : Option (List UInt8) :=
  if transB r u && transB r' u' then
    match orb (r, u) with
    | none => none
    | some q => if fnd q.1 (cn (r', u')) < 0 then none else if 40 < (q.2.getD (fnd q.1 (cn (r', u'))).toNat []).length then none else some (q.2.getD (fnd q.1 (cn (r', u'))).toNat [])
  else none
def owS (r u r' u' : List Int) : ByteArray := match owF r u r' u' with | some x => ⟨x.toArray⟩ | none => ⟨#[]⟩
def owB (r u r' u' : List Int) : Bool := (owF r u r' u').isSome
def OWPost (r u r' u' : List Int) (w : World) (e : Ending) (w' : World) : Prop := e = .returned (.tuple #[.string (owS r u r' u'), .bool (owB r u r' u')]) ∧ Below w.heap.size w w'
theorem ow_no {r u r' u' : List Int} {w w' : World} (h : owF r u r' u' = none) (hb : Below w.heap.size w w') : OWPost r u r' u' w (.returned (.tuple #[.string ⟨#[]⟩, .bool false])) w' := ⟨by simp [owS, owB, h], hb⟩
theorem ow_yes {r u r' u' : List Int} {x : List UInt8} {w w' : World} (h : owF r u r' u' = some x) (hb : Below w.heap.size w w') : OWPost r u r' u' w (.returned (.tuple #[.string ⟨x.toArray⟩, .bool true])) w' := ⟨by simp [owS, owB, h], hb⟩
set_option maxHeartbeats 2000000 in
theorem ow_spec (x : Value) (r u : List Int) (y : Value) (r' u' : List Int) (h1 h2 : Nat) (w : World) (hx : Srd w h1 x r u) (hy : Srd w h2 y r' u') (hn : r.length ≤ 1048576) (hm : u.length ≤ 1048576) (hn' : r'.length ≤ 1048576) (hm' : u'.length ≤ 1048576) :
    Calls sqp.prog 20 #[x, y] w (OWPost r u r' u' w) := by
  have HX := Lib.hid hx; have HY := Lib.hid hy; clear hx hy
  obtain ⟨P, n, c, Q, m, d, rfl, q1, q2, e1, e2, ht, HR⟩ := HX.out.open
  obtain ⟨P', n', c', Q', m', d', rfl, q1', q2', e1', e2', ht', HR'⟩ := HY.out.open
  clear HR q1 q2 HR' q1' q2'
  have B0 : Hid (∀ a b, Below w.heap.size w ((w.alloc a).alloc b)) := Lib.hid (fun a b => ((Below.refl _ _).alloc (Nat.le_refl _) _).alloc (by simp) _)
  go_enter sqp.func20, sqp.ntmps20
  go_wp2_with fail
  refine (ok_spec _ r u h1 _ (HX.out.keep ((B0.out _ _).mono ht) (Nat.le_refl _)) hn hm).mono ?_
  rintro e w1 ⟨rfl, b1⟩
  have BX := Lib.hid ((Arr.new (w.alloc (.cells #[.slice P n c, .slice Q m d] 25)) [.slice P' n' c', .slice Q' m' d'] 25 (g := w.heap.size + 1) (by simp)).keep b1 (by simp))
  have AX := Lib.hid (((Arr.new w [.slice P n c, .slice Q m d] 25 rfl).alloc (.cells #[.slice P' n' c', .slice Q' m' d'] 25)).keep b1 (by simp; omega))
  have c0 := BX.out.cell (k := 0) rfl; have c1 := BX.out.cell (k := 1) rfl
  have d0 := AX.out.cell (k := 0) rfl; have d1 := AX.out.cell (k := 1) rfl
  have B1 := Lib.hid ((B0.out _ _).trans (b1.mono (by simp; omega)))
  have hs1 := B1.out.size
  have X1 := Lib.hid (HX.out.keep (B1.out.mono ht) (Nat.le_refl _))
  have Y1 := Lib.hid (HY.out.keep (B1.out.mono ht') (Nat.le_refl _))
  clear b1
  cases hq : transB r u
  · have HF : Hid (owF r u r' u' = none) := Lib.hid (by simp [owF, hq])
    clear hq
    go_wp2_with fail
    go_ret2
    exact ow_no HF.out B1.out
  · have HS := Lib.hid (transB_iff.1 hq)
    have HQ := Lib.hid hq; clear hq
    go_wp2_with fail
    refine (ok_spec _ r' u' h2 _ Y1.out hn' hm').mono ?_
    rintro e w2 ⟨rfl, b2⟩
    have BX2 := Lib.hid (BX.out.keep b2 BX.out.lt)
    have AX2 := Lib.hid (AX.out.keep b2 AX.out.lt)
    have X2 := Lib.hid (X1.out.keep b2 X1.out.top)
    have Y2 := Lib.hid (Y1.out.keep b2 Y1.out.top)
    have B2 := Lib.hid (B1.out.trans (b2.mono hs1))
    have hs2 := b2.size
    clear b2 c0 c1 d0 d1 BX AX X1 Y1 B1
    have d0 := AX2.out.cell (k := 0) rfl; have d1 := AX2.out.cell (k := 1) rfl
    cases ht2 : transB r' u'
    · have HF : Hid (owF r u r' u' = none) := Lib.hid (by simp [owF, ht2])
      clear ht2
      go_wp2_with fail
      go_ret2
      exact ow_no HF.out B2.out
    · have HS' := Lib.hid (transB_iff.1 ht2)
      have HT := Lib.hid ht2; clear ht2
      go_wp2_with fail
      refine (orbit_spec _ r u _ h1 _ X2.out HS.out).mono ?_
      intro e w3 hp
      have h24 := HS'.out.r.len
      have CS := Lib.hid (cn_sf (s := (r', u')) HS'.out)
      unfold OPost at hp
      cases ho : orb (r, u) with
      | none =>
        rw [ho] at hp
        obtain ⟨rfl, b3⟩ := hp
        have HF : Hid (owF r u r' u' = none) := Lib.hid (by simp [owF, HQ.out, HT.out, ho])
        have BX3 := Lib.hid (BX2.out.keep b3 BX2.out.lt)
        have Y3 := Lib.hid (Y2.out.keep b3 Y2.out.top)
        have B3 := Lib.hid (B2.out.trans (b3.mono B2.out.size))
        clear ho b3 d0 d1 AX2 BX2 Y2 B2 X2
        have c0 := BX3.out.cell (k := 0) rfl; have c1 := BX3.out.cell (k := 1) rfl
        go_wp2_with fail
        refine (gl.canon_spec _ r' u' _ h2 _ Y3.out HS'.out).mono ?_
        rintro e w4 ⟨g, rfl, sg, b4⟩
        have SG : Hid (Svl w4 w3.heap.size w4.heap.size g (cn (r', u')).1 (cn (r', u')).2) := Lib.hid sg
        have B4 := Lib.hid (B3.out.trans (b4.mono B3.out.size))
        clear b4 sg c0 c1 BX3 Y3 B3
        go_wp2_with fail
        refine (find_spec none 0 0 [] g (cn (r', u')) 0 _ _ ⟨none, 0, 0, rfl, rfl, Nat.le_refl _, Nat.zero_le _, fun h => absurd h (by omega)⟩ SG.out.rd (by omega) (fun y hy => by simp at hy) (by rw [CS.out.lr]; show r'.length ≤ _; omega) (by rw [CS.out.lu]; show r'.length ≤ _; omega)).mono ?_
        rintro e w5 ⟨rfl, b5⟩
        have B5 := Lib.hid (B4.out.trans (b5.mono B4.out.size))
        clear b5 SG B4
        have ef : fnd [] (cn (r', u')) = -1 := rfl
        rw [ef]
        go_wp2_with fail
        go_ret2
        exact ow_no HF.out B5.out
      | some q =>
        rw [ho] at hp
        obtain ⟨v', u'', rfl, os⟩ := hp
        obtain ⟨_, oi, l120⟩ := orbF_inv (q := q) (by rw [orbF_yes HQ.out, ho])
        obtain ⟨A', ca, B', db, rfl, rfl⟩ := os.forms
        have b3 : Below w2.heap.size w2 w3 := os.bel
        have BX3 := Lib.hid (BX2.out.keep b3 BX2.out.lt)
        have Y3 := Lib.hid (Y2.out.keep b3 Y2.out.top)
        have B3 := Lib.hid (B2.out.trans (b3.mono B2.out.size))
        have OS3 := Lib.hid os
        have OI := Lib.hid oi
        have HO := Lib.hid ho
        clear ho b3 d0 d1 AX2 BX2 Y2 B2 X2 os oi
        have c0 := BX3.out.cell (k := 0) rfl; have c1 := BX3.out.cell (k := 1) rfl
        go_wp2_with fail
        refine (gl.canon_spec _ r' u' _ h2 _ Y3.out HS'.out).mono ?_
        rintro e w4 ⟨g, rfl, sg, b4⟩
        have SG : Hid (Svl w4 w3.heap.size w4.heap.size g (cn (r', u')).1 (cn (r', u')).2) := Lib.hid sg
        have B4 := Lib.hid (B3.out.trans (b4.mono B3.out.size))
        have OS4 := Lib.hid (OS3.out.keep b4 (Nat.le_refl _))
        clear b4 sg c0 c1 BX3 Y3 B3 OS3
        go_wp2_with fail
        refine (find_spec A' q.1.length ca q.1 g (cn (r', u')) _ _ _ (OS4.out.lrd) SG.out.rd (by omega) (fun y hy => by have h1 := (OI.out.sf y hy).r.len; have h2 := (OI.out.sf y hy).u.len; exact ⟨by omega, by omega⟩) (by rw [CS.out.lr]; show r'.length ≤ _; omega) (by rw [CS.out.lu]; show r'.length ≤ _; omega)).mono ?_
        rintro e w5 ⟨rfl, b5⟩
        have B5 := Lib.hid (B4.out.trans (b5.mono B4.out.size))
        have OS5 := Lib.hid (OS4.out.keep b5 OS4.out.top)
        clear b5 SG B4 OS4
        by_cases hm2 : cn (r', u') ∈ q.1
        · obtain ⟨k, hk, hkl, hkx⟩ := fnd_get hm2
          have hk2 : k < q.2.length := by rw [OI.out.len]; exact hkl
          have hw := List.getElem?_eq_getElem hk2
          generalize q.2[k] = wd at hw
          have ewd : q.2.getD k [] = wd := by rw [List.getD_eq_getElem?_getD, hw]; rfl
          have hwl := OI.out.wl k wd hw
          obtain ⟨gb, rfl, hcw, _⟩ := Os.word OS5.out hw
          rw [Nat.zero_add] at hcw
          have EO : Hid (owF r u r' u' = if 40 < wd.length then none else some wd) := Lib.hid (by
            unfold owF
            rw [HQ.out, HT.out]
            simp only [Bool.and_true, if_true, HO.out, hk]
            rw [if_neg (by omega), Int.toNat_natCast, ewd])
          rw [hk]
          have hsz : (⟨wd.toArray⟩ : ByteArray).size = wd.length := by show wd.toArray.size = _; simp
          clear hm2 hk hkx ewd OI HO
          by_cases h40 : 40 < wd.length
          · have HF : Hid (owF r u r' u' = none) := Lib.hid (by rw [EO.out, if_pos h40])
            go_wp2_with fail
            go_ret2
            exact ow_no HF.out B5.out
          · have HF : Hid (owF r u r' u' = some wd) := Lib.hid (by rw [EO.out, if_neg h40])
            go_wp2_with fail
            go_ret2
            exact ow_yes HF.out B5.out
        · have ef : fnd q.1 (cn (r', u')) = -1 := fnd_no.2 hm2
          have HF : Hid (owF r u r' u' = none) := Lib.hid (by
            unfold owF
            rw [HQ.out, HT.out]
            simp only [Bool.and_true, if_true, HO.out, ef]
            rw [if_pos (by omega)])
          rw [ef]
          clear hm2 ef
          go_wp2_with fail
          go_ret2
          exact ow_no HF.out B5.out
end Go.Proofs.Ytgcnemkhppkkcaa.orb

namespace Go.Proofs.Ytgcnemkhppkkcaa.orb
open Go.ChangeShapes Go.WideShapes Go.ChangeAt Go.RowKit Go.Maps
open mem ints arr pm sf gl
set_option linter.unusedVariables false
set_option maxRecDepth 100000
theorem soF_no {r u r' u' : List Int} (h : orbB r u = false) : soF r u r' u' = false := by simp [soF, h]
theorem soF_po {r u r' u' : List Int} {xs : List Fd} (h : orbB r u = true) (h2 : orbL r u = xs.map Prod.fst) : soF r u r' u' = decide (0 ≤ poF (xs.map Prod.fst) r' u') := by
  unfold soF poF
  rw [h, h2]
  cases transB r' u' <;> simp
set_option maxHeartbeats 2000000 in
theorem so_impl (x : Value) (r u : List Int) (y : Value) (r' u' : List Int) (h1 h2 : Nat) (w : World) (hx : Srd w h1 x r u) (hy : Srd w h2 y r' u') (hn : r.length ≤ 1048576) (hm : u.length ≤ 1048576) (hn' : r'.length ≤ 1048576) (hm' : u'.length ≤ 1048576) :
    Calls sqp.prog 18 #[x, y] w fun e w' => e = .returned (.bool (soF r u r' u')) ∧ Below w.heap.size w w' := by
  have HX := Lib.hid hx; have HY := Lib.hid hy; clear hx hy
  obtain ⟨P, n, c, Q, m, d, rfl, q1, q2, e1, e2, ht, HR⟩ := HX.out.open
  obtain ⟨P', n', c', Q', m', d', rfl, q1', q2', e1', e2', ht', HR'⟩ := HY.out.open
  clear HR q1 q2 HR' q1' q2'
  have B0 : Hid (∀ a b, Below w.heap.size w ((w.alloc a).alloc b)) := Lib.hid (fun a b => ((Below.refl _ _).alloc (Nat.le_refl _) _).alloc (by simp) _)
  go_enter sqp.func18, sqp.ntmps18
  go_wp2_with fail
  refine (orbitOf_any _ r u h1 _ (HX.out.keep ((B0.out _ _).mono ht) (Nat.le_refl _)) hn hm).mono ?_
  rintro e w1 ⟨b1, h⟩
  have BX := Lib.hid ((Arr.new (w.alloc (.cells #[.slice P n c, .slice Q m d] 25)) [.slice P' n' c', .slice Q' m' d'] 25 (g := w.heap.size + 1) (by simp)).keep b1 (by simp))
  have B1 := Lib.hid ((B0.out _ _).trans (b1.mono (by simp; omega)))
  have Y1 := Lib.hid (HY.out.keep (B1.out.mono ht') (Nat.le_refl _))
  clear b1
  have c0 := BX.out.cell (k := 0) rfl; have c1 := BX.out.cell (k := 1) rfl
  rcases h with ⟨h1, h2, A, cp, rfl, h3⟩ | ⟨h1, rfl⟩
  · have HO := Lib.hid (fin_open h1 h2)
    have FM := Lib.hid (Fm.of h3 rfl (finds_pos (r, u)))
    have HF : Hid (soF r u r' u' = decide (0 ≤ poF ((finds (r, u)).map Prod.fst) r' u') ∧ ∀ x ∈ finds (r, u), Sf r.length x.1.1 x.1.2) := Lib.hid (by obtain ⟨q, a, b, c, d, e, f⟩ := HO.out; exact ⟨soF_po d c, f⟩)
    clear h3 h1 HO
    generalize finds (r, u) = xs at *
    obtain ⟨N, hN⟩ : ∃ N, xs.length = N := ⟨_, rfl⟩
    rw [hN] at h2 ⊢
    have LN := Lib.hid hN; clear hN
    go_wp2_with fail
    refine (po_any xs r.length A N cp _ r' u' _ _ LN.out FM.out (by omega) HF.out.2 Y1.out hn' hm').mono ?_
    rintro e w2 ⟨rfl, b1⟩
    have B2 := Lib.hid (B1.out.trans (b1.mono B1.out.size)); clear b1
    have HE := Lib.hid HF.out.1
    generalize poF (xs.map Prod.fst) r' u' = F at *
    go_wp2_with fail
    go_ret
    exact ⟨ret_bool HE.out.symm, B2.out⟩
  · have HE := Lib.hid (soF_no (r' := r') (u' := u') (orbB_no (fin_shut h1)))
    clear h1
    go_wp2_with fail
    go_ret
    exact ⟨ret_bool HE.out.symm, B1.out⟩
end Go.Proofs.Ytgcnemkhppkkcaa.orb

namespace Go.Proofs.Ytgcnemkhppkkcaa.orb
open Go.ChangeShapes Go.WideShapes Go.ChangeAt Go.RowKit Go.Maps
open mem ints arr pm sf gl
set_option linter.unusedVariables false
set_option maxRecDepth 100000
def rvL (xs : List Value) (k : Nat) : List Value := (List.range xs.length).map fun j => if j < k ∨ xs.length - k ≤ j then xs.getD (xs.length - 1 - j) undef else xs.getD j undef
theorem rv_len (xs : List Value) (k : Nat) : (rvL xs k).length = xs.length := by simp [rvL]
theorem rv_get {xs : List Value} {j : Nat} (k : Nat) (h : j < xs.length) : (rvL xs k)[j]? = some (if j < k ∨ xs.length - k ≤ j then xs.getD (xs.length - 1 - j) undef else xs.getD j undef) := by simp [rvL, h]
theorem rv_zero (xs : List Value) : rvL xs 0 = xs := by
  refine List.ext_getElem? fun j => ?_
  by_cases h : j < xs.length
  · rw [rv_get 0 h, if_neg (by omega), List.getElem?_eq_getElem h]; simp [List.getD, h]
  · rw [List.getElem?_eq_none (by rw [rv_len]; omega), List.getElem?_eq_none (by omega)]
theorem rv_step {xs : List Value} {k J : Nat} (h : k < J) (hJ : J + k + 1 = xs.length) : ((rvL xs k).set k (xs.getD J undef)).set J (xs.getD k undef) = rvL xs (k + 1) := by
  refine List.ext_getElem? fun j => ?_
  by_cases hj : j < xs.length
  · rw [rv_get (k + 1) hj, List.getElem?_set, List.length_set, rv_len]
    by_cases e1 : J = j
    · subst e1
      rw [if_pos rfl, if_pos hj, if_pos (by omega), show xs.length - 1 - J = k by omega]
    · rw [if_neg e1, List.getElem?_set, rv_len]
      by_cases e2 : k = j
      · subst e2
        rw [if_pos rfl, if_pos hj, if_pos (by omega), show xs.length - 1 - k = J by omega]
      · rw [if_neg e2, rv_get k hj]
        by_cases q : j < k ∨ xs.length - k ≤ j
        · rw [if_pos q, if_pos (by omega)]
        · rw [if_neg q, if_neg (by omega)]
  · rw [List.getElem?_eq_none (by simp [rv_len]; omega), List.getElem?_eq_none (by rw [rv_len]; omega)]
theorem rv_end {xs : List Value} {k : Nat} (h : xs.length ≤ 2 * k + 1) : rvL xs k = xs.reverse := by
  refine List.ext_getElem? fun j => ?_
  by_cases hj : j < xs.length
  · rw [rv_get k hj, List.getElem?_reverse hj]
    have e : ∀ i, i < xs.length → xs[i]? = some (xs.getD i undef) := fun i hi => by simp [List.getD, hi]
    rw [e _ (by omega)]
    split
    · rfl
    · rw [show xs.length - 1 - j = j by omega]
  · rw [List.getElem?_eq_none (by rw [rv_len]; omega), List.getElem?_eq_none (by simp; omega)]
def BY (L : List UInt8) : List Value := L.map fun c => Value.int .u8 (c.toNat : Int)
theorem BY_at {L : List UInt8} {k : Nat} (h : k < L.length) : ∃ c : UInt8, (BY L).getD k undef = .int .u8 (c.toNat : Int) := ⟨L[k], by simp [BY, List.getD, h]⟩
theorem rv_mid {L : List UInt8} {k j : Nat} (hj : j < L.length) (h1 : k ≤ j) (h2 : j + k < L.length) : (rvL (BY L) k)[j]? = some ((BY L).getD j undef) := by
  have hl : (BY L).length = L.length := by simp [BY]
  rw [rv_get k (by omega), if_neg (by omega)]
set_option maxHeartbeats 2000000 in
theorem revb_any (A : Option Addr) (N c : Nat) (L : List UInt8) (lo hi : Nat) (w : World) (hN : L.length = N) (hr : Row w lo hi A N (BY L)) (hl : N ≤ 1000) :
    Calls sqp.prog 71 #[.slice A N c] w fun e w' => e = .returned (.tuple #[]) ∧ Row w' lo hi A N (BY L.reverse) ∧ Out lo hi w w' := by
  have LN := Lib.hid hN; have HR := Lib.hid hr; clear hr hN
  have ZL : Hid ((BY L).length = N) := Lib.hid (by simp [BY, LN.out])
  go_enter sqp.func71, sqp.ntmps71
  go_wp2
  go_loopw [2, 3] (fun iv jv wr => ∃ k : Nat, 2 * k ≤ N + 1 ∧ iv = .int .i64 k ∧ jv = .int .i64 ((N : Int) - 1 - k) ∧ Row wr lo hi A N (rvL (BY L) k) ∧ Out lo hi w wr) (fun iv _ _ => N + 1 - (intOf iv).toNat)
  case atStart => exact ⟨0, by omega, rfl, by simp, by rw [rv_zero]; exact HR.out, Out.refl _ _ _⟩
  case round =>
    obtain ⟨k, hk, rfl, rfl, hr, ho⟩ := hrel
    have RW := Lib.hid hr; have OW := Lib.hid ho; clear hr ho
    by_cases hlt : (k : Int) < (N : Int) - 1 - k
    · obtain ⟨J, hJ⟩ : ∃ J : Nat, J + k + 1 = N := ⟨N - 1 - k, by omega⟩
      have hJi : (N : Int) - 1 - k = J := by omega
      have hkJ : k < J := by omega
      obtain ⟨ca, hca⟩ := BY_at (L := L) (k := k) (by have := LN.out; omega)
      obtain ⟨cb, hcb⟩ := BY_at (L := L) (k := J) (by have := LN.out; omega)
      obtain ⟨g, off, u1, e1, hg1, hg2, hu1, c1, f1⟩ := RW.out.at_ (k := k) (by omega)
      obtain ⟨g', off', u2, e2, _, _, hu2, c2, f2⟩ := RW.out.at_ (k := J) (by omega)
      subst e1
      injection e2 with e2; injection e2 with e2 e3; subst e2; subst e3
      rw [rv_mid (by have := LN.out; omega) (Nat.le_refl _) (by have := LN.out; omega), hca] at hu1
      rw [rv_mid (by have := LN.out; omega) (by omega) (by have := LN.out; omega), hcb] at hu2
      obtain rfl := Option.some.inj hu1
      obtain rfl := Option.some.inj hu2
      have NR : Hid (Row ((wr.drew.setCell ⟨g, off + k, none⟩ (.int .u8 (cb.toNat : Int))).setCell ⟨g, off + J, none⟩ (.int .u8 (ca.toNat : Int))) lo hi (some ⟨g, off, none⟩) N (rvL (BY L) (k + 1))) := Lib.hid (by
        have h1 := RW.out.set_ (k := k) (by omega) (.int .u8 (cb.toNat : Int))
        have h2 := h1.set_ (k := J) (by omega) (.int .u8 (ca.toNat : Int))
        rw [← hca, ← hcb, rv_step hkJ (by rw [ZL.out]; exact hJ)] at h2
        rw [hca, hcb] at h2
        exact h2)
      have NO : Hid (Out lo hi w ((wr.drew.setCell ⟨g, off + k, none⟩ (.int .u8 (cb.toNat : Int))).setCell ⟨g, off + J, none⟩ (.int .u8 (ca.toNat : Int)))) := Lib.hid (((OW.out.drewN 1).set_ hg1 hg2 _).set_ hg1 hg2 _)
      clear hca hcb hu1 hu2 hlt
      rw [hJi]
      go_wp2
      go_region
      go_wp2
      go_roundw
      case rel => exact ⟨k + 1, by omega, by go_num, by congr 1; omega, NR.out, NO.out⟩
      case measure => simp [intOf]; omega
    · have HE : Hid (rvL (BY L) k = BY L.reverse) := Lib.hid (by rw [rv_end (by rw [ZL.out]; omega)]; simp [BY])
      go_wp2
      go_end0
      exact ⟨rfl, by rw [← HE.out]; exact RW.out, OW.out⟩
theorem infoBy : (sqp.prog.info? 5).map (fun i => (i.zero, i.size, i.bytes)) = some (some (.int .u8 0), 1, 1) := by kernel_rfl
theorem conv_row {W : World} {lo hi N c : Nat} {A : Option Addr} {L : List UInt8} (h : Row W lo hi A N (BY L)) :
    (convert 22 9 (.slice A N c)).run sqp.prog W = .ok (.string ⟨L.toArray⟩) W := by
  have hl : L.length = N := by have := h.1; simpa [BY] using this
  subst hl
  rcases A with _ | a
  · have hz : L = [] := by
      rcases Nat.eq_zero_or_pos L.length with q | q
      · exact List.eq_nil_of_length_eq_zero q
      · obtain ⟨g, off, e, _⟩ := h.2.2 q; cases e
    subst hz
    exact run_convert_bytes_nil W 22 5 sqp.underlying22 sqp.underlying5 0 c 9 sqp.underlying9
  · refine run_convert_bytes_back W _ _ 5 _ c L sqp.underlying22 sqp.underlying5 sqp.underlying9 fun j hj => ?_
    obtain ⟨g, off, e, _, _, hc⟩ := h.2.2 (by omega)
    obtain rfl := Option.some.inj e
    rw [show (⟨g, off, none⟩ : Addr).add j = ⟨g, off + j, none⟩ by unfold Addr.add; split <;> simp_all]
    rw [(hc j hj).1]
    simp [BY, hj]
def Lt (xs : List Fd) : Prop := ∀ x ∈ xs, x.2.2 = 0 ∨ x.2.2 = 2
theorem Lt.add {xs : List Fd} (h : Lt xs) (k : Nat) (c : UInt8) {l : Nat} (hl : l = 0 ∨ l = 2) : Lt (addF k c l xs) := by
  unfold addF
  split
  · exact h
  · intro x hx
    rcases List.mem_append.1 hx with q | q
    · exact h x q
    · rw [List.mem_singleton] at q; subst q; exact hl
theorem Lt.run : ∀ (f k : Nat) {xs : List Fd}, Lt xs → Lt (frun f k xs)
  | 0, _, _, h => h
  | f + 1, k, xs, h => by
    rw [frun]
    split
    · exact Lt.run f (k + 1) ((h.add k 84 (.inl rfl)).add k 83 (.inr rfl))
    · exact h
theorem finds_let (s : Sur) : Lt (finds s) := Lt.run 122 0 (fun x hx => by rw [List.mem_singleton] at hx; subst hx; exact .inl rfl)
theorem fd_from (s : Sur) (n p l : Nat) : (V (fdL s n p l))[49]? = some (.int .i64 p) := by
  have e : V (fdL s n p l) = V (gS s n) ++ V [(p : Int), (l : Int)] := by simp [V, fdL]
  rw [e, List.getElem?_append_right (by rw [V_len, gS_len]; omega), V_len, gS_len]; rfl
theorem fd_by (s : Sur) (n p l : Nat) : (V (fdL s n p l))[50]? = some (.int .i64 l) := by
  have e : V (fdL s n p l) = V (gS s n) ++ V [(p : Int), (l : Int)] := by simp [V, fdL]
  rw [e, List.getElem?_append_right (by rw [V_len, gS_len]; omega), V_len, gS_len]; rfl
structure Bw (w wr : World) (v : Value) (L : List UInt8) : Prop where
  own : wr.ownsRow w.heap.size 5 1 v L.length (BY L)
  bel : Below w.heap.size w wr
set_option maxHeartbeats 2000000 in
theorem wt_any (xs : List Fd) (q : LW) (n : Nat) (A : Option Addr) (N cp k0 : Nat) (w : World) (hN : xs.length = N) (hf : Fm w A n xs) (hq : Fq xs q) (hl : Lt xs) (hk : k0 < N) (hn : N ≤ 1000) :
    Calls sqp.prog 42 #[.slice A N cp, .int .i64 k0] w fun e w' => e = .returned (.string ⟨(q.2.getD k0 []).toArray⟩) ∧ Below w.heap.size w w' := by
  have HF := Lib.hid hf; have HQ := Lib.hid hq; have HL := Lib.hid hl; have LN := Lib.hid hN; clear hf hq hl hN
  obtain ⟨W0, hW0⟩ : ∃ W0, q.2.getD k0 [] = W0 := ⟨_, rfl⟩
  have HW := Lib.hid hW0
  rw [hW0]
  clear hW0
  obtain ⟨i0, hi0, hz0, hz1, hz2⟩ := info_parts infoBy
  have hix0 : ∀ W, (Instr.index 9 (.string { data := #[84, 116, 83, 115] }) (.int .i64 0)).run sqp.prog W = .ok (.int .u8 84) W := fun W => by kernel_rfl
  have hix2 : ∀ W, (Instr.index 9 (.string { data := #[84, 116, 83, 115] }) (.int .i64 2)).run sqp.prog W = .ok (.int .u8 83) W := fun W => by kernel_rfl
  go_enter sqp.func42, sqp.ntmps42
  go_wp2
  go_loopw [1, 5] (fun pv v wr => ∃ (k : Nat) (acc : List UInt8), k < N ∧ pv = .int .i64 k ∧ acc.length + k ≤ 1000 ∧ Bw w wr v acc ∧ Hid (q.2.getD k [] ++ acc.reverse = W0)) (fun pv _ _ => (intOf pv).toNat)
  case atStart => exact ⟨k0, [], hk, rfl, by simp; omega, ⟨World.ownsRow_nil _ _ _ _, Below.refl _ _⟩, Lib.hid (by rw [HW.out]; simp)⟩
  case round =>
    obtain ⟨k, acc, hkN, rfl, hak, hbw, HA⟩ := hrel
    have BW := Lib.hid hbw; clear hbw
    have hsz := BW.out.bel.size
    by_cases h0 : 0 < k
    · obtain ⟨x, hxk⟩ : ∃ x, xs[k]? = some x := ⟨_, List.getElem?_eq_getElem (by rw [LN.out]; exact hkN)⟩
      obtain ⟨hlt2, hwd⟩ := HQ.out.word k x hxk h0
      obtain ⟨g, rfl, hg, hc⟩ := HF.out k x hxk
      have hlet := HL.out x (List.mem_of_getElem? hxk)
      have CB : Hid (∀ W, Below w.heap.size w W → W.cell? ⟨g, k * 51 + 50, none⟩ = some (.int .i64 x.2.2)) := Lib.hid (fun W hW => by rw [hW.cell (p := ⟨g, k * 51 + 50, none⟩) hg]; exact hc 50 _ (fd_by _ _ _ _))
      have CF : Hid (∀ W, Below w.heap.size w W → W.cell? ⟨g, k * 51 + 49, none⟩ = some (.int .i64 x.2.1)) := Lib.hid (fun W hW => by rw [hW.cell (p := ⟨g, k * 51 + 49, none⟩) hg]; exact hc 49 _ (fd_from _ _ _ _))
      have HA2 : Hid (q.2.getD x.2.1 [] ++ (acc ++ [fdB x.2.2]).reverse = W0) := Lib.hid (by rw [← HA.out, hwd]; simp)
      have hb := CB.out _ BW.out.bel
      clear hc hxk hwd CB
      obtain ⟨s, p, l⟩ := x
      dsimp only at hlet hlt2 hb CF HA2
      rcases hlet with rfl | rfl
      · go_wp2_with (at_builtin; refine wpList_append_one wr _ _ rfl _ _ 22 rfl w.heap.size 5 i0 _ 1 sqp.underlying22 hi0 hz0 hz1 hz2 rfl _ _ _ rfl BW.out.own rfl rfl ?c4 (by decide) (by omega) ?_)
        case c4 => omega
        intro v' w2 hown hg
        have HG := Lib.hid (BW.out.bel.trans (own_below (B := w.heap.size) BW.out.own hg (Nat.le_refl _) (by omega)))
        have H1 : Hid (Bw w w2 v' (acc ++ [84])) := Lib.hid ⟨by simpa [BY] using hown, HG.out⟩; clear hown hg
        have hf := CF.out _ HG.out
        go_wp2
        go_roundw
        case rel => exact ⟨p, acc ++ [84], by omega, by first | rfl | go_num, by simp; omega, H1.out, HA2⟩
        case measure => simp [intOf]; omega
      · go_wp2_with (at_builtin; refine wpList_append_one wr _ _ rfl _ _ 22 rfl w.heap.size 5 i0 _ 1 sqp.underlying22 hi0 hz0 hz1 hz2 rfl _ _ _ rfl BW.out.own rfl rfl ?c4 (by decide) (by omega) ?_)
        case c4 => omega
        intro v' w2 hown hg
        have HG := Lib.hid (BW.out.bel.trans (own_below (B := w.heap.size) BW.out.own hg (Nat.le_refl _) (by omega)))
        have H1 : Hid (Bw w w2 v' (acc ++ [83])) := Lib.hid ⟨by simpa [BY] using hown, HG.out⟩; clear hown hg
        have hf := CF.out _ HG.out
        go_wp2
        go_roundw
        case rel => exact ⟨p, acc ++ [83], by omega, by first | rfl | go_num, by simp; omega, H1.out, HA2⟩
        case measure => simp [intOf]; omega
    · obtain rfl : k = 0 := by omega
      have HE : Hid (acc.reverse = W0) := Lib.hid (by
        rw [← HA.out]
        have hlen := HQ.out.len
        have hpos : 0 < q.2.length := by rw [hlen, LN.out]; exact hkN
        have e := HQ.out.zero _ (List.getElem?_eq_getElem hpos)
        have : q.2.getD 0 [] = [] := by simp [List.getD, hpos, e]
        rw [this]; rfl)
      obtain ⟨A5, c5, e5⟩ := own_form BW.out.own
      subst e5
      go_wp2_with fail
      refine (revb_any A5 acc.length c5 acc w.heap.size _ _ rfl (Row.of_own BW.out.own) (by omega)).mono ?_
      rintro e w3 ⟨rfl, rr, oo⟩
      have hcv := conv_row (c := c5) rr
      rw [HE.out] at hcv
      have BO := Lib.hid (BW.out.bel.trans (oo.below (Nat.le_refl _) hsz)); clear rr oo
      go_wp2
      go_ret
      exact ⟨rfl, BO.out⟩
theorem orb_orbF {r u : List Int} {q : LW} (h : orbF r u = some q) (ht : transB r u = true) : orb (r, u) = some q := by rw [← orbF_yes ht]; exact h
theorem ow_none {r u r' u' : List Int} (h : orbF r u = none) : owF r u r' u' = none := by
  unfold owF
  split
  · rename_i ht
    rw [Bool.and_eq_true] at ht
    rw [orbF_yes ht.1] at h
    rw [h]
  · rfl
theorem ow_out {r u r' u' : List Int} {q : LW} {xs : List Fd} (ht : transB r u = true) (h : orb (r, u) = some q) (hq : q.1 = xs.map Prod.fst) (hp : poF (xs.map Prod.fst) r' u' < 0) : owF r u r' u' = none := by
  unfold owF
  split
  · rename_i ht2
    rw [Bool.and_eq_true] at ht2
    rw [poF_yes ht2.2, ← hq] at hp
    rw [h]
    simp only [hp, if_true]
  · rfl
theorem ow_in {r u r' u' : List Int} {q : LW} {xs : List Fd} (ht : transB r u = true) (h : orb (r, u) = some q) (hq : q.1 = xs.map Prod.fst) {k : Nat} (hp : poF (xs.map Prod.fst) r' u' = k) :
    owF r u r' u' = if 40 < (q.2.getD k []).length then none else some (q.2.getD k []) := by
  have ht2 : transB r' u' = true := by
    cases e : transB r' u'
    · rw [poF_no e] at hp; omega
    · rfl
  rw [poF_yes ht2, ← hq] at hp
  unfold owF
  rw [ht, ht2, h]
  simp only [Bool.and_self, if_true, hp, Int.toNat_natCast]
  rw [if_neg (by omega)]
theorem po_lt {xs : List Fd} {r u : List Int} {k : Nat} (hp : poF (xs.map Prod.fst) r u = k) : k < xs.length := by
  unfold poF at hp
  split at hp
  · have := fnd_range (xs.map Prod.fst) (cn (r, u))
    rw [hp, List.length_map] at this
    omega
  · omega
theorem po_range (L : List Sur) (r u : List Int) : poF L r u = -1 ∨ 0 ≤ poF L r u := by
  unfold poF
  split
  · have := fnd_range L (cn (r, u)); omega
  · exact .inl rfl
set_option maxHeartbeats 2000000 in
theorem ow_impl (x : Value) (r u : List Int) (y : Value) (r' u' : List Int) (h1 h2 : Nat) (w : World) (hx : Srd w h1 x r u) (hy : Srd w h2 y r' u') (hn : r.length ≤ 1048576) (hm : u.length ≤ 1048576) (hn' : r'.length ≤ 1048576) (hm' : u'.length ≤ 1048576) :
    Calls sqp.prog 12 #[x, y] w (OWPost r u r' u' w) := by
  have HX := Lib.hid hx; have HY := Lib.hid hy; clear hx hy
  obtain ⟨P, n, c, Q, m, d, rfl, q1, q2, e1, e2, ht, HR⟩ := HX.out.open
  obtain ⟨P', n', c', Q', m', d', rfl, q1', q2', e1', e2', ht', HR'⟩ := HY.out.open
  clear HR q1 q2 HR' q1' q2'
  have B0 : Hid (∀ a b, Below w.heap.size w ((w.alloc a).alloc b)) := Lib.hid (fun a b => ((Below.refl _ _).alloc (Nat.le_refl _) _).alloc (by simp) _)
  go_enter sqp.func12, sqp.ntmps12
  go_wp2_with fail
  refine (orbitOf_any _ r u h1 _ (HX.out.keep ((B0.out _ _).mono ht) (Nat.le_refl _)) hn hm).mono ?_
  rintro e w1 ⟨b1, h⟩
  have BX := Lib.hid ((Arr.new (w.alloc (.cells #[.slice P n c, .slice Q m d] 25)) [.slice P' n' c', .slice Q' m' d'] 25 (g := w.heap.size + 1) (by simp)).keep b1 (by simp))
  have B1 := Lib.hid ((B0.out _ _).trans (b1.mono (by simp; omega)))
  have Y1 := Lib.hid (HY.out.keep (B1.out.mono ht') (Nat.le_refl _))
  clear b1
  have c0 := BX.out.cell (k := 0) rfl; have c1 := BX.out.cell (k := 1) rfl
  rcases h with ⟨h1, h2, A, cp, rfl, h3⟩ | ⟨h1, rfl⟩
  · obtain ⟨q, hq1, hq2, hq3, hq4, hq5, hq6⟩ := fin_open h1 h2
    have OB := Lib.hid (orb_orbF hq1 h1)
    have FQ := Lib.hid hq2
    have SFx := Lib.hid hq6
    have FM := Lib.hid (Fm.of h3 rfl (finds_pos (r, u)))
    have LT := Lib.hid (finds_let (r, u))
    have HT := Lib.hid h1
    clear h3 h1 hq1 hq2 hq3 hq4 hq5 hq6
    generalize finds (r, u) = xs at *
    obtain ⟨N, hN⟩ : ∃ N, xs.length = N := ⟨_, rfl⟩
    rw [hN] at h2 ⊢
    have LN := Lib.hid hN; clear hN
    go_wp2_with fail
    refine (po_any xs r.length A N cp _ r' u' _ _ LN.out FM.out (by omega) SFx.out Y1.out hn' hm').mono ?_
    rintro e w2 ⟨rfl, b1⟩
    have B2 := Lib.hid (B1.out.trans (b1.mono B1.out.size))
    have FM2 := Lib.hid (FM.out.keep b1 (Nat.le_refl _))
    clear b1 c0 c1
    rcases po_range (xs.map Prod.fst) r' u' with hp | hp
    · have HE := Lib.hid (ow_out HT.out OB.out FQ.out.fst (r' := r') (u' := u') (by rw [hp]; omega))
      rw [hp]
      clear hp
      go_wp2_with fail
      go_ret2
      exact ow_no HE.out B2.out
    · obtain ⟨k, hk⟩ := Int.eq_ofNat_of_zero_le hp
      have HK := Lib.hid (po_lt hk)
      have HE := Lib.hid (ow_in HT.out OB.out FQ.out.fst hk)
      rw [hk]
      clear hk hp
      have hkN : k < N := by have := HK.out; rw [LN.out] at this; exact this
      go_wp2_with fail
      refine (wt_any xs q r.length A N cp k _ LN.out FM2.out FQ.out LT.out hkN (by omega)).mono ?_
      rintro e w3 ⟨rfl, b1⟩
      have B3 := Lib.hid (B2.out.trans (b1.mono B2.out.size)); clear b1
      generalize q.2.getD k [] = wd at *
      have hz : (⟨wd.toArray⟩ : ByteArray).size = wd.length := by show wd.toArray.size = _; simp
      by_cases h40 : 40 < wd.length
      · have HE2 : Hid (owF r u r' u' = none) := Lib.hid (by rw [HE.out, if_pos h40])
        go_wp2_with fail
        go_ret2
        exact ow_no HE2.out B3.out
      · have HE2 : Hid (owF r u r' u' = some wd) := Lib.hid (by rw [HE.out, if_neg h40])
        go_wp2_with fail
        go_ret2
        exact ow_yes HE2.out B3.out
  · have HE := Lib.hid (ow_none (r' := r') (u' := u') (fin_shut h1))
    clear h1
    have PN := poF_nil r' u'
    go_wp2_with fail
    refine (po_any [] 0 none 0 0 _ r' u' _ _ rfl (Fm.nil _ _ _) (by omega) (fun y hy => by simp at hy) Y1.out hn' hm').mono ?_
    rintro e w2 ⟨rfl, b1⟩
    have B2 := Lib.hid (B1.out.trans (b1.mono B1.out.size)); clear b1
    rw [List.map_nil, PN]
    clear PN
    go_wp2_with fail
    go_ret2
    exact ow_no HE.out B2.out
end Go.Proofs.Ytgcnemkhppkkcaa.orb
