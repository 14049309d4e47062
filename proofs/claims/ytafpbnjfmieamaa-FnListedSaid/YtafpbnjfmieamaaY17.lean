import Derived.Test.YtafpbnjfmieamaaY14
import Derived.Deep.MidRow
import Derived.Deep.RegionHeld3
import Derived.Test.YtafpbnjfmieamaaY13
import Derived.Test.YtafpbnjfmieamaaY06
import Derived.Test.YtafpbnjfmieamaaY04
import Derived.Test.YtafpbnjfmieamaaY02
import Derived.Deep.DeepAppendWide
import Derived.OwnWalk
/-
  The laws' helpers on slices of surfaces: eqSurfaceS, markSurfaceS, heldSurfaceS.
-/
namespace Go.Proofs.Ytafpbnjfmieamaa.orb
open Go.ChangeShapes Go.WideShapes Go.ChangeAt Go.RowKit Go.Joins Go.Deep
open Go.Proofs.Ytafpbnjfmieamaa.mem Go.Proofs.Ytafpbnjfmieamaa.ints Go.Proofs.Ytafpbnjfmieamaa.arr Go.Proofs.Ytafpbnjfmieamaa.pm Go.Proofs.Ytafpbnjfmieamaa.sf Go.Proofs.Ytafpbnjfmieamaa.mat
set_option linter.unusedVariables false
set_option maxRecDepth 100000

/-- The rows of the surfaces, one behind the other. -/
def flat : List Sur → List (List Int)
  | [] => []
  | s :: L => s.1 :: s.2 :: flat L
theorem flat_len (L : List Sur) : (flat L).length = L.length * 2 := by
  induction L with
  | nil => rfl
  | cons s L ih => simp [flat, ih]; omega
theorem flat_even (L : List Sur) : ∀ k : Nat, (flat L)[k * 2]? = (L[k]?).map (·.1) := by
  induction L with
  | nil => intro k; simp [flat]
  | cons s L ih =>
    intro k
    cases k with
    | zero => simp [flat]
    | succ k => have := ih k; rw [show (k + 1) * 2 = k * 2 + 2 by omega]; simp only [flat, List.getElem?_cons_succ]; rw [this]
theorem flat_odd (L : List Sur) : ∀ k : Nat, (flat L)[k * 2 + 1]? = (L[k]?).map (·.2) := by
  induction L with
  | nil => intro k; simp [flat]
  | cons s L ih =>
    intro k
    cases k with
    | zero => simp [flat]
    | succ k => have := ih k; rw [show (k + 1) * 2 + 1 = (k * 2 + 1) + 2 by omega]; simp only [flat, List.getElem?_cons_succ]; rw [this]
theorem flat_at {L : List Sur} {j : Nat} {xs : List Int} (h : (flat L)[j]? = some xs) : ∃ s, L[j / 2]? = some s ∧ xs = (if j % 2 = 0 then s.1 else s.2) := by
  by_cases e : j % 2 = 0
  · rw [show j = j / 2 * 2 by omega, flat_even] at h
    obtain ⟨s, h1, h2⟩ := Option.map_eq_some_iff.1 h
    exact ⟨s, h1, by rw [if_pos e, h2]⟩
  · rw [show j = j / 2 * 2 + 1 by omega, flat_odd] at h
    obtain ⟨s, h1, h2⟩ := Option.map_eq_some_iff.1 h
    exact ⟨s, h1, by rw [if_neg e, h2]⟩
theorem flat_tot {N : Nat} : ∀ {L : List Sur}, (∀ s ∈ L, s.1.length ≤ N ∧ s.2.length ≤ N) → tot (flat L) ≤ 2 * N * L.length
  | [], _ => by simp [flat, tot]
  | s :: L, h => by
    have h1 := flat_tot (L := L) (fun x hx => h x (List.mem_cons_of_mem _ hx))
    obtain ⟨a, b⟩ := h s (by simp)
    have e : tot (flat (s :: L)) = s.1.length + (s.2.length + tot (flat L)) := by simp [flat, tot]
    rw [e, List.length_cons, Nat.mul_add]
    omega
theorem Ls.hs {w : World} {lo hi : Nat} {ex : Nat → Prop} {bl : Nat → Nat × Nat} {hs : List Value} {L : List Sur} (h : Ls w lo hi ex bl hs L) :
    Hs w lo hi ex (fun j => if j % 2 = 0 then (bl (j / 2)).1 else (bl (j / 2)).2) hs (flat L) := by
  refine ⟨by rw [h.len, flat_len], h.top, fun j xs hx => ?_, fun i j xs ys hx hy _ _ hij => ?_⟩
  · obtain ⟨s, h1, h2⟩ := flat_at hx
    obtain ⟨a, b, q1, q2, r1, r2, _⟩ := h.row _ s h1
    by_cases e : j % 2 = 0
    · rw [if_pos e] at h2 ⊢
      subst h2
      obtain ⟨P, c, e1, _, _, rr⟩ := r1.row
      exact ⟨P, c, by rw [show j = j / 2 * 2 by omega, q1, e1], fun _ => ⟨r1.lo_, r1.hi_, r1.ex_, rr⟩⟩
    · rw [if_neg e] at h2 ⊢
      subst h2
      obtain ⟨P, c, e1, _, _, rr⟩ := r2.row
      exact ⟨P, c, by rw [show j = j / 2 * 2 + 1 by omega, q2, e1], fun _ => ⟨r2.lo_, r2.hi_, r2.ex_, rr⟩⟩
  · obtain ⟨s, h1, _⟩ := flat_at hx
    obtain ⟨t, h2, _⟩ := flat_at hy
    have l1 := (List.getElem?_eq_some_iff.1 h1).1
    have l2 := (List.getElem?_eq_some_iff.1 h2).1
    obtain ⟨_, _, _, _, _, _, ne⟩ := h.row _ s h1
    by_cases e : i / 2 = j / 2
    · by_cases e1 : i % 2 = 0 <;> by_cases e2 : j % 2 = 0
      · omega
      · simp only [if_pos e1, if_neg e2]; rw [← e]; exact ne
      · simp only [if_neg e1, if_pos e2]; rw [← e]; exact fun q => ne q.symm
      · omega
    · obtain ⟨n1, n2, n3⟩ := h.ne _ _ l1 l2 e
      obtain ⟨m1, m2, m3⟩ := h.ne _ _ l2 l1 (fun q => e q.symm)
      by_cases e1 : i % 2 = 0 <;> by_cases e2 : j % 2 = 0 <;> simp only [e1, e2, if_true, if_false]
      · exact n1
      · exact n2
      · exact fun q => m2 q.symm
      · exact n3
/-- v has the surfaces L, from base on, nothing shared. -/
def Lo (w : World) (base hi : Nat) (v : Value) (L : List Sur) : Prop :=
  ∃ hs bl, w.ownsRow base 33 2 v L.length hs ∧ Ls w base hi (fun b => v.ownBlock = some b) bl hs L ∧ (∀ b, v.ownBlock = some b → b < hi)
theorem Os.lo {w0 w : World} {base hi : Nat} {v u : Value} {q : LW} (h : Os w0 w base hi v u q) : Lo w base hi v q.1 := by
  obtain ⟨hs, bl, o1, r⟩ := h.ex
  exact ⟨hs, bl, o1, r.to (Nat.le_refl _) (Nat.le_refl _) r.top (fun b _ _ e e' => e (.inl e')), h.vlt⟩
theorem Lo.nil (w : World) (base hi : Nat) (h : hi ≤ w.heap.size) : Lo w base hi (.slice none 0 0) [] :=
  ⟨[], fun _ => (0, 0), ⟨rfl, .inl ⟨rfl, rfl⟩⟩, Ls.nil _ _ _ _ _ h, fun b e => by simp [Value.ownBlock] at e⟩
theorem Lo.form {w : World} {base hi : Nat} {v : Value} {L : List Sur} (h : Lo w base hi v L) : ∃ A c, v = .slice A L.length c := by
  obtain ⟨hs, bl, o1, _⟩ := h
  exact mem.own_form o1
theorem Lo.top {w : World} {base hi : Nat} {v : Value} {L : List Sur} (h : Lo w base hi v L) : hi ≤ w.heap.size := by
  obtain ⟨hs, bl, o1, r, _⟩ := h
  exact r.top
theorem Lo.keep {w w' : World} {base hi B : Nat} {v : Value} {L : List Sur} (h : Lo w base hi v L) (hb : Below B w w') (hB : hi ≤ B) : Lo w' base hi v L := by
  obtain ⟨hs, bl, o1, r, vl⟩ := h
  exact ⟨hs, bl, own_block_keep o1 (fun b e => hb.block b (Nat.lt_of_lt_of_le (vl b e) hB)), r.keep hb.size (fun b _ q2 _ => hb.block b (by omega)), vl⟩
theorem Lo.out {w w' : World} {base hi lo' hi' : Nat} {v : Value} {L : List Sur} (h : Lo w base hi v L) (ho : Out lo' hi' w w') (hd : hi ≤ lo' ∨ hi' ≤ base) : Lo w' base hi v L := by
  obtain ⟨hs, bl, o1, r, vl⟩ := h
  have t := r.top
  exact ⟨hs, bl, own_block_keep o1 (fun b e => ho.block b (by have := vl b e; omega) (by have := vl b e; have := (o1.lt b e).1; omega)), r.keep ho.size (fun b q1 q2 _ => ho.block b (by omega) (by omega)), vl⟩
theorem Lo.lrd {w : World} {base hi c : Nat} {A : Option Addr} {L : List Sur} (h : Lo w base hi (.slice A L.length c) L) : Lrd w w.heap.size (.slice A L.length c) L := by
  obtain ⟨hs, bl, o1, r, _⟩ := h
  exact (r.to (Nat.le_refl _) r.top (Nat.le_refl _) (fun _ _ _ q => q)).lrd o1
theorem Lo.mat {w : World} {base hi c : Nat} {A : Option Addr} {L : List Sur} (h : Lo w base hi (.slice A L.length c) L) : Mat w base hi A (L.length * 2) (flat L) := by
  obtain ⟨hs, bl, o1, r, vl⟩ := h
  refine ⟨flat_len L, r.top, ?_⟩
  rcases o1.2 with ⟨e, e0⟩ | ⟨g, cap, cur, e, hb, hh, hc, hm, hz, ht⟩
  · obtain rfl := List.eq_nil_of_length_eq_zero e0
    obtain rfl : hs = [] := List.eq_nil_of_length_eq_zero (by simpa using r.len)
    exact ⟨[], fun _ => 0, 0, Hs.nil _ _ _ _ _ r.top, fun q => by simp at q⟩
  · injection e with e1 e2 e3
    subst e1; subst e3
    have hl := vl g rfl
    refine ⟨hs, _, g, (r.hs).exs (fun b _ _ q e => q (by rw [e]; rfl)), fun _ => ⟨hb, hl, by rw [r.len], by have := r.top; omega, fun hn => ⟨g, 0, rfl, Nat.le_refl _, by omega, fun j hj => ?_⟩⟩⟩
    have hj' : j < hs.length := by rw [r.len]; exact hj
    have h1 := o1.cells (g := g) rfl j hs[j] (List.getElem?_eq_getElem hj')
    rw [add0] at h1
    refine ⟨by rw [h1, List.getElem?_eq_getElem hj'], ?_⟩
    unfold World.frozen?
    simp [hh]

def eqL (L M : List Sur) : Bool := decide (L = M)
theorem eqL_self (L : List Sur) : eqL L L = true := by simp [eqL]
def SameL (L M : List Sur) (w wr : World) (k : Nat) : Prop := Below w.heap.size w wr ∧ ∀ j, j < k → L[j]? = M[j]?
theorem eqL_no {L M : List Sur} {k : Nat} {s t : Sur} (h1 : L[k]? = some s) (h2 : M[k]? = some t) (h : (eqi s.1 t.1 && eqi s.2 t.2) = false) : eqL L M = false := by
  unfold eqL; rw [decide_eq_false_iff_not]; rintro rfl
  rw [h1] at h2
  obtain rfl := Option.some.inj h2
  simp [eqi] at h
theorem eqL_yes {L M : List Sur} {n : Nat} (h1 : L.length = n) (h2 : M.length = n) (h : ∀ j, j < n → L[j]? = M[j]?) : eqL L M = true := by
  unfold eqL; rw [decide_eq_true_iff]
  refine List.ext_getElem? fun i => ?_
  by_cases hi : i < n
  · exact h i hi
  · rw [List.getElem?_eq_none (by omega), List.getElem?_eq_none (by omega)]
theorem eqL_len {L M : List Sur} (h : L.length ≠ M.length) : eqL L M = false := by
  unfold eqL; rw [decide_eq_false_iff_not]; rintro rfl; exact h rfl
theorem SameL.step {L M : List Sur} {w wr w' : World} {k : Nat} {s t : Sur} (h : SameL L M w wr k) (hb : Below w.heap.size w w') (h1 : L[k]? = some s) (h2 : M[k]? = some t) (he : (eqi s.1 t.1 && eqi s.2 t.2) = true) : SameL L M w w' (k + 1) := by
  refine ⟨hb, fun j hj => ?_⟩
  by_cases e : j = k
  · subst e
    have : s = t := by
      simp [eqi] at he
      exact Prod.ext he.1 he.2
    rw [h1, h2, this]
  · exact h.2 j (by omega)
theorem two_range {w : World} {g o : Nat} {a b : Value} (h0 : w.cell? ⟨g, o, none⟩ = some a) (h1 : w.cell? ⟨g, o + 1, none⟩ = some b) : w.rangeAt g o [a, b] := by
  intro j v hv
  match j, hv with
  | 0, hv => simp at hv; subst hv; simpa using h0
  | 1, hv => simp at hv; subst hv; exact h1

set_option maxHeartbeats 2000000 in
theorem eqL_any (A : Option Addr) (n c : Nat) (B : Option Addr) (m d : Nat) (L M : List Sur) (h1 h2 : Nat) (w : World) (hx : Lrd w h1 (.slice A n c) L) (hy : Lrd w h2 (.slice B m d) M) (hn : n ≤ 1048576) (hm : m ≤ 1048576)
    (lL : ∀ s ∈ L, s.1.length ≤ 1048576 ∧ s.2.length ≤ 1048576) (lM : ∀ s ∈ M, s.1.length ≤ 1048576 ∧ s.2.length ≤ 1048576) :
    Calls Try.prog 16 #[.slice A n c, .slice B m d] w fun e w' => e = .returned (.bool (eqL L M)) ∧ Below w.heap.size w w' := by
  have LX : Hid (L.length = n) := Lib.hid (by obtain ⟨A', n', c', e, h, _⟩ := hx; injection e with e1 e2 e3; subst e2; exact h)
  have LY : Hid (M.length = m) := Lib.hid (by obtain ⟨A', n', c', e, h, _⟩ := hy; injection e with e1 e2 e3; subst e2; exact h)
  have HX := Lib.hid hx; have HY := Lib.hid hy; have HL := Lib.hid lL; have HM := Lib.hid lM; clear hx hy lL lM
  by_cases hnm : n = m
  · obtain rfl : m = n := hnm.symm
    clear hnm
    go_enter Try.func16, Try.ntmps16
    go_wp2
    go_loopw [5] (fun i wr => ∃ k : Nat, k ≤ m ∧ i = .int .i64 k ∧ SameL L M w wr k) (fun i _ => m - (intOf i).toNat)
    case atStart => exact ⟨0, Nat.zero_le _, rfl, Below.refl _ _, fun j hj => by omega⟩
    case round =>
      obtain ⟨k, hk, rfl, hs⟩ := hrel
      have HS := Lib.hid hs; clear hs
      have hsz := HS.out.1.size
      by_cases hlt : k < m
      · obtain ⟨g, off, s, P, p, cp, Q, q, cq, rfl, hg, hsk, c0, c1, ss⟩ := (HX.out.keep (HS.out.1.mono HX.out.top) (Nat.le_refl _)).at_ hlt
        obtain ⟨g', off', t, P', p', cp', Q', q', cq', rfl, hg', htk, d0, d1, st⟩ := (HY.out.keep (HS.out.1.mono HY.out.top) (Nat.le_refl _)).at_ hlt
        have SK := Lib.hid hsk; have TK := Lib.hid htk; have SS := Lib.hid ss; have ST := Lib.hid st
        have ls := HL.out s (List.mem_of_getElem? SK.out); have lt := HM.out t (List.mem_of_getElem? TK.out)
        have hgw : g < wr.heap.size := Nat.lt_of_lt_of_le hg (Nat.le_trans HX.out.top hsz)
        have hgw' : g' < wr.heap.size := Nat.lt_of_lt_of_le hg' (Nat.le_trans HY.out.top hsz)
        have RX := Lib.hid (two_range c0 c1); have RY := Lib.hid (two_range d0 d1)
        clear hsk htk ss st c0 c1 d0 d1
        go_wp2
        refine wp_region_held_drew (S := fun W => Below wr.heap.size wr W) (by kernel_rfl) ⟨rfl, rfl, rfl, Nat.le_refl _, fun _ _ => rfl⟩ (fun hHeld => ?_)
        have b1 : Below wr.heap.size wr wr.drew := hHeld
        have SD := Lib.hid (SS.out.keep b1 (Nat.le_trans HX.out.top hsz)); have TD := Lib.hid (ST.out.keep b1 (Nat.le_trans HY.out.top hsz))
        generalize wr.drew = wd at *
        refine wpAnyH_take (i := 0) (v := .slice (some ⟨g, off, none⟩) m c) rfl (by kernel_rfl) (by kernel_rfl) (by kernel_rfl) (fun _ _ _ h => h) (Or.inl ⟨by rfl, fun w hSw => by go_simp⟩) hHeld ?_
        refine wpAnyH_take (i := 1) (v := .int .i64 k) rfl (by kernel_rfl) (by kernel_rfl) (by kernel_rfl) (fun _ _ _ h => h) (Or.inl ⟨by rfl, fun w hSw => by go_simp⟩) hHeld ?_
        refine wpAnyH_take (i := 4) (v := .slice (some ⟨g', off', none⟩) m d) rfl (by kernel_rfl) (by kernel_rfl) (by kernel_rfl) (fun _ _ _ h => h) (Or.inl ⟨by rfl, fun w hSw => by go_simp⟩) hHeld ?_
        refine wpAnyH_take (i := 5) (v := .int .i64 k) rfl (by kernel_rfl) (by kernel_rfl) (by kernel_rfl) (fun _ _ _ h => h) (Or.inl ⟨by rfl, fun w hSw => by go_simp⟩) hHeld ?_
        refine wpAnyH_take (i := 2) (v := .pointer (some ⟨g, off + k * 2, none⟩)) rfl (by kernel_rfl) (by kernel_rfl) (by kernel_rfl) (fun _ _ _ h => h) (Or.inl ⟨by rfl, fun w hSw => by go_simp⟩) hHeld ?_
        refine wpAnyH_take (i := 6) (v := .pointer (some ⟨g', off' + k * 2, none⟩)) rfl (by kernel_rfl) (by kernel_rfl) (by kernel_rfl) (fun _ _ _ h => h) (Or.inl ⟨by rfl, fun w hSw => by go_simp⟩) hHeld ?_
        refine wpAnyH_take (i := 3) (v := .agg #[.slice P p cp, .slice Q q cq]) rfl (by kernel_rfl) (by kernel_rfl) (by kernel_rfl) (fun _ _ _ h => h) (yieldsIf_load_mid (by rfl) _ _ rfl g (off + k * 2) rfl [.slice P p cp, .slice Q q cq] _ (fun w h j v hv => by rw [Below.cell h (p := ⟨g, off + k * 2 + j, none⟩) hgw]; exact RX.out j v hv) Try.underlying33 rfl (sizeS _ _)) hHeld ?_
        refine wpAnyH_take (i := 7) (v := .agg #[.slice P' p' cp', .slice Q' q' cq']) rfl (by kernel_rfl) (by kernel_rfl) (by kernel_rfl) (fun _ _ _ h => h) (yieldsIf_load_mid (by rfl) _ _ rfl g' (off' + k * 2) rfl [.slice P' p' cp', .slice Q' q' cq'] _ (fun w h j v hv => by rw [Below.cell h (p := ⟨g', off' + k * 2 + j, none⟩) hgw']; exact RY.out j v hv) Try.underlying33 rfl (sizeS _ _)) hHeld ?_
        refine wpAnyH_ready (rs := [8]) (by kernel_rfl) (by simp) (AllReadyH.cons rfl (fun K hK => ?_) AllReadyH.nil)
        go_simp
        refine (eqS_any _ _ s.1 s.2 t.1 t.2 _ _ _ SD.out TD.out ls.1 ls.2 lt.1 lt.2).mono ?_
        rintro e w2 ⟨rfl, b2⟩
        have hHeld2 : Below wr.heap.size wr w2 := b1.trans (b2.mono b1.size)
        have B2 : Hid (Below w.heap.size w w2) := Lib.hid (HS.out.1.trans (hHeld2.mono hsz))
        clear SD TD SS ST RX RY b1 b2 hHeld
        cases hz : (eqi s.1 t.1 && eqi s.2 t.2)
        · have HZ := Lib.hid hz; clear hz
          go_wp2_with fail
          refine hK.out _ _ hHeld2 (fun hHeld => ?_)
          clear hK K hHeld2
          refine wpAnyH_ready (rs := [9]) (by kernel_rfl) (by simp) (AllReadyH.cons rfl (fun K hK => ?_) AllReadyH.nil)
          go_simp
          refine hK.out _ _ hHeld (fun hHeld2 => ?_)
          clear hK K hHeld hHeld2
          refine wpAnyH_done (by kernel_rfl) ?_ _
          go_wp2_with fail
          go_ret
          exact ⟨ret_bool (eqL_no SK.out TK.out HZ.out).symm, B2.out⟩
        · have HZ := Lib.hid hz; clear hz
          go_wp2_with fail
          refine hK.out _ _ hHeld2 (fun hHeld => ?_)
          clear hK K hHeld2
          refine wpAnyH_ready (rs := [9]) (by kernel_rfl) (by simp) (AllReadyH.cons rfl (fun K hK => ?_) AllReadyH.nil)
          go_simp
          refine hK.out _ _ hHeld (fun hHeld2 => ?_)
          clear hK K hHeld hHeld2
          refine wpAnyH_done (by kernel_rfl) ?_ _
          go_wp2_with fail
          go_roundw
          case rel => exact ⟨k + 1, by omega, by go_num, HS.out.step B2.out SK.out TK.out HZ.out⟩
          case measure => simp [intOf]; omega
      · obtain rfl : k = m := by omega
        go_wp2
        go_ret
        exact ⟨ret_bool (eqL_yes LX.out LY.out HS.out.2).symm, HS.out.1⟩
  · have hb : ((n : Int) != (m : Int)) = true := by simp; omega
    have HB : eqL L M = false := eqL_len (by rw [LX.out, LY.out]; exact hnm)
    have HB := Lib.hid HB
    clear hnm
    go_enter Try.func16, Try.ntmps16
    go_wp2
    go_ret
    exact ⟨ret_bool HB.out.symm, Below.refl _ _⟩
end Go.Proofs.Ytafpbnjfmieamaa.orb

/-
  A slice of slices that grows; contract of the program's cycleFrom.
-/
namespace Go.Proofs.Ytafpbnjfmieamaa.fns
open Go.ChangeShapes Go.WideShapes Go.ChangeAt Go.RowKit
open Go.Proofs.Ytafpbnjfmieamaa.mem Go.Proofs.Ytafpbnjfmieamaa.ints Go.Proofs.Ytafpbnjfmieamaa.arr Go.Proofs.Ytafpbnjfmieamaa.pm Go.Proofs.Ytafpbnjfmieamaa.permOk Go.Proofs.Ytafpbnjfmieamaa.permOf Go.Proofs.Ytafpbnjfmieamaa.inv Go.Proofs.Ytafpbnjfmieamaa.mat
set_option linter.unusedVariables false
set_option maxRecDepth 100000

def lenV : Value → Nat
  | .slice _ n _ => n
  | _ => 0
theorem own_base {w : World} {base base' : Nat} {e : TypeId} {v : Value} {n : Nat} {xs : List Value} (h : w.ownsRow base e 1 v n xs) (hb : base' ≤ base) : w.ownsRow base' e 1 v n xs := by
  refine ⟨h.1, ?_⟩
  rcases h.2 with h0 | ⟨g, cap, cur, h1, h2, h3⟩
  · exact .inl h0
  · exact .inr ⟨g, cap, cur, h1, Nat.le_trans hb h2, h3⟩
theorem own_arr {w : World} {base g n : Nat} {e : TypeId} {xs : List Value} (h : w.ownsRow base e 1 (.slice (some ⟨g, 0, none⟩) n n) n xs) : Arr w g xs e := by
  rcases h.2 with ⟨h0, _⟩ | ⟨g', cap, cur, h1, h2, h3, h4, h5, h6, h7⟩
  · cases h0
  · injection h1 with e1 e2 e3
    injection e1 with e1
    injection e1 with e1
    subst e1; subst e3
    unfold Arr
    rw [h3, ← h7, List.take_of_length_le (by simp; omega)]
/-- The block of a row that is not empty. -/
theorem own_row {w : World} {base : Nat} {e : TypeId} {A : Option Addr} {c : Nat} {xs : List Value} (h : w.ownsRow base e 1 (.slice A xs.length c) xs.length xs) (h0 : 0 < xs.length) : ∃ g, base ≤ g ∧ Row w g (g + 1) A xs.length xs := by
  have hr := Row.of_own h
  obtain ⟨g, off, e1, h1, h2, h3⟩ := hr.2.2 h0
  exact ⟨g, h1, hr.1, by omega, fun _ => ⟨g, off, e1, Nat.le_refl _, by omega, h3⟩⟩

/-- v owns the headers of the rows xss, from block bs on; the rows lie from lo on, none in v's block; v's block is not s. -/
def Mg (w : World) (bs lo s : Nat) (v : Value) (xss : List (List Int)) : Prop :=
  ∃ hs bl, w.ownsRow bs 23 1 v xss.length hs ∧ Hs w lo w.heap.size (fun b => v.ownBlock = some b) bl hs xss ∧ v.ownBlock ≠ some s
theorem Mg.keep {w w' : World} {bs lo s : Nat} {v : Value} {xss : List (List Int)} (h : Mg w bs lo s v xss) (hz : w.heap.size ≤ w'.heap.size) (h1 : bs ≤ lo) (h2 : s < lo)
    (hk : ∀ b, bs ≤ b → b < w.heap.size → b ≠ s → w'.heap[b]? = w.heap[b]?) : Mg w' bs lo s v xss := by
  obtain ⟨hs, bl, own, hh, ne⟩ := h
  refine ⟨hs, bl, ⟨own.1, ?_⟩, (hh.keep hz (fun b q1 q2 _ => hk b (by omega) q2 (by omega))).wider (Nat.le_refl _) hz (Nat.le_refl _), ne⟩
  rcases own.2 with h0 | ⟨g, cap, cur, q1, q2, q3, q4⟩
  · exact .inl h0
  · refine .inr ⟨g, cap, cur, q1, q2, ?_, q4⟩
    rw [hk g q2 (Array.getElem?_eq_some_iff.1 q3).1 (fun e => ne (by rw [q1, ← e]; rfl))]
    exact q3
theorem Mg.nil (w : World) (bs lo s : Nat) : Mg w bs lo s (.slice none 0 0) [] := ⟨[], fun _ => 0, ⟨rfl, .inl ⟨rfl, rfl⟩⟩, Hs.nil _ _ _ _ _ (Nat.le_refl _), by simp [Value.ownBlock]⟩
theorem Mg.empty {w : World} {bs lo s g : Nat} (h : w.heap[g]? = some (.cells #[] 23 (0, 0))) (h1 : bs ≤ g) (h2 : g ≠ s) : Mg w bs lo s (.slice (some ⟨g, 0, none⟩) 0 0) [] :=
  ⟨[], fun _ => 0, ⟨rfl, .inr ⟨g, 0, #[], rfl, h1, h, Nat.le_refl _, by simp, rfl, rfl⟩⟩, Hs.nil _ _ _ _ _ (Nat.le_refl _), by intro e; simp [Value.ownBlock] at e; exact h2 e⟩
theorem Mg.form {w : World} {bs lo s : Nat} {v : Value} {xss : List (List Int)} (h : Mg w bs lo s v xss) : ∃ A c, v = .slice A xss.length c := by
  obtain ⟨hs, bl, own, _⟩ := h
  exact own_form own
theorem Mg.push {w0 W w' : World} {bs lo s g c n : Nat} {v v' : Value} {xss : List (List Int)} {hs : List Value} {bl : Nat → Nat} {A : Option Addr} {xs : List Int}
    (hh : Hs w0 lo w0.heap.size (fun b => v.ownBlock = some b) bl hs xss) (ne : v.ownBlock ≠ some s) (hz : w0.heap.size ≤ W.heap.size) (hk : ∀ b, lo ≤ b → b < w0.heap.size → W.heap[b]? = w0.heap[b]?)
    (hlo : lo ≤ w0.heap.size) (hs0 : s < lo) (hr : Row W g (g + 1) A xs.length (V xs)) (hg0 : w0.heap.size ≤ g) (hv : ∀ b, v.ownBlock = some b → b < w0.heap.size)
    (hn : n = xss.length) (ho : w'.ownsRow bs 23 1 v' (n + 1) (hs ++ [.slice A xs.length c])) (hg : W.grownBy w' v.ownBlock) (hb : v'.ownBlock = v.ownBlock ∨ ∃ k, v'.ownBlock = some k ∧ W.heap.size + 1 ≤ k) : Mg w' bs lo s v' (xss ++ [xs]) := by
  subst hn
  have gl : g < W.heap.size := hr.2.1
  have H1 : Hs W lo w0.heap.size (fun b => v.ownBlock = some b) bl hs xss := hh.keep hz (fun b q1 q2 _ => hk b q1 q2)
  have H2 := H1.snoc (g := g) (c := c) (A := A) (xs := xs) hg0 hlo (fun e => by have := hv g e; omega) hr
  have H3 := H2.keep (w' := w') hg.size (fun b q1 q2 q3 => hg.block b (by omega) (fun e => q3 e.symm))
  refine ⟨_, _, by simpa using ho, (H3.exs ?_).wider (Nat.le_refl _) (by have := hg.size; omega) (Nat.le_refl _), ?_⟩
  · intro b q1 q2 q3 e
    rcases hb with q | ⟨k, q, hk⟩
    · exact q3 (by rw [← q]; exact e)
    · rw [q] at e; injection e with e; omega
  · rcases hb with q | ⟨k, q, hk⟩
    · rw [q]; exact ne
    · rw [q]; intro e; injection e with e; omega
theorem Mg.mat {w : World} {bs lo s : Nat} {A : Option Addr} {c : Nat} {xss : List (List Int)} (h : Mg w bs lo s (.slice A xss.length c) xss) {B : Nat} (h1 : B ≤ bs) (h2 : B ≤ lo) : Mat w B w.heap.size A xss.length xss := by
  obtain ⟨hs, bl, own, hh, ne⟩ := h
  refine ⟨rfl, Nat.le_refl _, ?_⟩
  rcases Nat.eq_zero_or_pos xss.length with h0 | h0
  · obtain rfl := List.eq_nil_of_length_eq_zero h0
    exact ⟨[], fun _ => 0, 0, Hs.nil _ _ _ _ _ (Nat.le_refl _), fun q => by simp at q⟩
  · have hl : hs.length = xss.length := by simpa using own.1
    rw [← hl] at own h0
    obtain ⟨g, hg, hr⟩ := own_row own h0
    obtain ⟨g', off, e, q1, q2, _⟩ := hr.2.2 h0
    obtain rfl : g' = g := by omega
    subst e
    have gl : g' < w.heap.size := hr.2.1
    refine ⟨hs, bl, g', (hh.exs (fun b _ _ q e => q (by rw [e]; rfl))).wider h2 (Nat.le_refl _) (Nat.le_refl _), fun _ => ⟨by omega, gl, ?_⟩⟩
    rw [hl] at hr
    exact hr

/-- A boxed permutation in the first block, and the row l that grows. -/
structure Cf (w wr : World) (ps : List Int) (v : Value) (l : List Int) : Prop where
  own : wr.ownsRow (w.heap.size + 1) 3 1 v l.length (V l)
  p : Arr wr w.heap.size (V ps) 60
  below : Below w.heap.size w wr
theorem Cf.next {w wr w' : World} {ps l : List Int} {v v' : Value} {z : Int} {n : Nat} (h : Cf w wr ps v l)
    (ho : w'.ownsRow (w.heap.size + 1) 3 1 v' (n + 1) (V l ++ [.int .i64 z])) (hn : n = l.length) (hg : wr.grownBy w' v.ownBlock) : Cf w w' ps v' (l ++ [z]) := by
  subst hn
  have e : V (l ++ [z]) = V l ++ [.int .i64 z] := by simp [V]
  refine ⟨by rw [e]; simpa using ho, ?_, ?_⟩
  · exact (hg.block _ h.p.lt (fun e => by have := (h.own.lt _ e.symm).1; omega)).trans h.p
  · exact h.below.trans ((Below.refl _ _).grown hg h.below.size (fun k hk => by have := (h.own.lt k hk).1; omega))

set_option maxHeartbeats 1000000 in
theorem cycleFrom_any (ps : List Int) (n : Nat) (f : Nat) (w : World) (hl : ps.length = 24) (hb : Bij n ps) (hn : n ≤ 24) (hf : f < n) :
    Calls Try.prog 99 #[.agg (V ps).toArray, .int .i64 f] w (Gives (cyc ps n f) w) := by
  obtain ⟨i0, hi0, hz0, hz1, hz2⟩ := info_parts infoI
  have HL := Lib.hid hl; have HB := Lib.hid hb; clear hl hb
  have hcf := ((Arr.new w (V ps) 60 rfl).alloc (.cells #[.int .i64 f] 3)).cell (V_getD (l := ps) (k := f) (by rw [HL.out]; omega))
  have CW := Lib.hid (Cw.start (ps := ps) (f := (f : Int)) (n := n) (by omega) (by omega))
  rw [Int.toNat_natCast] at CW
  have m0 := HB.out.maps f hf
  generalize ps.getD f 0 = x0 at *
  go_enter Try.func99, Try.ntmps99
  go_wp2
  go_loopw [5, 6] (fun v x wr => ∃ (z : Int) (acc : List Int) (m : Nat), x = .int .i64 z ∧ Cf w wr ps v acc ∧ Cw n ps f z acc m) (fun v _ _ => n + 1 - lenV v)
  case atStart =>
    refine ⟨x0, [(f : Int)], n, rfl, ⟨?_, (Arr.new w (V ps) _ rfl).alloc _, ((Below.refl _ _).alloc (Nat.le_refl _) _).alloc (by simp) _⟩, CW.out⟩
    exact ⟨rfl, .inr ⟨w.heap.size + 1, 1, #[.int .i64 f], rfl, Nat.le_refl _, Arr.new _ (V [(f : Int)]) _ (by simp), Nat.le_refl _, by unfold maxLen; omega, rfl, rfl⟩⟩
  case round =>
    obtain ⟨z, acc, m, rfl, hcf', hcw⟩ := hrel
    obtain ⟨C, cc, rfl⟩ := own_form hcf'.own
    have CF := Lib.hid hcf'; have CWW := Lib.hid hcw; clear hcf' hcw
    have hal : acc.length ≤ n := CWW.out.way.inn.len
    have zi := CWW.out.way.x_in HB.out
    obtain ⟨y, rfl⟩ := Int.eq_ofNat_of_zero_le zi.1
    have hy : y < n := by omega
    clear zi
    by_cases e : y = f
    · subst e
      have D := Lib.hid CWW.out.done
      go_wp2
      go_ret
      refine ⟨_, rfl, ?_, CF.out.below⟩
      have := own_base CF.out.own (base' := w.heap.size) (by omega)
      rw [D.out] at this
      rw [D.out]
      exact this
    · have hne : ((y : Int) != (f : Int)) = true := by simp; omega
      have NX : Hid (Cw n ps f (ps.getD y 0) (acc ++ [(y : Int)]) (m - 1)) := Lib.hid (by have := CWW.out.next HB.out (by omega); rw [Int.toNat_natCast] at this; exact this)
      have hsz : w.heap.size + 1 ≤ wr.heap.size := CF.out.p.lt
      clear e
      go_wp2_with (at_builtin; refine wpList_append_one wr _ _ rfl _ _ 23 rfl (w.heap.size + 1) 3 i0 _ 8 Try.underlying23 hi0 hz0 hz1 hz2 rfl _ _ _ rfl CF.out.own rfl rfl ?c4 (by decide) hsz ?_)
      case c4 => omega
      intro v' w' ho hg
      have HN := Lib.hid (CF.out.next ho rfl hg)
      clear ho hg CF
      obtain ⟨C', cc', rfl⟩ := own_form HN.out.own
      have hcy := HN.out.p.cell (V_getD (l := ps) (k := y) (by rw [HL.out]; omega))
      go_wp2
      go_roundw
      case rel => exact ⟨_, _, _, rfl, HN.out, NX.out⟩
      case measure => simp [lenV]; omega
end Go.Proofs.Ytafpbnjfmieamaa.fns

/-
  l10Perms of the model: all permutations in order.
-/
namespace Go.Proofs.Ytafpbnjfmieamaa.lst
open Go.ChangeShapes Go.WideShapes Go.ChangeAt Go.RowKit
open Go.Proofs.Ytafpbnjfmieamaa.mem Go.Proofs.Ytafpbnjfmieamaa.ints Go.Proofs.Ytafpbnjfmieamaa.arr Go.Proofs.Ytafpbnjfmieamaa.pm Go.Proofs.Ytafpbnjfmieamaa.mat
set_option linter.unusedVariables false
set_option maxRecDepth 100000

/-- What the elements below j add behind p. -/
def extP (n : Nat) (p : List Int) (j : Nat) : List (List Int) := (((rng n).take j).filter fun x => !decide (x ∈ p)).map fun x => p ++ [x]
theorem rng_at {n j : Nat} (h : j < n) : (rng n)[j]? = some (j : Int) := by simp [rng, h]
theorem extP_next {n j : Nat} {p : List Int} (h : j < n) : extP n p (j + 1) = if (j : Int) ∈ p then extP n p j else extP n p j ++ [p ++ [(j : Int)]] := by
  unfold extP
  rw [List.take_add_one, rng_at h]
  by_cases q : (j : Int) ∈ p
  · rw [if_pos q]; simp [q]
  · rw [if_neg q]; simp [q]
theorem extP_all (n : Nat) (p : List Int) : extP n p n = ((rng n).filter fun x => !decide (x ∈ p)).map fun x => p ++ [x] := by
  unfold extP
  rw [List.take_of_length_le (by simp [rng])]
theorem extP_len (n : Nat) (p : List Int) (j : Nat) : (extP n p j).length ≤ j := by
  unfold extP
  rw [List.length_map]
  refine Nat.le_trans (List.length_filter_le _ _) ?_
  rw [List.length_take]; omega
theorem prmNext_take {n a : Nat} {L : List (List Int)} {p : List Int} (h : L[a]? = some p) : prmNext n (L.take (a + 1)) = prmNext n (L.take a) ++ extP n p n := by
  rw [List.take_add_one, h, extP_all]
  unfold prmNext
  simp
theorem prmNext_len (n : Nat) : ∀ L : List (List Int), (prmNext n L).length ≤ n * L.length
  | [] => by simp [prmNext]
  | p :: t => by
    have ih := prmNext_len n t
    unfold prmNext at ih ⊢
    rw [List.flatMap_cons, List.length_append]
    have h1 := extP_len n p n
    rw [extP_all] at h1
    rw [List.length_cons, Nat.mul_succ]
    omega
theorem prm_few : ∀ n : Fin 5, ∀ i : Fin 5, (prmS n.val i.val).length ≤ 24 ∧ ((prmS n.val i.val).all fun p => decide (p.length = i.val)) = true := by decide +kernel
theorem prm_ok {n i : Nat} (hn : n ≤ 4) (hi : i ≤ 4) : (prmS n i).length ≤ 24 ∧ ∀ p ∈ prmS n i, p.length = i := by
  obtain ⟨a, b⟩ := prm_few ⟨n, by omega⟩ ⟨i, by omega⟩
  exact ⟨a, fun p hp => by simpa using List.all_eq_true.1 b p hp⟩
/-- A list of rows that reads as L. -/
def Rl (w : World) (B : Nat) (A : Option Addr) (L : List (List Int)) : Prop :=
  B ≤ w.heap.size ∧ ∀ (a : Nat) (p : List Int), L[a]? = some p → ∃ G off g o c, A = some ⟨G, off, none⟩ ∧ G < B ∧ w.cell? ⟨G, off + a, none⟩ = some (.slice (some ⟨g, o, none⟩) p.length c) ∧ p.length ≤ c ∧ Rd w B (some ⟨g, o, none⟩) p.length (V p)
theorem Rl.keep {w w' : World} {B : Nat} {A : Option Addr} {L : List (List Int)} (h : Rl w B A L) (hb : Below B w w') : Rl w' B A L := by
  refine ⟨Nat.le_trans h.1 hb.size, fun a p hp => ?_⟩
  obtain ⟨G, off, g, o, c, e, hG, hc, hl, r⟩ := h.2 a p hp
  exact ⟨G, off, g, o, c, e, hG, by rw [hb.cell (p := ⟨G, off + a, none⟩) hG]; exact hc, hl, r.keep hb (Nat.le_refl _)⟩
/-- A list of rows that grows in memory from base on. -/
structure Gq (wr : World) (base : Nat) (vo : Value) (L : List (List Int)) : Prop where
  ex : ∃ hs, wr.ownsRow base 23 1 vo L.length hs ∧ ∀ (a : Nat) (p : List Int), L[a]? = some p → ∃ g o c, hs[a]? = some (.slice (some ⟨g, o, none⟩) p.length c) ∧ p.length ≤ c ∧ Rd wr wr.heap.size (some ⟨g, o, none⟩) p.length (V p) ∧ ¬ vo.ownBlock = some g ∧ g < wr.heap.size
theorem rd_far {w w' : World} {g o n : Nat} {xs : List Value} (h : Rd w w.heap.size (some ⟨g, o, none⟩) n xs) (hz : w.heap.size ≤ w'.heap.size) (hb : w'.heap[g]? = w.heap[g]?) : Rd w' w'.heap.size (some ⟨g, o, none⟩) n xs := by
  refine ⟨h.1, Nat.le_refl _, fun hn => ?_⟩
  obtain ⟨g', off, e, hlt, hc⟩ := h.2.2 hn
  injection e with e; injection e with e1 e2
  subst e1; subst e2
  exact ⟨g, o, rfl, by omega, fun j hj => by rw [World.cell?_of_block (w := w) (a := ⟨g, o + j, none⟩) hb]; exact hc j hj⟩
theorem Gq.own_block_keep0 {w w' : World} {base : Nat} {e : TypeId} {size n : Nat} {v : Value} {xs : List Value} (h : w.ownsRow base e size v n xs) (hb : ∀ b, v.ownBlock = some b → w'.heap[b]? = w.heap[b]?) : w'.ownsRow base e size v n xs := by
  refine ⟨h.1, ?_⟩
  rcases h.2 with h0 | ⟨g, cap, cur, h1, h2, h3, h4⟩
  · exact .inl h0
  · refine .inr ⟨g, cap, cur, h1, h2, ?_, h4⟩
    rw [hb g (by subst h1; rfl)]
    exact h3
theorem Gq.keep {wr w' : World} {base : Nat} {vo : Value} {L : List (List Int)} (h : Gq wr base vo L) (hb : Below wr.heap.size wr w') : Gq w' base vo L := by
  obtain ⟨hs, own, rows⟩ := h.ex
  refine ⟨hs, Gq.own_block_keep0 own (fun b e => hb.block b (own.lt b e).2), fun a p hp => ?_⟩
  obtain ⟨g, o, c, e1, e2, e3, e4, e5⟩ := rows a p hp
  exact ⟨g, o, c, e1, e2, rd_far e3 hb.size (hb.block g e5), e4, Nat.lt_of_lt_of_le e5 hb.size⟩
theorem Gq.push {wr w4 w6 : World} {base g o c n : Nat} {vo v6 : Value} {L : List (List Int)} {p : List Int} {hs : List Value} (hs0 : wr.ownsRow base 23 1 vo L.length hs)
    (rows : ∀ (a : Nat) (p : List Int), L[a]? = some p → ∃ g o c, hs[a]? = some (.slice (some ⟨g, o, none⟩) p.length c) ∧ p.length ≤ c ∧ Rd wr wr.heap.size (some ⟨g, o, none⟩) p.length (V p) ∧ ¬ vo.ownBlock = some g ∧ g < wr.heap.size)
    (hW : Below wr.heap.size wr w4) (hp : Rd w4 w4.heap.size (some ⟨g, o, none⟩) p.length (V p)) (hc : p.length ≤ c) (hg1 : wr.heap.size ≤ g) (hg2 : g < w4.heap.size) (hn : n = L.length)
    (ho : w6.ownsRow base 23 1 v6 (n + 1) (hs ++ [.slice (some ⟨g, o, none⟩) p.length c])) (hg : w4.grownBy w6 vo.ownBlock) (hb : v6.ownBlock = vo.ownBlock ∨ ∃ k, v6.ownBlock = some k ∧ w4.heap.size + 1 ≤ k) : Gq w6 base v6 (L ++ [p]) := by
  subst hn
  have hl : hs.length = L.length := by simpa using hs0.1
  have z1 := hW.size; have z2 := hg.size
  have hne : ∀ b, b < w4.heap.size → ¬ vo.ownBlock = some b → ¬ v6.ownBlock = some b := fun b b1 b2 e => by
    rcases hb with q | ⟨k, q1, q2⟩
    · exact b2 (by rw [← q, e])
    · rw [q1] at e; injection e with e; omega
  have hvo : ¬ vo.ownBlock = some g := fun e => by have := (hs0.lt g e).2; omega
  refine ⟨_, by simpa using ho, fun a q hq => ?_⟩
  by_cases ha : a < L.length
  · rw [List.getElem?_append_left ha] at hq
    obtain ⟨g', o', c', e1, e2, e3, e4, e5⟩ := rows a q hq
    have h1 := rd_far e3 z1 (hW.block g' e5)
    exact ⟨g', o', c', by rw [List.getElem?_append_left (by omega)]; exact e1, e2, rd_far h1 z2 (hg.block g' (by omega) (fun e => e4 e.symm)), hne g' (by omega) e4, by omega⟩
  · have e0 : a = L.length := by
      have := (List.getElem?_eq_some_iff.1 hq).1
      simp at this; omega
    subst e0
    simp at hq
    subst hq
    exact ⟨g, o, c, by rw [← hl]; simp, hc, rd_far hp z2 (hg.block g hg2 (fun e => hvo e.symm)), hne g hg2 hvo, by omega⟩
theorem Gq.rl {wr : World} {base : Nat} {A : Option Addr} {c : Nat} {L : List (List Int)} (h : Gq wr base (.slice A L.length c) L) : Rl wr wr.heap.size A L := by
  obtain ⟨hs, own, rows⟩ := h.ex
  have rw_ := Row.of_own own
  refine ⟨Nat.le_refl _, fun a p hp => ?_⟩
  obtain ⟨g, o, c', e1, e2, e3, e4, e5⟩ := rows a p hp
  have ha := (List.getElem?_eq_some_iff.1 hp).1
  obtain ⟨G, off, u, eA, _, h2, h3, h4, _⟩ := rw_.at_ ha
  rw [e1] at h3
  obtain rfl := Option.some.inj h3
  exact ⟨G, off, g, o, c', eA, h2, h4, e2, e3⟩
end Go.Proofs.Ytafpbnjfmieamaa.lst
