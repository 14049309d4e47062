import Derived.Test.YtddppmbllcnkoaaZ04
import Derived.Test.YtddppmbllcnkoaaZ18
import Derived.Deep.MidRow
import Derived.Deep.RegionHeld3
import Derived.Test.YtddppmbllcnkoaaZ23
import Derived.Test.YtddppmbllcnkoaaZ21
import Derived.Test.YtddppmbllcnkoaaZ15
import Derived.Test.YtddppmbllcnkoaaZ09
/-
  The laws' helpers on slices of surfaces: eqSurfaceS, markSurfaceS, heldSurfaceS.
-/
namespace Go.Proofs.Ytddppmbllcnkoaa.orb
open Go.ChangeShapes Go.WideShapes Go.ChangeAt Go.RowKit Go.Joins Go.Deep
open Go.Proofs.Ytddppmbllcnkoaa.mem Go.Proofs.Ytddppmbllcnkoaa.ints Go.Proofs.Ytddppmbllcnkoaa.arr Go.Proofs.Ytddppmbllcnkoaa.pm Go.Proofs.Ytddppmbllcnkoaa.sf Go.Proofs.Ytddppmbllcnkoaa.mat
set_option linter.unusedVariables false
set_option maxRecDepth 100000

/-- The rows of the surfaces, one behind the other. -/
def flat : List Sur → List (List Int)
  | [] => []
  | s :: L => s.1 :: s.2 :: flat L
theorem flat_len (L : List Sur) : (flat L).length = L.length * 2 := by
  induction L with
  | nil => rfl
  | cons s L ih => simp [flat, ih]; omega
theorem flat_even (L : List Sur) : ∀ k : Nat, (flat L)[k * 2]? = (L[k]?).map (·.1) := by
  induction L with
  | nil => intro k; simp [flat]
  | cons s L ih =>
    intro k
    cases k with
    | zero => simp [flat]
    | succ k => have := ih k; rw [show (k + 1) * 2 = k * 2 + 2 by omega]; simp only [flat, List.getElem?_cons_succ]; rw [this]
theorem flat_odd (L : List Sur) : ∀ k : Nat, (flat L)[k * 2 + 1]? = (L[k]?).map (·.2) := by
  induction L with
  | nil => intro k; simp [flat]
  | cons s L ih =>
    intro k
    cases k with
    | zero => simp [flat]
    | succ k => have := ih k; rw [show (k + 1) * 2 + 1 = (k * 2 + 1) + 2 by omega]; simp only [flat, List.getElem?_cons_succ]; rw [this]
theorem flat_at {L : List Sur} {j : Nat} {xs : List Int} (h : (flat L)[j]? = some xs) : ∃ s, L[j / 2]? = some s ∧ xs = (if j % 2 = 0 then s.1 else s.2) := by
  by_cases e : j % 2 = 0
  · rw [show j = j / 2 * 2 by omega, flat_even] at h
    obtain ⟨s, h1, h2⟩ := Option.map_eq_some_iff.1 h
    exact ⟨s, h1, by rw [if_pos e, h2]⟩
  · rw [show j = j / 2 * 2 + 1 by omega, flat_odd] at h
    obtain ⟨s, h1, h2⟩ := Option.map_eq_some_iff.1 h
    exact ⟨s, h1, by rw [if_neg e, h2]⟩
theorem flat_tot {N : Nat} : ∀ {L : List Sur}, (∀ s ∈ L, s.1.length ≤ N ∧ s.2.length ≤ N) → tot (flat L) ≤ 2 * N * L.length
  | [], _ => by simp [flat, tot]
  | s :: L, h => by
    have h1 := flat_tot (L := L) (fun x hx => h x (List.mem_cons_of_mem _ hx))
    obtain ⟨a, b⟩ := h s (by simp)
    have e : tot (flat (s :: L)) = s.1.length + (s.2.length + tot (flat L)) := by simp [flat, tot]
    rw [e, List.length_cons, Nat.mul_add]
    omega
theorem Ls.hs {w : World} {lo hi : Nat} {ex : Nat → Prop} {bl : Nat → Nat × Nat} {hs : List Value} {L : List Sur} (h : Ls w lo hi ex bl hs L) :
    Hs w lo hi ex (fun j => if j % 2 = 0 then (bl (j / 2)).1 else (bl (j / 2)).2) hs (flat L) := by
  refine ⟨by rw [h.len, flat_len], h.top, fun j xs hx => ?_, fun i j xs ys hx hy _ _ hij => ?_⟩
  · obtain ⟨s, h1, h2⟩ := flat_at hx
    obtain ⟨a, b, q1, q2, r1, r2, _⟩ := h.row _ s h1
    by_cases e : j % 2 = 0
    · rw [if_pos e] at h2 ⊢
      subst h2
      obtain ⟨P, c, e1, _, _, rr⟩ := r1.row
      exact ⟨P, c, by rw [show j = j / 2 * 2 by omega, q1, e1], fun _ => ⟨r1.lo_, r1.hi_, r1.ex_, rr⟩⟩
    · rw [if_neg e] at h2 ⊢
      subst h2
      obtain ⟨P, c, e1, _, _, rr⟩ := r2.row
      exact ⟨P, c, by rw [show j = j / 2 * 2 + 1 by omega, q2, e1], fun _ => ⟨r2.lo_, r2.hi_, r2.ex_, rr⟩⟩
  · obtain ⟨s, h1, _⟩ := flat_at hx
    obtain ⟨t, h2, _⟩ := flat_at hy
    have l1 := (List.getElem?_eq_some_iff.1 h1).1
    have l2 := (List.getElem?_eq_some_iff.1 h2).1
    obtain ⟨_, _, _, _, _, _, ne⟩ := h.row _ s h1
    by_cases e : i / 2 = j / 2
    · by_cases e1 : i % 2 = 0 <;> by_cases e2 : j % 2 = 0
      · omega
      · simp only [if_pos e1, if_neg e2]; rw [← e]; exact ne
      · simp only [if_neg e1, if_pos e2]; rw [← e]; exact fun q => ne q.symm
      · omega
    · obtain ⟨n1, n2, n3⟩ := h.ne _ _ l1 l2 e
      obtain ⟨m1, m2, m3⟩ := h.ne _ _ l2 l1 (fun q => e q.symm)
      by_cases e1 : i % 2 = 0 <;> by_cases e2 : j % 2 = 0 <;> simp only [e1, e2, if_true, if_false]
      · exact n1
      · exact n2
      · exact fun q => m2 q.symm
      · exact n3
/-- v has the surfaces L, from base on, nothing shared. -/
def Lo (w : World) (base hi : Nat) (v : Value) (L : List Sur) : Prop :=
  ∃ hs bl, w.ownsRow base 25 2 v L.length hs ∧ Ls w base hi (fun b => v.ownBlock = some b) bl hs L ∧ (∀ b, v.ownBlock = some b → b < hi)
theorem Os.lo {w0 w : World} {base hi : Nat} {v u : Value} {q : LW} (h : Os w0 w base hi v u q) : Lo w base hi v q.1 := by
  obtain ⟨hs, bl, o1, r⟩ := h.ex
  exact ⟨hs, bl, o1, r.to (Nat.le_refl _) (Nat.le_refl _) r.top (fun b _ _ e e' => e (.inl e')), h.vlt⟩
theorem Lo.nil (w : World) (base hi : Nat) (h : hi ≤ w.heap.size) : Lo w base hi (.slice none 0 0) [] :=
  ⟨[], fun _ => (0, 0), ⟨rfl, .inl ⟨rfl, rfl⟩⟩, Ls.nil _ _ _ _ _ h, fun b e => by simp [Value.ownBlock] at e⟩
theorem Lo.top {w : World} {base hi : Nat} {v : Value} {L : List Sur} (h : Lo w base hi v L) : hi ≤ w.heap.size := by
  obtain ⟨hs, bl, o1, r, _⟩ := h
  exact r.top
theorem Lo.keep {w w' : World} {base hi B : Nat} {v : Value} {L : List Sur} (h : Lo w base hi v L) (hb : Below B w w') (hB : hi ≤ B) : Lo w' base hi v L := by
  obtain ⟨hs, bl, o1, r, vl⟩ := h
  exact ⟨hs, bl, own_block_keep o1 (fun b e => hb.block b (Nat.lt_of_lt_of_le (vl b e) hB)), r.keep hb.size (fun b _ q2 _ => hb.block b (by omega)), vl⟩
theorem Lo.out {w w' : World} {base hi lo' hi' : Nat} {v : Value} {L : List Sur} (h : Lo w base hi v L) (ho : Out lo' hi' w w') (hd : hi ≤ lo' ∨ hi' ≤ base) : Lo w' base hi v L := by
  obtain ⟨hs, bl, o1, r, vl⟩ := h
  have t := r.top
  exact ⟨hs, bl, own_block_keep o1 (fun b e => ho.block b (by have := vl b e; omega) (by have := vl b e; have := (o1.lt b e).1; omega)), r.keep ho.size (fun b q1 q2 _ => ho.block b (by omega) (by omega)), vl⟩
theorem Lo.lrd {w : World} {base hi c : Nat} {A : Option Addr} {L : List Sur} (h : Lo w base hi (.slice A L.length c) L) : Lrd w w.heap.size (.slice A L.length c) L := by
  obtain ⟨hs, bl, o1, r, _⟩ := h
  exact (r.to (Nat.le_refl _) r.top (Nat.le_refl _) (fun _ _ _ q => q)).lrd o1
theorem Lo.mat {w : World} {base hi c : Nat} {A : Option Addr} {L : List Sur} (h : Lo w base hi (.slice A L.length c) L) : Mat w base hi A (L.length * 2) (flat L) := by
  obtain ⟨hs, bl, o1, r, vl⟩ := h
  refine ⟨flat_len L, r.top, ?_⟩
  rcases o1.2 with ⟨e, e0⟩ | ⟨g, cap, cur, e, hb, hh, hc, hm, hz, ht⟩
  · obtain rfl := List.eq_nil_of_length_eq_zero e0
    obtain rfl : hs = [] := List.eq_nil_of_length_eq_zero (by simpa using r.len)
    exact ⟨[], fun _ => 0, 0, Hs.nil _ _ _ _ _ r.top, fun q => by simp at q⟩
  · injection e with e1 e2 e3
    subst e1; subst e3
    have hl := vl g rfl
    refine ⟨hs, _, g, (r.hs).exs (fun b _ _ q e => q (by rw [e]; rfl)), fun _ => ⟨hb, hl, by rw [r.len], by have := r.top; omega, fun hn => ⟨g, 0, rfl, Nat.le_refl _, by omega, fun j hj => ?_⟩⟩⟩
    have hj' : j < hs.length := by rw [r.len]; exact hj
    have h1 := o1.cells (g := g) rfl j hs[j] (List.getElem?_eq_getElem hj')
    rw [add0] at h1
    refine ⟨by rw [h1, List.getElem?_eq_getElem hj'], ?_⟩
    unfold World.frozen?
    simp [hh]

def eqL (L M : List Sur) : Bool := decide (L = M)
theorem eqL_self (L : List Sur) : eqL L L = true := by simp [eqL]
def SameL (L M : List Sur) (w wr : World) (k : Nat) : Prop := Below w.heap.size w wr ∧ ∀ j, j < k → L[j]? = M[j]?
theorem eqL_no {L M : List Sur} {k : Nat} {s t : Sur} (h1 : L[k]? = some s) (h2 : M[k]? = some t) (h : (eqi s.1 t.1 && eqi s.2 t.2) = false) : eqL L M = false := by
  unfold eqL; rw [decide_eq_false_iff_not]; rintro rfl
  rw [h1] at h2
  obtain rfl := Option.some.inj h2
  simp [eqi] at h
theorem eqL_yes {L M : List Sur} {n : Nat} (h1 : L.length = n) (h2 : M.length = n) (h : ∀ j, j < n → L[j]? = M[j]?) : eqL L M = true := by
  unfold eqL; rw [decide_eq_true_iff]
  refine List.ext_getElem? fun i => ?_
  by_cases hi : i < n
  · exact h i hi
  · rw [List.getElem?_eq_none (by omega), List.getElem?_eq_none (by omega)]
theorem eqL_len {L M : List Sur} (h : L.length ≠ M.length) : eqL L M = false := by
  unfold eqL; rw [decide_eq_false_iff_not]; rintro rfl; exact h rfl
theorem SameL.step {L M : List Sur} {w wr w' : World} {k : Nat} {s t : Sur} (h : SameL L M w wr k) (hb : Below w.heap.size w w') (h1 : L[k]? = some s) (h2 : M[k]? = some t) (he : (eqi s.1 t.1 && eqi s.2 t.2) = true) : SameL L M w w' (k + 1) := by
  refine ⟨hb, fun j hj => ?_⟩
  by_cases e : j = k
  · subst e
    have : s = t := by
      simp [eqi] at he
      exact Prod.ext he.1 he.2
    rw [h1, h2, this]
  · exact h.2 j (by omega)
theorem two_range {w : World} {g o : Nat} {a b : Value} (h0 : w.cell? ⟨g, o, none⟩ = some a) (h1 : w.cell? ⟨g, o + 1, none⟩ = some b) : w.rangeAt g o [a, b] := by
  intro j v hv
  match j, hv with
  | 0, hv => simp at hv; subst hv; simpa using h0
  | 1, hv => simp at hv; subst hv; exact h1

set_option maxHeartbeats 2000000 in
theorem eqL_any (A : Option Addr) (n c : Nat) (B : Option Addr) (m d : Nat) (L M : List Sur) (h1 h2 : Nat) (w : World) (hx : Lrd w h1 (.slice A n c) L) (hy : Lrd w h2 (.slice B m d) M) (hn : n ≤ 1048576) (hm : m ≤ 1048576)
    (lL : ∀ s ∈ L, s.1.length ≤ 1048576 ∧ s.2.length ≤ 1048576) (lM : ∀ s ∈ M, s.1.length ≤ 1048576 ∧ s.2.length ≤ 1048576) :
    Calls sqp.prog 31 #[.slice A n c, .slice B m d] w fun e w' => e = .returned (.bool (eqL L M)) ∧ Below w.heap.size w w' := by
  have LX : Hid (L.length = n) := Lib.hid (by obtain ⟨A', n', c', e, h, _⟩ := hx; injection e with e1 e2 e3; subst e2; exact h)
  have LY : Hid (M.length = m) := Lib.hid (by obtain ⟨A', n', c', e, h, _⟩ := hy; injection e with e1 e2 e3; subst e2; exact h)
  have HX := Lib.hid hx; have HY := Lib.hid hy; have HL := Lib.hid lL; have HM := Lib.hid lM; clear hx hy lL lM
  by_cases hnm : n = m
  · obtain rfl : m = n := hnm.symm
    clear hnm
    go_enter sqp.func31, sqp.ntmps31
    go_wp2
    go_loopw [5] (fun i wr => ∃ k : Nat, k ≤ m ∧ i = .int .i64 k ∧ SameL L M w wr k) (fun i _ => m - (intOf i).toNat)
    case atStart => exact ⟨0, Nat.zero_le _, rfl, Below.refl _ _, fun j hj => by omega⟩
    case round =>
      obtain ⟨k, hk, rfl, hs⟩ := hrel
      have HS := Lib.hid hs; clear hs
      have hsz := HS.out.1.size
      by_cases hlt : k < m
      · obtain ⟨g, off, s, P, p, cp, Q, q, cq, rfl, hg, hsk, c0, c1, ss⟩ := (HX.out.keep (HS.out.1.mono HX.out.top) (Nat.le_refl _)).at_ hlt
        obtain ⟨g', off', t, P', p', cp', Q', q', cq', rfl, hg', htk, d0, d1, st⟩ := (HY.out.keep (HS.out.1.mono HY.out.top) (Nat.le_refl _)).at_ hlt
        have SK := Lib.hid hsk; have TK := Lib.hid htk; have SS := Lib.hid ss; have ST := Lib.hid st
        have ls := HL.out s (List.mem_of_getElem? SK.out); have lt := HM.out t (List.mem_of_getElem? TK.out)
        have hgw : g < wr.heap.size := Nat.lt_of_lt_of_le hg (Nat.le_trans HX.out.top hsz)
        have hgw' : g' < wr.heap.size := Nat.lt_of_lt_of_le hg' (Nat.le_trans HY.out.top hsz)
        have RX := Lib.hid (two_range c0 c1); have RY := Lib.hid (two_range d0 d1)
        clear hsk htk ss st c0 c1 d0 d1
        go_wp2
        refine wp_region_held_drew (S := fun W => Below wr.heap.size wr W) (by kernel_rfl) ⟨rfl, rfl, rfl, Nat.le_refl _, fun _ _ => rfl⟩ (fun hHeld => ?_)
        have b1 : Below wr.heap.size wr wr.drew := hHeld
        have SD := Lib.hid (SS.out.keep b1 (Nat.le_trans HX.out.top hsz)); have TD := Lib.hid (ST.out.keep b1 (Nat.le_trans HY.out.top hsz))
        generalize wr.drew = wd at *
        refine wpAnyH_take (i := 0) (v := .slice (some ⟨g, off, none⟩) m c) rfl (by kernel_rfl) (by kernel_rfl) (by kernel_rfl) (fun _ _ _ h => h) (Or.inl ⟨by rfl, fun w hSw => by go_simp⟩) hHeld ?_
        refine wpAnyH_take (i := 1) (v := .int .i64 k) rfl (by kernel_rfl) (by kernel_rfl) (by kernel_rfl) (fun _ _ _ h => h) (Or.inl ⟨by rfl, fun w hSw => by go_simp⟩) hHeld ?_
        refine wpAnyH_take (i := 4) (v := .slice (some ⟨g', off', none⟩) m d) rfl (by kernel_rfl) (by kernel_rfl) (by kernel_rfl) (fun _ _ _ h => h) (Or.inl ⟨by rfl, fun w hSw => by go_simp⟩) hHeld ?_
        refine wpAnyH_take (i := 5) (v := .int .i64 k) rfl (by kernel_rfl) (by kernel_rfl) (by kernel_rfl) (fun _ _ _ h => h) (Or.inl ⟨by rfl, fun w hSw => by go_simp⟩) hHeld ?_
        refine wpAnyH_take (i := 2) (v := .pointer (some ⟨g, off + k * 2, none⟩)) rfl (by kernel_rfl) (by kernel_rfl) (by kernel_rfl) (fun _ _ _ h => h) (Or.inl ⟨by rfl, fun w hSw => by go_simp⟩) hHeld ?_
        refine wpAnyH_take (i := 6) (v := .pointer (some ⟨g', off' + k * 2, none⟩)) rfl (by kernel_rfl) (by kernel_rfl) (by kernel_rfl) (fun _ _ _ h => h) (Or.inl ⟨by rfl, fun w hSw => by go_simp⟩) hHeld ?_
        refine wpAnyH_take (i := 3) (v := .agg #[.slice P p cp, .slice Q q cq]) rfl (by kernel_rfl) (by kernel_rfl) (by kernel_rfl) (fun _ _ _ h => h) (yieldsIf_load_mid (by rfl) _ _ rfl g (off + k * 2) rfl [.slice P p cp, .slice Q q cq] _ (fun w h j v hv => by rw [Below.cell h (p := ⟨g, off + k * 2 + j, none⟩) hgw]; exact RX.out j v hv) sqp.underlying25 rfl (sizeS _ _)) hHeld ?_
        refine wpAnyH_take (i := 7) (v := .agg #[.slice P' p' cp', .slice Q' q' cq']) rfl (by kernel_rfl) (by kernel_rfl) (by kernel_rfl) (fun _ _ _ h => h) (yieldsIf_load_mid (by rfl) _ _ rfl g' (off' + k * 2) rfl [.slice P' p' cp', .slice Q' q' cq'] _ (fun w h j v hv => by rw [Below.cell h (p := ⟨g', off' + k * 2 + j, none⟩) hgw']; exact RY.out j v hv) sqp.underlying25 rfl (sizeS _ _)) hHeld ?_
        refine wpAnyH_ready (rs := [8]) (by kernel_rfl) (by simp) (AllReadyH.cons rfl (fun K hK => ?_) AllReadyH.nil)
        go_simp
        refine (eqS_any _ _ s.1 s.2 t.1 t.2 _ _ _ SD.out TD.out ls.1 ls.2 lt.1 lt.2).mono ?_
        rintro e w2 ⟨rfl, b2⟩
        have hHeld2 : Below wr.heap.size wr w2 := b1.trans (b2.mono b1.size)
        have B2 : Hid (Below w.heap.size w w2) := Lib.hid (HS.out.1.trans (hHeld2.mono hsz))
        clear SD TD SS ST RX RY b1 b2 hHeld
        cases hz : (eqi s.1 t.1 && eqi s.2 t.2)
        · have HZ := Lib.hid hz; clear hz
          go_wp2_with fail
          refine hK.out _ _ hHeld2 (fun hHeld => ?_)
          clear hK K hHeld2
          refine wpAnyH_ready (rs := [9]) (by kernel_rfl) (by simp) (AllReadyH.cons rfl (fun K hK => ?_) AllReadyH.nil)
          go_simp
          refine hK.out _ _ hHeld (fun hHeld2 => ?_)
          clear hK K hHeld hHeld2
          refine wpAnyH_done (by kernel_rfl) ?_ _
          go_wp2_with fail
          go_ret
          exact ⟨ret_bool (eqL_no SK.out TK.out HZ.out).symm, B2.out⟩
        · have HZ := Lib.hid hz; clear hz
          go_wp2_with fail
          refine hK.out _ _ hHeld2 (fun hHeld => ?_)
          clear hK K hHeld2
          refine wpAnyH_ready (rs := [9]) (by kernel_rfl) (by simp) (AllReadyH.cons rfl (fun K hK => ?_) AllReadyH.nil)
          go_simp
          refine hK.out _ _ hHeld (fun hHeld2 => ?_)
          clear hK K hHeld hHeld2
          refine wpAnyH_done (by kernel_rfl) ?_ _
          go_wp2_with fail
          go_roundw
          case rel => exact ⟨k + 1, by omega, by go_num, HS.out.step B2.out SK.out TK.out HZ.out⟩
          case measure => simp [intOf]; omega
      · obtain rfl : k = m := by omega
        go_wp2
        go_ret
        exact ⟨ret_bool (eqL_yes LX.out LY.out HS.out.2).symm, HS.out.1⟩
  · have hb : ((n : Int) != (m : Int)) = true := by simp; omega
    have HB : eqL L M = false := eqL_len (by rw [LX.out, LY.out]; exact hnm)
    have HB := Lib.hid HB
    clear hnm
    go_enter sqp.func31, sqp.ntmps31
    go_wp2
    go_ret
    exact ⟨ret_bool HB.out.symm, Below.refl _ _⟩
end Go.Proofs.Ytddppmbllcnkoaa.orb

/-
  OrbitOf, IndexOf of the model.
-/
namespace Go.Proofs.Ytddppmbllcnkoaa.orb
open Go.ChangeShapes Go.WideShapes Go.ChangeAt Go.RowKit
open Go.Proofs.Ytddppmbllcnkoaa.mem Go.Proofs.Ytddppmbllcnkoaa.ints Go.Proofs.Ytddppmbllcnkoaa.arr Go.Proofs.Ytddppmbllcnkoaa.pm Go.Proofs.Ytddppmbllcnkoaa.sf
set_option linter.unusedVariables false
set_option maxRecDepth 100000

/-- What OrbitOf gives. -/
def orbF (r u : List Int) : Option LW := if transB r u then orb (r, u) else none
def orbL (r u : List Int) : List Sur := match orbF r u with | some q => q.1 | none => []
def orbB (r u : List Int) : Bool := (orbF r u).isSome
theorem orbL_some {r u : List Int} {q : LW} (h : orbF r u = some q) : orbL r u = q.1 ∧ orbB r u = true := by simp [orbL, orbB, h]
theorem orbL_none {r u : List Int} (h : orbF r u = none) : orbL r u = [] ∧ orbB r u = false := by simp [orbL, orbB, h]
theorem orbF_no {r u : List Int} (h : transB r u = false) : orbF r u = none := by simp [orbF, h]
theorem orbF_yes {r u : List Int} (h : transB r u = true) : orbF r u = orb (r, u) := by simp [orbF, h]
/-- What the search keeps to its end. -/
theorem orun_inv {N : Nat} : ∀ (f k : Nat) (q q' : LW), Oi N q → q.1.length ≤ 120 → orun f k q = some q' → Oi N q' ∧ q'.1.length ≤ 120
  | 0, k, q, q', _, _, h => by simp [orun] at h
  | f + 1, k, q, q', hq, hl, h => by
    unfold orun at h
    split at h
    · rename_i hk
      split at h
      · cases h
      · rename_i hs
        exact orun_inv f (k + 1) _ q' (by have := mid_oi (i := 2) hq hk; exact this) (by omega) h
    · injection h with h
      subst h
      exact ⟨hq, hl⟩
theorem orbF_inv {r u : List Int} {q : LW} (h : orbF r u = some q) : Sf r.length r u ∧ Oi r.length q ∧ q.1.length ≤ 120 := by
  unfold orbF at h
  split at h
  · rename_i ht
    have s := transB_iff.1 ht
    exact ⟨s, orun_inv 122 0 _ q (Oi.start s) (by simp) h⟩
  · cases h
theorem Lo.low {w : World} {base base' hi : Nat} {v : Value} {L : List Sur} (h : Lo w base hi v L) (hb : base' ≤ base) : Lo w base' hi v L := by
  obtain ⟨hs, bl, o1, r, vl⟩ := h
  refine ⟨hs, bl, ⟨o1.1, ?_⟩, r.to hb (Nat.le_refl _) r.top (fun _ _ _ q => q), vl⟩
  rcases o1.2 with q | ⟨g, cap, cur, q1, q2, q3⟩
  · exact .inl q
  · exact .inr ⟨g, cap, cur, q1, Nat.le_trans hb q2, q3⟩
theorem Lo.up {w : World} {base hi : Nat} {v : Value} {L : List Sur} (h : Lo w base hi v L) : Lo w base w.heap.size v L := by
  obtain ⟨hs, bl, o1, r, vl⟩ := h
  exact ⟨hs, bl, o1, r.to (Nat.le_refl _) r.top (Nat.le_refl _) (fun _ _ _ q => q), fun b e => Nat.lt_of_lt_of_le (vl b e) r.top⟩
def OOPost (r u : List Int) (w : World) (e : Ending) (w' : World) : Prop :=
  ∃ A c, e = .returned (.tuple #[.slice A (orbL r u).length c, .bool (orbB r u)]) ∧ Lo w' w.heap.size w'.heap.size (.slice A (orbL r u).length c) (orbL r u) ∧ Below w.heap.size w w'
theorem oo_no {r u : List Int} {w w' : World} (h : orbF r u = none) (hb : Below w.heap.size w w') : OOPost r u w (.returned (.tuple #[.slice none 0 0, .bool false])) w' := by
  obtain ⟨e1, e2⟩ := orbL_none h
  refine ⟨none, 0, by rw [e1, e2]; rfl, ?_, hb⟩
  rw [e1]
  exact Lo.nil _ _ _ (Nat.le_refl _)

set_option maxHeartbeats 1000000 in
theorem oo_spec (v : Value) (r u : List Int) (hi : Nat) (w : World) (hx : Srd w hi v r u) (hn : r.length ≤ 1048576) (hm : u.length ≤ 1048576) :
    Calls sqp.prog 29 #[v] w (OOPost r u w) := by
  have HX := Lib.hid hx; clear hx
  obtain ⟨P, n, c, Q, m, d, rfl, q1, q2, e1, e2, ht, HR⟩ := HX.out.open
  clear HR q1 q2
  go_enter sqp.func29, sqp.ntmps29
  go_wp2_with fail
  refine (ok_spec _ r u hi _ (HX.out.keep ((Below.refl hi w).alloc ht _) (Nat.le_refl _)) hn hm).mono ?_
  rintro e w1 ⟨rfl, b1⟩
  have A0 := Lib.hid ((Arr.new w [.slice P n c, .slice Q m d] 25 rfl).keep b1 (by simp))
  have c0 := A0.out.cell (k := 0) rfl; have c1 := A0.out.cell (k := 1) rfl
  have B1 := Lib.hid (below1 _ _ b1); clear b1
  have X1 := Lib.hid (HX.out.keep (B1.out.mono ht) (Nat.le_refl _))
  have hs1 := B1.out.size
  cases hq : transB r u
  · have HF := Lib.hid (orbF_no hq); clear hq
    go_wp2_with fail
    go_ret2
    exact oo_no HF.out B1.out
  · have HS := Lib.hid (transB_iff.1 hq)
    have HF := Lib.hid (orbF_yes hq); clear hq
    go_wp2_with fail
    refine (orbit_spec _ r u _ hi _ X1.out HS.out).mono ?_
    intro e w2 hp
    unfold OPost at hp
    cases ho : orb (r, u) with
    | none =>
      rw [ho] at hp
      obtain ⟨rfl, b2⟩ := hp
      have HF2 : Hid (orbF r u = none) := Lib.hid (by rw [HF.out, ho])
      have B2 := Lib.hid (B1.out.trans (b2.mono hs1))
      clear ho b2 c0 c1 A0
      go_wp2_with fail
      go_ret2
      exact oo_no HF2.out B2.out
    | some q =>
      rw [ho] at hp
      obtain ⟨v', u', rfl, os⟩ := hp
      have HF2 : Hid (orbF r u = some q) := Lib.hid (by rw [HF.out, ho])
      obtain ⟨A', ca, B', db, rfl, rfl⟩ := os.forms
      have LO := Lib.hid ((os.lo).low hs1)
      have B2 := Lib.hid (B1.out.trans (os.bel.mono hs1))
      clear ho os c0 c1 A0
      go_wp2_with fail
      go_ret2
      obtain ⟨x1, x2⟩ := orbL_some HF2.out
      refine ⟨A', ca, by rw [x1, x2]; rfl, ?_, B2.out⟩
      rw [x1]
      exact LO.out

def idxF (r u : List Int) : Int := if orbB r u then (orbL r u).length else -1
set_option maxHeartbeats 1000000 in
theorem idx_spec (v : Value) (r u : List Int) (hi : Nat) (w : World) (hx : Srd w hi v r u) (hn : r.length ≤ 1048576) (hm : u.length ≤ 1048576) :
    Calls sqp.prog 36 #[v] w fun e w' => e = .returned (.int .i64 (idxF r u)) ∧ Below w.heap.size w w' := by
  have HX := Lib.hid hx; clear hx
  obtain ⟨P, n, c, Q, m, d, rfl, q1, q2, e1, e2, ht, HR⟩ := HX.out.open
  clear HR q1 q2
  go_enter sqp.func36, sqp.ntmps36
  go_wp2_with fail
  refine (oo_spec _ r u hi _ (HX.out.keep ((Below.refl hi w).alloc ht _) (Nat.le_refl _)) hn hm).mono ?_
  rintro e w1 ⟨A', c', rfl, lo, b1⟩
  have B1 := Lib.hid (below1 _ _ b1); clear b1 lo
  cases hq : orbB r u
  · have HF : Hid (idxF r u = -1) := Lib.hid (by rw [idxF, hq]; rfl)
    clear hq
    go_wp2_with fail
    go_ret
    exact ⟨ret_int HF.out.symm, B1.out⟩
  · have HF : Hid (idxF r u = (orbL r u).length) := Lib.hid (by rw [idxF, hq]; rfl)
    clear hq
    go_wp2_with fail
    go_ret
    exact ⟨ret_int HF.out.symm, B1.out⟩
end Go.Proofs.Ytddppmbllcnkoaa.orb

/-
  IndexOf of impl, over P'.
-/
namespace Go.Proofs.Ytddppmbllcnkoaa.orb
open Go.ChangeShapes Go.WideShapes Go.ChangeAt Go.RowKit
open Go.Proofs.Ytddppmbllcnkoaa.mem Go.Proofs.Ytddppmbllcnkoaa.ints Go.Proofs.Ytddppmbllcnkoaa.arr Go.Proofs.Ytddppmbllcnkoaa.pm Go.Proofs.Ytddppmbllcnkoaa.sf Go.Proofs.Ytddppmbllcnkoaa.gl
set_option linter.unusedVariables false
set_option maxRecDepth 100000

theorem idx_yes {r u : List Int} (h : transB r u = true) (hl : (finds (r, u)).length ≤ 120) : idxF r u = ((finds (r, u)).length : Int) := by
  rcases finds_orb (r, u) with ⟨a, b⟩ | ⟨a, q, b, c⟩
  · omega
  · have e : q.1.length = (finds (r, u)).length := by rw [c.fst]; simp
    obtain ⟨x, y⟩ := orbL_some (show orbF r u = some q by rw [orbF_yes h]; exact b)
    unfold idxF
    rw [if_pos y, x, e]
theorem idx_no {r u : List Int} (h : transB r u = false ∨ 120 < (finds (r, u)).length) : idxF r u = -1 := by
  have h0 : orbF r u = none := by
    rcases h with h | h
    · exact orbF_no h
    · rcases finds_orb (r, u) with ⟨a, b⟩ | ⟨a, q, b, c⟩
      · cases ht : transB r u
        · exact orbF_no ht
        · rw [orbF_yes ht]; exact b
      · omega
  unfold idxF
  rw [(orbL_none h0).2]
  rfl
set_option maxHeartbeats 1000000 in
theorem idx_impl (v : Value) (r u : List Int) (hi : Nat) (w : World) (hx : Srd w hi v r u) (hn : r.length ≤ 1048576) (hm : u.length ≤ 1048576) :
    Calls sqp.prog 13 #[v] w fun e w' => e = .returned (.int .i64 (idxF r u)) ∧ Below w.heap.size w w' := by
  have HX := Lib.hid hx
  obtain ⟨P, n, c, Q, m, d, rfl, q1, q2, e1, e2, ht, HR⟩ := hx.open
  clear hx q1 q2 HR
  have YES : Hid (transB r u = true → (finds (r, u)).length ≤ 120 → idxF r u = ((finds (r, u)).length : Int)) := Lib.hid idx_yes
  have NO : Hid (transB r u = false ∨ 120 < (finds (r, u)).length → idxF r u = -1) := Lib.hid idx_no
  go_enter sqp.func13, sqp.ntmps13
  go_wp2_with fail
  refine (orbitOf_any _ r u hi _ (HX.out.keep ((Below.refl hi w).alloc ht _) (Nat.le_refl _)) hn hm).mono ?_
  rintro e w1 ⟨b1, h⟩
  have B1 := Lib.hid (below1 _ _ b1); clear b1
  rcases h with ⟨h1, h2, A, cp, rfl, h3⟩ | ⟨h1, rfl⟩
  · have HI := Lib.hid (YES.out h1 h2)
    clear h3 YES NO h1 h2
    generalize (finds (r, u)).length = k at *
    go_wp2_with fail
    go_ret
    exact ⟨ret_int HI.out.symm, B1.out⟩
  · have HI := Lib.hid (NO.out h1)
    clear YES NO h1
    go_wp2_with fail
    go_ret
    exact ⟨ret_int HI.out.symm, B1.out⟩
end Go.Proofs.Ytddppmbllcnkoaa.orb

/-
  What orbitOf's answer holds, opened; IsFullGroup of the specification and of impl, over P'.
-/
namespace Go.Proofs.Ytddppmbllcnkoaa.orb
open Go.ChangeShapes Go.WideShapes Go.ChangeAt Go.RowKit Go.Maps
open Go.Proofs.Ytddppmbllcnkoaa.mem Go.Proofs.Ytddppmbllcnkoaa.ints Go.Proofs.Ytddppmbllcnkoaa.arr Go.Proofs.Ytddppmbllcnkoaa.pm Go.Proofs.Ytddppmbllcnkoaa.sf Go.Proofs.Ytddppmbllcnkoaa.gl
set_option linter.unusedVariables false
set_option maxRecDepth 100000

theorem fdsV_at {n : Nat} {xs : List Fd} {k : Nat} {x : Fd} (hx : xs[k]? = some x) : ∀ (j : Nat) v, (V (fdL x.1 n x.2.1 x.2.2))[j]? = some v → (fdsV n xs)[k * 51 + j]? = some v := by
  induction xs generalizing k with
  | nil => simp at hx
  | cons y ys ih =>
    intro j v hj
    have hl : j < 51 := by have := (List.getElem?_eq_some_iff.1 hj).1; rwa [V_len, fdL_len] at this
    have e : fdsV n (y :: ys) = V (fdL y.1 n y.2.1 y.2.2) ++ fdsV n ys := rfl
    have ly : (V (fdL y.1 n y.2.1 y.2.2)).length = 51 := by rw [V_len, fdL_len]
    rw [e]
    cases k with
    | zero =>
      obtain rfl : y = x := by simpa using hx
      rw [List.getElem?_append_left (by omega), Nat.zero_mul, Nat.zero_add]
      exact hj
    | succ k =>
      rw [List.getElem?_append_right (by rw [ly]; omega), ly, show (k + 1) * 51 + j - 51 = k * 51 + j by omega]
      exact ih (by simpa using hx) j v hj
/-- The finds in memory: each cell, for every world that keeps the block. -/
theorem fds_mem {w : World} {B n : Nat} {xs : List Fd} {A : Option Addr} {cp m : Nat} (h : w.ownsRow B 68 51 (.slice A m cp) m (fdsV n xs)) (hm : m = xs.length) (h0 : 0 < m) :
    ∃ g, A = some ⟨g, 0, none⟩ ∧ g < w.heap.size ∧ ∀ (k : Nat) x, xs[k]? = some x → ∀ (j : Nat) v, (V (fdL x.1 n x.2.1 x.2.2))[j]? = some v → w.cell? ⟨g, k * 51 + j, none⟩ = some v := by
  subst hm
  rcases h.2 with ⟨_, q⟩ | ⟨g, cap, cur, q1, q2, q3, q4, q5, q6, q7⟩
  · omega
  · injection q1 with e1 e2 e3
    refine ⟨g, e1, ?_, fun k x hx j v hj => ?_⟩
    · rcases Nat.lt_or_ge g w.heap.size with hlt | hge
      · exact hlt
      · rw [Array.getElem?_eq_none hge] at q3; cases q3
    have h1 := fdsV_at (n := n) hx j v hj
    rw [cell_of_row w g _ cur _ _ q3]
    have h2 : (List.take (xs.length * 51) cur.toList)[k * 51 + j]? = some v := by rw [q7]; exact h1
    rw [List.getElem?_take] at h2
    split at h2
    · simpa using h2
    · cases h2
theorem fin_open {r u : List Int} (h : transB r u = true) (hl : (finds (r, u)).length ≤ 120) :
    ∃ q, orbF r u = some q ∧ Fq (finds (r, u)) q ∧ orbL r u = (finds (r, u)).map Prod.fst ∧ orbB r u = true ∧ Oi r.length q ∧ ∀ x ∈ finds (r, u), Sf r.length x.1.1 x.1.2 := by
  rcases finds_orb (r, u) with ⟨a, b⟩ | ⟨a, q, b, c⟩
  · omega
  · have e : orbF r u = some q := by rw [orbF_yes h]; exact b
    obtain ⟨x, y⟩ := orbL_some e
    obtain ⟨z1, z2, z3⟩ := orbF_inv e
    refine ⟨q, e, c, by rw [x, c.fst], y, z2, fun f hf => z2.sf f.1 (by rw [c.fst]; exact List.mem_map_of_mem hf)⟩
theorem fin_shut {r u : List Int} (h : transB r u = false ∨ 120 < (finds (r, u)).length) : orbF r u = none := by
  rcases h with h | h
  · exact orbF_no h
  · rcases finds_orb (r, u) with ⟨a, b⟩ | ⟨a, q, b, c⟩
    · cases ht : transB r u
      · exact orbF_no ht
      · rw [orbF_yes ht]; exact b
    · omega
theorem frun_ge : ∀ (f k : Nat) (xs : List Fd), xs.length ≤ (frun f k xs).length
  | 0, _, xs => Nat.le_refl _
  | f + 1, k, xs => by
    rw [frun]
    split
    · exact Nat.le_trans (twoF_len k xs).1 (frun_ge f (k + 1) (twoF k xs))
    · exact Nat.le_refl _
theorem finds_pos (s : Sur) : 0 < (finds s).length := Nat.lt_of_lt_of_le (by simp) (frun_ge 122 0 [(cn s, 0, 0)])

def fgF (r u : List Int) : Bool := idxF r u == 1
set_option maxHeartbeats 1000000 in
theorem fg_spec (v : Value) (r u : List Int) (hi : Nat) (w : World) (hx : Srd w hi v r u) (hn : r.length ≤ 1048576) (hm : u.length ≤ 1048576) :
    Calls sqp.prog 43 #[v] w fun e w' => e = .returned (.bool (fgF r u)) ∧ Below w.heap.size w w' := by
  have HX := Lib.hid hx
  obtain ⟨P, n, c, Q, m, d, rfl, q1, q2, e1, e2, ht, HR⟩ := hx.open
  clear hx q1 q2 HR
  go_enter sqp.func43, sqp.ntmps43
  go_wp2_with fail
  refine (idx_spec _ r u hi _ (HX.out.keep ((Below.refl hi w).alloc ht _) (Nat.le_refl _)) hn hm).mono ?_
  rintro e w1 ⟨rfl, b1⟩
  have B1 := Lib.hid (below1 _ _ b1); clear b1
  have HF : Hid (fgF r u = (idxF r u == 1)) := Lib.hid rfl
  generalize idxF r u = z at *
  go_wp2_with fail
  go_ret
  exact ⟨ret_bool HF.out.symm, B1.out⟩
set_option maxHeartbeats 1000000 in
theorem fg_impl (v : Value) (r u : List Int) (hi : Nat) (w : World) (hx : Srd w hi v r u) (hn : r.length ≤ 1048576) (hm : u.length ≤ 1048576) :
    Calls sqp.prog 44 #[v] w fun e w' => e = .returned (.bool (fgF r u)) ∧ Below w.heap.size w w' := by
  have HX := Lib.hid hx
  obtain ⟨P, n, c, Q, m, d, rfl, q1, q2, e1, e2, ht, HR⟩ := hx.open
  clear hx q1 q2 HR
  go_enter sqp.func44, sqp.ntmps44
  go_wp2_with fail
  refine (idx_impl _ r u hi _ (HX.out.keep ((Below.refl hi w).alloc ht _) (Nat.le_refl _)) hn hm).mono ?_
  rintro e w1 ⟨rfl, b1⟩
  have B1 := Lib.hid (below1 _ _ b1); clear b1
  have HF : Hid (fgF r u = (idxF r u == 1)) := Lib.hid rfl
  generalize idxF r u = z at *
  go_wp2_with fail
  go_ret
  exact ⟨ret_bool HF.out.symm, B1.out⟩
end Go.Proofs.Ytddppmbllcnkoaa.orb

/-
  OrbitOf of impl, over P'.
-/
namespace Go.Proofs.Ytddppmbllcnkoaa.orb
open Go.ChangeShapes Go.WideShapes Go.ChangeAt Go.RowKit Go.Maps
open Go.Proofs.Ytddppmbllcnkoaa.mem Go.Proofs.Ytddppmbllcnkoaa.ints Go.Proofs.Ytddppmbllcnkoaa.arr Go.Proofs.Ytddppmbllcnkoaa.pm Go.Proofs.Ytddppmbllcnkoaa.sf Go.Proofs.Ytddppmbllcnkoaa.gl
set_option linter.unusedVariables false
set_option maxRecDepth 100000

theorem os_nil (w : World) : Os w w w.heap.size w.heap.size (.slice none 0 0) (.slice none 0 0) ([], []) :=
  ⟨⟨[], fun _ => (0, 0), ⟨rfl, .inl ⟨rfl, rfl⟩⟩, Ls.nil _ _ _ _ _ (Nat.le_refl _)⟩, ⟨rfl, .inl ⟨rfl, rfl⟩⟩, fun b e => by simp [Value.ownBlock] at e, fun b e => by simp [Value.ownBlock] at e, fun b e => by simp [Value.ownBlock] at e, Below.refl _ _, Nat.le_refl _, Nat.le_refl _⟩
theorem fd_pre {s : Sur} {n p l : Nat} {j : Nat} {v : Value} (h : (V (gS s n))[j]? = some v) : (V (fdL s n p l))[j]? = some v := by
  have hj := (List.getElem?_eq_some_iff.1 h).1
  have e : V (fdL s n p l) = V (gS s n) ++ V [(p : Int), (l : Int)] := by simp [V, fdL]
  rw [e, List.getElem?_append_left hj]
  exact h

set_option maxHeartbeats 2000000 in
theorem oo_impl (v : Value) (r u : List Int) (hi : Nat) (w : World) (hx : Srd w hi v r u) (hn : r.length ≤ 1048576) (hm : u.length ≤ 1048576) :
    Calls sqp.prog 12 #[v] w (OOPost r u w) := by
  have HX := Lib.hid hx
  obtain ⟨P, n, c, Q, m, d, rfl, q1, q2, e1, e2, ht, HR⟩ := hx.open
  have L1 := Lib.hid q1
  clear hx q1 q2 HR
  have NO : Hid (transB r u = false ∨ 120 < (finds (r, u)).length → orbF r u = none) := Lib.hid fin_shut
  go_enter sqp.func12, sqp.ntmps12
  go_wp2_with fail
  refine (orbitOf_any _ r u hi _ (HX.out.keep ((Below.refl hi w).alloc ht _) (Nat.le_refl _)) hn hm).mono ?_
  rintro e w1 ⟨b1, h⟩
  have B1 := Lib.hid (below1 _ _ b1); clear b1
  rcases h with ⟨h1, h2, A, cp, rfl, h3⟩ | ⟨h1, rfl⟩
  · have HO := Lib.hid (fin_open h1 h2)
    have HP := finds_pos (r, u)
    have HM := Lib.hid (fds_mem h3 rfl HP)
    clear h3 NO h1
    rw [L1.out] at HM HO
    generalize hxs : finds (r, u) = xs at *
    have HL : Hid (orbL r u = xs.map Prod.fst ∧ orbB r u = true ∧ ∀ x ∈ xs, Sf n x.1.1 x.1.2) := Lib.hid (by obtain ⟨q, a, b, c, d, e, f⟩ := HO.out; exact ⟨c, d, f⟩)
    clear HO hxs
    obtain ⟨g, rfl, hg1, hcell⟩ := HM.out
    have HC := Lib.hid hcell; clear hcell HM
    go_wp2_with fail
    go_loopw [6, 18] (fun v6 i wr => ∃ k : Nat, k ≤ xs.length ∧ i = .int .i64 k ∧ Os w1 wr w1.heap.size wr.heap.size v6 (.slice none 0 0) ((xs.take k).map Prod.fst, [])) (fun _ i _ => xs.length - (intOf i).toNat)
    case atStart => exact ⟨0, Nat.zero_le _, rfl, by simpa using os_nil w1⟩
    case round =>
      obtain ⟨k, hk, rfl, hos⟩ := hrel
      obtain ⟨A6, c6, B6, d6, rfl, _⟩ := hos.forms
      have OS := Lib.hid hos; clear hos
      have hlk : ((xs.take k).map Prod.fst).length = k := by simp; omega
      rw [hlk] at OS ⊢
      by_cases hlt : k < xs.length
      · obtain ⟨x, hxk⟩ : ∃ x, xs[k]? = some x := ⟨_, List.getElem?_eq_getElem hlt⟩
        have SX := Lib.hid (HL.out.2.2 x (List.mem_of_getElem? hxk))
        have TK : Hid ((xs.take (k + 1)).map Prod.fst = (xs.take k).map Prod.fst ++ [x.1]) := Lib.hid (by rw [List.take_add_one, hxk]; simp)
        have hwr : w1.heap.size ≤ wr.heap.size := OS.out.bel.size
        have PX : Hid (∀ (j : Nat) v, (V (fdL x.1 n x.2.1 x.2.2))[j]? = some v → wr.cell? ⟨g, k * 51 + j, none⟩ = some v) := Lib.hid (fun j v hv => by rw [OS.out.bel.cell (p := ⟨g, k * 51 + j, none⟩) hg1]; exact HC.out k x hxk j v hv)
        have L51 := fdL_len x.1 n x.2.1 x.2.2
        have L49 := gS_len x.1 n
        clear hxk
        have HLK := Lib.hid hlk; clear hlk
        have FP : Hid (∀ (j : Nat) v, (V (gS x.1 n))[j]? = some v → (V (fdL x.1 n x.2.1 x.2.2))[j]? = some v) := Lib.hid (fun j v h => fd_pre h)
        generalize hLX : fdL x.1 n x.2.1 x.2.2 = LX at *
        clear hLX
        go_wp2_with (first | (refine wpList_load_part rfl 68 _ rfl g (k * 51) rfl (V LX) _ PX.out sqp.underlying68 rfl (by rw [size51 L51]; simp) ?_) | (refine wpList_store_row rfl 68 _ _ rfl wr.heap.size (V LX).toArray rfl rfl 68 (V zero51).toArray (Arr.new wr (V zero51) _ rfl) (size51 L51) (by simp [V_len, L51, zero51]) (one_V _) ?_; generalize hw6 : (wr.alloc (.cells #[.int .i64 0, .int .i64 0, .int .i64 0, .int .i64 0, .int .i64 0, .int .i64 0, .int .i64 0, .int .i64 0, .int .i64 0, .int .i64 0, .int .i64 0, .int .i64 0, .int .i64 0, .int .i64 0, .int .i64 0, .int .i64 0, .int .i64 0, .int .i64 0, .int .i64 0, .int .i64 0, .int .i64 0, .int .i64 0, .int .i64 0, .int .i64 0, .int .i64 0, .int .i64 0, .int .i64 0, .int .i64 0, .int .i64 0, .int .i64 0, .int .i64 0, .int .i64 0, .int .i64 0, .int .i64 0, .int .i64 0, .int .i64 0, .int .i64 0, .int .i64 0, .int .i64 0, .int .i64 0, .int .i64 0, .int .i64 0, .int .i64 0, .int .i64 0, .int .i64 0, .int .i64 0, .int .i64 0, .int .i64 0, .int .i64 0, .int .i64 0, .int .i64 0] 68)).setRow wr.heap.size (V LX).toArray = w6; have A6_ : Hid (Arr w6 wr.heap.size (V LX) 68) := Lib.hid (by rw [← hw6]; exact (Arr.new wr (V zero51) _ rfl).row); have B6_ : Hid (Below wr.heap.size wr w6) := Lib.hid (by rw [← hw6]; exact arr.below_setRow ((Below.refl _ _).alloc (Nat.le_refl _) _) (Nat.le_refl _) _); have t6 : wr.heap.size + 1 ≤ w6.heap.size := (by rw [← hw6]; simp); clear hw6; have GP : Hid (∀ (j : Nat) v, (V (gS x.1 n))[j]? = some v → w6.cell? ⟨wr.heap.size, 0 + j, none⟩ = some v) := Lib.hid (fun j v h => by rw [Nat.zero_add]; exact A6_.out.cell (FP.out j v h))) | (refine wpList_load_part rfl 65 _ rfl wr.heap.size 0 rfl (V (gS x.1 n)) _ GP.out sqp.underlying65 rfl (by rw [size49 L49]; simp) ?_))
        refine (surface_any (ext x.1.1) (ext x.1.2) n w6 (ext_len _) (ext_len _) SX.out.small).mono ?_
        rintro e w7 ⟨gs, rfl, sg, b7⟩
        have hpos := SX.out.pos
        have ET1 : (ext x.1.1).take n = x.1.1 := by have := take_ext x.1.1 SX.out.r.len; rwa [SX.out.lr] at this
        have ET2 : (ext x.1.2).take n = x.1.2 := by have := take_ext x.1.2 SX.out.u.len; rwa [SX.out.lu] at this
        rw [ET1, ET2] at sg
        clear ET1 ET2
        obtain ⟨P4, c4, Q4, d4, rfl⟩ := sg.lens SX.out.lr SX.out.lu
        have SG := Lib.hid sg
        have OS7 := Lib.hid ((OS.out.keep B6_.out (Nat.le_refl _)).keep b7 (by have := B6_.out.size; omega))
        have s7 := b7.size
        clear sg b7 A6_ GP PX FP B6_
        obtain ⟨hs, bl, o1, r1⟩ := OS7.out.ex
        have O1 : Hid (w7.ownsRow w1.heap.size 25 2 (.slice A6 k c6) k hs) := Lib.hid (by have h := o1; rwa [HLK.out] at h)
        have R1 := Lib.hid r1; clear o1 r1
        obtain ⟨i0, hi0, hz0, hz1, hz2⟩ := info_parts infoSf
        go_wp2_with (at_builtin; refine wpList_append_lies (w7.alloc (.cells #[.slice P4 n c4, .slice Q4 n d4] 25)) rfl _ _ 27 rfl w1.heap.size 25 i0 _ 2 48 sqp.underlying27 hi0 hz0 hz1 hz2 rfl (by decide) _ k hs rfl (O1.out.alloc _) ⟨w7.heap.size, 0, none⟩ 1 1 [.slice P4 n c4, .slice Q4 n d4] rfl rfl ?hn ?h1 (by decide) ?c4 ?c5 ?c6 _ rfl ?_)
        case hn => exact World.news_of_block (Arr.new w7 _ _ rfl)
        case h1 => intro q hq; simp at hq; rcases hq with rfl | rfl <;> rfl
        case c4 => unfold maxLen; omega
        case c5 => omega
        case c6 => simp; omega
        intro g8 cap8 w8 ho hg hb hlt8
        have OS8 := Lib.hid (Os.push OS7.out R1.out SG.out.wide hpos hpos (by omega) ((Below.refl w7.heap.size w7).alloc (Nat.le_refl _) _) HLK.out.symm ho hg (by simpa using hb) hlt8)
        clear ho hg hb O1 R1 OS7 SG OS
        go_wp2_with fail
        go_roundw
        case rel => exact ⟨k + 1, by omega, by go_num, by rw [TK.out]; exact OS8.out⟩
        case measure => simp [intOf]; omega
      · have HE : Hid (xs.take k = xs) := Lib.hid (List.take_of_length_le (by omega))
        have HK : Hid (k = (orbL r u).length) := Lib.hid (by rw [HL.out.1]; simp; omega)
        have HB := Lib.hid (HL.out.2.1)
        go_wp2_with fail
        go_ret2
        refine ⟨A6, c6, by (rw [HB.out, ← HK.out] <;> rfl), ?_, B1.out.trans (OS.out.bel.mono B1.out.size)⟩
        have h := OS.out.lo.low (base' := w.heap.size) B1.out.size
        rw [HE.out, ← HL.out.1] at h
        rw [← HK.out]
        exact h.up
  · have HI := Lib.hid (NO.out h1)
    clear NO h1
    go_wp2_with fail
    go_ret2
    exact oo_no HI.out B1.out
end Go.Proofs.Ytddppmbllcnkoaa.orb

/-
  SameOrbit, OrbitWord of the model.
-/
namespace Go.Proofs.Ytddppmbllcnkoaa.orb
open Go.ChangeShapes Go.WideShapes Go.ChangeAt Go.RowKit
open Go.Proofs.Ytddppmbllcnkoaa.mem Go.Proofs.Ytddppmbllcnkoaa.ints Go.Proofs.Ytddppmbllcnkoaa.arr Go.Proofs.Ytddppmbllcnkoaa.pm Go.Proofs.Ytddppmbllcnkoaa.sf
set_option linter.unusedVariables false
set_option maxRecDepth 100000

theorem orbL_bnd {r u : List Int} : (orbL r u).length ≤ 120 ∧ ∀ y ∈ orbL r u, y.1.length ≤ 24 ∧ y.2.length ≤ 24 := by
  cases h : orbF r u with
  | none => rw [(orbL_none h).1]; exact ⟨by simp, fun y hy => by simp at hy⟩
  | some q =>
    rw [(orbL_some h).1]
    obtain ⟨s, oi, l⟩ := orbF_inv h
    refine ⟨l, fun y hy => ?_⟩
    have sy := oi.sf y hy
    have h1 := sy.r.len; have h2 := sy.u.len
    exact ⟨h1, h2⟩
end Go.Proofs.Ytddppmbllcnkoaa.orb

/-
  The shear's permutation of an orbit: l06Shears of the model.
-/
namespace Go.Proofs.Ytddppmbllcnkoaa.orb
open Go.ChangeShapes Go.WideShapes Go.ChangeAt Go.RowKit
open Go.Proofs.Ytddppmbllcnkoaa.mem Go.Proofs.Ytddppmbllcnkoaa.ints Go.Proofs.Ytddppmbllcnkoaa.arr Go.Proofs.Ytddppmbllcnkoaa.pm Go.Proofs.Ytddppmbllcnkoaa.sf Go.Proofs.Ytddppmbllcnkoaa.fns
set_option linter.unusedVariables false
set_option maxRecDepth 100000

end Go.Proofs.Ytddppmbllcnkoaa.orb

/-
  Contracts of the laws' same, sorted, lengths.
-/
namespace Go.Proofs.Ytddppmbllcnkoaa.fns
open Go.ChangeShapes Go.WideShapes Go.ChangeAt Go.RowKit
open Go.Proofs.Ytddppmbllcnkoaa.mem Go.Proofs.Ytddppmbllcnkoaa.ints Go.Proofs.Ytddppmbllcnkoaa.arr Go.Proofs.Ytddppmbllcnkoaa.pm Go.Proofs.Ytddppmbllcnkoaa.mat
set_option linter.unusedVariables false
set_option maxRecDepth 100000

end Go.Proofs.Ytddppmbllcnkoaa.fns

/-
  The model's descending order (as the laws' own): contracts of l04Down and l04Lengths.
-/
namespace Go.Proofs.Ytddppmbllcnkoaa.fns
open Go.ChangeShapes Go.WideShapes Go.ChangeAt Go.RowKit
open Go.Proofs.Ytddppmbllcnkoaa.mem Go.Proofs.Ytddppmbllcnkoaa.ints Go.Proofs.Ytddppmbllcnkoaa.arr Go.Proofs.Ytddppmbllcnkoaa.pm Go.Proofs.Ytddppmbllcnkoaa.mat
set_option linter.unusedVariables false
set_option maxRecDepth 100000

end Go.Proofs.Ytddppmbllcnkoaa.fns

/-
  Contract of the program's cycles and CyclesOf.
-/
namespace Go.Proofs.Ytddppmbllcnkoaa.fns
open Go.ChangeShapes Go.WideShapes Go.ChangeAt Go.RowKit
open Go.Proofs.Ytddppmbllcnkoaa.mem Go.Proofs.Ytddppmbllcnkoaa.ints Go.Proofs.Ytddppmbllcnkoaa.arr Go.Proofs.Ytddppmbllcnkoaa.pm Go.Proofs.Ytddppmbllcnkoaa.permOk Go.Proofs.Ytddppmbllcnkoaa.permOf Go.Proofs.Ytddppmbllcnkoaa.inv Go.Proofs.Ytddppmbllcnkoaa.mat
set_option linter.unusedVariables false
set_option maxRecDepth 100000

end Go.Proofs.Ytddppmbllcnkoaa.fns

/-
  Contracts of CyclesOf, of the program and of the model.
-/
namespace Go.Proofs.Ytddppmbllcnkoaa.fns
open Go.ChangeShapes Go.WideShapes Go.ChangeAt Go.RowKit
open Go.Proofs.Ytddppmbllcnkoaa.mem Go.Proofs.Ytddppmbllcnkoaa.ints Go.Proofs.Ytddppmbllcnkoaa.arr Go.Proofs.Ytddppmbllcnkoaa.pm Go.Proofs.Ytddppmbllcnkoaa.permOk Go.Proofs.Ytddppmbllcnkoaa.permOf Go.Proofs.Ytddppmbllcnkoaa.inv Go.Proofs.Ytddppmbllcnkoaa.mat
set_option linter.unusedVariables false
set_option maxRecDepth 100000

end Go.Proofs.Ytddppmbllcnkoaa.fns

/-
  CuspsOf of the model.
-/
namespace Go.Proofs.Ytddppmbllcnkoaa.orb
open Go.ChangeShapes Go.WideShapes Go.ChangeAt Go.RowKit
open Go.Proofs.Ytddppmbllcnkoaa.mem Go.Proofs.Ytddppmbllcnkoaa.ints Go.Proofs.Ytddppmbllcnkoaa.arr Go.Proofs.Ytddppmbllcnkoaa.pm Go.Proofs.Ytddppmbllcnkoaa.sf Go.Proofs.Ytddppmbllcnkoaa.fns Go.Proofs.Ytddppmbllcnkoaa.permOf
set_option linter.unusedVariables false
set_option maxRecDepth 100000

end Go.Proofs.Ytddppmbllcnkoaa.orb
