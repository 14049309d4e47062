import Derived.Test.YtgcnemkhppkkcaaZ04
import Derived.Test.YtgcnemkhppkkcaaZ19
import Derived.Test.YtgcnemkhppkkcaaZ20
import Derived.Sort.Grow
namespace Go.Proofs.Ytgcnemkhppkkcaa.orb
open Go.ChangeShapes Go.WideShapes Go.ChangeAt Go.RowKit Go.Maps Go.Sort
open mem ints arr pm sf gl
set_option linter.unusedVariables false
set_option maxRecDepth 100000
theorem holds_row {w : World} {base g cap : Nat} {e : TypeId} {l : List Int} (h : w.ownsRow base e 1 (.slice (some ⟨g, 0, none⟩) l.length cap) l.length (V l)) : Holds (Value.int .i64) w g 0 l.toArray := by
  intro j hj
  have hj' : j < l.length := by simpa using hj
  rw [Nat.zero_add]
  refine ⟨?_, h.frozenAt j⟩
  rw [h.cellAt j (by omega), V_getD hj']
  simp [List.getD, hj']
theorem put_heap {w : World} {g n : Nat} {os : Array Obj} {cur : Array Value} {e : TypeId} {fr : Nat × Nat} (d : Array Int) (hb : w.heap[g]? = some (.cells cur e fr)) :
    (grow (putRow (Value.int .i64) (Sort.ahead w n) g 0 d) os).heap[g]? = some (.cells (putCells (Value.int .i64) 0 d cur) e fr) := by
  have hg : g < w.heap.size := (Array.getElem?_eq_some_iff.1 hb).1
  rw [heap_grow_old _ _ (by simpa using hg)]
  simp [putRow, mapBlock, Sort.ahead, Array.getElem?_modify, hb, onCells]
theorem put_grown {w : World} {g n : Nat} {os : Array Obj} (d : Array Int) : w.grownBy (grow (putRow (Value.int .i64) (Sort.ahead w n) g 0 d) os) (some g) := by
  refine ⟨rfl, rfl, rfl, by simp, fun k hk hne => ?_⟩
  rw [heap_grow_old _ _ (by simpa using hk)]
  have : g ≠ k := fun e => hne (by rw [e])
  simp [putRow, mapBlock, Sort.ahead, Array.getElem?_modify, this]
theorem put_own {w : World} {base g cap n : Nat} {e : TypeId} {os : Array Obj} {l m : List Int} (hl : m.length = l.length) (h : w.ownsRow base e 1 (.slice (some ⟨g, 0, none⟩) l.length cap) l.length (V l)) :
    (grow (putRow (Value.int .i64) (Sort.ahead w n) g 0 m.toArray) os).ownsRow base e 1 (.slice (some ⟨g, 0, none⟩) m.length cap) m.length (V m) := by
  rcases h.2 with ⟨h0, _⟩ | ⟨g', cap', cur, q1, q2, q3, q4, q5, q6, q7⟩
  · cases h0
  · injection q1 with e1 e2 e3
    injection e1 with e1
    injection e1 with e1
    subst e1; subst e3
    refine ⟨by simp [V], .inr ⟨g, cap, _, by rw [hl], q2, put_heap _ q3, by omega, q5, by simp [putCells, q6], ?_⟩⟩
    rw [Nat.mul_one]
    apply List.ext_getElem?
    intro j
    by_cases hj : j < m.length
    · rw [List.getElem?_take_of_lt hj, Array.getElem?_toList]
      have : j < cur.size := by omega
      simp [putCells, hj, this, V]
    · rw [List.getElem?_take_eq_none (by omega), List.getElem?_eq_none (by simp [V]; omega)]
theorem grow_none (w : World) : grow w #[] = w := by simp [grow]
theorem sort_desc (l : List Int) : (l.mergeSort fun x y => decide (x ≤ y)).reverse = sortD l := by
  have h1 : (l.mergeSort fun x y => decide (x ≤ y)).Pairwise (fun x y => decide (x ≤ y) = true) := List.pairwise_mergeSort (fun a b c => by simp; omega) (fun a b => by simp; omega) l
  refine List.Perm.eq_of_pairwise (le := fun a b => b ≤ a) (fun a b _ _ h1 h2 => by omega) ?_ (sortD_desc l) ((List.reverse_perm _).trans ((List.mergeSort_perm _ _).trans (sortD_perm l).symm))
  rw [List.pairwise_reverse]
  exact h1.imp (fun {a b} h => by simpa using h)
def frm (L : List Sur) (z : Int) : Sur := L.getD z.toNat ([], [])
theorem frm_at {L : List Sur} {k : Nat} {x : Sur} (h : L[k]? = some x) : frm L (k : Int) = x := by simp [frm, List.getD, h]
theorem fnd_frm {L : List Sur} {x : Sur} (h : x ∈ L) : frm L (fnd L x) = x := by
  obtain ⟨k, h1, h2, h3⟩ := fnd_get h
  rw [h1]; exact frm_at h3
theorem frm_mem {L : List Sur} {z : Int} (h0 : 0 ≤ z) (h1 : z < L.length) : frm L z ∈ L := by
  have : z.toNat < L.length := by omega
  simp [frm, List.getD, this]
theorem frm_inj {L : List Sur} (hn : L.Nodup) {a b : Int} (a0 : 0 ≤ a) (a1 : a < L.length) (b0 : 0 ≤ b) (b1 : b < L.length) (h : frm L a = frm L b) : a = b := by
  have ha : L[a.toNat]? = some (frm L a) := by have : a.toNat < L.length := by omega
                                               simp [frm, List.getD, this]
  have hb : L[b.toNat]? = some (frm L b) := by have : b.toNat < L.length := by omega
                                               simp [frm, List.getD, this]
  rw [← h] at hb
  have := nd_at hn ha hb
  omega
theorem spGo_min {x : Sur} {m : Nat} (hm : cn (shN m x) = cn x) : ∀ (f k : Nat), k ≤ m → m ≤ k + f → (∀ j, k ≤ j → j < m → ¬ cn (shN j x) = cn x) → spGo x f k = m
  | 0, k, h1, h2, _ => by show k = m; omega
  | f + 1, k, h1, h2, h3 => by
    by_cases e : k = m
    · subst e; exact spGo_yes hm
    · rw [spGo_no (h3 k (Nat.le_refl _) (by omega))]
      exact spGo_min hm f (k + 1) (by omega) (by omega) (fun j a b => h3 j (by omega) b)
section
variable {n N : Nat} {s : Sur} {q : LW} (hs : Sf n s.1 s.2) (h : Oj n s q.1.length q) (hN : q.1.length = N)
include hs h hN
theorem sh_it (hsf : ∀ x ∈ q.1, Sf n x.1 x.2) {i : Nat} (hi : i < N) : ∀ j, 0 ≤ it (pL q.1) i j ∧ it (pL q.1) i j < N ∧ cn (shN j (frm q.1 i)) = frm q.1 (it (pL q.1) i j) := by
  subst hN
  have bj := pL_bij hs h
  have hx : frm q.1 i ∈ q.1 := frm_mem (by omega) (by omega)
  intro j
  induction j with
  | zero => exact ⟨by show (0 : Int) ≤ i; omega, by show (i : Int) < _; omega, h.fix hs hx⟩
  | succ j ih =>
    obtain ⟨a, b, c⟩ := ih
    have hm := frm_mem (L := q.1) a b
    have e1 : cn (shN (j + 1) (frm q.1 i)) = stp 84 (frm q.1 (it (pL q.1) i j)) := by
      rw [← cn_sh (hsf _ hx) j, c]; rfl
    have hst := h.step (c := 84) (.inl rfl) hm
    have e2 : it (pL q.1) i (j + 1) = fnd q.1 (stp 84 (frm q.1 (it (pL q.1) i j))) := by
      show (pL q.1).getD (it (pL q.1) i j).toNat 0 = _
      have hl : (it (pL q.1) i j).toNat < q.1.length := by omega
      have hg : q.1[(it (pL q.1) i j).toNat]? = some (frm q.1 (it (pL q.1) i j)) := by simp [frm, List.getD, hl]
      rw [List.getD_eq_getElem?_getD, pL_at hg]; rfl
    obtain ⟨k, h1, h2, h3⟩ := fnd_get hst
    refine ⟨by rw [e2, h1]; omega, by rw [e2, h1]; omega, ?_⟩
    rw [e1, e2, fnd_frm hst]
theorem cyc_sp (hsf : ∀ x ∈ q.1, Sf n x.1 x.2) (h120 : N ≤ 1000) {i : Nat} (hi : i < N) : spGo (frm q.1 i) 16777216 1 = (cyc (pL q.1) N i).length ∧ (cyc (pL q.1) N i).length ≤ N ∧ ∀ j, j < (cyc (pL q.1) N i).length → (cyc (pL q.1) N i).getD j 0 = it (pL q.1) i j := by
  have bj := pL_bij hs h
  rw [hN] at bj
  have hw := cyc_way (f := (i : Int)) bj (by omega) (by omega)
  have hit := way_it hw
  have hl := way_last hw
  have hle := hw.inn.len
  have hpos : 0 < (cyc (pL q.1) N i).length := hw.pos
  have S := sh_it hs h hN hsf hi
  refine ⟨spGo_min ?_ _ _ (by omega) (by omega) ?_, hle, hit⟩
  · rw [(S _).2.2, ← hl]
    have := (S 0).2.2
    exact this.symm
  · intro j h1 h2 he
    have e0 := (S 0).2.2
    have ej := (S j).2.2
    have e1 : frm q.1 (it (pL q.1) i j) = frm q.1 (i : Int) := by
      rw [← ej, he]
      exact e0
    have e2 := frm_inj h.nd (S j).1 (by rw [hN]; exact (S j).2.1) (by omega) (by omega) e1
    have e3 := hit j h2
    have e4 := hit 0 hpos
    rw [e2] at e3
    have e5 : it (pL q.1) i 0 = (i : Int) := rfl
    rw [e5] at e4
    have := nodup_getD hw.inn.nd h2 hpos (by rw [e3, e4])
    omega
end
structure Cz (w1 wr : World) (mp n : Nat) (ms : List Fd) (v : Value) (ws : List Int) : Prop where
  map : ∃ D : DataW Unit, wr.ownsMap sqp.prog 62 (plainElem sqp.prog 4) mp ms.length D ∧ Kb D (ms.map (fdK n))
  own : wr.ownsRow w1.heap.size 3 1 v ws.length (V ws)
  bel : Below w1.heap.size w1 wr
  lo : w1.heap.size ≤ mp
  ne : ¬ v.ownBlock = some mp
theorem own_stay {w w' : World} {base n : Nat} {v : Value} {xs : List Value} {e : TypeId} {size : Nat} (h : w.ownsRow base e size v n xs) (hb : ∀ b, v.ownBlock = some b → w'.heap[b]? = w.heap[b]?) : w'.ownsRow base e size v n xs := by
  refine ⟨h.1, ?_⟩
  rcases h.2 with h0 | ⟨g, cap, cur, h1, h2, h3, h4⟩
  · exact .inl h0
  · exact .inr ⟨g, cap, cur, h1, h2, by rw [hb g (by rw [h1]; rfl)]; exact h3, h4⟩
theorem map_stay {w w' : World} {mp m : Nat} {D : DataW Unit} (h : w.ownsMap sqp.prog 62 (plainElem sqp.prog 4) mp m D) (hb : w'.heap[mp]? = w.heap[mp]?) : w'.ownsMap sqp.prog 62 (plainElem sqp.prog 4) mp m D := by
  obtain ⟨es, cl, e1, e2⟩ := h
  exact ⟨es, cl, hb.trans e1, e2⟩
theorem Cz.mlt {w1 wr : World} {mp n : Nat} {ms : List Fd} {v : Value} {ws : List Int} (h : Cz w1 wr mp n ms v ws) : mp < wr.heap.size := by
  obtain ⟨D, hD, _⟩ := h.map
  exact hD.lt
theorem Cz.keep {w1 wr w' : World} {mp n : Nat} {ms : List Fd} {v : Value} {ws : List Int} (h : Cz w1 wr mp n ms v ws) (hb : Below wr.heap.size wr w') : Cz w1 w' mp n ms v ws := by
  have hl := h.mlt
  obtain ⟨D, hD, hk⟩ := h.map
  exact ⟨⟨D, map_stay hD (hb.block _ hl), hk⟩, own_stay h.own (fun b e => hb.block _ (h.own.lt b e).2), h.bel.trans (hb.mono h.bel.size), h.lo, h.ne⟩
def mt (L : List Sur) (zs : List Int) : List Fd := zs.map fun z => ((frm L z, 0, 0) : Fd)
theorem mt_app (L : List Sur) (a b : List Int) : mt L (a ++ b) = mt L a ++ mt L b := by simp [mt]
theorem mt_fst (L : List Sur) (zs : List Int) : (mt L zs).map Prod.fst = zs.map (frm L) := by simp [mt, Function.comp_def]
theorem mt_mem {L : List Sur} (hn : L.Nodup) {zs : List Int} (hz : In L.length zs) {k : Nat} (hk : k < L.length) : frm L k ∈ (mt L zs).map Prod.fst ↔ (k : Int) ∈ zs := by
  rw [mt_fst, List.mem_map]
  constructor
  · rintro ⟨z, h1, h2⟩
    have := frm_inj hn (hz.lo z h1) (hz.hi z h1) (b := (k : Int)) (by omega) (by omega) h2
    rw [← this]; exact h1
  · exact fun h => ⟨k, h, rfl⟩
theorem fs_at {s : Sur} {n : Nat} : ∀ {K j : Nat}, j < K → ∀ (t : Nat) v, (V (gS (cn (shN j s)) n))[t]? = some v → (fs s n K)[j * 49 + t]? = some v
  | 0, _, h, _, _, _ => by omega
  | K + 1, j, h, t, v, hv => by
    have ht : t < 49 := by have := (List.getElem?_eq_some_iff.1 hv).1; rwa [V_len, gS_len] at this
    rw [fs_succ]
    by_cases e : j = K
    · subst e
      rw [List.getElem?_append_right (by rw [fs_len]; omega), fs_len, show j * 49 + t - j * 49 = t by omega]
      exact hv
    · rw [List.getElem?_append_left (by rw [fs_len]; omega)]
      exact fs_at (by omega) t v hv
theorem fs_mem {w : World} {B n K cp : Nat} {s : Sur} {A : Option Addr} (h : w.ownsRow B 62 49 (.slice A K cp) K (fs s n K)) (h0 : 0 < K) :
    ∃ g, A = some ⟨g, 0, none⟩ ∧ B ≤ g ∧ g < w.heap.size ∧ ∀ (j : Nat), j < K → ∀ (t : Nat) v, (V (gS (cn (shN j s)) n))[t]? = some v → w.cell? ⟨g, j * 49 + t, none⟩ = some v := by
  rcases h.2 with ⟨_, q⟩ | ⟨g, cap, cur, q1, q2, q3, q4, q5, q6, q7⟩
  · omega
  · injection q1 with e1 e2 e3
    refine ⟨g, e1, q2, ?_, fun j hj t v hv => ?_⟩
    · rcases Nat.lt_or_ge g w.heap.size with hlt | hge
      · exact hlt
      · rw [Array.getElem?_eq_none hge] at q3; cases q3
    have h1 := fs_at (K := K) hj t v hv
    rw [cell_of_row w g _ cur _ _ q3]
    have h2 : (List.take (K * 49) cur.toList)[j * 49 + t]? = some v := by rw [q7]; exact h1
    rw [List.getElem?_take] at h2
    split at h2
    · simpa using h2
    · cases h2
theorem cyc_gS (s : Sur) (n : Nat) (G : List Int) (hG : gS s n = G) (w : World) (hs : Sf n s.1 s.2) :
    Calls sqp.prog 58 #[.agg (V G).toArray] w fun e w' => ∃ A k c, e = .returned (.slice A k c) ∧ spGo s 16777216 1 = k ∧ k ≤ 16777216 ∧ w'.ownsRow w.heap.size 62 49 (.slice A k c) k (fs s n k) ∧ Below w.heap.size w w' := by
  subst hG
  exact shearCycle_any s.1 s.2 n w hs
theorem cuC_pos {L : List Sur} (hb : Bij L.length (pL L)) (h : 0 < L.length) : 0 < (cuC L L.length).length := by
  have c := cso_cs hb L.length (Nat.le_refl _)
  unfold cuC
  rw [List.length_map]
  rcases Nat.eq_zero_or_pos (cso (pL L) L.length L.length).length with z | z
  · have := c.all 0 h
    rw [List.eq_nil_of_length_eq_zero z] at this
    simp at this
  · exact z
theorem cuL_lim (r u : List Int) : (cuL r u).length ≤ 1048576 := by
  unfold cuL
  split
  · rename_i h
    cases hF : orbF r u with
    | none => rw [(orbL_none hF).2] at h; cases h
    | some q =>
      obtain ⟨s, oi, l⟩ := orbF_inv hF
      have ho : orb (r, u) = some q := by unfold orbF at hF; split at hF; exact hF; cases hF
      rw [(orbL_some hF).1]
      have := cuC_len (pL_bij (s := (r, u)) s (orb_oj (s := (r, u)) s ho)) (Nat.le_refl _)
      rw [(sortD_perm _).length_eq]
      omega
  · simp
theorem own_pos {w : World} {base n c : Nat} {A : Option Addr} {e : TypeId} {xs : List Value} (h : w.ownsRow base e 1 (.slice A n c) n xs) (h0 : 0 < n) : ∃ g, A = some ⟨g, 0, none⟩ ∧ base ≤ g ∧ g < w.heap.size := by
  rcases h.2 with ⟨_, q⟩ | ⟨g, cap, cur, q1, _⟩
  · omega
  · injection q1 with q1
    subst q1
    have := h.lt g rfl
    exact ⟨g, rfl, this⟩
set_option maxHeartbeats 8000000 in
theorem cu_impl (v : Value) (r u : List Int) (hi : Nat) (w : World) (hx : Srd w hi v r u) (hn : r.length ≤ 1048576) (hm : u.length ≤ 1048576) :
    Calls sqp.prog 24 #[v] w (CUPost r u w) := by
  have HX := Lib.hid hx
  obtain ⟨P, n, c, Q, m, d, rfl, q1, q2, e1, e2, ht, HR⟩ := hx.open
  have L1 := Lib.hid q1
  clear hx q1 q2 HR
  obtain ⟨i0, hi0, hz0, hz1, hz2⟩ := info_parts infoI
  go_enter sqp.func24, sqp.ntmps24
  go_wp2_with fail
  refine (orbitOf_any _ r u hi _ (HX.out.keep ((Below.refl hi w).alloc ht _) (Nat.le_refl _)) hn hm).mono ?_
  rintro e w1 ⟨b1, h⟩
  have B1 := Lib.hid (below1 _ _ b1); clear b1
  rcases h with ⟨h1, h2, A, cp, rfl, h3⟩ | ⟨h1, rfl⟩
  · have FM0 := Lib.hid (Fm.of h3 rfl (finds_pos (r, u)))
    have HP := finds_pos (r, u)
    obtain ⟨q, a1, a2, a3, a4, a5, a6⟩ := fin_open h1 h2
    obtain ⟨z1, z2, z3⟩ := orbF_inv a1
    have HOB := (by rw [← orbF_yes h1]; exact a1 : orb (r, u) = some q)
    have JJ := orb_oj (s := (r, u)) z1 HOB
    have SR := Lib.hid (show Sf r.length (r, u).1 (r, u).2 from z1)
    have BJ0 := pL_bij (s := (r, u)) z1 JJ
    have HF0 := cuL_yes a4
    have EL : q.1 = (finds (r, u)).map Prod.fst := a2.fst
    rw [a3, ← EL] at HF0
    have HB := Lib.hid a4
    have HLEN : q.1.length = (finds (r, u)).length := by rw [EL, List.length_map]
    have HSF := Lib.hid a5.sf
    clear h3 h1 a1 a2 a3 a4 a5 a6 z2 z3 HOB
    generalize finds (r, u) = xs at *
    obtain ⟨N, hN⟩ : ∃ N, xs.length = N := ⟨_, rfl⟩
    rw [hN] at h2 HP HLEN ⊢
    rw [L1.out] at FM0 SR JJ HSF
    rw [HLEN] at HF0 BJ0
    have LN := Lib.hid hN; have EQL := Lib.hid EL; have QL := Lib.hid HLEN; have JO := Lib.hid JJ; have BJ := Lib.hid BJ0; have HF := Lib.hid HF0; have FM := FM0
    have ND := Lib.hid JJ.nd
    clear hN EL HLEN JJ BJ0 HF0 FM0 z1
    have hmm := @run_makeMap sqp.prog
    go_wp2
    have CZ0 : Hid (Cz w1 (w1.alloc (.map #[] 0)) w1.heap.size n (mt q.1 (cso (pL q.1) N 0).flatten) (.slice none 0 0) (cuC q.1 0)) := Lib.hid
      ⟨⟨.map [], World.ownsMap_made _ _ _ _, Kb.empty⟩, World.ownsRow_nil _ _ _ _, (Below.refl _ _).alloc (Nat.le_refl _) _, Nat.le_refl _, by simp [Value.ownBlock]⟩
    obtain ⟨mp, hmp⟩ : ∃ mp, mp = w1.heap.size := ⟨_, rfl⟩
    rw [← hmp] at CZ0 ⊢
    clear hmp hmm
    go_loopw [7, 23] (fun v i wr => ∃ k : Nat, k ≤ N ∧ i = .int .i64 k ∧ Cz w1 wr mp n (mt q.1 (cso (pL q.1) N k).flatten) v (cuC q.1 k)) (fun _ i _ => N - (intOf i).toNat)
    case atStart => exact ⟨0, Nat.zero_le _, rfl, CZ0.out⟩
    case round =>
      obtain ⟨k, hk, rfl, hcz⟩ := hrel
      obtain ⟨C, cc, e7⟩ := own_form hcz.own
      subst e7
      have CZ := Lib.hid hcz; clear hcz CZ0
      have hsz := CZ.out.bel.size
      have hlm := CZ.out.mlt
      have hlo := CZ.out.lo
      by_cases hlt : k < N
      · obtain ⟨x, hxk⟩ : ∃ x, xs[k]? = some x := ⟨_, List.getElem?_eq_getElem (by rw [LN.out]; exact hlt)⟩
        obtain ⟨g, rfl, hg, hc⟩ := FM.out k x hxk
        have hqk : q.1[k]? = some x.1 := by rw [EQL.out]; simp [hxk]
        have FX : Hid (frm q.1 k = x.1) := Lib.hid (frm_at hqk)
        have SX := Lib.hid (HSF.out x.1 (List.mem_of_getElem? hqk))
        have PX : Hid (∀ (j : Nat) v, (V (fdL x.1 n x.2.1 x.2.2))[j]? = some v → wr.cell? ⟨g, k * 51 + j, none⟩ = some v) := Lib.hid (fun j v hv => by rw [CZ.out.bel.cell (p := ⟨g, k * 51 + j, none⟩) hg]; exact hc j v hv)
        have L51 := fdL_len x.1 n x.2.1 x.2.2
        have L49 := gS_len x.1 n
        have FP : Hid (∀ (j : Nat) v, (V (gS x.1 n))[j]? = some v → (V (fdL x.1 n x.2.1 x.2.2))[j]? = some v) := Lib.hid (fun j v h => part_find _ _ _ _ j v h)
        have KF : Hid (keyOf sqp.prog 62 (.agg (V (gS x.1 n)).toArray) = some (kG (gS x.1 n))) := Lib.hid (key_fd SX.out)
        have CS := Lib.hid (cso_cs BJ.out k hk)
        have MK : Hid (kG (gS x.1 n) ∈ (mt q.1 (cso (pL q.1) N k).flatten).map (fdK n) ↔ (k : Int) ∈ (cso (pL q.1) N k).flatten) := Lib.hid (by
          rw [mem_keys SX.out (fun y hy => by
            obtain ⟨z, hz, rfl⟩ := List.mem_map.1 hy
            exact HSF.out _ (frm_mem (CS.out.inn.lo z hz) (by rw [QL.out]; exact CS.out.inn.hi z hz))), ← FX.out]
          exact mt_mem ND.out (by rw [QL.out]; exact CS.out.inn) (by rw [QL.out]; exact hlt))
        have GX : Hid (gS x.1 n = gS x.1 n) := Lib.hid rfl
        clear hxk hc hqk
        generalize hLX : fdL x.1 n x.2.1 x.2.2 = LX at *
        clear hLX
        generalize hG : gS x.1 n = G at *
        have HG := Lib.hid hG; clear hG GX
        obtain ⟨D, hD, hKb⟩ := CZ.out.map
        by_cases hin : (k : Int) ∈ (cso (pL q.1) N k).flatten
        · have HT : Hid (D.atKey (kG G) (.lit (.bool false)) = .lit (.bool true)) := Lib.hid (hKb.yes _ (MK.out.2 hin))
          have EM : Hid (cso (pL q.1) N (k + 1) = cso (pL q.1) N k) := Lib.hid (by rw [cso, if_pos hin])
          have EW : Hid (cuC q.1 (k + 1) = cuC q.1 k) := Lib.hid (cuC_same (by rw [QL.out]; exact hin))
          clear hin hKb MK
          go_wp2_with (first | (refine wpList_load_part rfl 65 _ rfl g (k * 51) rfl (V LX) _ PX.out sqp.underlying65 rfl (by rw [size51 L51]; simp) ?_) | (refine wpList_store_row rfl 65 _ _ rfl wr.heap.size (V LX).toArray rfl rfl 65 (V zero51).toArray (Arr.new wr (V zero51) _ rfl) (size51 L51) (by simp [V_len, L51, zero51]) (one_V _) ?_; generalize hw6 : (wr.alloc (.cells #[.int .i64 0, .int .i64 0, .int .i64 0, .int .i64 0, .int .i64 0, .int .i64 0, .int .i64 0, .int .i64 0, .int .i64 0, .int .i64 0, .int .i64 0, .int .i64 0, .int .i64 0, .int .i64 0, .int .i64 0, .int .i64 0, .int .i64 0, .int .i64 0, .int .i64 0, .int .i64 0, .int .i64 0, .int .i64 0, .int .i64 0, .int .i64 0, .int .i64 0, .int .i64 0, .int .i64 0, .int .i64 0, .int .i64 0, .int .i64 0, .int .i64 0, .int .i64 0, .int .i64 0, .int .i64 0, .int .i64 0, .int .i64 0, .int .i64 0, .int .i64 0, .int .i64 0, .int .i64 0, .int .i64 0, .int .i64 0, .int .i64 0, .int .i64 0, .int .i64 0, .int .i64 0, .int .i64 0, .int .i64 0, .int .i64 0, .int .i64 0, .int .i64 0] 65)).setRow wr.heap.size (V LX).toArray = w6; have A6 : Hid (Arr w6 wr.heap.size (V LX) 65) := Lib.hid (by rw [← hw6]; exact (Arr.new wr (V zero51) _ rfl).row); have b6 : Below wr.heap.size wr w6 := (by rw [← hw6]; exact arr.below_setRow ((Below.refl _ _).alloc (Nat.le_refl _) _) (Nat.le_refl _) _); have t6 : wr.heap.size + 1 ≤ w6.heap.size := (by rw [← hw6]; simp); clear hw6; have HD : Hid (w6.ownsMap sqp.prog 62 (plainElem sqp.prog 4) mp (mt q.1 (cso (pL q.1) N k).flatten).length D) := Lib.hid (map_stay hD (b6.block _ hlm)); have P6 : Hid (∀ (j : Nat) v, (V G)[j]? = some v → w6.cell? ⟨wr.heap.size, 0 + j, none⟩ = some v) := Lib.hid (fun j v h => by rw [Nat.zero_add]; exact A6.out.cell (FP.out j v h)); have C6 := Lib.hid (CZ.out.keep b6); clear b6 hD) | (refine wpList_load_part rfl 62 _ rfl wr.heap.size 0 rfl (V G) _ P6.out sqp.underlying62 rfl (size49 L49) ?_) | (refine wpList_lookup_own_bool _ rfl _ _ 89 rfl 62 4 lawG sqp.underlying89 sqp.underlying4 (by kernel_rfl) mp _ D rfl HD.out _ _ rfl KF.out true HT.out ?_))
          go_roundw
          case rel => exact ⟨k + 1, by omega, by go_num, by rw [EM.out, EW.out]; exact C6.out⟩
          case measure => simp [intOf]; omega
        · have HT : Hid (D.atKey (kG G) (.lit (.bool false)) = .lit (.bool false)) := Lib.hid (hKb.no _ (fun e => hin (MK.out.1 e)))
          have KB := Lib.hid hKb
          have EM : Hid (cso (pL q.1) N (k + 1) = cso (pL q.1) N k ++ [cyc (pL q.1) N k]) := Lib.hid (by rw [cso, if_neg hin])
          have EW : Hid (cuC q.1 (k + 1) = cuC q.1 k ++ [((cyc (pL q.1) N (k : Int)).length : Int)]) := Lib.hid (by have := cuC_next (L := q.1) (k := k) (by rw [QL.out]; exact hin); rwa [QL.out] at this)
          have CY := Lib.hid (cyc_sp (s := (r, u)) SR.out JO.out QL.out HSF.out (by omega) hlt)
          have SI := Lib.hid (sh_it (s := (r, u)) SR.out JO.out QL.out HSF.out hlt)
          have CPOS : 0 < (cyc (pL q.1) N (k : Int)).length := (cyc_way (f := (k : Int)) BJ.out (by omega) (by omega)).pos
          rw [FX.out] at CY SI
          clear hin hKb MK
          go_wp2_with (first | (refine wpList_load_part rfl 65 _ rfl g (k * 51) rfl (V LX) _ PX.out sqp.underlying65 rfl (by rw [size51 L51]; simp) ?_) | (refine wpList_store_row rfl 65 _ _ rfl wr.heap.size (V LX).toArray rfl rfl 65 (V zero51).toArray (Arr.new wr (V zero51) _ rfl) (size51 L51) (by simp [V_len, L51, zero51]) (one_V _) ?_; generalize hw6 : (wr.alloc (.cells #[.int .i64 0, .int .i64 0, .int .i64 0, .int .i64 0, .int .i64 0, .int .i64 0, .int .i64 0, .int .i64 0, .int .i64 0, .int .i64 0, .int .i64 0, .int .i64 0, .int .i64 0, .int .i64 0, .int .i64 0, .int .i64 0, .int .i64 0, .int .i64 0, .int .i64 0, .int .i64 0, .int .i64 0, .int .i64 0, .int .i64 0, .int .i64 0, .int .i64 0, .int .i64 0, .int .i64 0, .int .i64 0, .int .i64 0, .int .i64 0, .int .i64 0, .int .i64 0, .int .i64 0, .int .i64 0, .int .i64 0, .int .i64 0, .int .i64 0, .int .i64 0, .int .i64 0, .int .i64 0, .int .i64 0, .int .i64 0, .int .i64 0, .int .i64 0, .int .i64 0, .int .i64 0, .int .i64 0, .int .i64 0, .int .i64 0, .int .i64 0, .int .i64 0] 65)).setRow wr.heap.size (V LX).toArray = w6; have A6 : Hid (Arr w6 wr.heap.size (V LX) 65) := Lib.hid (by rw [← hw6]; exact (Arr.new wr (V zero51) _ rfl).row); have b6 : Below wr.heap.size wr w6 := (by rw [← hw6]; exact arr.below_setRow ((Below.refl _ _).alloc (Nat.le_refl _) _) (Nat.le_refl _) _); have t6 : wr.heap.size + 1 ≤ w6.heap.size := (by rw [← hw6]; simp); clear hw6; have HD : Hid (w6.ownsMap sqp.prog 62 (plainElem sqp.prog 4) mp (mt q.1 (cso (pL q.1) N k).flatten).length D) := Lib.hid (map_stay hD (b6.block _ hlm)); have P6 : Hid (∀ (j : Nat) v, (V G)[j]? = some v → w6.cell? ⟨wr.heap.size, 0 + j, none⟩ = some v) := Lib.hid (fun j v h => by rw [Nat.zero_add]; exact A6.out.cell (FP.out j v h)); have C6 := Lib.hid (CZ.out.keep b6); clear b6 hD) | (refine wpList_load_part rfl 62 _ rfl wr.heap.size 0 rfl (V G) _ P6.out sqp.underlying62 rfl (size49 L49) ?_) | (refine wpList_lookup_own_bool _ rfl _ _ 89 rfl 62 4 lawG sqp.underlying89 sqp.underlying4 (by kernel_rfl) mp _ D rfl HD.out _ _ rfl KF.out false HT.out ?_))
          refine (cyc_gS x.1 n G HG.out _ SX.out).mono ?_
          rintro e w7 ⟨A7, K, c7, rfl, hK, _, o7, b7⟩
          rw [CY.out.1] at hK
          have C7 := Lib.hid (C6.out.keep b7)
          have KN : K ≤ N := by rw [← hK]; exact CY.out.2.1
          have K0 : 0 < K := by rw [← hK]; exact CPOS
          obtain ⟨g7, e7, hg7, hg7', hc7⟩ := fs_mem o7 K0
          subst e7
          have FC : Hid (∀ W, Out mp (mp + 1) w7 W → ∀ (j : Nat), j < K → ∀ (t : Nat) v, (V (gS (cn (shN j x.1)) n))[t]? = some v → W.cell? ⟨g7, j * 49 + t, none⟩ = some v) := Lib.hid (fun W hW j hj t v hv => by
            rw [World.cell?_of_block (w := w7) (a := ⟨g7, j * 49 + t, none⟩) (hW.block g7 hg7' (.inr (by have := C6.out.mlt; omega)))]
            exact hc7 j hj t v hv)
          have HD7 : Hid (w7.ownsMap sqp.prog 62 (plainElem sqp.prog 4) mp (mt q.1 (cso (pL q.1) N k).flatten).length D) := Lib.hid (map_stay HD.out (b7.block _ C6.out.mlt))
          have s7 := b7.size
          have hlm7 := C7.out.mlt
          clear b7 o7 hc7 HT HD P6 C6 CZ PX FP
          generalize hcy : cyc (pL q.1) N (k : Int) = cy at *
          generalize hms : mt q.1 (cso (pL q.1) N k).flatten = ms at *
          have HCY := Lib.hid hcy; have HMS := Lib.hid hms; have HK := Lib.hid hK
          clear hcy hms hK
          have ML : ms.length ≤ 100000 := by
            rw [← HMS.out]; unfold mt; rw [List.length_map]; have := CS.out.inn.len; omega
          obtain ⟨wo, hwo⟩ : ∃ wo : World, wo = w7 := ⟨_, rfl⟩
          rw [← hwo] at FC C7 HD7 s7 hlm7 hg7'
          subst hwo
          go_wp2
          go_loopw [36] (fun i wr => ∃ j : Nat, j ≤ K ∧ i = .int .i64 j ∧ Out mp (mp + 1) wo wr ∧ ∃ D : DataW Unit, wr.ownsMap sqp.prog 62 (plainElem sqp.prog 4) mp (ms.length + j) D ∧ Kb D ((ms ++ mt q.1 (cy.take j)).map (fdK n))) (fun i _ => K - (intOf i).toNat)
          case atStart => exact ⟨0, Nat.zero_le _, rfl, Out.refl _ _ _, D, HD7.out, by simpa [mt] using KB.out⟩
          case round =>
            obtain ⟨j, hj, rfl, hout, D2, hD2, hK2⟩ := hrel
            have OU := Lib.hid hout; clear hout
            have hso := OU.out.size
            have hlm8 := hD2.lt
            by_cases hjl : j < K
            · have hcj : cy[j]? = some (it (pL q.1) k j) := by
                have hjc : j < cy.length := by rw [HK.out]; exact hjl
                have := CY.out.2.2 j hjc
                rw [← this]
                simp [List.getD, hjc]
              obtain ⟨y, hy⟩ : ∃ y, frm q.1 (it (pL q.1) k j) = y := ⟨_, rfl⟩
              have HY : Hid (cn (shN j x.1) = y) := Lib.hid (by rw [← hy]; exact (SI.out j).2.2)
              have SY : Hid (Sf n y.1 y.2) := Lib.hid (by rw [← hy]; exact HSF.out _ (frm_mem (SI.out j).1 (by rw [QL.out]; exact (SI.out j).2.1)))
              have TK : Hid (mt q.1 (cy.take (j + 1)) = mt q.1 (cy.take j) ++ [(y, 0, 0)]) := Lib.hid (by
                rw [List.take_add_one, hcj, mt_app, ← hy]; rfl)
              have PY : Hid (∀ (t : Nat) v, (V (gS y n))[t]? = some v → wr.cell? ⟨g7, j * 49 + t, none⟩ = some v) := Lib.hid (fun t v hv => FC.out wr OU.out j hjl t v (by rw [HY.out]; exact hv))
              have M49 := gS_len y n
              have KY : Hid (keyOf sqp.prog 62 (.agg (V (gS y n)).toArray) = some (kG (gS y n))) := Lib.hid (key_fd SY.out)
              have HD2 := Lib.hid hD2; have HK2 := Lib.hid hK2
              have IK : Hid (WideAt.IsKeyLit (kG (gS y n))) := Lib.hid trivial
              have FK : Hid (fdK n (y, 0, 0) = kG (gS y n)) := Lib.hid rfl
              clear hcj hy hD2 hK2
              generalize gS y n = Y at *
              go_wp2_with (first | (refine wpList_load_part rfl 62 _ rfl g7 (j * 49) rfl (V Y) _ PY.out sqp.underlying62 rfl (size49 M49) ?_) | (refine wpList_store_row rfl 62 _ _ rfl wr.heap.size (V Y).toArray rfl rfl 62 (V zero49).toArray (Arr.new wr (V zero49) _ rfl) (size49 M49) (by simp [V_len, M49, zero49]) (one_V _) ?_; generalize hw8 : (wr.alloc (.cells #[.int .i64 0, .int .i64 0, .int .i64 0, .int .i64 0, .int .i64 0, .int .i64 0, .int .i64 0, .int .i64 0, .int .i64 0, .int .i64 0, .int .i64 0, .int .i64 0, .int .i64 0, .int .i64 0, .int .i64 0, .int .i64 0, .int .i64 0, .int .i64 0, .int .i64 0, .int .i64 0, .int .i64 0, .int .i64 0, .int .i64 0, .int .i64 0, .int .i64 0, .int .i64 0, .int .i64 0, .int .i64 0, .int .i64 0, .int .i64 0, .int .i64 0, .int .i64 0, .int .i64 0, .int .i64 0, .int .i64 0, .int .i64 0, .int .i64 0, .int .i64 0, .int .i64 0, .int .i64 0, .int .i64 0, .int .i64 0, .int .i64 0, .int .i64 0, .int .i64 0, .int .i64 0, .int .i64 0, .int .i64 0, .int .i64 0] 62)).setRow wr.heap.size (V Y).toArray = w8; have A8 : Hid (Arr w8 wr.heap.size (V Y) 62) := Lib.hid (by rw [← hw8]; exact (Arr.new wr (V zero49) _ rfl).row); have b8 : Below wr.heap.size wr w8 := (by rw [← hw8]; exact arr.below_setRow ((Below.refl _ _).alloc (Nat.le_refl _) _) (Nat.le_refl _) _); have t8 : wr.heap.size + 1 ≤ w8.heap.size := (by rw [← hw8]; simp); clear hw8; have D8 : Hid (w8.ownsMap sqp.prog 62 (plainElem sqp.prog 4) mp (ms.length + j) D2) := Lib.hid (map_stay HD2.out (b8.block _ hlm8)); have O8 : Hid (Out mp (mp + 1) wo w8) := Lib.hid (OU.out.trans (Out.of_below b8)); clear b8) | (refine wpList_load_row rfl 62 _ rfl wr.heap.size rfl 62 (V Y).toArray (0, 0) _ A8.out sqp.underlying62 rfl (size49 M49) ?_) | (at_mapUpdate; refine wpList_mapUpdate_own _ rfl _ _ _ 89 rfl 62 4 lawG sqp.underlying89 (plainElem sqp.prog 4) mp (ms.length + j) D2 rfl D8.out (by unfold maxLen; omega) _ _ (kG Y) rfl rfl KY.out (.lit (.bool true)) [] (plainElem_bool sqp.underlying4 true) ?_; intro w9 hown9 hgrow9; have D9 := Lib.hid hown9; have O9 : Hid (Out mp (mp + 1) wo w9) := Lib.hid (O8.out.trans ⟨hgrow9.os, hgrow9.tape, hgrow9.output, hgrow9.size, fun k h1 h2 => hgrow9.block k h1 (by simp; omega)⟩); clear hown9 hgrow9))
              go_roundw
              case rel => exact ⟨j + 1, by omega, by go_num, O9.out, _, D9.out, by rw [TK.out, ← List.append_assoc, List.map_append, List.map_cons, List.map_nil, FK.out]; exact HK2.out.put IK.out⟩
              case measure => simp [intOf]; omega
            · have hjK : j = K := by omega
              subst hjK
              have TA : Hid (cy.take j = cy) := Lib.hid (List.take_of_length_le (by rw [HK.out]; exact Nat.le_refl _))
              have HD2 := Lib.hid hD2; have HK2 := Lib.hid hK2
              have OW : Hid (wr.ownsRow w1.heap.size 3 1 (.slice C (cuC q.1 k).length cc) (cuC q.1 k).length (V (cuC q.1 k))) := Lib.hid (own_stay C7.out.own (fun b e => OU.out.block b (C7.out.own.lt b e).2 (by
                have : b ≠ mp := fun h => C7.out.ne (by rw [e, h])
                omega)))
              have BW : Hid (Below w1.heap.size w1 wr) := Lib.hid (C7.out.bel.trans (OU.out.below C7.out.lo C7.out.bel.size))
              have hbw := BW.out.size
              have hcl : (cuC q.1 k).length ≤ 1000 := by have := cuC_len (L := q.1) (k := k) (by rw [QL.out]; exact BJ.out) (by rw [QL.out]; exact hk); omega
              have MS : Hid (mt q.1 (cso (pL q.1) N (k + 1)).flatten = ms ++ mt q.1 cy) := Lib.hid (by rw [EM.out, List.flatten_append, mt_app, HMS.out]; simp)
              have LC : Hid ((ms ++ mt q.1 cy).length = ms.length + j) := Lib.hid (by rw [List.length_append]; unfold mt; rw [List.length_map, HK.out])
              have CL : Hid ((cy.length : Int) = j) := Lib.hid (by rw [HK.out])
              rw [TA.out] at HK2
              clear hD2 hK2
              go_wp2_with (at_builtin; refine wpList_append_one2 wr _ _ rfl _ _ 23 rfl w1.heap.size 3 i0 _ 8 1 sqp.underlying23 hi0 hz0 hz1 rfl hz2 rfl _ _ _ rfl OW.out rfl rfl ?c4 (by decide) (by omega) ?_)
              case c4 => omega
              intro v' w' ho hg hb'
              have HN : Hid (Cz w1 w' mp n (mt q.1 (cso (pL q.1) N (k + 1)).flatten) v' (cuC q.1 (k + 1))) := Lib.hid (by
                rw [MS.out, EW.out, CL.out]
                refine ⟨⟨D2, ?_, HK2.out⟩, by simpa [V] using ho, BW.out.trans ((Below.refl _ _).grown hg (by omega) (fun b' e => (OW.out.lt b' e).1)), C7.out.lo, fun e => ?_⟩
                · rw [LC.out]
                  exact map_stay HD2.out (hg.block mp HD2.out.lt (fun e => C7.out.ne e.symm))
                · rcases hb' with q' | ⟨k', q', hk'⟩
                  · exact C7.out.ne (by rw [← q', e])
                  · rw [e] at q'; injection q' with q'; have := HD2.out.lt; omega)
              clear ho hg hb' OW
              go_wp2
              go_roundw
              case rel => exact ⟨k + 1, by omega, by go_num, HN.out⟩
              case measure => simp [intOf]; omega
      · obtain rfl : k = N := by omega
        have hcl : (cuC q.1 k).length ≤ 1000 := by have := cuC_len (L := q.1) (k := k) (by rw [QL.out]; exact BJ.out) (by rw [QL.out]; exact hk); omega
        have hcp : 0 < (cuC q.1 k).length := by have := cuC_pos (L := q.1) (by rw [QL.out]; exact BJ.out) (by rw [QL.out]; exact HP); rwa [QL.out] at this
        obtain ⟨g, rfl, hg1, hg2⟩ := own_pos CZ.out.own hcp
        have OWN := Lib.hid CZ.out.own
        have BZ := Lib.hid (B1.out.trans (CZ.out.bel.mono B1.out.size))
        have bs := B1.out.size
        clear CZ FM SR JO
        generalize cuC q.1 k = ls at *
        have CS := Lib.hid (sqp.slices_Sort_int g 0 cc ls wr (holds_row OWN.out) hg2 (by omega))
        go_wp2_with fail
        refine CS.out.mono ?_
        rintro e w8 ⟨rfl, nn, os, hw8⟩
        have O8 : Hid (w8.ownsRow w1.heap.size 3 1 (.slice (some ⟨g, 0, none⟩) (ls.mergeSort fun x y => decide (x ≤ y)).length cc) (ls.mergeSort fun x y => decide (x ≤ y)).length (V (ls.mergeSort fun x y => decide (x ≤ y)))) := Lib.hid (by rw [hw8]; exact put_own (by simp) OWN.out)
        have G8 : wr.grownBy w8 (some g) := by rw [hw8]; exact put_grown _
        have B8 := Lib.hid (BZ.out.trans ((Below.refl _ _).grown G8 BZ.out.size (fun b e => by injection e with e; omega)))
        clear hw8 G8 CS
        have CR := sqp.slices_Reverse_int g 0 cc (ls.mergeSort fun x y => decide (x ≤ y)) w8 (holds_row O8.out) (by simp; omega)
        rw [List.length_mergeSort] at CR
        have CRH := Lib.hid CR; clear CR
        go_wp2_with fail
        refine CRH.out.mono ?_
        rintro e w9 ⟨rfl, nn2, hw9⟩
        have O9 : Hid (w9.ownsRow w1.heap.size 3 1 (.slice (some ⟨g, 0, none⟩) ls.length cc) ls.length (V (sortD ls))) := Lib.hid (by
          have h := put_own (n := nn2) (os := #[]) (m := (ls.mergeSort fun x y => decide (x ≤ y)).reverse) (by simp) O8.out
          rw [grow_none, ← hw9, sort_desc, sortD_len] at h
          exact h)
        have G9 : w8.grownBy w9 (some g) := by
          rw [hw9]
          have h := put_grown (w := w8) (g := g) (n := nn2) (os := #[]) (ls.mergeSort fun x y => decide (x ≤ y)).reverse.toArray
          rwa [grow_none] at h
        have B9 := Lib.hid (B8.out.trans ((Below.refl _ _).grown G9 B8.out.size (fun b e => by injection e with e; omega)))
        clear hw9 G9 CRH
        have hcc := (sf.own_cap O9.out).2
        have R9 := Lib.hid (Row.of_own O9.out)
        have HL : Hid ((cuL r u).length = ls.length) := Lib.hid (by rw [HF.out, sortD_len])
        go_wp2_with fail
        go_ret2
        refine ⟨some ⟨g, 0, none⟩, cc, by (rw [HL.out, HB.out] <;> rfl), ?_, by rw [HL.out]; exact hcc, B9.out⟩
        rw [HL.out, HF.out]
        exact R9.out.wider bs (Nat.le_refl _) (Nat.le_refl _)
  · have HE := Lib.hid (orbB_no (fin_shut h1))
    clear h1
    go_wp2_with fail
    go_ret2
    exact cu_no HE.out B1.out
end Go.Proofs.Ytgcnemkhppkkcaa.orb
