import Derived.Test.YtngglhbcpeigcaaY14
/-
  The program's rows: laid out, and linked.
-/
namespace Go.Proofs.Ytngglhbcpeigcaa.cy
open Go.ChangeShapes Go.WideShapes Go.ChangeAt Go.RowKit
open Go.Proofs.Ytngglhbcpeigcaa.mem Go.Proofs.Ytngglhbcpeigcaa.ints Go.Proofs.Ytngglhbcpeigcaa.arr Go.Proofs.Ytngglhbcpeigcaa.pm Go.Proofs.Ytngglhbcpeigcaa.permOk Go.Proofs.Ytngglhbcpeigcaa.permOf Go.Proofs.Ytngglhbcpeigcaa.inv Go.Proofs.Ytngglhbcpeigcaa.fns Go.Proofs.Ytngglhbcpeigcaa.sf Go.Proofs.Ytngglhbcpeigcaa.mat Go.Proofs.Ytngglhbcpeigcaa.gl Go.Proofs.Ytngglhbcpeigcaa.lp
set_option linter.unusedVariables false
set_option maxRecDepth 100000

/-- The last place before i whose row above is j. -/
def blw (ab : List Int) : Nat → Nat → Int
  | 0, _ => -1
  | i + 1, j => if at_ ab i = j then i else blw ab i j
theorem blw_mem {ab : List Int} : ∀ {i j k : Nat}, blw ab i j = k → k < i ∧ at_ ab k = j
  | 0, j, k, h => by simp [blw] at h
  | i + 1, j, k, h => by
    rw [blw] at h
    split at h
    · have : i = k := by omega
      subst this
      exact ⟨by omega, by assumption⟩
    · have := blw_mem h
      exact ⟨by omega, this.2⟩
theorem blw_of {N : Nat} {ab : List Int} (h : Inj N ab) : ∀ {i j k : Nat}, i ≤ N → k < i → at_ ab k = j → blw ab i j = k
  | 0, j, k, _, hk, _ => by omega
  | i + 1, j, k, hi, hk, e => by
    rw [blw]
    split
    · rename_i q
      have := h.inj i k j (by omega) (by omega) q e
      omega
    · rename_i q
      have : k ≠ i := fun z => q (z ▸ e)
      exact blw_of h (by omega) (by omega) e
theorem blw_low {ab : List Int} : ∀ (i j : Nat), -1 ≤ blw ab i j ∧ blw ab i j < i
  | 0, j => by simp [blw]
  | i + 1, j => by
    rw [blw]
    have := blw_low (ab := ab) i j
    split <;> omega
def backL (ab : List Int) (N : Nat) : List Int := (List.range N).map fun j => blw ab N j
theorem backL_at {ab : List Int} {N j : Nat} (h : j < N) : at_ (backL ab N) j = blw ab N j := by simp [at_, backL, h]
theorem back_ok {N : Nat} {ab : List Int} (h : Inj N ab) : Back N ab (backL ab N) := by
  refine ⟨by simp [backL], fun i hi => ?_, fun i hi => ?_, fun x k hx hk => ?_⟩
  · rw [backL_at hi]; exact (blw_low _ _).2
  · rw [backL_at hi]; exact (blw_low _ _).1
  · rw [backL_at hx]
    exact ⟨fun q => (blw_mem q).2, fun q => blw_of h (Nat.le_refl _) hk q⟩

/-- The rows, laid out: M tells which are counted. -/
structure Rm (w : World) (B H0 : Nat) (A : Option Addr) (N : Nat) (rr : List (List Int)) (bs : Nat → Nat) (ab bl : List Int) (M : List Bool) : Prop where
  ptr : 0 < N → ∃ g, A = some ⟨g, 0, none⟩ ∧ B ≤ g ∧ g < w.heap.size ∧ (∀ j, j < N → g ≠ bs j) ∧ ∀ i, i < N → w.cell? ⟨g, i, none⟩ = some (.pointer (some ⟨bs i, 0, none⟩))
  box : ∀ (i : Nat) (xs : List Int), rr[i]? = some xs → ∃ P c, Arr w (bs i) (rowC P xs.length c (ptrV bs (at_ ab i)) (ptrV bs (at_ bl i)) (M.getD i false)) 91 ∧ Row w B H0 P xs.length (V xs)
  ge : ∀ i, i < N → H0 ≤ bs i
  inj : ∀ i j, i < N → j < N → bs i = bs j → i = j
  len : rr.length = N
  low : B ≤ H0
theorem Rm.keep {w w' : World} {B H0 N : Nat} {A : Option Addr} {rr : List (List Int)} {bs : Nat → Nat} {ab bl : List Int} {M : List Bool} (h : Rm w B H0 A N rr bs ab bl M) (hb : Below w.heap.size w w') : Rm w' B H0 A N rr bs ab bl M := by
  refine ⟨fun hN => ?_, fun i xs hx => ?_, h.ge, h.inj, h.len, h.low⟩
  · obtain ⟨g, e, q0, q1, q2, q3⟩ := h.ptr hN
    exact ⟨g, e, q0, Nat.lt_of_lt_of_le q1 hb.size, q2, fun i hi => by rw [hb.cell (p := ⟨g, i, none⟩) q1]; exact q3 i hi⟩
  · obtain ⟨P, c, q1, q2⟩ := h.box i xs hx
    exact ⟨P, c, q1.keep hb q1.lt, q2.keep hb q2.2.1⟩
theorem Rm.mark {w : World} {B H0 N m : Nat} {A : Option Addr} {rr : List (List Int)} {bs : Nat → Nat} {ab bl : List Int} {M : List Bool} (h : Rm w B H0 A N rr bs ab bl M) (hm : m < N) (hM : M.length = N) : Rm (w.setCell ⟨bs m, 3, none⟩ (.bool true)) B H0 A N rr bs ab bl (M.set m true) := by
  have hg := h.ge m hm
  refine ⟨fun hN => ?_, fun i xs hx => ?_, h.ge, h.inj, h.len, h.low⟩
  · obtain ⟨g, e, q0, q1, q2, q3⟩ := h.ptr hN
    refine ⟨g, e, q0, by simpa [World.setCell] using q1, q2, fun i hi => ?_⟩
    rw [World.cell?_setCell_other w _ _ _ (by intro e2; injection e2 with e3; exact q2 m hm e3.symm)]
    exact q3 i hi
  · obtain ⟨P, c, q1, q2⟩ := h.box i xs hx
    have hi : i < N := by have := (List.getElem?_eq_some_iff.1 hx).1; have := h.len; omega
    have r2 : Row (w.setCell ⟨bs m, 3, none⟩ (.bool true)) B H0 P xs.length (V xs) := q2.keep ((Below.refl H0 w).setCell hg _) (Nat.le_refl _)
    by_cases e : i = m
    · subst e
      refine ⟨P, c, ?_, r2⟩
      have hv : (M.set i true).getD i false = true := by simp [List.getD, hM, hi]
      rw [hv]
      exact q1.set_ 3 (.bool true)
    · refine ⟨P, c, ?_, r2⟩
      have hv : (M.set m true).getD i false = M.getD i false := by simp [List.getD, List.getElem?_set_ne (Ne.symm e)]
      rw [hv]
      exact q1.other (fun e2 => e (h.inj i m hi hm e2)) _
theorem Rm.lt {w : World} {B H0 N i : Nat} {A : Option Addr} {rr : List (List Int)} {bs : Nat → Nat} {ab bl : List Int} {M : List Bool} (h : Rm w B H0 A N rr bs ab bl M) (hi : i < N) : bs i < w.heap.size := by
  obtain ⟨P, c, q1, q2⟩ := h.box i _ (List.getElem?_eq_getElem (by have := h.len; omega))
  exact q1.lt

def nils : List Value := List.replicate 24 (.pointer none)
def pvF (bs : Nat → Nat) (rr : List (List Int)) (k : Nat) : List Value := (List.range 24).map fun (y : Nat) => ptrV bs (rix (rr.take k) (y : Int))
def pvI (bs : Nat → Nat) (rr : List (List Int)) (k b : Nat) (ys : List Int) : List Value := (List.range 24).map fun (y : Nat) => if (y : Int) ∈ ys then Value.pointer (some ⟨b, 0, none⟩) else ptrV bs (rix (rr.take k) (y : Int))
theorem pvF_zero (bs : Nat → Nat) (rr : List (List Int)) : pvF bs rr 0 = nils := by
  unfold pvF nils
  refine List.ext_getElem? fun i => ?_
  by_cases hi : i < 24
  · rw [List.getElem?_replicate, if_pos hi]; simp [hi, rix, ptrV]
  · rw [List.getElem?_eq_none (by simp; omega), List.getElem?_eq_none (by simp; omega)]
theorem ptrV_congr {bs bs' : Nat → Nat} {z : Int} {k : Nat} (hz : z < k) (h : ∀ i, i < k → bs' i = bs i) : ptrV bs' z = ptrV bs z := by
  unfold ptrV
  split
  · rfl
  · rw [h z.toNat (by omega)]
theorem pvI_nil {bs bs' : Nat → Nat} {rr : List (List Int)} {k b : Nat} (hk : k ≤ rr.length) (h : ∀ i, i < k → bs' i = bs i) : pvI bs' rr k b [] = pvF bs rr k := by
  unfold pvI pvF
  refine List.map_congr_left fun y hy => ?_
  rw [if_neg (by simp)]
  exact ptrV_congr (k := k) (by have := (rix_low (rr.take k) (y : Int)).2; simp at this; omega) h
theorem pvI_set {bs : Nat → Nat} {rr : List (List Int)} {k b x : Nat} {ys : List Int} (hx : x < 24) : (pvI bs rr k b ys).set x (.pointer (some ⟨b, 0, none⟩)) = pvI bs rr k b (ys ++ [(x : Int)]) := by
  unfold pvI
  refine List.ext_getElem? fun i => ?_
  by_cases hi : i < 24
  · by_cases e : i = x
    · subst e; rw [List.getElem?_set_self (by simp; omega)]; simp [hi]
    · rw [List.getElem?_set_ne (Ne.symm e)]
      have : ¬ ((i : Int) = (x : Int)) := by omega
      simp [hi, this]
  · rw [List.getElem?_eq_none (by simp; omega), List.getElem?_eq_none (by simp; omega)]
theorem rix_snoc {rr : List (List Int)} {k : Nat} {xs : List Int} {y : Int} (hk : rr[k]? = some xs) (hd : y ∈ xs → ∀ j, j < k → ∀ zs, rr[j]? = some zs → ¬ y ∈ zs) : rix (rr.take (k + 1)) y = if y ∈ xs then (k : Int) else rix (rr.take k) y := by
  have hkl := (List.getElem?_eq_some_iff.1 hk).1
  split
  · rename_i q
    refine rix_at (xs := xs) (by rw [List.getElem?_take, if_pos (by omega)]; exact hk) q fun j hj zs hz => ?_
    rw [List.getElem?_take, if_pos (by omega)] at hz
    exact hd q j hj zs hz
  · rename_i q
    have lo := rix_low (rr.take k) y
    by_cases hn : rix (rr.take k) y < 0
    · have hnone : ∀ (j : Nat) (zs : List Int), (rr.take (k + 1))[j]? = some zs → ¬ y ∈ zs := by
        intro j zs hz hy
        rw [List.getElem?_take] at hz
        split at hz
        · by_cases e : j = k
          · subst e; rw [hk] at hz; obtain rfl := Option.some.inj hz; exact q hy
          · -- the first row that holds y has a place
            have hex : ∃ m : Nat, rix (rr.take k) y = m := by
              have hgen : ∀ (L : List (List Int)) (i : Nat) (zs : List Int), L[i]? = some zs → y ∈ zs → 0 ≤ rix L y := by
                intro L
                induction L with
                | nil => intro i zs h; simp at h
                | cons a t ih =>
                  intro i zs h hy
                  rw [rix]
                  split
                  · omega
                  · rename_i na
                    cases i with
                    | zero => obtain rfl : a = zs := by simpa using h
                              exact absurd hy na
                    | succ i =>
                      have := ih i zs (by simpa using h) hy
                      split <;> omega
              have := hgen (rr.take k) j zs (by rw [List.getElem?_take, if_pos (by omega)]; exact hz) hy
              omega
            obtain ⟨m, hm⟩ := hex
            omega
        · cases hz
      rw [rix_none hnone]; omega
    · obtain ⟨m, hm⟩ : ∃ m : Nat, rix (rr.take k) y = m := ⟨(rix (rr.take k) y).toNat, by omega⟩
      obtain ⟨zs, h1, h2⟩ := rix_mem hm
      have hmk : m < k := by have := lo.2; simp at this; omega
      rw [hm]
      -- the same first place in the longer list
      have hgen : ∀ (L : List (List Int)) (a : List Int), rix L y = (m : Int) → rix (L ++ [a]) y = (m : Int) := by
        intro L a
        induction L generalizing m with
        | nil => intro h; simp [rix] at h
        | cons b t ih =>
          intro h
          rw [rix] at h
          rw [List.cons_append, rix]
          split at h
          · rename_i qb; rw [if_pos qb]; exact h
          · rename_i qb
            rw [if_neg qb]
            split at h
            · omega
            · rename_i q2
              have e : rix t y = ((m - 1 : Nat) : Int) := by omega
              have h3 : rix (t ++ [a]) y = ((m - 1 : Nat) : Int) := by
                have aux : ∀ (L : List (List Int)) (j : Nat), rix L y = (j : Int) → rix (L ++ [a]) y = (j : Int) := by
                  intro L
                  induction L with
                  | nil => intro j h; simp [rix] at h
                  | cons c s ihs =>
                    intro j h
                    rw [rix] at h
                    rw [List.cons_append, rix]
                    split at h
                    · rename_i qc; rw [if_pos qc]; exact h
                    · rename_i qc
                      rw [if_neg qc]
                      split at h
                      · omega
                      · have := ihs (j - 1) (by omega)
                        rw [this, if_neg (by omega)]
                        omega
                exact aux t _ e
              rw [h3, if_neg (by omega)]
              omega
      rw [List.take_add_one, hk]
      exact hgen _ _ hm
theorem pvF_next {bs : Nat → Nat} {rr : List (List Int)} {k b : Nat} {xs : List Int} (hk : rr[k]? = some xs) (hb : bs k = b) (hd : ∀ y : Int, y ∈ xs → ∀ j, j < k → ∀ zs, rr[j]? = some zs → ¬ y ∈ zs) : pvI bs rr k b xs = pvF bs rr (k + 1) := by
  unfold pvI pvF
  refine List.map_congr_left fun y hy => ?_
  rw [rix_snoc hk (hd (y : Int))]
  split
  · rw [ptrV_yes, hb]
  · rfl
theorem pvF_at {bs : Nat → Nat} {rr : List (List Int)} {k y : Nat} (hy : y < 24) : (pvF bs rr k)[y]? = some (ptrV bs (rix (rr.take k) (y : Int))) := by simp [pvF, hy]
end Go.Proofs.Ytngglhbcpeigcaa.cy

/-
  (impl.gluing).rows.
-/
namespace Go.Proofs.Ytngglhbcpeigcaa.cy
open Go.ChangeShapes Go.WideShapes Go.ChangeAt Go.RowKit
open Go.Proofs.Ytngglhbcpeigcaa.mem Go.Proofs.Ytngglhbcpeigcaa.ints Go.Proofs.Ytngglhbcpeigcaa.arr Go.Proofs.Ytngglhbcpeigcaa.pm Go.Proofs.Ytngglhbcpeigcaa.permOk Go.Proofs.Ytngglhbcpeigcaa.permOf Go.Proofs.Ytngglhbcpeigcaa.inv Go.Proofs.Ytngglhbcpeigcaa.fns Go.Proofs.Ytngglhbcpeigcaa.sf Go.Proofs.Ytngglhbcpeigcaa.mat Go.Proofs.Ytngglhbcpeigcaa.gl Go.Proofs.Ytngglhbcpeigcaa.lp
set_option linter.unusedVariables false
set_option maxRecDepth 100000

theorem built_row (P : Option Addr) (n c : Nat) : Try.prog.built 91 [(0, .slice P n c)] = some #[.slice P n c, .pointer none, .pointer none, .bool false] := by kernel_rfl
theorem Row.mid {w w' : World} {lo hi n : Nat} {P : Option Addr} {xs : List Value} (h : Row w lo hi P n xs) (hs : w.heap.size ≤ w'.heap.size) (hb : ∀ k, lo ≤ k → k < hi → w'.heap[k]? = w.heap[k]?) : Row w' lo hi P n xs := by
  refine ⟨h.1, Nat.le_trans h.2.1 hs, fun hn => ?_⟩
  obtain ⟨g, off, e, hg, hlt, hc⟩ := h.2.2 hn
  refine ⟨g, off, e, hg, hlt, fun j hj => ?_⟩
  rw [World.cell?_of_block (w := w) (a := ⟨g, off + j, none⟩) (hb g hg hlt), World.frozen?_of_block (w := w) (a := ⟨g, off + j, none⟩) (hb g hg hlt)]
  exact hc j hj
theorem pvI_at {bs : Nat → Nat} {rr : List (List Int)} {k b y : Nat} {ys : List Int} (hy : y < 24) : ∃ v, (pvI bs rr k b ys)[y]? = some v := by
  have : y < (pvI bs rr k b ys).length := by simp [pvI, hy]
  exact ⟨_, List.getElem?_eq_getElem this⟩
theorem regB_ext {c xs : List Int} {n : Nat} (hc : c.length = n) (hn : n ≤ 24) (h : ∀ z ∈ xs, 0 ≤ z ∧ z < n) : regB (ext c) xs = regB c xs := by
  unfold regB
  induction xs with
  | nil => rfl
  | cons x t ih =>
    have := h x (by simp)
    rw [List.all_cons, List.all_cons, ih (fun z hz => h z (by simp [hz]))]
    congr 1
    rw [ext_at (by omega), if_pos (by omega)]
def noP : Nat → Value := fun _ => .pointer none
def aF (bs : Nat → Nat) (ab : List Int) (i : Nat) : Nat → Value := fun j => ptrV bs (if j < i then at_ ab j else -1)
def bF (bs : Nat → Nat) (ab : List Int) (i : Nat) : Nat → Value := fun j => ptrV bs (blw ab i j)
theorem aF_zero (bs : Nat → Nat) (ab : List Int) : aF bs ab 0 = noP := by funext j; simp [aF, noP, ptrV]
theorem bF_zero (bs : Nat → Nat) (ab : List Int) : bF bs ab 0 = noP := by funext j; simp [bF, noP, ptrV, blw]
theorem aF_skip {bs : Nat → Nat} {ab : List Int} {i : Nat} (h : at_ ab i = -1) : aF bs ab (i + 1) = aF bs ab i := by
  funext j
  unfold aF
  by_cases e : j = i
  · subst e; rw [if_pos (by omega), if_neg (by omega), h]
  · by_cases q : j < i
    · rw [if_pos (by omega), if_pos q]
    · rw [if_neg (by omega), if_neg q]
theorem bF_skip {bs : Nat → Nat} {ab : List Int} {i : Nat} (h : at_ ab i = -1) : bF bs ab (i + 1) = bF bs ab i := by
  funext j
  unfold bF
  rw [blw, if_neg (by omega)]
theorem Ph.phase {w3 wr : World} {R k : Nat} {rr : List (List Int)} {bs : Nat → Nat} {v : Value} {pv : List Value} {a b a' b' : Nat → Value} (h : Ph w3 wr R rr bs v k pv a b) (ha : a = a') (hb : b = b') : Ph w3 wr R rr bs v k pv a' b' := by subst ha; subst hb; exact h
/-- Row i's pointer up, then the pointer down of the row above. -/
theorem Ph.link {w3 wr : World} {R N i z : Nat} {rr : List (List Int)} {bs : Nat → Nat} {v : Value} {pv : List Value} {ab : List Int} (h : Ph w3 wr R rr bs v N pv (aF bs ab i) (bF bs ab i)) (hi : i < N) (hz : z < N) (e : at_ ab i = z) :
    Ph w3 (wr.setCell ⟨bs i, 1, none⟩ (.pointer (some ⟨bs z, 0, none⟩))) R rr bs v N pv (aF bs ab (i + 1)) (bF bs ab i) ∧
    Ph w3 ((wr.setCell ⟨bs i, 1, none⟩ (.pointer (some ⟨bs z, 0, none⟩))).setCell ⟨bs z, 2, none⟩ (.pointer (some ⟨bs i, 0, none⟩))) R rr bs v N pv (aF bs ab (i + 1)) (bF bs ab (i + 1)) := by
  have h1 := h.ptr (a' := aF bs ab (i + 1)) (b' := bF bs ab i) (y := 1) hi (.pointer (some ⟨bs z, 0, none⟩)) (fun P n c => by
    show [Value.slice P n c, .pointer (some ⟨bs z, 0, none⟩), _, _] = [_, _, _, _]
    unfold aF
    rw [if_pos (by omega), e, ptrV_yes]) (fun j hj => ⟨by
      unfold aF
      by_cases q : j < i
      · rw [if_pos (by omega), if_pos q]
      · rw [if_neg (by omega), if_neg q], rfl⟩)
  refine ⟨h1, ?_⟩
  refine h1.ptr (a' := aF bs ab (i + 1)) (b' := bF bs ab (i + 1)) (y := 2) hz (.pointer (some ⟨bs i, 0, none⟩)) (fun P n c => ?_) (fun j hj => ⟨rfl, ?_⟩)
  · show [Value.slice P n c, _, .pointer (some ⟨bs i, 0, none⟩), _] = [_, _, _, _]
    unfold bF
    rw [blw, if_pos e, ptrV_yes]
  · unfold bF
    rw [blw, if_neg (by rw [e]; omega)]
/-- What rows hands back. -/
def RowsPost (r u : List Int) (w : World) (e : Ending) (w' : World) : Prop :=
  ∃ A c H0 bs, e = .returned (.slice A (cycF r).length c) ∧ Below w.heap.size w w' ∧ Rm w' w.heap.size H0 A (cycF r).length (cycF r) bs (abF (comm r u) u (cycF r)) (backL (abF (comm r u) u (cycF r)) (cycF r).length) (List.replicate (cycF r).length false)
theorem Ph.rm {w3 wr : World} {B R N : Nat} {rr : List (List Int)} {bs : Nat → Nat} {A : Option Addr} {c : Nat} {pv : List Value} {ab : List Int} (h : Ph w3 wr R rr bs (.slice A N c) N pv (aF bs ab N) (bF bs ab N)) (hl : rr.length = N) (hB : B ≤ R + 1) (hB3 : B ≤ w3.heap.size) :
    Rm wr B w3.heap.size A N rr bs ab (backL ab N) (List.replicate N false) := by
  refine ⟨fun hN => ?_, fun i xs hx => ?_, h.ge, h.inj, hl, hB3⟩
  · rcases h.own.2 with ⟨hv, h0⟩ | ⟨g, cap, cur, hv, hb, hh, r⟩
    · omega
    · injection hv with hA hn' hc'
      refine ⟨g, hA, by omega, ?_, fun j hj => h.sep g (by rw [hA]; rfl) j hj, fun i hi => ?_⟩
      · rcases Nat.lt_or_ge g wr.heap.size with q | q
        · exact q
        · rw [Array.getElem?_eq_none q] at hh; cases hh
      · have ho := h.own
        rw [hA] at ho
        have := ho.cellAt i (by omega)
        rw [this]
        exact ptrs_at hi
  · have hi : i < N := by have := (List.getElem?_eq_some_iff.1 hx).1; omega
    obtain ⟨P, c', q1, q2⟩ := h.box i xs hi hx
    refine ⟨P, c', ?_, q2.wider hB (Nat.le_refl _) q2.2.1⟩
    have e1 : aF bs ab N i = ptrV bs (at_ ab i) := by unfold aF; rw [if_pos hi]
    have e2 : bF bs ab N i = ptrV bs (at_ (backL ab N) i) := by unfold bF; rw [backL_at hi]
    have e3 : (List.replicate N false).getD i false = false := by simp [List.getD, hi]
    rw [e1, e2] at q1
    rw [e3]
    exact q1

set_option maxHeartbeats 4000000 in
theorem rows_any (r u : List Int) (n : Nat) (w : World) (hs : Sf n r u) :
    Calls Try.prog 53 #[.agg (V (gl (ext r) (ext u) n)).toArray] w (RowsPost r u w) := by
  have HS := Lib.hid hs
  have hn24 : n ≤ 24 := hs.small
  have HB : Hid (Bij n (ext r)) := Lib.hid (by have := hs.r.bijExt; rwa [hs.lr] at this)
  have CE : Hid (cycF r = cso (ext r) n n) := Lib.hid (cycF_gl (transB_iff.2 (by rw [hs.lr]; exact hs)) hs.lr)
  have SW : Hid (Sw n r u (cycF r)) := Lib.hid (cycF_rows (transB_iff.2 (by rw [hs.lr]; exact hs)) hs.lr)
  have L49 := gl_len (ext_len r) (ext_len u) n
  clear hs
  have G0 := Lib.hid ((Arr.new w (V (gl (ext r) (ext u) n)) 62 rfl).alloc (.cells nils.toArray 99))
  have R0 := Lib.hid (Arr.new (w.alloc (.cells (V (gl (ext r) (ext u) n)).toArray 62)) nils 99 (g := w.heap.size + 1) (by simp))
  have B0 : Hid (Below w.heap.size w ((w.alloc (.cells (V (gl (ext r) (ext u) n)).toArray 62)).alloc (.cells nils.toArray 99))) := Lib.hid (((Below.refl _ _).alloc (Nat.le_refl _) _).alloc (by simp) _)
  have S0 : ((w.alloc (.cells (V (gl (ext r) (ext u) n)).toArray 62)).alloc (.cells nils.toArray 99)).heap.size = w.heap.size + 2 := by simp
  have NE : nils.toArray = #[.pointer none, .pointer none, .pointer none, .pointer none, .pointer none, .pointer none, .pointer none, .pointer none, .pointer none, .pointer none, .pointer none, .pointer none, .pointer none, .pointer none, .pointer none, .pointer none, .pointer none, .pointer none, .pointer none, .pointer none, .pointer none, .pointer none, .pointer none, .pointer none] := rfl
  rw [NE] at G0 R0 B0 S0
  clear NE
  go_enter Try.func53, Try.ntmps53
  have hct := gl_count (ext_len r) (ext_len u) G0.out
  go_wp2_with (refine wpList_load_part rfl 60 (.tmp 13) rfl w.heap.size 0 rfl (V (ext r)) _ (fun j v hv => gl_right (ext_len r) G0.out j v hv) Try.underlying60 rfl (by rw [size_V (ext_len r)]; simp) ?_)
  generalize hw2 : (w.alloc (.cells (V (gl (ext r) (ext u) n)).toArray 62)).alloc (.cells #[.pointer none, .pointer none, .pointer none, .pointer none, .pointer none, .pointer none, .pointer none, .pointer none, .pointer none, .pointer none, .pointer none, .pointer none, .pointer none, .pointer none, .pointer none, .pointer none, .pointer none, .pointer none, .pointer none, .pointer none, .pointer none, .pointer none, .pointer none, .pointer none] 99) = w2 at *
  clear hw2 hct
  refine (cycles_any (ext r) n _ (ext_len _) HB.out hn24).mono ?_
  rintro e w3 ⟨A, c, rfl, o3, b3⟩
  rw [← CE.out] at o3 ⊢
  clear CE HB
  have B3 := Lib.hid (B0.out.trans (b3.mono (by omega)))
  have M3 := Lib.hid o3
  have G3 := Lib.hid (G0.out.keep b3 (by omega))
  have R3 := Lib.hid (R0.out.keep b3 (by omega))
  have s3 := b3.size
  clear b3 o3 G0 R0 B0
  have PV0 : Hid (∀ bs, pvF bs (cycF r) 0 = nils) := Lib.hid (fun bs => pvF_zero bs _)
  have POST : Hid (∀ A c H0 bs w', Below w.heap.size w w' → Rm w' w.heap.size H0 A (cycF r).length (cycF r) bs (abF (comm r u) u (cycF r)) (backL (abF (comm r u) u (cycF r)) (cycF r).length) (List.replicate (cycF r).length false) → RowsPost r u w (.returned (.slice A (cycF r).length c)) w') := Lib.hid (fun A c H0 bs w' h1 h2 => ⟨A, c, H0, bs, rfl, h1, h2⟩)
  generalize hQ : RowsPost r u w = Q0 at *
  clear hQ
  generalize hrr : cycF r = rr at *
  clear hrr
  have LNn : Hid (rr.length ≤ n) := Lib.hid SW.out.rw.len
  generalize hN : rr.length = N at *
  have LN := Lib.hid hN; clear hN
  have hN24 : N ≤ 24 := by have := LNn.out; omega
  have INJ : Hid (Inj N (abF (comm r u) u rr)) := Lib.hid (by have h := ab_inj SW.out.sf SW.out.rw; rwa [LN.out] at h)
  have PH0 : Hid (∀ bs, Ph w3 w3 (w.heap.size + 1) rr bs (.slice none 0 0) 0 (pvF bs rr 0) noP noP) := Lib.hid (fun bs => by rw [PV0.out]; exact Ph.start R3.out bs _ _)
  obtain ⟨i0, hi0, hz0, hz1, hz2⟩ := info_parts infoPR
  go_wp2
  go_loopw [3, 19] (fun v3 i wr => ∃ (k : Nat) (bs : Nat → Nat), k ≤ N ∧ i = .int .i64 k ∧ Ph w3 wr (w.heap.size + 1) rr bs v3 k (pvF bs rr k) noP noP) (fun _ i _ => N - (intOf i).toNat)
  case atStart => exact ⟨0, fun _ => 0, Nat.zero_le _, rfl, PH0.out _⟩
  case round =>
    obtain ⟨k, bs, hk, rfl, hp⟩ := hrel
    obtain ⟨C, cc, rfl⟩ := own_form hp.own
    have PH := Lib.hid hp; clear hp PH0
    have hsz := PH.out.out.size
    by_cases hlt : k < N
    · obtain ⟨xs, hxk⟩ : ∃ xs, rr[k]? = some xs := ⟨_, List.getElem?_eq_getElem (by rw [LN.out]; exact hlt)⟩
      have MW := Lib.hid (M3.out.out PH.out.out (.inr (by omega)))
      obtain ⟨G, off, A1, c1, rfl, hcx, rx⟩ := Mat.in_ MW.out hxk
      have XK := Lib.hid hxk
      have RX := Lib.hid (rx.wider (lo' := w.heap.size + 1 + 1) (by omega) (Nat.le_refl _) rx.2.1)
      have xl : xs.length ≤ 24 := by have := (SW.out.rw.way hxk).choose_spec.2.2.inn.len; omega
      have NB : Hid (Arr (wr.alloc (.cells #[.slice A1 xs.length c1, .pointer none, .pointer none, .bool false] 91)) wr.heap.size (rowC A1 xs.length c1 (.pointer none) (.pointer none) false) 91) := Lib.hid (Arr.new wr _ _ rfl)
      have BL := Lib.hid (built_row A1 xs.length c1)
      clear hxk rx
      have lk : (ptrs bs k).length = k := ptrs_len bs k
      have HW : Hid (∃ W, W = (wr.alloc (.cells #[.slice A1 xs.length c1, .pointer none, .pointer none, .bool false] 91)).alloc (.cells #[.pointer (some ⟨wr.heap.size, 0, none⟩)] 89) ∧ W.heap.size = wr.heap.size + 2 ∧ W.ownsRow w3.heap.size 89 1 (.slice C k cc) k (ptrs bs k) ∧ (∀ j v, [Value.pointer (some ⟨wr.heap.size, 0, none⟩)][j]? = some v → W.cell? ((⟨wr.heap.size + 1, 0, none⟩ : Addr).add j) = some v)) := Lib.hid ⟨_, rfl, by simp, (PH.out.own.alloc _).alloc _, fun j v hv => by
        have h := World.news_of_block (Arr.new (wr.alloc (.cells #[.slice A1 xs.length c1, .pointer none, .pointer none, .bool false] 91)) [.pointer (some ⟨wr.heap.size, 0, none⟩)] 89 (g := wr.heap.size + 1) (by simp))
        exact h j v hv⟩
      obtain ⟨W0, hW0, sW0, oW0, nW0⟩ := HW.out
      have HW0 := Lib.hid hW0; have OW0 := Lib.hid oW0; have NW0 := Lib.hid nW0
      clear HW oW0 nW0
      go_wp2_with (first | (refine wpList_build rfl 91 _ rfl [(0, .slice A1 xs.length c1)] rfl #[.slice A1 xs.length c1, .pointer none, .pointer none, .bool false] BL.out ?_) | (at_builtin; rw [← hW0]; refine wpList_append_lies W0 rfl _ _ 87 rfl w3.heap.size 89 i0 _ 1 8 Try.underlying87 hi0 hz0 hz1 hz2 rfl (by decide) _ k (ptrs bs k) rfl OW0.out ⟨wr.heap.size + 1, 0, none⟩ 1 1 [.pointer (some ⟨wr.heap.size, 0, none⟩)] rfl rfl NW0.out ?h1 (by decide) ?c4 ?c5 ?c6 _ rfl ?_))
      case h1 => intro q hq; simp at hq; subst hq; rfl
      case c4 => unfold maxLen; omega
      case c5 => omega
      case c6 => omega
      intro g7 cap7 w7 ho hg hb hlt7
      have PH7 := Lib.hid (PH.out.push XK.out rfl rfl RX.out HW0.out ho (by rw [hW0]; exact hg) (by rw [sW0]; exact hb))
      have HOW := Lib.hid PH.out.out
      have hw7 : wr.heap.size ≤ w7.heap.size := Nat.le_trans (by rw [hW0] at sW0; omega) hg.size
      have PVI := Lib.hid (pvI_nil (bs := bs) (bs' := fun i => if i = k then wr.heap.size else bs i) (rr := rr) (k := k) (b := wr.heap.size) (by rw [LN.out]; exact hk) (fun i hi => if_neg (by omega)))
      have PVN := Lib.hid (pvF_next (bs := fun i => if i = k then wr.heap.size else bs i) XK.out (show (fun i => if i = k then wr.heap.size else bs i) k = wr.heap.size from if_pos rfl) (fun y hy j hj zs hz hy2 => by have := SW.out.rw.same XK.out hz hy hy2; omega))
      have hrlt := PH7.out.rlt
      generalize hbn : wr.heap.size = bn at *
      generalize hbs : (fun i => if i = k then bn else bs i) = bs' at *
      clear hbs ho hg hb hlt7 hW0 sW0 HW0 OW0 NW0 PH NB BL lk
      have RX7 : Hid (∀ wi, Out (w.heap.size + 1) (w.heap.size + 1 + 1) w3 wi → wr.heap.size ≤ wi.heap.size → Row wi (w.heap.size + 1 + 1) w3.heap.size A1 xs.length (V xs)) := Lib.hid (fun wi ho hz => Row.mid RX.out hz (fun q h1 h2 => (ho.block q h2 (.inr h1)).trans (HOW.out.block q h2 (.inr h1)).symm))
      rw [hbn] at RX7
      go_wp2
      go_loopw [32] (fun i wi => ∃ j : Nat, j ≤ xs.length ∧ i = .int .i64 j ∧ bn ≤ wi.heap.size ∧ Ph w3 wi (w.heap.size + 1) rr bs' (.slice (some ⟨g7, 0, none⟩) (k + 1) cap7) (k + 1) (pvI bs' rr k bn (xs.take j)) noP noP) (fun i _ => xs.length - (intOf i).toNat)
      case atStart => exact ⟨0, Nat.zero_le _, rfl, hw7, by rw [List.take_zero, PVI.out]; exact PH7.out⟩
      case round =>
        obtain ⟨j, hj, rfl, hbw, hp⟩ := hrel
        have PI := Lib.hid hp; clear hp PH7
        by_cases hjl : j < xs.length
        · obtain ⟨x, z, x1, x2, y1, y2⟩ := SW.out.elem XK.out hjl
          have RI := Lib.hid (RX7.out _ PI.out.out hbw)
          obtain ⟨g3, o3, v3, rfl, _, _, hx3, hc3, _⟩ := RI.out.at_ hjl
          rw [V_get x1] at hx3
          obtain rfl := Option.some.inj hx3
          have hx24 : x < 24 := by omega
          obtain ⟨pz, hpz⟩ := pvI_at (bs := bs') (rr := rr) (k := k) (b := bn) (ys := xs.take j) hx24
          have cr := PI.out.rof.cell hpz
          have fr := PI.out.rof.frozen x
          have TK : Hid (xs.take (j + 1) = xs.take j ++ [(x : Int)]) := Lib.hid (by rw [List.take_add_one, x1]; rfl)
          have NP : Hid (Ph w3 (wr.setCell ⟨w.heap.size + 1, x, none⟩ (.pointer (some ⟨bn, 0, none⟩))) (w.heap.size + 1) rr bs' (.slice (some ⟨g7, 0, none⟩) (k + 1) cap7) (k + 1) (pvI bs' rr k bn (xs.take (j + 1))) noP noP) := Lib.hid (by rw [TK.out, ← pvI_set hx24]; exact PI.out.out_ x _)
          clear x1 y1 hpz
          go_wp2
          go_roundw
          case rel => exact ⟨j + 1, by omega, by go_num, by simpa [World.setCell] using hbw, NP.out⟩
          case measure => simp [intOf]; omega
        · have PE : Hid (Ph w3 wr (w.heap.size + 1) rr bs' (.slice (some ⟨g7, 0, none⟩) (k + 1) cap7) (k + 1) (pvF bs' rr (k + 1)) noP noP) := Lib.hid (by
            have h := PI.out
            rw [List.take_of_length_le (by omega), PVN.out] at h
            exact h)
          clear PI
          go_wp2
          go_roundw
          case rel => exact ⟨k + 1, bs', by omega, by go_num, PE.out⟩
          case measure => simp [intOf]; omega
    · obtain rfl : N = k := by omega
      have PVT : Hid (∀ y : Nat, y < 24 → (pvF bs rr N)[y]? = some (ptrV bs (rix rr (y : Int)))) := Lib.hid (fun y hy => by rw [pvF_at hy, List.take_of_length_le (by rw [LN.out]; exact Nat.le_refl _)])
      have ABF : Hid (∀ (i : Nat) (xs : List Int), rr[i]? = some xs → at_ (abF (comm r u) u rr) i = if regB (comm r u) xs then rix rr (u.getD (xs.getD 0 0).toNat 0) else -1) := Lib.hid (fun i xs h => abF_at h)
      generalize abF (comm r u) u rr = ab at *
      have PA : Hid (Ph w3 wr (w.heap.size + 1) rr bs (.slice C N cc) N (pvF bs rr N) (aF bs ab 0) (bF bs ab 0)) := Lib.hid (PH.out.phase (aF_zero bs ab).symm (bF_zero bs ab).symm)
      generalize pvF bs rr N = pv at *
      have G4 : Hid (Arr wr w.heap.size (V (gl (ext r) (ext u) n)) 62) := Lib.hid (G3.out.out PH.out.out (.inl (by omega)))
      have LCM : Hid ((comm r u).length = n) := Lib.hid SW.out.sf.comm.2
      clear PH G3 R3 M3 PV0
      go_wp2_with (refine wpList_load_row rfl 62 _ rfl w.heap.size rfl 62 (V (gl (ext r) (ext u) n)).toArray (0, 0) _ G4.out Try.underlying62 rfl (size49 L49) ?_)
      refine (around_any (ext r) (ext u) n _ HS.out.r.sq HS.out.u.sq).mono ?_
      rintro e w4 ⟨rfl, b4⟩
      rw [ar24_ext HS.out]
      have s4 := b4.size
      have PB := Lib.hid (PA.out.keep b4)
      replace G4 := Lib.hid (G4.out.keep b4 G4.out.lt)
      clear b4 PA
      have LX : (ext (comm r u)).length = 24 := ext_len _
      go_wp2_with (refine wpList_store_row rfl 60 _ _ rfl w4.heap.size (V (ext (comm r u))).toArray rfl rfl 60 (V zeros).toArray (Arr.new w4 (V zeros) _ rfl) (size_V LX) (by simp [V_len, LX, zeros]) (one_V _) ?_; generalize hw5 : (w4.alloc (.cells #[.int .i64 0, .int .i64 0, .int .i64 0, .int .i64 0, .int .i64 0, .int .i64 0, .int .i64 0, .int .i64 0, .int .i64 0, .int .i64 0, .int .i64 0, .int .i64 0, .int .i64 0, .int .i64 0, .int .i64 0, .int .i64 0, .int .i64 0, .int .i64 0, .int .i64 0, .int .i64 0, .int .i64 0, .int .i64 0, .int .i64 0, .int .i64 0] 60)).setRow w4.heap.size (V (ext (comm r u))).toArray = w5; have A5 : Hid (Arr w5 w4.heap.size (V (ext (comm r u))) 60) := Lib.hid (by rw [← hw5]; exact (Arr.new w4 (V zeros) _ rfl).row); have B5 : Hid (Below w4.heap.size w4 w5) := Lib.hid (by rw [← hw5]; exact arr.below_setRow ((Below.refl _ _).alloc (Nat.le_refl _) _) (Nat.le_refl _) _); have t5 : w4.heap.size + 1 ≤ w5.heap.size := (by rw [← hw5]; simp); clear hw5)
      have PC := Lib.hid (PB.out.keep B5.out)
      replace G4 := Lib.hid (G4.out.keep B5.out G4.out.lt)
      have XN : Hid (∀ i, i < N → bs i ≠ w4.heap.size) := Lib.hid (fun i hi e => by
        obtain ⟨P, c, q1, q2⟩ := PB.out.box i _ hi (List.getElem?_eq_getElem (by rw [LN.out]; exact hi))
        have := q1.lt; omega)
      generalize hX : w4.heap.size = X at *
      clear PB B5
      go_loopw [45] (fun i wi => ∃ j : Nat, j ≤ N ∧ i = .int .i64 j ∧ X + 1 ≤ wi.heap.size ∧ Ph w3 wi (w.heap.size + 1) rr bs (.slice C N cc) N pv (aF bs ab j) (bF bs ab j) ∧ Arr wi X (V (ext (comm r u))) 60 ∧ Arr wi w.heap.size (V (gl (ext r) (ext u) n)) 62) (fun i _ => N - (intOf i).toNat)
      case atStart => exact ⟨0, Nat.zero_le _, rfl, t5, PC.out, A5.out, G4.out⟩
      case round =>
        obtain ⟨i, hi, rfl, hXw, hp, ha, hg⟩ := hrel
        have PI := Lib.hid hp; have AI := Lib.hid ha; have GI := Lib.hid hg
        clear hp ha hg PC A5 G4
        have hrlt := PI.out.rlt
        have hsz := PI.out.out.size
        by_cases hlt2 : i < N
        · obtain ⟨xs, hxk⟩ : ∃ xs, rr[i]? = some xs := ⟨_, List.getElem?_eq_getElem (by rw [LN.out]; exact hlt2)⟩
          have XK := Lib.hid hxk
          obtain ⟨P, c9, q9, r9⟩ := PI.out.box i xs hlt2 hxk
          have BX := Lib.hid q9; have RX := Lib.hid r9
          have xl : xs.length ≤ 24 := by have := (SW.out.rw.way hxk).choose_spec.2.2.inn.len; omega
          have xr : Hid (∀ z ∈ xs, 0 ≤ z ∧ z < 24) := Lib.hid (fun z hz => by have := SW.out.rw.rng XK.out hz; omega)
          obtain ⟨f, z, f1, f2, f3, z1, z2, hpos⟩ := SW.out.first hxk
          have ATI := Lib.hid (ABF.out i xs hxk)
          have RE : Hid (regB (ext (comm r u)) xs = regB (comm r u) xs) := Lib.hid (regB_ext (n := n) LCM.out hn24 (fun z hz => SW.out.rw.rng XK.out hz))
          obtain ⟨gp, rfl, hcp⟩ : ∃ g, C = some ⟨g, 0, none⟩ ∧ wr.cell? ⟨g, i, none⟩ = some (.pointer (some ⟨bs i, 0, none⟩)) := by
            rcases PI.out.own.2 with ⟨hv, h0⟩ | ⟨g, cap, cur, hv, hb, hh, _⟩
            · omega
            · injection hv with hA _ _
              refine ⟨g, hA, ?_⟩
              have ho := PI.out.own
              rw [hA] at ho
              rw [ho.cellAt i (by omega)]
              exact ptrs_at hlt2
          clear q9 r9 hxk
          go_wp2_with (refine wpList_load_row rfl 60 _ rfl X rfl 60 (V (ext (comm r u))).toArray (0, 0) _ AI.out Try.underlying60 rfl (size_V LX) ?_)
          refine (isReg_any (bs i) xs.length c9 _ _ P _ _ false xs (ext (comm r u)) _ BX.out RX.out LX xl xr.out).mono ?_
          rintro e w5 ⟨rfl, b5⟩
          rw [RE.out]
          have s5 := b5.size
          have P5 := Lib.hid (PI.out.keep b5)
          have A5 := Lib.hid (AI.out.keep b5 AI.out.lt)
          have G5 := Lib.hid (GI.out.keep b5 GI.out.lt)
          have BX5 := Lib.hid (BX.out.keep b5 BX.out.lt)
          have RX5 := Lib.hid (RX.out.keep b5 hsz)
          clear b5 PI AI GI BX RX hcp RE
          cases hreg : regB (comm r u) xs
          · have AT1 : Hid (at_ ab i = -1) := Lib.hid (by rw [ATI.out, hreg]; rfl)
            have PN := Lib.hid (P5.out.phase (aF_skip (bs := bs) AT1.out).symm (bF_skip (bs := bs) AT1.out).symm)
            clear hreg P5
            go_wp2
            go_roundw
            case rel => exact ⟨i + 1, by omega, by go_num, by omega, PN.out, A5.out, G5.out⟩
            case measure => simp [intOf]; omega
          · have AT1 : Hid (at_ ab i = rix rr (z : Int)) := Lib.hid (by rw [ATI.out, hreg, if_pos rfl, f2, Int.toNat_natCast, z2])
            have zN : z < n := by have := HS.out.bu.maps f f3; rw [z2] at this; omega
            obtain ⟨k2, ys, hk2, hy2⟩ := SW.out.rw.has (y := (z : Int)) (by omega) (by omega)
            have hkN : k2 < N := by rw [← LN.out]; exact (List.getElem?_eq_some_iff.1 hk2).1
            have AT2 : Hid (at_ ab i = k2) := Lib.hid (by rw [AT1.out]; exact SW.out.rw.rix hk2 hy2)
            obtain ⟨L1, L2⟩ := P5.out.link hlt2 hkN AT2.out
            have LK1 := Lib.hid L1; have LK2 := Lib.hid L2
            have c0 := BX5.out.cell (k := 0) rfl
            have cc1 := BX5.out.cell (k := 1) rfl
            have fc1 := BX5.out.frozen 1
            obtain ⟨gx, ox, vx, rfl, _, _, hvx, hcx, _⟩ := RX5.out.at_ hpos
            rw [V_get f1] at hvx
            obtain rfl := Option.some.inj hvx
            rw [Nat.add_zero] at hcx
            have hcu : w5.cell? ⟨w.heap.size, 24 + f, none⟩ = some (.int .i64 z) := gl_up (ext_len r) (ext_len u) G5.out f _ (V_get (by
              have e := z1
              rw [List.getElem?_eq_getElem (show f < (ext u).length by rw [ext_len]; omega)]
              have e2 := ext_at (xs := u) (i := f) (by omega)
              rw [if_pos (by rw [HS.out.lu]; exact f3), z2] at e2
              simpa [List.getD, List.getElem?_eq_getElem (show f < (ext u).length by rw [ext_len]; omega)] using e2))
            have hcr : w5.cell? ⟨w.heap.size + 1, z, none⟩ = some (.pointer (some ⟨bs k2, 0, none⟩)) := P5.out.rof.cell (by rw [PVT.out z (by omega), ← AT1.out, AT2.out, ptrV_yes])
            obtain ⟨P1, c1, B1, _⟩ := LK1.out.box i xs hlt2 XK.out
            have d1 : (w5.setCell ⟨bs i, 1, none⟩ (.pointer (some ⟨bs k2, 0, none⟩))).cell? ⟨bs i, 1, none⟩ = some (.pointer (some ⟨bs k2, 0, none⟩)) := World.cell?_setCell_same' w5 _ _ (by rw [cc1]; rfl)
            obtain ⟨P2, c2, B2, _⟩ := LK1.out.box k2 ys hkN hk2
            have d2 := B2.cell (k := 2) rfl
            have fd2 := B2.frozen 2
            have NX : Hid (∀ p q, Arr ((w5.setCell ⟨bs i, 1, none⟩ p).setCell ⟨bs k2, 2, none⟩ q) X (V (ext (comm r u))) 60 ∧ Arr ((w5.setCell ⟨bs i, 1, none⟩ p).setCell ⟨bs k2, 2, none⟩ q) w.heap.size (V (gl (ext r) (ext u) n)) 62) := Lib.hid (fun p q => ⟨(A5.out.other (fun e => XN.out i hlt2 e.symm) p).other (fun e => XN.out k2 hkN e.symm) q, (G5.out.other (by have := P5.out.ge i hlt2; omega) p).other (by have := P5.out.ge k2 hkN; omega) q⟩)
            clear hreg f1 f2 z1 z2 hk2 hy2 L1 L2 B1 B2 P5 A5 G5 BX5 RX5
            go_wp2
            go_roundw
            case rel => exact ⟨i + 1, by omega, by go_num, by simp [World.setCell]; omega, LK2.out, (NX.out _ _).1, (NX.out _ _).2⟩
            case measure => simp [intOf]; omega
        · obtain rfl : N = i := by omega
          have RM := Lib.hid (PI.out.rm (B := w.heap.size) LN.out (by omega) (Nat.le_trans (by have := B3.out.size; exact this) (Nat.le_refl _)))
          have BF : Hid (Below w.heap.size w wr) := Lib.hid ⟨PI.out.out.os.trans B3.out.os, PI.out.out.tape.trans B3.out.tape, PI.out.out.output.trans B3.out.output, Nat.le_trans B3.out.size hsz, fun q hq => (PI.out.out.block q (by omega) (.inl (by omega))).trans (B3.out.block q hq)⟩
          go_wp2
          exact POST.out C cc _ bs wr BF.out RM.out
end Go.Proofs.Ytngglhbcpeigcaa.cy
