import Derived.Test.YtafpbnjfmieamaaY12
import Derived.Test.YtafpbnjfmieamaaY05
import Derived.Test.YtafpbnjfmieamaaY02
import Derived.Test.YtafpbnjfmieamaaY01
/-
  Letters and words on surfaces and matrices: plain mathematics.
-/
namespace Go.Proofs.Ytafpbnjfmieamaa.pm
open Go.Proofs.Ytafpbnjfmieamaa.arr Go.Proofs.Ytafpbnjfmieamaa.inv Go.Proofs.Ytafpbnjfmieamaa.permOf
set_option linter.unusedVariables false
set_option maxRecDepth 100000
/-- The four letters are the bytes 84 (T), 116 (t), 83 (S), 115 (s). -/
def isL (c : UInt8) : Bool := decide (c.toNat = 84) || decide (c.toNat = 116) || decide (c.toNat = 83) || decide (c.toNat = 115)
def letS (c : UInt8) (s : Sur) : Sur := if c.toNat = 84 then shearS s else if c.toNat = 116 then unshearS s else if c.toNat = 83 then turnS s else unturnS s
def inL (c : UInt8) : UInt8 := if c.toNat = 84 then 116 else if c.toNat = 116 then 84 else if c.toNat = 83 then 115 else 83
def runS (w : List UInt8) (s : Sur) : Sur := w.foldl (fun s c => letS c s) s
def invW (w : List UInt8) : List UInt8 := (w.map inL).reverse
theorem letS_sf {n : Nat} {R U : List Int} (s : Sf n R U) (c : UInt8) : Sf n (letS c (R, U)).1 (letS c (R, U)).2 := by
  unfold letS
  split
  · exact shear_sf s
  · split
    · exact unshear_sf s
    · split
      · exact turn_sf s
      · exact unturn_sf s
theorem isL_iff {c : UInt8} : isL c = true ↔ c.toNat = 84 ∨ c.toNat = 116 ∨ c.toNat = 83 ∨ c.toNat = 115 := by simp [isL, or_assoc]
theorem letS_inv {n : Nat} {R U : List Int} (s : Sf n R U) {c : UInt8} (hc : isL c = true) : letS (inL c) (letS c (R, U)) = (R, U) := by
  rcases isL_iff.1 hc with h | h | h | h
  · have e1 : letS c (R, U) = shearS (R, U) := by unfold letS; rw [if_pos h]
    have e2 : inL c = 116 := by unfold inL; rw [if_pos h]
    rw [e1, e2]; exact unshear_shear s
  · have e1 : letS c (R, U) = unshearS (R, U) := by unfold letS; rw [if_neg (by omega), if_pos h]
    have e2 : inL c = 84 := by unfold inL; rw [if_neg (by omega), if_pos h]
    rw [e1, e2]; exact shear_unshear s
  · have e1 : letS c (R, U) = turnS (R, U) := by unfold letS; rw [if_neg (by omega), if_neg (by omega), if_pos h]
    have e2 : inL c = 115 := by unfold inL; rw [if_neg (by omega), if_neg (by omega), if_pos h]
    rw [e1, e2]; exact unturn_turn s
  · have e1 : letS c (R, U) = unturnS (R, U) := by unfold letS; rw [if_neg (by omega), if_neg (by omega), if_neg (by omega)]
    have e2 : inL c = 83 := by unfold inL; rw [if_neg (by omega), if_neg (by omega), if_neg (by omega)]
    rw [e1, e2]; exact turn_unturn s
theorem runS_sf {n : Nat} : ∀ (w : List UInt8) (s : Sur), Sf n s.1 s.2 → Sf n (runS w s).1 (runS w s).2 := by
  intro w
  induction w with
  | nil => intro s h; exact h
  | cons c w ih => intro s h; exact ih (letS c s) (letS_sf (R := s.1) (U := s.2) h c)
theorem runS_snoc (w : List UInt8) (c : UInt8) (s : Sur) : runS (w ++ [c]) s = letS c (runS w s) := by simp [runS]
theorem runS_inv {n : Nat} : ∀ (w : List UInt8) (s : Sur), w.all isL = true → Sf n s.1 s.2 → runS (invW w) (runS w s) = s := by
  intro w
  induction w with
  | nil => intro s _ _; rfl
  | cons c w ih =>
    intro s hw h
    simp only [List.all_cons, Bool.and_eq_true] at hw
    have e : invW (c :: w) = invW w ++ [inL c] := by simp [invW]
    rw [e, runS_snoc]
    show letS (inL c) (runS (invW w) (runS w (letS c s))) = s
    rw [ih (letS c s) hw.2 (letS_sf (R := s.1) (U := s.2) h c)]
    exact letS_inv (R := s.1) (U := s.2) h hw.1
/-- A shear behind a turn, three times, is two turns, but for the names. -/
theorem st_is {n : Nat} {R U : List Int} (s : Sf n R U) : shearS (turnS (R, U)) = (Inv U, thn U R) := by
  show (Inv U, thn (Inv (Inv U)) R) = _
  rw [Inv_Inv s.u]
theorem st_sf {n : Nat} {R U : List Int} (s : Sf n R U) : Sf n (Inv U) (thn U R) := by
  have := shear_sf (turn_sf s)
  rw [show ((turnS (R, U)).1, (turnS (R, U)).2) = turnS (R, U) from rfl, st_is s] at this
  exact this
theorem ren_of {n : Nat} {X Y P : List Int} (x : Ok X) (y : Ok Y) (p : Ok P) (lx : X.length = n) (ly : Y.length = n) (lp : P.length = n) (h : thn X P = thn P Y) : Ren n X Y P := by
  have b : ∀ q : List Int, Ok q → q.length = n → Bij n q := fun q h l => by have := h.bij; rw [l] at this; exact this
  refine ⟨b X x lx, b Y y ly, b P p lp, fun i hi => ?_⟩
  have e : (thn X P).getD i 0 = (thn P Y).getD i 0 := by rw [h]
  rw [thn_at (by omega), thn_at (by omega)] at e
  exact e.symm
theorem sts_iso {n : Nat} {R U : List Int} (s : Sf n R U) :
    Iso n (shearS (turnS (shearS (turnS (shearS (turnS (R, U))))))).1 (shearS (turnS (shearS (turnS (shearS (turnS (R, U))))))).2 (turnS (turnS (R, U))).1 (turnS (turnS (R, U))).2 (thn U R) := by
  have s1 := st_sf s
  have s2 := st_sf s1
  have s3 := st_sf s2
  rw [st_is s, st_is s1, st_is s2]
  have lr := s.lr; have lu := s.lu
  obtain ⟨P, hP⟩ : ∃ P, P = thn U R := ⟨_, rfl⟩
  have okP : Ok P := by rw [hP]; exact thn_ok s.u s.r (by rw [lu, lr])
  have lP : P.length = n := by rw [hP, thn_len]; exact lu
  rw [← hP] at s1 s2 s3 ⊢
  have okI := Inv_ok s.u
  have e1 : Inv (thn P (Inv U)) = thn U (Inv P) := by rw [Inv_thn okP okI (by rw [Inv_len, lP, lu]), Inv_Inv s.u]
  have o1 : Ok (thn U (Inv P)) := thn_ok s.u (Inv_ok okP) (by rw [Inv_len, lP, lu])
  have o2 : Ok (thn P (Inv U)) := thn_ok okP okI (by rw [Inv_len, lP, lu])
  have o3 : Ok (thn (thn P (Inv U)) (Inv P)) := thn_ok o2 (Inv_ok okP) (by rw [thn_len, Inv_len])
  rw [e1] at s3 ⊢
  rw [show turnS (turnS (R, U)) = (Inv R, Inv U) from rfl]
  refine ⟨s3, okP, lP, ?_, ?_⟩
  · refine ren_of o1 (Inv_ok s.r) okP (by rw [thn_len]; exact lu) (by rw [Inv_len]; exact lr) lP ?_
    rw [thn_assoc s.u (by rw [Inv_len, lP, lu]), Inv_thn_self okP lP, thn_id s.u lu, hP, thn_assoc s.u (by rw [lu, lr]), thn_Inv s.r lr, thn_id s.u lu]
  · refine ren_of o3 okI okP (by rw [thn_len, thn_len]; exact lP) (by rw [Inv_len]; exact lu) lP ?_
    rw [thn_assoc o2 (by rw [thn_len, Inv_len]), Inv_thn_self okP lP, thn_id o2 (by rw [thn_len]; exact lP)]

/-! ### Matrices -/
abbrev Mx := Int × Int × Int × Int
def mulM (m k : Mx) : Mx := (m.1 * k.1 + m.2.1 * k.2.2.1, m.1 * k.2.1 + m.2.1 * k.2.2.2, m.2.2.1 * k.1 + m.2.2.2 * k.2.2.1, m.2.2.1 * k.2.1 + m.2.2.2 * k.2.2.2)
def detM (m : Mx) : Int := m.1 * m.2.2.2 - m.2.1 * m.2.2.1
def letM (c : UInt8) : Mx := if c.toNat = 84 then (1, 1, 0, 1) else if c.toNat = 116 then (1, -1, 0, 1) else if c.toNat = 83 then (0, -1, 1, 0) else (0, 1, -1, 0)
def matW (w : List UInt8) : Mx := w.foldl (fun m c => mulM (letM c) m) (1, 0, 0, 1)
theorem matW_snoc (w : List UInt8) (c : UInt8) : matW (w ++ [c]) = mulM (letM c) (matW w) := by simp [matW]
def Lim (p : Int) (m : Mx) : Prop := (-p ≤ m.1 ∧ m.1 ≤ p) ∧ (-p ≤ m.2.1 ∧ m.2.1 ≤ p) ∧ (-p ≤ m.2.2.1 ∧ m.2.2.1 ≤ p) ∧ (-p ≤ m.2.2.2 ∧ m.2.2.2 ≤ p)
theorem lim_let {p : Int} {m : Mx} (c : UInt8) (hp : 0 ≤ p) (h : Lim p m) : Lim (2 * p) (mulM (letM c) m) := by
  obtain ⟨a, b, cc, d⟩ := m
  obtain ⟨⟨h1, h2⟩, ⟨h3, h4⟩, ⟨h5, h6⟩, ⟨h7, h8⟩⟩ := h
  simp only at h1 h2 h3 h4 h5 h6 h7 h8
  unfold letM
  split
  · simp only [Lim, mulM]; omega
  · split
    · simp only [Lim, mulM]; omega
    · split
      · simp only [Lim, mulM]; omega
      · simp only [Lim, mulM]; omega
theorem lim_fold : ∀ (w : List UInt8) (p : Int) (m : Mx), 0 ≤ p → Lim p m → Lim (2 ^ w.length * p) (w.foldl (fun m c => mulM (letM c) m) m) := by
  intro w
  induction w with
  | nil => intro p m hp h; simpa using h
  | cons c w ih =>
    intro p m hp h
    have := ih (2 * p) _ (by omega) (lim_let c hp h)
    rw [List.foldl_cons, List.length_cons]
    rw [show (2 : Int) ^ (w.length + 1) * p = 2 ^ w.length * (2 * p) by rw [Int.pow_succ, Int.mul_assoc]]
    exact this
theorem matW_lim (w : List UInt8) (h : w.length ≤ 40) : Lim 1099511627776 (matW w) := by
  have h1 := lim_fold w 1 (1, 0, 0, 1) (by omega) (by unfold Lim; simp)
  have h2 : (2 : Int) ^ w.length ≤ 2 ^ 40 := by
    have : (2 : Nat) ^ w.length ≤ 2 ^ 40 := Nat.pow_le_pow_right (by omega) h
    exact_mod_cast this
  have h3 : (2 : Int) ^ 40 = 1099511627776 := by decide
  rw [Int.mul_one] at h1
  obtain ⟨⟨a1, a2⟩, ⟨a3, a4⟩, ⟨a5, a6⟩, ⟨a7, a8⟩⟩ := h1
  unfold matW Lim
  omega
theorem det_mul (m k : Mx) : detM (mulM m k) = detM m * detM k := by
  obtain ⟨a, b, c, d⟩ := m; obtain ⟨e, f, g, h⟩ := k
  simp only [detM, mulM]
  grind
theorem det_let (c : UInt8) : detM (letM c) = 1 := by
  unfold letM
  split
  · rfl
  · split
    · rfl
    · split <;> rfl
theorem det_fold : ∀ (w : List UInt8) (m : Mx), detM (w.foldl (fun m c => mulM (letM c) m) m) = detM m := by
  intro w
  induction w with
  | nil => intro m; rfl
  | cons c w ih => intro m; rw [List.foldl_cons, ih, det_mul, det_let, Int.one_mul]
theorem matW_det (w : List UInt8) : detM (matW w) = 1 := by unfold matW; rw [det_fold]; rfl
end Go.Proofs.Ytafpbnjfmieamaa.pm

/-
  The orbit of a surface as lists: canonical forms, the first place of a form in a list, the search with its words.
-/
namespace Go.Proofs.Ytafpbnjfmieamaa.orb
open Go.Proofs.Ytafpbnjfmieamaa.pm
set_option linter.unusedVariables false
set_option maxRecDepth 100000

/-- The canonical form of a surface. -/
def cn (s : Sur) : Sur := can s.1 s.2 s.1.length
/-- The first place of x in L, or -1. -/
def fnd : List Sur → Sur → Int
  | [], _ => -1
  | y :: L, x => if y = x then 0 else if fnd L x < 0 then -1 else fnd L x + 1
theorem fnd_range (L : List Sur) (x : Sur) : fnd L x = -1 ∨ (0 ≤ fnd L x ∧ fnd L x < L.length) := by
  induction L with
  | nil => exact .inl rfl
  | cons y L ih =>
    unfold fnd
    split
    · right; simp
    · split
      · exact .inl rfl
      · right
        rcases ih with h | h
        · omega
        · simp; omega
theorem fnd_no {L : List Sur} {x : Sur} : fnd L x = -1 ↔ x ∉ L := by
  induction L with
  | nil => simp [fnd]
  | cons y L ih =>
    have hr := fnd_range L x
    unfold fnd
    by_cases h : y = x
    · simp [h]
    · rw [if_neg h]
      have hm : x ∉ y :: L ↔ x ∉ L := by simp [show ¬ x = y from fun e => h e.symm]
      rw [hm, ← ih]
      by_cases h' : fnd L x < 0
      · rw [if_pos h']; omega
      · rw [if_neg h']; omega
theorem fnd_neg {L : List Sur} {x : Sur} : fnd L x < 0 ↔ x ∉ L := by
  rw [← fnd_no]
  have := fnd_range L x
  omega
theorem fnd_at {L : List Sur} {x : Sur} {k : Nat} (h1 : L[k]? = some x) (h2 : ∀ j, j < k → L[j]? ≠ some x) : fnd L x = k := by
  induction L generalizing k with
  | nil => simp at h1
  | cons y L ih =>
    unfold fnd
    cases k with
    | zero => simp at h1; rw [if_pos h1]; rfl
    | succ k =>
      have h0 : ¬ y = x := fun e => h2 0 (by omega) (by simp [e])
      have := ih (k := k) (by simpa using h1) (fun j hj => by simpa using h2 (j + 1) (by omega))
      rw [if_neg h0, this, if_neg (by omega)]
      omega
theorem fnd_none {L : List Sur} {x : Sur} (h : ∀ j, j < L.length → L[j]? ≠ some x) : fnd L x = -1 := by
  rw [fnd_no]
  intro hx
  obtain ⟨j, hj, e⟩ := List.mem_iff_getElem.1 hx
  exact h j hj (by rw [List.getElem?_eq_getElem hj, e])
/-- Where the first place is. -/
theorem fnd_get {L : List Sur} {x : Sur} (h : x ∈ L) : ∃ k : Nat, fnd L x = k ∧ k < L.length ∧ L[k]? = some x := by
  induction L with
  | nil => simp at h
  | cons y L ih =>
    unfold fnd
    by_cases e : y = x
    · exact ⟨0, by simp [e], by simp, by simp [e]⟩
    · have hx : x ∈ L := by
        rcases List.mem_cons.1 h with q | q
        · exact absurd q.symm e
        · exact q
      obtain ⟨k, h1, h2, h3⟩ := ih hx
      exact ⟨k + 1, by rw [if_neg e, h1, if_neg (by omega)]; omega, by simp; omega, by simpa using h3⟩

abbrev LW := List Sur × List (List UInt8)
/-- The form after a letter. -/
def stp (c : UInt8) (s : Sur) : Sur := cn (letS c s)
/-- One letter at the surface number k: the form behind it is added if it is not there yet, with its word. -/
def addL (k : Nat) (c : UInt8) (q : LW) : LW :=
  if stp c (q.1.getD k ([], [])) ∈ q.1 then q else (q.1 ++ [stp c (q.1.getD k ([], []))], q.2 ++ [q.2.getD k [] ++ [c]])
def two (k : Nat) (q : LW) : LW := addL k 83 (addL k 84 q)
/-- The search from place k on, with fuel. -/
def orun : Nat → Nat → LW → Option LW
  | 0, _, _ => none
  | f + 1, k, q => if k < q.1.length then (if 120 < (two k q).1.length then none else orun f (k + 1) (two k q)) else some q
/-- The orbit of a surface, with the words: none if there are more than 120. -/
def orb (s : Sur) : Option LW := orun 122 0 ([cn s], [[]])

/-- What the search keeps: as many words as surfaces, all valid with n squares, and the word number k has at most k letters. -/
structure Oi (n : Nat) (q : LW) : Prop where
  len : q.2.length = q.1.length
  sf : ∀ x ∈ q.1, Sf n x.1 x.2
  wl : ∀ (k : Nat) (w : List UInt8), q.2[k]? = some w → w.length ≤ k
theorem cn_sf {n : Nat} {s : Sur} (h : Sf n s.1 s.2) : Sf n (cn s).1 (cn s).2 := by
  unfold cn
  rw [h.lr]
  obtain ⟨ns, _, h2⟩ := h.can_iso
  exact h2
theorem Oi.start {n : Nat} {s : Sur} (h : Sf n s.1 s.2) : Oi n ([cn s], [[]]) :=
  ⟨rfl, fun x hx => by simp at hx; subst hx; exact cn_sf h, fun k w hw => by
    cases k with
    | zero => simp at hw; subst hw; simp
    | succ k => simp at hw⟩
theorem Oi.at {n : Nat} {q : LW} (h : Oi n q) {k : Nat} (hk : k < q.1.length) : ∃ x w, q.1[k]? = some x ∧ q.1.getD k ([], []) = x ∧ Sf n x.1 x.2 ∧ q.2[k]? = some w ∧ q.2.getD k [] = w ∧ w.length ≤ k := by
  have hk2 : k < q.2.length := by rw [h.len]; exact hk
  have e2 := List.getElem?_eq_getElem hk2
  refine ⟨q.1[k], q.2[k], List.getElem?_eq_getElem hk, ?_, h.sf _ (List.getElem_mem hk), e2, ?_, h.wl k _ e2⟩
  · rw [List.getD_eq_getElem?_getD, List.getElem?_eq_getElem hk]; rfl
  · rw [List.getD_eq_getElem?_getD, e2]; rfl
theorem addL_sub (k : Nat) (c : UInt8) (q : LW) : ∃ r, (addL k c q).1 = q.1 ++ r ∧ r.length ≤ 1 := by
  unfold addL
  split
  · exact ⟨[], by simp⟩
  · exact ⟨_, rfl, by simp⟩
theorem addL_sub2 (k : Nat) (c : UInt8) (q : LW) : ∃ r, (addL k c q).2 = q.2 ++ r ∧ r.length ≤ 1 := by
  unfold addL
  split
  · exact ⟨[], by simp⟩
  · exact ⟨_, rfl, by simp⟩
theorem Oi.add {n : Nat} {q : LW} (h : Oi n q) {k : Nat} (hk : k < q.1.length) (c : UInt8) : Oi n (addL k c q) := by
  obtain ⟨x, w, h1, h2, h3, h4, h5, h6⟩ := h.at hk
  unfold addL
  split
  · exact h
  · refine ⟨by simp [h.len], fun y hy => ?_, fun j u hu => ?_⟩
    · rcases List.mem_append.1 hy with q' | q'
      · exact h.sf y q'
      · simp at q'
        subst q'
        rw [h1]
        exact cn_sf (letS_sf h3 c)
    · simp only at hu
      rw [List.getElem?_append] at hu
      split at hu
      · exact h.wl j u hu
      · rename_i hj
        have hl := h.len
        rcases Nat.eq_zero_or_pos (j - q.2.length) with e | e
        · rw [e] at hu
          simp at hu
          subst hu
          rw [show q.2[k]?.getD [] = w by rw [h4]; rfl]
          simp; omega
        · rw [List.getElem?_eq_none (by simp; omega)] at hu; cases hu
end Go.Proofs.Ytafpbnjfmieamaa.orb

/-
  form of the program: the canonical form of a gluing.
-/
namespace Go.Proofs.Ytafpbnjfmieamaa.orb
open Go.ChangeShapes Go.WideShapes Go.ChangeAt Go.RowKit
open Go.Proofs.Ytafpbnjfmieamaa.mem Go.Proofs.Ytafpbnjfmieamaa.ints Go.Proofs.Ytafpbnjfmieamaa.arr Go.Proofs.Ytafpbnjfmieamaa.pm Go.Proofs.Ytafpbnjfmieamaa.sf Go.Proofs.Ytafpbnjfmieamaa.gl
set_option linter.unusedVariables false
set_option maxRecDepth 100000
/-- The 49 cells of a surface. -/
def gS (s : Sur) (n : Nat) : List Int := gl (ext s.1) (ext s.2) n
theorem gS_len (s : Sur) (n : Nat) : (gS s n).length = 49 := gl_len (ext_len _) (ext_len _) _
set_option maxHeartbeats 4000000 in
theorem form_any (r u : List Int) (n : Nat) (w : World) (hs : Sf n r u) :
    Calls Try.prog 51 #[.agg (V (gl (ext r) (ext u) n)).toArray] w fun e w' => e = .returned (.agg (V (gS (cn (r, u)) n)).toArray) ∧ Below w.heap.size w w' := by
  have HS := Lib.hid hs; clear hs
  have HC : Hid (gl (ext (can r u n).1) (ext (can r u n).2) n = gS (cn (r, u)) n) := Lib.hid (by unfold gS cn; rw [HS.out.lr])
  have HL : (gS (cn (r, u)) n).length = 49 := gS_len _ _
  go_enter Try.func51, Try.ntmps51
  have G49 : (gl (ext r) (ext u) n).length = 49 := gl_len (ext_len _) (ext_len _) _
  go_wp2_with (first | (refine wpList_load_row rfl 62 _ rfl w.heap.size rfl 62 (V (gl (ext r) (ext u) n)).toArray (0, 0) _ ((Arr.new w _ _ rfl).alloc _) Try.underlying62 rfl (size49 G49) ?_) | fail)
  generalize hw1 : (w.alloc (.cells (V (gl (ext r) (ext u) n)).toArray 62)).alloc (.cells #[.int .i64 0, .int .i64 0, .int .i64 0, .int .i64 0, .int .i64 0, .int .i64 0, .int .i64 0, .int .i64 0, .int .i64 0, .int .i64 0, .int .i64 0, .int .i64 0, .int .i64 0, .int .i64 0, .int .i64 0, .int .i64 0, .int .i64 0, .int .i64 0, .int .i64 0, .int .i64 0, .int .i64 0, .int .i64 0, .int .i64 0, .int .i64 0, .int .i64 0, .int .i64 0, .int .i64 0, .int .i64 0, .int .i64 0, .int .i64 0, .int .i64 0, .int .i64 0, .int .i64 0, .int .i64 0, .int .i64 0, .int .i64 0, .int .i64 0, .int .i64 0, .int .i64 0, .int .i64 0, .int .i64 0, .int .i64 0, .int .i64 0, .int .i64 0, .int .i64 0, .int .i64 0, .int .i64 0, .int .i64 0, .int .i64 0] 62) = w1
  have A1 : Hid (Arr w1 (w.heap.size + 1) (V zero49) 62) := Lib.hid (by rw [← hw1]; exact Arr.new _ (V zero49) _ (by simp))
  have B1 : Hid (Below w.heap.size w w1) := Lib.hid (by rw [← hw1]; exact ((Below.refl _ _).alloc (Nat.le_refl _) _).alloc (by simp) _)
  have s1 : w1.heap.size = w.heap.size + 2 := by rw [← hw1]; simp
  clear hw1
  refine (canon_any r u n _ HS.out).mono ?_
  rintro e w3 ⟨B, D, mm, rfl, _, _, b1⟩
  rw [HC.out]
  replace A1 := Lib.hid (A1.out.keep b1 A1.out.lt)
  replace B1 := Lib.hid (B1.out.trans (b1.mono B1.out.size))
  have hs3 := b1.size
  clear b1
  generalize hLL : gS (cn (r, u)) n = L at *
  go_wp2_with (first | (refine wpList_store_row rfl 62 _ _ rfl w3.heap.size (V (L)).toArray rfl rfl 62 (V zero49).toArray (Arr.new w3 (V zero49) _ rfl) (size49 HL) (by simp [V_len, HL, zero49]) (one_V _) ?_; generalize hw4 : (w3.alloc (.cells #[.int .i64 0, .int .i64 0, .int .i64 0, .int .i64 0, .int .i64 0, .int .i64 0, .int .i64 0, .int .i64 0, .int .i64 0, .int .i64 0, .int .i64 0, .int .i64 0, .int .i64 0, .int .i64 0, .int .i64 0, .int .i64 0, .int .i64 0, .int .i64 0, .int .i64 0, .int .i64 0, .int .i64 0, .int .i64 0, .int .i64 0, .int .i64 0, .int .i64 0, .int .i64 0, .int .i64 0, .int .i64 0, .int .i64 0, .int .i64 0, .int .i64 0, .int .i64 0, .int .i64 0, .int .i64 0, .int .i64 0, .int .i64 0, .int .i64 0, .int .i64 0, .int .i64 0, .int .i64 0, .int .i64 0, .int .i64 0, .int .i64 0, .int .i64 0, .int .i64 0, .int .i64 0, .int .i64 0, .int .i64 0, .int .i64 0] 62)).setRow w3.heap.size (V L).toArray = w4; have A3 : Hid (Arr w4 w3.heap.size (V L) 62) := Lib.hid (by rw [← hw4]; exact (Arr.new w3 (V zero49) _ rfl).row); have b1 : Below w3.heap.size w3 w4 := (by rw [← hw4]; exact arr.below_setRow ((Below.refl _ _).alloc (Nat.le_refl _) _) (Nat.le_refl _) _); have s4 := b1.size; replace A1 := Lib.hid (A1.out.keep b1 A1.out.lt); replace B1 := Lib.hid (B1.out.trans (b1.mono B1.out.size)); clear hw4 b1) | (refine wpList_load_row rfl 62 _ rfl w3.heap.size rfl 62 (V L).toArray (0, 0) _ A3.out Try.underlying62 rfl (size49 HL) ?_) | (refine wpList_store_row rfl 62 _ _ rfl (w.heap.size + 1) (V (L)).toArray rfl rfl 62 (V zero49).toArray A1.out (size49 HL) (by simp [V_len, HL, zero49]) (one_V _) ?_) | fail)
  exact bodyPost_ret (v := .agg (V L).toArray) (results_cell_row rfl _ _ (w.heap.size + 1) 62 (V L).toArray (0, 0) _ rfl A1.out.row Try.underlying62 rfl (size49 HL)) rfl ⟨by rw [← hLL], below_setRow B1.out (by omega) _⟩
end Go.Proofs.Ytafpbnjfmieamaa.orb

/-
  A slice of surfaces that is read; the model's l06Find.
-/
namespace Go.Proofs.Ytafpbnjfmieamaa.orb
open Go.ChangeShapes Go.WideShapes Go.ChangeAt Go.RowKit
open Go.Proofs.Ytafpbnjfmieamaa.mem Go.Proofs.Ytafpbnjfmieamaa.ints Go.Proofs.Ytafpbnjfmieamaa.arr Go.Proofs.Ytafpbnjfmieamaa.pm Go.Proofs.Ytafpbnjfmieamaa.sf
set_option linter.unusedVariables false
set_option maxRecDepth 100000

/-- v is a slice of surfaces that reads as L. -/
def Lrd (w : World) (hi : Nat) (v : Value) (L : List Sur) : Prop :=
  ∃ A n c, v = .slice A n c ∧ L.length = n ∧ n ≤ c ∧ hi ≤ w.heap.size ∧ (0 < n → ∃ g off, A = some ⟨g, off, none⟩ ∧ g < hi ∧
    ∀ (k : Nat) (s : Sur), L[k]? = some s → ∃ a b, w.cell? ⟨g, off + k * 2, none⟩ = some a ∧ w.cell? ⟨g, off + k * 2 + 1, none⟩ = some b ∧ Srd w hi (.agg #[a, b]) s.1 s.2)
theorem Lrd.keep {w w' : World} {hi B : Nat} {v : Value} {L : List Sur} (h : Lrd w hi v L) (hb : Below B w w') (hB : hi ≤ B) : Lrd w' hi v L := by
  obtain ⟨A, n, c, e, h1, h2, h3, h4⟩ := h
  refine ⟨A, n, c, e, h1, h2, Nat.le_trans h3 hb.size, fun hn => ?_⟩
  obtain ⟨g, off, q1, q2, q3⟩ := h4 hn
  refine ⟨g, off, q1, q2, fun k s hs => ?_⟩
  obtain ⟨a, b, c1, c2, c3⟩ := q3 k s hs
  exact ⟨a, b, by rw [hb.cell (p := ⟨g, off + k * 2, none⟩) (by show g < B; omega)]; exact c1, by rw [hb.cell (p := ⟨g, off + k * 2 + 1, none⟩) (by show g < B; omega)]; exact c2, c3.keep hb hB⟩
theorem Lrd.top {w : World} {hi : Nat} {v : Value} {L : List Sur} (h : Lrd w hi v L) : hi ≤ w.heap.size := by
  obtain ⟨A, n, c, e, h1, h2, h3, h4⟩ := h
  exact h3
theorem Lrd.at_ {w : World} {hi n c k : Nat} {A : Option Addr} {L : List Sur} (h : Lrd w hi (.slice A n c) L) (hk : k < n) :
    ∃ g off s P p cp Q q cq, A = some ⟨g, off, none⟩ ∧ g < hi ∧ L[k]? = some s ∧ w.cell? ⟨g, off + k * 2, none⟩ = some (.slice P p cp) ∧ w.cell? ⟨g, off + k * 2 + 1, none⟩ = some (.slice Q q cq) ∧ Srd w hi (.agg #[.slice P p cp, .slice Q q cq]) s.1 s.2 := by
  obtain ⟨A', n', c', e, h1, h2, h3, h4⟩ := h
  injection e with e1 e2 e3
  subst e1; subst e2; subst e3
  obtain ⟨g, off, q1, q2, q3⟩ := h4 (by omega)
  have hs := List.getElem?_eq_getElem (l := L) (i := k) (by omega)
  obtain ⟨a, b, c1, c2, c3⟩ := q3 k _ hs
  have c4 := c3
  obtain ⟨P, p, cp, Q, q, cq, e, _⟩ := c4
  simp at e
  obtain ⟨rfl, rfl⟩ := e
  exact ⟨g, off, _, P, p, cp, Q, q, cq, q1, q2, hs, c1, c2, c3⟩
def Rel (L : List Sur) (x : Sur) (w wr : World) (k : Nat) : Prop := Below w.heap.size w wr ∧ ∀ j, j < k → L[j]? ≠ some x
theorem same_eq {r u r' u' : List Int} : sameF r u r' u' = decide ((r, u) = (r', u')) := by
  unfold sameF eqi
  by_cases h1 : r = r' <;> by_cases h2 : u = u' <;> simp [h1, h2]
theorem Rel.step {L : List Sur} {x y : Sur} {w wr w' : World} {k : Nat} (h : Rel L x w wr k) (hb : Below w.heap.size w w') (hy : L[k]? = some y) (hne : sameF y.1 y.2 x.1 x.2 = false) : Rel L x w w' (k + 1) := by
  refine ⟨hb, fun j hj e => ?_⟩
  by_cases q : j = k
  · subst q
    rw [hy] at e
    injection e with e
    subst e
    rw [same_eq] at hne
    simp at hne
  · exact h.2 j (by omega) e

end Go.Proofs.Ytafpbnjfmieamaa.orb

/-
  Slices of slices of ints: rows of headers, each with a row of its own; the laws' helpers eqIntSS, markIntSS, heldIntSS.
-/
namespace Go.Proofs.Ytafpbnjfmieamaa.mat
open Go.ChangeShapes Go.WideShapes Go.ChangeAt Go.RowKit
open Go.Proofs.Ytafpbnjfmieamaa.mem Go.Proofs.Ytafpbnjfmieamaa.ints
set_option linter.unusedVariables false
set_option maxRecDepth 100000

/-- The headers hs have the rows xss; those that are not empty lie in different blocks bl i, from lo on and below hi, none of them in ex. -/
structure Hs (w : World) (lo hi : Nat) (ex : Nat → Prop) (bl : Nat → Nat) (hs : List Value) (xss : List (List Int)) : Prop where
  len : hs.length = xss.length
  top : hi ≤ w.heap.size
  row : ∀ i xs, xss[i]? = some xs → ∃ A c, hs[i]? = some (.slice A xs.length c) ∧ (0 < xs.length → lo ≤ bl i ∧ bl i < hi ∧ ¬ ex (bl i) ∧ Row w (bl i) (bl i + 1) A xs.length (V xs))
  ne : ∀ i j xs ys, xss[i]? = some xs → xss[j]? = some ys → 0 < xs.length → 0 < ys.length → i ≠ j → bl i ≠ bl j

theorem Row.block {w w' : World} {g n : Nat} {A : Option Addr} {xs : List Value} (h : Row w g (g + 1) A n xs) (hb : w'.heap[g]? = w.heap[g]?) (hs : w.heap.size ≤ w'.heap.size) : Row w' g (g + 1) A n xs := by
  refine ⟨h.1, Nat.le_trans h.2.1 hs, fun hn => ?_⟩
  obtain ⟨g', off, e, h1, h2, hc⟩ := h.2.2 hn
  obtain rfl : g' = g := by omega
  refine ⟨g', off, e, h1, h2, fun j hj => ?_⟩
  rw [World.cell?_of_block (w := w) (a := ⟨g', off + j, none⟩) hb, World.frozen?_of_block (w := w) (a := ⟨g', off + j, none⟩) hb]
  exact hc j hj
theorem Hs.keep {w w' : World} {lo hi : Nat} {ex : Nat → Prop} {bl : Nat → Nat} {hs : List Value} {xss : List (List Int)} (h : Hs w lo hi ex bl hs xss) (hs' : w.heap.size ≤ w'.heap.size)
    (hk : ∀ b, lo ≤ b → b < hi → ¬ ex b → w'.heap[b]? = w.heap[b]?) : Hs w' lo hi ex bl hs xss := by
  refine ⟨h.len, Nat.le_trans h.top hs', fun i xs hx => ?_, h.ne⟩
  obtain ⟨A, c, e, hr⟩ := h.row i xs hx
  refine ⟨A, c, e, fun hp => ?_⟩
  obtain ⟨h1, h2, h3, h4⟩ := hr hp
  exact ⟨h1, h2, h3, Row.block h4 (hk _ h1 h2 h3) hs'⟩
theorem Hs.nil (w : World) (lo hi : Nat) (ex : Nat → Prop) (bl : Nat → Nat) (h : hi ≤ w.heap.size) : Hs w lo hi ex bl [] [] :=
  ⟨rfl, h, fun i xs hx => by simp at hx, fun i j xs ys hx => by simp at hx⟩
theorem Hs.exs {w : World} {lo hi : Nat} {ex ex' : Nat → Prop} {bl : Nat → Nat} {hs : List Value} {xss : List (List Int)} (h : Hs w lo hi ex bl hs xss) (he : ∀ b, lo ≤ b → b < hi → ¬ ex b → ¬ ex' b) : Hs w lo hi ex' bl hs xss := by
  refine ⟨h.len, h.top, fun i xs hx => ?_, h.ne⟩
  obtain ⟨A, c, e, hr⟩ := h.row i xs hx
  exact ⟨A, c, e, fun hp => ⟨(hr hp).1, (hr hp).2.1, he _ (hr hp).1 (hr hp).2.1 (hr hp).2.2.1, (hr hp).2.2.2⟩⟩
theorem Hs.wider {w : World} {lo hi lo' hi' : Nat} {ex : Nat → Prop} {bl : Nat → Nat} {hs : List Value} {xss : List (List Int)} (h : Hs w lo hi ex bl hs xss) (h0 : lo' ≤ lo) (h1 : hi ≤ hi') (h2 : hi' ≤ w.heap.size) : Hs w lo' hi' ex bl hs xss := by
  refine ⟨h.len, h2, fun i xs hx => ?_, h.ne⟩
  obtain ⟨A, c, e, hr⟩ := h.row i xs hx
  exact ⟨A, c, e, fun hp => ⟨by have := (hr hp).1; omega, by have := (hr hp).2.1; omega, (hr hp).2.2⟩⟩
theorem Hs.snoc {w : World} {lo hi : Nat} {ex : Nat → Prop} {bl : Nat → Nat} {hs : List Value} {xss : List (List Int)} (h : Hs w lo hi ex bl hs xss) {g c : Nat} {A : Option Addr} {xs : List Int} (hg : hi ≤ g) (hlo : lo ≤ hi) (hx : ¬ ex g) (hr : Row w g (g + 1) A xs.length (V xs)) :
    Hs w lo (g + 1) ex (fun i => if i = xss.length then g else bl i) (hs ++ [.slice A xs.length c]) (xss ++ [xs]) := by
  have hl := h.len
  refine ⟨by simp [hl], hr.2.1, fun i ys hy => ?_, fun i j ys zs hy hz y0 z0 hij => ?_⟩
  · rw [List.getElem?_append] at hy
    by_cases hi' : i < xss.length
    · rw [if_pos hi'] at hy
      obtain ⟨A', c', e, hr'⟩ := h.row i ys hy
      refine ⟨A', c', ?_, fun hp => ?_⟩
      · rw [List.getElem?_append_left (by omega)]; exact e
      · rw [if_neg (by omega)]
        obtain ⟨q1, q2, q3, q4⟩ := hr' hp
        exact ⟨q1, by omega, q3, q4⟩
    · rw [if_neg hi'] at hy
      have e0 : i = xss.length := by
        rcases Nat.lt_or_ge (i - xss.length) 1 with q | q
        · omega
        · rw [List.getElem?_eq_none (by simpa using q)] at hy; cases hy
      subst e0
      simp at hy
      subst hy
      refine ⟨A, c, ?_, fun hp => ?_⟩
      · rw [List.getElem?_append_right (by omega), hl]; simp
      · rw [if_pos rfl]
        exact ⟨by omega, by omega, hx, hr⟩
  · have hlt : ∀ (q : Nat) (us : List Int), (xss ++ [xs])[q]? = some us → q ≠ xss.length → xss[q]? = some us := by
      intro q us hq hne
      rw [List.getElem?_append] at hq
      by_cases hq' : q < xss.length
      · rw [if_pos hq'] at hq; exact hq
      · rw [if_neg hq', List.getElem?_eq_none (by simp; omega)] at hq; cases hq
    by_cases e1 : i = xss.length
    · by_cases e2 : j = xss.length
      · omega
      · simp only [if_pos e1, if_neg e2]
        obtain ⟨A', c', e, hr'⟩ := h.row j zs (hlt j zs hz e2)
        have := (hr' z0).2.1
        omega
    · by_cases e2 : j = xss.length
      · simp only [if_pos e2, if_neg e1]
        obtain ⟨A', c', e, hr'⟩ := h.row i ys (hlt i ys hy e1)
        have := (hr' y0).2.1
        omega
      · simp only [if_neg e1, if_neg e2]
        exact h.ne i j ys zs (hlt i ys hy e1) (hlt j zs hz e2) y0 z0 hij
/-- A row, alone: where it may be written. -/
theorem Hs.one {w : World} {lo hi : Nat} {ex : Nat → Prop} {bl : Nat → Nat} {hs : List Value} {xss : List (List Int)} (h : Hs w lo hi ex bl hs xss) {i : Nat} {xs : List Int} (hx : xss[i]? = some xs) :
    ∃ A c l u, hs[i]? = some (.slice A xs.length c) ∧ Row w l u A xs.length (V xs) ∧ (0 < xs.length → lo ≤ l ∧ u ≤ hi ∧ l = bl i ∧ u = l + 1 ∧ ¬ ex l) ∧ (xs.length = 0 → l = 0 ∧ u = 0) := by
  obtain ⟨A, c, e, hr⟩ := h.row i xs hx
  rcases Nat.eq_zero_or_pos xs.length with h0 | h0
  · refine ⟨A, c, 0, 0, e, ⟨by simp [V], Nat.zero_le _, fun q => by omega⟩, fun q => by omega, fun _ => ⟨rfl, rfl⟩⟩
  · obtain ⟨q1, q2, q3, q4⟩ := hr h0
    exact ⟨A, c, bl i, bl i + 1, e, q4, fun _ => ⟨q1, by omega, rfl, rfl, q3⟩, fun q => by omega⟩
theorem Hs.set_ {w w' : World} {lo hi : Nat} {ex : Nat → Prop} {bl : Nat → Nat} {hs : List Value} {xss : List (List Int)} (h : Hs w lo hi ex bl hs xss) {i l u c : Nat} {A : Option Addr} {xs ys : List Int} (hx : xss[i]? = some xs) (hl : ys.length = xs.length)
    (he : hs[i]? = some (.slice A xs.length c)) (hp : 0 < xs.length → lo ≤ l ∧ u ≤ hi ∧ l = bl i ∧ u = l + 1 ∧ ¬ ex l) (hr : Row w' l u A xs.length (V ys)) (ho : Out l u w w') (h0 : xs.length = 0 → l = 0 ∧ u = 0) : Hs w' lo hi ex bl hs (xss.set i ys) := by
  have hi' : i < xss.length := (List.getElem?_eq_some_iff.1 hx).1
  have key : ∀ j zs, (xss.set i ys)[j]? = some zs → ∃ zs0, xss[j]? = some zs0 ∧ zs0.length = zs.length ∧ (j ≠ i → zs0 = zs) := by
    intro j zs hz
    by_cases e : j = i
    · subst e
      rw [List.getElem?_set_self hi'] at hz
      obtain rfl := Option.some.inj hz
      exact ⟨xs, hx, hl.symm, fun q => absurd rfl q⟩
    · rw [List.getElem?_set_ne (by omega)] at hz
      exact ⟨zs, hz, rfl, fun _ => rfl⟩
  refine ⟨by simp [h.len], Nat.le_trans h.top ho.size, fun j zs hz => ?_, fun j k zs us hz hu z0 u0 hjk => ?_⟩
  · by_cases e : j = i
    · subst e
      rw [List.getElem?_set_self hi'] at hz
      obtain rfl := Option.some.inj hz
      refine ⟨A, c, by rw [hl]; exact he, fun q => ?_⟩
      rw [hl] at q
      obtain ⟨a1, a2, a3, a4, a5⟩ := hp q
      subst a4; subst a3
      exact ⟨a1, by omega, a5, by rw [hl]; exact hr⟩
    · rw [List.getElem?_set_ne (by omega)] at hz
      obtain ⟨A', c', e', hr'⟩ := h.row j zs hz
      refine ⟨A', c', e', fun q => ?_⟩
      obtain ⟨a1, a2, a3, a4⟩ := hr' q
      refine ⟨a1, a2, a3, Row.block a4 (ho.block _ (by have := h.top; omega) ?_) ho.size⟩
      rcases Nat.eq_zero_or_pos xs.length with x0 | x0
      · obtain ⟨b1, b2⟩ := h0 x0; right; omega
      · obtain ⟨b1, b2, b3, b4, b5⟩ := hp x0
        have := h.ne i j xs zs hx hz x0 q (by omega)
        omega
  · obtain ⟨z1, a1, a2, _⟩ := key j zs hz
    obtain ⟨u1, b1, b2, _⟩ := key k us hu
    exact h.ne j k z1 u1 a1 b1 (by omega) (by omega) hjk

/-- '.slice A n c' reads as the rows xss; all of it lies from lo on and below hi, each row in a block of its own. -/
def Mat (w : World) (lo hi : Nat) (A : Option Addr) (n : Nat) (xss : List (List Int)) : Prop :=
  xss.length = n ∧ hi ≤ w.heap.size ∧ ∃ hs bl G, Hs w lo hi (fun b => b = G) bl hs xss ∧ (0 < n → lo ≤ G ∧ G < hi ∧ Row w G (G + 1) A n hs)
theorem Mat.keep {w w' : World} {lo hi n B : Nat} {A : Option Addr} {xss : List (List Int)} (h : Mat w lo hi A n xss) (hb : Below B w w') (hB : hi ≤ B) : Mat w' lo hi A n xss := by
  obtain ⟨h1, h2, hs, bl, G, h3, h4⟩ := h
  refine ⟨h1, Nat.le_trans h2 hb.size, hs, bl, G, h3.keep hb.size (fun b _ q _ => hb.block b (by omega)), fun hn => ?_⟩
  obtain ⟨q1, q2, q3⟩ := h4 hn
  exact ⟨q1, q2, Row.block q3 (hb.block G (by omega)) hb.size⟩
theorem Mat.out {w w' : World} {lo hi lo' hi' n : Nat} {A : Option Addr} {xss : List (List Int)} (h : Mat w lo hi A n xss) (ho : Out lo' hi' w w') (hd : hi ≤ lo' ∨ hi' ≤ lo) : Mat w' lo hi A n xss := by
  obtain ⟨h1, h2, hs, bl, G, h3, h4⟩ := h
  refine ⟨h1, Nat.le_trans h2 ho.size, hs, bl, G, h3.keep ho.size (fun b p q _ => ho.block b (by omega) (by omega)), fun hn => ?_⟩
  obtain ⟨q1, q2, q3⟩ := h4 hn
  exact ⟨q1, q2, Row.block q3 (ho.block G (by omega) (by omega)) ho.size⟩
theorem Mat.wider {w : World} {lo hi lo' hi' n : Nat} {A : Option Addr} {xss : List (List Int)} (h : Mat w lo hi A n xss) (h0 : lo' ≤ lo) (h1 : hi ≤ hi') (h2 : hi' ≤ w.heap.size) : Mat w lo' hi' A n xss := by
  obtain ⟨a1, a2, hs, bl, G, h3, h4⟩ := h
  refine ⟨a1, h2, hs, bl, G, h3.wider h0 h1 h2, fun hn => ?_⟩
  obtain ⟨q1, q2, q3⟩ := h4 hn
  exact ⟨by omega, by omega, q3⟩
theorem Mat.nil (w : World) (lo hi : Nat) (A : Option Addr) (h : hi ≤ w.heap.size) : Mat w lo hi A 0 [] := ⟨rfl, h, [], fun _ => 0, 0, Hs.nil _ _ _ _ _ h, fun q => by omega⟩
theorem Mat.at_ {w : World} {lo hi n k : Nat} {A : Option Addr} {xss : List (List Int)} (h : Mat w lo hi A n xss) (hk : k < n) :
    ∃ G off A' c xs l u, A = some ⟨G, off, none⟩ ∧ xss[k]? = some xs ∧ w.cell? ⟨G, off + k, none⟩ = some (.slice A' xs.length c) ∧ Row w l u A' xs.length (V xs) ∧
      (∀ w' ys, ys.length = xs.length → Row w' l u A' xs.length (V ys) → Out l u w w' → Mat w' lo hi A n (xss.set k ys) ∧ Out lo hi w w') := by
  obtain ⟨h1, h2, hs, bl, G, h3, h4⟩ := h
  obtain ⟨q1, q2, q3⟩ := h4 (by omega)
  have hx : xss[k]? = some xss[k] := List.getElem?_eq_getElem (by omega)
  obtain ⟨A', c, l, u, e, hr, hp, hz⟩ := h3.one hx
  obtain ⟨g, off, v, rfl, g1, g2, hv, hc, _⟩ := q3.at_ hk
  obtain rfl : g = G := by omega
  rw [e] at hv
  obtain rfl := Option.some.inj hv
  refine ⟨g, off, A', c, xss[k], l, u, rfl, hx, hc, hr, fun w' ys hl hr' ho => ?_⟩
  refine ⟨⟨by simpa using h1, Nat.le_trans h2 ho.size, hs, bl, g, h3.set_ hx hl e hp hr' ho hz, fun _ => ⟨q1, q2, Row.block q3 (ho.block _ (by omega) ?_) ho.size⟩⟩, ?_⟩
  · rcases Nat.eq_zero_or_pos (xss[k]).length with x0 | x0
    · obtain ⟨b1, b2⟩ := hz x0; right; omega
    · obtain ⟨b1, b2, b3, b4, b5⟩ := hp x0; omega
  · rcases Nat.eq_zero_or_pos (xss[k]).length with x0 | x0
    · obtain ⟨b1, b2⟩ := hz x0
      exact ⟨ho.os, ho.tape, ho.output, ho.size, fun j hj _ => ho.block j hj (by omega)⟩
    · obtain ⟨b1, b2, b3, b4, b5⟩ := hp x0
      exact ho.wider b1 b2

def tot (xss : List (List Int)) : Nat := (xss.map List.length).sum
theorem tot_row {xss : List (List Int)} {k : Nat} {xs : List Int} (h : xss[k]? = some xs) : xs.length ≤ tot xss := by
  have hm := List.mem_of_getElem? h
  clear h
  unfold tot
  induction xss with
  | nil => simp at hm
  | cons a t ih =>
    rcases List.mem_cons.1 hm with rfl | hm
    · simp
    · have := ih hm; simp; omega
theorem tot_take {xss : List (List Int)} {k : Nat} {xs : List Int} (h : xss[k]? = some xs) : tot (xss.take (k + 1)) = tot (xss.take k) + xs.length := by
  unfold tot; rw [List.take_add_one, h]; simp
theorem tot_le (xss : List (List Int)) (k : Nat) : tot (xss.take k) ≤ tot xss := by
  have : tot xss = tot (xss.take k) + tot (xss.drop k) := by
    unfold tot; rw [← List.sum_append, ← List.map_append, List.take_append_drop]
  omega
def eqm (xss yss : List (List Int)) : Bool := decide (xss = yss)
theorem eqm_self (xss : List (List Int)) : eqm xss xss = true := by simp [eqm]
def SameM (xss yss : List (List Int)) (k : Nat) : Prop := ∀ j, j < k → xss[j]? = yss[j]?
theorem eqm_no {xss yss : List (List Int)} {k : Nat} {xs ys : List Int} (h1 : xss[k]? = some xs) (h2 : yss[k]? = some ys) (h : eqi xs ys = false) : eqm xss yss = false := by
  unfold eqm; rw [decide_eq_false_iff_not]; rintro rfl
  rw [h1] at h2
  obtain rfl := Option.some.inj h2
  simp [eqi] at h
theorem eqm_len {xss yss : List (List Int)} (h : xss.length ≠ yss.length) : eqm xss yss = false := by
  unfold eqm; rw [decide_eq_false_iff_not]; rintro rfl; exact h rfl
theorem eqm_yes {xss yss : List (List Int)} {n : Nat} (h1 : xss.length = n) (h2 : yss.length = n) (h : SameM xss yss n) : eqm xss yss = true := by
  unfold eqm; rw [decide_eq_true_iff]
  refine List.ext_getElem? fun i => ?_
  by_cases hi : i < n
  · exact h i hi
  · rw [List.getElem?_eq_none (by omega), List.getElem?_eq_none (by omega)]
theorem SameM.step {xss yss : List (List Int)} {k : Nat} {xs ys : List Int} (h : SameM xss yss k) (h1 : xss[k]? = some xs) (h2 : yss[k]? = some ys) (he : eqi xs ys = true) : SameM xss yss (k + 1) := by
  intro j hj
  by_cases e : j = k
  · subst e
    have : xs = ys := by simpa [eqi] using he
    rw [h1, h2, this]
  · exact h j (by omega)

theorem drawn_trans {a b c : World} (h : Drawn a b) (k : Drawn b c) : Drawn a c := by
  obtain ⟨m, rfl⟩ := h; obtain ⟨n, rfl⟩ := k; exact ⟨m + n, by simp⟩
theorem drawn_rd {w w' : World} {hi n : Nat} {A : Option Addr} {xs : List Value} (h : Drawn w w') (r : Rd w hi A n xs) : Rd w' hi A n xs := by
  obtain ⟨m, rfl⟩ := h; exact r

theorem eq_quiet {A : Option Addr} {n c : Nat} {B : Option Addr} {m d : Nat} {xs ys : List Int} {h1 h2 : Nat} {w w' : World} (hw : Drawn w w') (q : Nat)
    (hx : Rd w h1 A n (V xs)) (hy : Rd w h2 B m (V ys)) (hn : n ≤ maxLen) (hm : m ≤ maxLen) :
    Calls Try.prog 72 #[.slice A n c, .slice B m d] (w'.drewN q) fun e w'' => e = .returned (.bool (eqi xs ys)) ∧ ∃ j, w'' = w'.drewN j :=
  (eq_any A n c B m d xs ys h1 h2 (w'.drewN q) (drawn_rd (hw.more q) hx) (drawn_rd (hw.more q) hy) hn hm).mono fun _ _ ⟨he, j, hj⟩ => ⟨he, q + j, by rw [hj, World.drewN_drewN]⟩
/-- The rows' numbers from k on. -/
def marksm (k : Int) : List (List Int) → List (List Int)
  | [] => []
  | xs :: t => Marks k xs.length :: marksm (k + xs.length) t
theorem marks_len (k : Int) (n : Nat) : (Marks k n).length = n := by simp [Marks]
theorem marksm_len (xss : List (List Int)) : ∀ k, (marksm k xss).length = xss.length := by
  induction xss with
  | nil => intro k; rfl
  | cons a t ih => intro k; simp [marksm, ih]
theorem marksm_tot (xss : List (List Int)) : ∀ k, tot (marksm k xss) = tot xss := by
  induction xss with
  | nil => intro k; rfl
  | cons a t ih => intro k; have := ih (k + a.length); simp only [tot, marksm, List.map_cons, List.sum_cons, marks_len] at *; omega
theorem marksm_at (xss : List (List Int)) : ∀ (k : Int) (j : Nat) (xs : List Int), xss[j]? = some xs → (marksm k xss)[j]? = some (Marks (k + tot (xss.take j)) xs.length) := by
  induction xss with
  | nil => intro k j xs h; simp at h
  | cons a t ih =>
    intro k j xs h
    cases j with
    | zero => simp at h; subst h; simp [marksm, tot]
    | succ j =>
      simp at h
      have := ih (k + a.length) j xs h
      simp only [marksm, List.getElem?_cons_succ, List.take_succ_cons]
      rw [this]
      simp only [tot, List.map_cons, List.sum_cons]
      congr 2
      omega
/-- The first j rows are marked. -/
def mix (k : Int) (xss : List (List Int)) (j : Nat) : List (List Int) := (marksm k xss).take j ++ xss.drop j
theorem mix_zero (k : Int) (xss : List (List Int)) : mix k xss 0 = xss := by simp [mix]
theorem mix_all (k : Int) (xss : List (List Int)) {n : Nat} (h : xss.length = n) : mix k xss n = marksm k xss := by
  unfold mix; rw [List.take_of_length_le (by rw [marksm_len]; omega), List.drop_of_length_le (by omega), List.append_nil]
theorem mix_at {k : Int} {xss : List (List Int)} {j : Nat} (h : j < xss.length) : (mix k xss j)[j]? = xss[j]? := by
  unfold mix
  have hl : ((marksm k xss).take j).length = j := by rw [List.length_take, marksm_len]; omega
  rw [List.getElem?_append_right (by omega), hl]
  simp
theorem mix_step {k : Int} {xss : List (List Int)} {j : Nat} {xs : List Int} (h : xss[j]? = some xs) : (mix k xss j).set j (Marks (k + tot (xss.take j)) xs.length) = mix k xss (j + 1) := by
  have hj : j < xss.length := (List.getElem?_eq_some_iff.1 h).1
  have hl : ((marksm k xss).take j).length = j := by rw [List.length_take, marksm_len]; omega
  unfold mix
  rw [List.take_add_one, marksm_at xss k j xs h, List.set_append_right _ _ (by omega), hl, Nat.sub_self]
  have : xss.drop j = xs :: xss.drop (j + 1) := by
    rw [List.drop_eq_getElem_cons hj]
    congr 1
    rw [List.getElem?_eq_getElem hj] at h
    exact Option.some.inj h
  rw [this]
  simp
def MarkRelM (A : Option Addr) (n lo hi : Nat) (k : Int) (xss : List (List Int)) (w wr : World) (j : Nat) : Prop := Mat wr lo hi A n (mix k xss j) ∧ Out lo hi w wr

end Go.Proofs.Ytafpbnjfmieamaa.mat
