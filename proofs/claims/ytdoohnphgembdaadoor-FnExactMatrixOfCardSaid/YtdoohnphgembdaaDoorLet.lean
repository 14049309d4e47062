/-
  Letters and words on surfaces and matrices: plain mathematics.
-/
import Derived.Test.YtdoohnphgembdaaDoorAct
namespace Go.Proofs.YtdoohnphgembdaaDoor.pm
open Go.Proofs.YtdoohnphgembdaaDoor.arr Go.Proofs.YtdoohnphgembdaaDoor.inv Go.Proofs.YtdoohnphgembdaaDoor.permOf
set_option linter.unusedVariables false
set_option maxRecDepth 100000
/-- The four letters are the bytes 84 (T), 116 (t), 83 (S), 115 (s). -/
def isL (c : UInt8) : Bool := decide (c.toNat = 84) || decide (c.toNat = 116) || decide (c.toNat = 83) || decide (c.toNat = 115)
def letS (c : UInt8) (s : Sur) : Sur := if c.toNat = 84 then shearS s else if c.toNat = 116 then unshearS s else if c.toNat = 83 then turnS s else unturnS s
def inL (c : UInt8) : UInt8 := if c.toNat = 84 then 116 else if c.toNat = 116 then 84 else if c.toNat = 83 then 115 else 83
def runS (w : List UInt8) (s : Sur) : Sur := w.foldl (fun s c => letS c s) s
def invW (w : List UInt8) : List UInt8 := (w.map inL).reverse
theorem letS_sf {n : Nat} {R U : List Int} (s : Sf n R U) (c : UInt8) : Sf n (letS c (R, U)).1 (letS c (R, U)).2 := by
  unfold letS
  split
  · exact shear_sf s
  · split
    · exact unshear_sf s
    · split
      · exact turn_sf s
      · exact unturn_sf s
theorem isL_iff {c : UInt8} : isL c = true ↔ c.toNat = 84 ∨ c.toNat = 116 ∨ c.toNat = 83 ∨ c.toNat = 115 := by simp [isL, or_assoc]
theorem letS_inv {n : Nat} {R U : List Int} (s : Sf n R U) {c : UInt8} (hc : isL c = true) : letS (inL c) (letS c (R, U)) = (R, U) := by
  rcases isL_iff.1 hc with h | h | h | h
  · have e1 : letS c (R, U) = shearS (R, U) := by unfold letS; rw [if_pos h]
    have e2 : inL c = 116 := by unfold inL; rw [if_pos h]
    rw [e1, e2]; exact unshear_shear s
  · have e1 : letS c (R, U) = unshearS (R, U) := by unfold letS; rw [if_neg (by omega), if_pos h]
    have e2 : inL c = 84 := by unfold inL; rw [if_neg (by omega), if_pos h]
    rw [e1, e2]; exact shear_unshear s
  · have e1 : letS c (R, U) = turnS (R, U) := by unfold letS; rw [if_neg (by omega), if_neg (by omega), if_pos h]
    have e2 : inL c = 115 := by unfold inL; rw [if_neg (by omega), if_neg (by omega), if_pos h]
    rw [e1, e2]; exact unturn_turn s
  · have e1 : letS c (R, U) = unturnS (R, U) := by unfold letS; rw [if_neg (by omega), if_neg (by omega), if_neg (by omega)]
    have e2 : inL c = 83 := by unfold inL; rw [if_neg (by omega), if_neg (by omega), if_neg (by omega)]
    rw [e1, e2]; exact turn_unturn s
theorem runS_sf {n : Nat} : ∀ (w : List UInt8) (s : Sur), Sf n s.1 s.2 → Sf n (runS w s).1 (runS w s).2 := by
  intro w
  induction w with
  | nil => intro s h; exact h
  | cons c w ih => intro s h; exact ih (letS c s) (letS_sf (R := s.1) (U := s.2) h c)
theorem runS_snoc (w : List UInt8) (c : UInt8) (s : Sur) : runS (w ++ [c]) s = letS c (runS w s) := by simp [runS]
theorem runS_inv {n : Nat} : ∀ (w : List UInt8) (s : Sur), w.all isL = true → Sf n s.1 s.2 → runS (invW w) (runS w s) = s := by
  intro w
  induction w with
  | nil => intro s _ _; rfl
  | cons c w ih =>
    intro s hw h
    simp only [List.all_cons, Bool.and_eq_true] at hw
    have e : invW (c :: w) = invW w ++ [inL c] := by simp [invW]
    rw [e, runS_snoc]
    show letS (inL c) (runS (invW w) (runS w (letS c s))) = s
    rw [ih (letS c s) hw.2 (letS_sf (R := s.1) (U := s.2) h c)]
    exact letS_inv (R := s.1) (U := s.2) h hw.1
/-- A shear behind a turn, three times, is two turns, but for the names. -/
theorem st_is {n : Nat} {R U : List Int} (s : Sf n R U) : shearS (turnS (R, U)) = (Inv U, thn U R) := by
  show (Inv U, thn (Inv (Inv U)) R) = _
  rw [Inv_Inv s.u]
theorem st_sf {n : Nat} {R U : List Int} (s : Sf n R U) : Sf n (Inv U) (thn U R) := by
  have := shear_sf (turn_sf s)
  rw [show ((turnS (R, U)).1, (turnS (R, U)).2) = turnS (R, U) from rfl, st_is s] at this
  exact this
theorem ren_of {n : Nat} {X Y P : List Int} (x : Ok X) (y : Ok Y) (p : Ok P) (lx : X.length = n) (ly : Y.length = n) (lp : P.length = n) (h : thn X P = thn P Y) : Ren n X Y P := by
  have b : ∀ q : List Int, Ok q → q.length = n → Bij n q := fun q h l => by have := h.bij; rw [l] at this; exact this
  refine ⟨b X x lx, b Y y ly, b P p lp, fun i hi => ?_⟩
  have e : (thn X P).getD i 0 = (thn P Y).getD i 0 := by rw [h]
  rw [thn_at (by omega), thn_at (by omega)] at e
  exact e.symm
theorem sts_iso {n : Nat} {R U : List Int} (s : Sf n R U) :
    Iso n (shearS (turnS (shearS (turnS (shearS (turnS (R, U))))))).1 (shearS (turnS (shearS (turnS (shearS (turnS (R, U))))))).2 (turnS (turnS (R, U))).1 (turnS (turnS (R, U))).2 (thn U R) := by
  have s1 := st_sf s
  have s2 := st_sf s1
  have s3 := st_sf s2
  rw [st_is s, st_is s1, st_is s2]
  have lr := s.lr; have lu := s.lu
  obtain ⟨P, hP⟩ : ∃ P, P = thn U R := ⟨_, rfl⟩
  have okP : Ok P := by rw [hP]; exact thn_ok s.u s.r (by rw [lu, lr])
  have lP : P.length = n := by rw [hP, thn_len]; exact lu
  rw [← hP] at s1 s2 s3 ⊢
  have okI := Inv_ok s.u
  have e1 : Inv (thn P (Inv U)) = thn U (Inv P) := by rw [Inv_thn okP okI (by rw [Inv_len, lP, lu]), Inv_Inv s.u]
  have o1 : Ok (thn U (Inv P)) := thn_ok s.u (Inv_ok okP) (by rw [Inv_len, lP, lu])
  have o2 : Ok (thn P (Inv U)) := thn_ok okP okI (by rw [Inv_len, lP, lu])
  have o3 : Ok (thn (thn P (Inv U)) (Inv P)) := thn_ok o2 (Inv_ok okP) (by rw [thn_len, Inv_len])
  rw [e1] at s3 ⊢
  rw [show turnS (turnS (R, U)) = (Inv R, Inv U) from rfl]
  refine ⟨s3, okP, lP, ?_, ?_⟩
  · refine ren_of o1 (Inv_ok s.r) okP (by rw [thn_len]; exact lu) (by rw [Inv_len]; exact lr) lP ?_
    rw [thn_assoc s.u (by rw [Inv_len, lP, lu]), Inv_thn_self okP lP, thn_id s.u lu, hP, thn_assoc s.u (by rw [lu, lr]), thn_Inv s.r lr, thn_id s.u lu]
  · refine ren_of o3 okI okP (by rw [thn_len, thn_len]; exact lP) (by rw [Inv_len]; exact lu) lP ?_
    rw [thn_assoc o2 (by rw [thn_len, Inv_len]), Inv_thn_self okP lP, thn_id o2 (by rw [thn_len]; exact lP)]

/-! ### Matrices -/
abbrev Mx := Int × Int × Int × Int
def mulM (m k : Mx) : Mx := (m.1 * k.1 + m.2.1 * k.2.2.1, m.1 * k.2.1 + m.2.1 * k.2.2.2, m.2.2.1 * k.1 + m.2.2.2 * k.2.2.1, m.2.2.1 * k.2.1 + m.2.2.2 * k.2.2.2)
def detM (m : Mx) : Int := m.1 * m.2.2.2 - m.2.1 * m.2.2.1
def letM (c : UInt8) : Mx := if c.toNat = 84 then (1, 1, 0, 1) else if c.toNat = 116 then (1, -1, 0, 1) else if c.toNat = 83 then (0, -1, 1, 0) else (0, 1, -1, 0)
def matW (w : List UInt8) : Mx := w.foldl (fun m c => mulM (letM c) m) (1, 0, 0, 1)
theorem matW_snoc (w : List UInt8) (c : UInt8) : matW (w ++ [c]) = mulM (letM c) (matW w) := by simp [matW]
def Lim (p : Int) (m : Mx) : Prop := (-p ≤ m.1 ∧ m.1 ≤ p) ∧ (-p ≤ m.2.1 ∧ m.2.1 ≤ p) ∧ (-p ≤ m.2.2.1 ∧ m.2.2.1 ≤ p) ∧ (-p ≤ m.2.2.2 ∧ m.2.2.2 ≤ p)
theorem lim_let {p : Int} {m : Mx} (c : UInt8) (hp : 0 ≤ p) (h : Lim p m) : Lim (2 * p) (mulM (letM c) m) := by
  obtain ⟨a, b, cc, d⟩ := m
  obtain ⟨⟨h1, h2⟩, ⟨h3, h4⟩, ⟨h5, h6⟩, ⟨h7, h8⟩⟩ := h
  simp only at h1 h2 h3 h4 h5 h6 h7 h8
  unfold letM
  split
  · simp only [Lim, mulM]; omega
  · split
    · simp only [Lim, mulM]; omega
    · split
      · simp only [Lim, mulM]; omega
      · simp only [Lim, mulM]; omega
theorem lim_fold : ∀ (w : List UInt8) (p : Int) (m : Mx), 0 ≤ p → Lim p m → Lim (2 ^ w.length * p) (w.foldl (fun m c => mulM (letM c) m) m) := by
  intro w
  induction w with
  | nil => intro p m hp h; simpa using h
  | cons c w ih =>
    intro p m hp h
    have := ih (2 * p) _ (by omega) (lim_let c hp h)
    rw [List.foldl_cons, List.length_cons]
    rw [show (2 : Int) ^ (w.length + 1) * p = 2 ^ w.length * (2 * p) by rw [Int.pow_succ, Int.mul_assoc]]
    exact this
theorem matW_lim (w : List UInt8) (h : w.length ≤ 40) : Lim 1099511627776 (matW w) := by
  have h1 := lim_fold w 1 (1, 0, 0, 1) (by omega) (by unfold Lim; simp)
  have h2 : (2 : Int) ^ w.length ≤ 2 ^ 40 := by
    have : (2 : Nat) ^ w.length ≤ 2 ^ 40 := Nat.pow_le_pow_right (by omega) h
    exact_mod_cast this
  have h3 : (2 : Int) ^ 40 = 1099511627776 := by decide
  rw [Int.mul_one] at h1
  obtain ⟨⟨a1, a2⟩, ⟨a3, a4⟩, ⟨a5, a6⟩, ⟨a7, a8⟩⟩ := h1
  unfold matW Lim
  omega
theorem det_mul (m k : Mx) : detM (mulM m k) = detM m * detM k := by
  obtain ⟨a, b, c, d⟩ := m; obtain ⟨e, f, g, h⟩ := k
  simp only [detM, mulM]
  grind
theorem det_let (c : UInt8) : detM (letM c) = 1 := by
  unfold letM
  split
  · rfl
  · split
    · rfl
    · split <;> rfl
theorem det_fold : ∀ (w : List UInt8) (m : Mx), detM (w.foldl (fun m c => mulM (letM c) m) m) = detM m := by
  intro w
  induction w with
  | nil => intro m; rfl
  | cons c w ih => intro m; rw [List.foldl_cons, ih, det_mul, det_let, Int.one_mul]
theorem matW_det (w : List UInt8) : detM (matW w) = 1 := by unfold matW; rw [det_fold]; rfl
end Go.Proofs.YtdoohnphgembdaaDoor.pm
