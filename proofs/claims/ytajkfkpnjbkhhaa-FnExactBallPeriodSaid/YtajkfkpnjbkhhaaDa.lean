/-
  Directions: Euclid's words, the words of slopes, what they do to a surface. Plain mathematics.
-/
import Derived.Test.YtajkfkpnjbkhhaaMA
namespace Go.Proofs.Ytajkfkpnjbkhhaa.dr
open Go.Proofs.Ytajkfkpnjbkhhaa.arr Go.Proofs.Ytajkfkpnjbkhhaa.inv Go.Proofs.Ytajkfkpnjbkhhaa.permOf Go.Proofs.Ytajkfkpnjbkhhaa.pm
set_option linter.unusedVariables false
set_option maxRecDepth 100000
/-- Is p, q a slope? -/
def slB (p q : Int) : Bool := decide (0 ≤ p) && decide (0 ≤ q) && decide (p + q ≤ 12) && decide (Nat.gcd p.toNat q.toNat = 1)
theorem slB_iff {p q : Int} : slB p q = true ↔ 0 ≤ p ∧ 0 ≤ q ∧ p + q ≤ 12 ∧ Nat.gcd p.toNat q.toNat = 1 := by simp [slB, and_assoc]
theorem slB_nat {p q : Int} (h : slB p q = true) : ∃ a b : Nat, p = a ∧ q = b ∧ a + b ≤ 12 ∧ Nat.gcd a b = 1 ∧ 1 ≤ a + b := by
  obtain ⟨h1, h2, h3, h4⟩ := slB_iff.1 h
  refine ⟨p.toNat, q.toNat, by omega, by omega, by omega, h4, ?_⟩
  by_cases hp : p.toNat = 0
  · by_cases hq : q.toNat = 0
    · rw [hp, hq] at h4; simp at h4
    · omega
  · omega
/-- DirectionWord, with as much fuel as there are steps. -/
def dwN : Nat → Nat → Nat → List UInt8
  | 0, _, _ => []
  | f + 1, p, q => if q = 0 then [] else if p = 0 then [115] else if q < p then 116 :: dwN f (p - q) q else 115 :: 84 :: 83 :: dwN f p (q - p)
theorem dwN_0 (f p : Nat) : dwN f p 0 = [] := by cases f <;> simp [dwN]
theorem dwN_s {f q : Nat} (hf : 0 < f) (hq : 0 < q) : dwN f 0 q = [115] := by
  obtain ⟨f, rfl⟩ : ∃ g, f = g + 1 := ⟨f - 1, by omega⟩
  simp [dwN]; omega
theorem dwN_t {f p q : Nat} (hf : 0 < f) (hq : 0 < q) (hp : q < p) : dwN f p q = 116 :: dwN (f - 1) (p - q) q := by
  obtain ⟨f, rfl⟩ : ∃ g, f = g + 1 := ⟨f - 1, by omega⟩
  rw [dwN, if_neg (by omega), if_neg (by omega), if_pos hp]; rfl
theorem dwN_S {f p q : Nat} (hf : 0 < f) (hp : 0 < p) (hq : p ≤ q) : dwN f p q = 115 :: 84 :: 83 :: dwN (f - 1) p (q - p) := by
  obtain ⟨f, rfl⟩ : ∃ g, f = g + 1 := ⟨f - 1, by omega⟩
  rw [dwN, if_neg (by omega), if_neg (by omega), if_neg (by omega)]; rfl
def dwL (p q : Nat) : List UInt8 := dwN (p + q) p q
/-- The letter of SlopeWord at a place. -/
def swC (p q i : Nat) : UInt8 := if q = 0 ∨ i * q % (p + q) < (i + 1) * q % (p + q) then 114 else 117
def swL (p q : Nat) : List UInt8 := (List.range (p + q)).map (swC p q)
theorem swL_len (p q : Nat) : (swL p q).length = p + q := by simp [swL]
theorem swL_at {p q i : Nat} (h : i < p + q) : (swL p q)[i]? = some (swC p q i) := by simp [swL, h]
theorem swL_snoc {p q i : Nat} (h : i < p + q) : (swL p q).take (i + 1) = (swL p q).take i ++ [swC p q i] := by rw [List.take_add_one, swL_at h]; rfl
theorem swC_or (p q i : Nat) : swC p q i = 114 ∨ swC p q i = 117 := by unfold swC; split <;> simp
theorem swL_or {p q : Nat} {c : UInt8} (h : c ∈ swL p q) : c = 114 ∨ c = 117 := by
  obtain ⟨i, -, rfl⟩ := List.mem_map.1 h
  exact swC_or p q i
/-- The word of a slope by Euclid's algorithm: what the letters r and u become. -/
def eu : Nat → Nat → Nat → List UInt8 → List UInt8 → List UInt8
  | 0, _, _, x, _ => x
  | f + 1, p, q, x, y => if q = 0 then x else if p = 0 then y else if q < p then eu f (p - q) q x (x ++ y) else eu f p (q - p) (x ++ y) y
def okP (a b : Nat) : Bool := decide (a + b ≤ 12) && decide (Nat.gcd a b = 1)
theorem okP_of {a b : Nat} (h : a + b ≤ 12) (g : Nat.gcd a b = 1) : okP a b = true := by simp [okP, h, g]
theorem all13 : ∀ a b : Fin 13, okP a.val b.val = true →
    ((dwL a.val b.val).length ≤ 33 ∧ (dwL a.val b.val).all isL = true) ∧ eu (a.val + b.val) a.val b.val [114] [117] = swL a.val b.val ∧
    ((matW (dwL a.val b.val)).1 * (a.val : Int) + (matW (dwL a.val b.val)).2.1 * (b.val : Int) = 1 ∧ (matW (dwL a.val b.val)).2.2.1 * (a.val : Int) + (matW (dwL a.val b.val)).2.2.2 * (b.val : Int) = 0) := by decide +kernel
section
variable {a b : Nat} (h : a + b ≤ 12) (g : Nat.gcd a b = 1)
include h g
theorem dwL_ok : (dwL a b).length ≤ 33 ∧ (dwL a b).all isL = true := (all13 ⟨a, by omega⟩ ⟨b, by omega⟩ (okP_of h g)).1
theorem eu_sw : eu (a + b) a b [114] [117] = swL a b := (all13 ⟨a, by omega⟩ ⟨b, by omega⟩ (okP_of h g)).2.1
theorem dwL_mat : (matW (dwL a b)).1 * (a : Int) + (matW (dwL a b)).2.1 * (b : Int) = 1 ∧ (matW (dwL a b)).2.2.1 * (a : Int) + (matW (dwL a b)).2.2.2 * (b : Int) = 0 := (all13 ⟨a, by omega⟩ ⟨b, by omega⟩ (okP_of h g)).2.2
end
/-- The permutation along a word of r and u. -/
def stP (R U : List Int) (c : UInt8) : List Int := if c = 114 then R else U
def ev (n : Nat) (R U : List Int) (w : List UInt8) : List Int := w.foldl (fun acc c => thn acc (stP R U c)) (rng n)
theorem ev_snoc (n : Nat) (R U : List Int) (w : List UInt8) (c : UInt8) : ev n R U (w ++ [c]) = thn (ev n R U w) (stP R U c) := by simp [ev]
section
variable {n : Nat} {R U : List Int} (s : Sf n R U)
include s
theorem stP_ok (c : UInt8) : Ok (stP R U c) ∧ (stP R U c).length = n := by
  unfold stP; split
  · exact ⟨s.r, s.lr⟩
  · exact ⟨s.u, s.lu⟩
theorem ev_from : ∀ (w : List UInt8) (acc : List Int), Ok acc → acc.length = n → Ok (w.foldl (fun acc c => thn acc (stP R U c)) acc) ∧ (w.foldl (fun acc c => thn acc (stP R U c)) acc).length = n ∧ w.foldl (fun acc c => thn acc (stP R U c)) acc = thn acc (ev n R U w) := by
  intro w
  have hr : Ok (rng n) := rng_ok s.small
  induction w with
  | nil => intro acc h l; exact ⟨h, l, by show acc = thn acc (rng n); rw [thn_id h l]⟩
  | cons c w ih =>
    intro acc h l
    have st := stP_ok s c
    have o1 : Ok (thn acc (stP R U c)) := thn_ok h st.1 (by rw [l, st.2])
    have o2 : Ok (thn (rng n) (stP R U c)) := thn_ok hr st.1 (by rw [rng_len, st.2])
    obtain ⟨a1, a2, a3⟩ := ih (thn acc (stP R U c)) o1 (by rw [thn_len]; exact l)
    obtain ⟨b1, b2, b3⟩ := ih (thn (rng n) (stP R U c)) o2 (by rw [thn_len, rng_len])
    refine ⟨a1, a2, ?_⟩
    rw [List.foldl_cons, a3]
    unfold ev
    rw [List.foldl_cons, b3, id_thn st.2, thn_assoc h (by rw [l, st.2])]
    rfl
theorem ev_ok (w : List UInt8) : Ok (ev n R U w) ∧ (ev n R U w).length = n := by
  have := ev_from s w (rng n) (rng_ok s.small) (rng_len n)
  exact ⟨this.1, this.2.1⟩
theorem ev_app (x y : List UInt8) : ev n R U (x ++ y) = thn (ev n R U x) (ev n R U y) := by
  have := (ev_from s y (ev n R U x) (ev_ok s x).1 (ev_ok s x).2).2.2
  rw [← this]
  show (x ++ y).foldl _ _ = _
  rw [List.foldl_append]
  rfl
theorem ev_one (c : UInt8) : ev n R U [c] = stP R U c := id_thn (stP_ok s c).2
/-- The rows behind the word of a direction are the ways along the slope. -/
theorem dw_ev : ∀ (f p q : Nat) (x y : List UInt8), p + q ≤ f → (runS (dwN f p q) (ev n R U x, ev n R U y)).1 = ev n R U (eu f p q x y) := by
  intro f
  induction f with
  | zero => intro p q x y h; rfl
  | succ f ih =>
    intro p q x y h
    unfold dwN eu
    have ox := ev_ok s x; have oy := ev_ok s y
    split
    · rfl
    · split
      · show (letS 115 (ev n R U x, ev n R U y)).1 = _
        rfl
      · split
        · show (runS (dwN f (p - q) q) (letS 116 (ev n R U x, ev n R U y))).1 = _
          rw [show letS 116 (ev n R U x, ev n R U y) = (ev n R U x, thn (ev n R U x) (ev n R U y)) from rfl, ← ev_app s]
          exact ih _ _ _ _ (by omega)
        · show (runS (dwN f p (q - p)) (letS 83 (letS 84 (letS 115 (ev n R U x, ev n R U y))))).1 = _
          rw [show letS 83 (letS 84 (letS 115 (ev n R U x, ev n R U y))) = (Inv (thn (Inv (ev n R U y)) (Inv (ev n R U x))), ev n R U y) from rfl]
          rw [← Inv_thn ox.1 oy.1 (by rw [ox.2, oy.2]), Inv_Inv (thn_ok ox.1 oy.1 (by rw [ox.2, oy.2])), ← ev_app s]
          exact ih _ _ _ _ (by omega)
theorem dw_rows {p q : Nat} (h : p + q ≤ 12) (g : Nat.gcd p q = 1) : (runS (dwL p q) (R, U)).1 = ev n R U (swL p q) := by
  have := dw_ev s (p + q) p q [114] [117] (Nat.le_refl _)
  rw [ev_one s, ev_one s, eu_sw h g] at this
  exact this
end
/-- What the functions answer. -/
def wd (L : List UInt8) : ByteArray := ⟨L.toArray⟩
theorem wd_snoc (L : List UInt8) (c : UInt8) : wd L ++ ⟨#[c]⟩ = wd (L ++ [c]) := by
  apply ByteArray.ext
  simp [wd]
theorem wd_size (L : List UInt8) : (wd L).size = L.length := by show L.toArray.size = _; simp
theorem wd_list (L : List UInt8) : (wd L).data.toList = L := rfl
def dwF (p q : Int) : ByteArray := if slB p q then wd (dwL p.toNat q.toNat) else wd []
def swF (p q : Int) : ByteArray := if slB p q then wd (swL p.toNat q.toNat) else wd []
theorem dwF_no {p q : Int} (h : slB p q = false) : dwF p q = wd [] := by simp [dwF, h]
theorem swF_no {p q : Int} (h : slB p q = false) : swF p q = wd [] := by simp [swF, h]
theorem dwF_yes {a b : Nat} (h : slB a b = true) : dwF a b = wd (dwL a b) := by simp [dwF, h]
theorem swF_yes {a b : Nat} (h : slB a b = true) : swF a b = wd (swL a b) := by simp [swF, h]
end Go.Proofs.Ytajkfkpnjbkhhaa.dr
