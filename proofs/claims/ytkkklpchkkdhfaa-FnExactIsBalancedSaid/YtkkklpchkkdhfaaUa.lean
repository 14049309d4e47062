/-
  Straight paths, mathematics: the squares of a path, its rounds, its text, its visits.
-/
import Derived.Test.YtkkklpchkkdhfaaDf
namespace Go.Proofs.Ytkkklpchkkdhfaa.pth
open Go.Proofs.Ytkkklpchkkdhfaa.mem Go.Proofs.Ytkkklpchkkdhfaa.ints Go.Proofs.Ytkkklpchkkdhfaa.arr Go.Proofs.Ytkkklpchkkdhfaa.pm Go.Proofs.Ytkkklpchkkdhfaa.permOf Go.Proofs.Ytkkklpchkkdhfaa.inv Go.Proofs.Ytkkklpchkkdhfaa.permOk Go.Proofs.Ytkkklpchkkdhfaa.dr
set_option linter.unusedVariables false
set_option maxRecDepth 100000

/-- A path can begin there. -/
def okQ (r u : List Int) (i p q : Int) : Bool := transB r u && (decide (0 ≤ i) && (decide (i < r.length) && slB p q))
/-- One step. -/
def stW (r u : List Int) (c : UInt8) (x : Int) : Int := if c = 114 then r.getD x.toNat 0 else u.getD x.toNat 0
/-- The squares ahead of the letters of a word; where it leads. -/
def sqW (r u : List Int) : List UInt8 → Int → List Int
  | [], _ => []
  | c :: L, x => x :: sqW r u L (stW r u c x)
def enW (r u : List Int) (L : List UInt8) (x : Int) : Int := L.foldl (fun x c => stW r u c x) x
theorem sqW_len (r u : List Int) : ∀ (L : List UInt8) (x : Int), (sqW r u L x).length = L.length
  | [], _ => rfl
  | c :: L, x => by simp [sqW, sqW_len r u L]
theorem sqW_snoc (r u : List Int) : ∀ (L : List UInt8) (c : UInt8) (x : Int), sqW r u (L ++ [c]) x = sqW r u L x ++ [enW r u L x]
  | [], _, _ => rfl
  | d :: L, c, x => by
    have := sqW_snoc r u L c (stW r u d x)
    simp only [List.cons_append, sqW, this, enW, List.foldl_cons]
theorem enW_snoc (r u : List Int) (L : List UInt8) (c : UInt8) (x : Int) : enW r u (L ++ [c]) x = stW r u c (enW r u L x) := by simp [enW]
section
variable {n : Nat} {r u : List Int} (s : Sf n r u)
include s
theorem stW_in (c : UInt8) {x : Int} (h0 : 0 ≤ x) (h1 : x < n) : 0 ≤ stW r u c x ∧ stW r u c x < n := by
  unfold stW
  split
  · have a := s.r.lo x.toNat (by rw [s.lr]; omega); have b := s.r.hi x.toNat (by rw [s.lr]; omega)
    rw [s.lr] at b; exact ⟨a, b⟩
  · have a := s.u.lo x.toNat (by rw [s.lu]; omega); have b := s.u.hi x.toNat (by rw [s.lu]; omega)
    rw [s.lu] at b; exact ⟨a, b⟩
theorem enW_in : ∀ (L : List UInt8) {x : Int}, 0 ≤ x → x < n → 0 ≤ enW r u L x ∧ enW r u L x < n
  | [], x, h0, h1 => ⟨h0, h1⟩
  | c :: L, x, h0, h1 => by
    obtain ⟨a, b⟩ := stW_in s c h0 h1
    exact enW_in L a b
theorem sqW_in : ∀ (L : List UInt8) {x : Int}, 0 ≤ x → x < n → ∀ y ∈ sqW r u L x, 0 ≤ y ∧ y < n
  | [], x, _, _, y, hy => by simp [sqW] at hy
  | c :: L, x, h0, h1, y, hy => by
    obtain ⟨a, b⟩ := stW_in s c h0 h1
    simp only [sqW, List.mem_cons] at hy
    rcases hy with rfl | hy
    · exact ⟨h0, h1⟩
    · exact sqW_in L a b y hy
/-- The permutation of a word leads each square along it. -/
theorem ev_en : ∀ (L : List UInt8) {x : Int}, 0 ≤ x → x < n → (ev n r u L).getD x.toNat 0 = enW r u L x
  | [], x, h0, h1 => by
    show (rng n).getD x.toNat 0 = x
    rw [rng_at (by omega)]; omega
  | c :: L, x, h0, h1 => by
    have e : ev n r u (c :: L) = thn (stP r u c) (ev n r u L) := by
      have := ev_app s [c] L
      rw [ev_one s] at this
      exact this
    have hl := (stP_ok s c).2
    rw [e, thn_at (by rw [hl]; omega)]
    obtain ⟨a, b⟩ := stW_in s c h0 h1
    have hs : (stP r u c).getD x.toNat 0 = stW r u c x := by unfold stP stW; split <;> rfl
    rw [hs]
    have := ev_en L a b
    simpa [enW] using this
end
/-- The permutation of a slope's word. -/
def peF (r u : List Int) (p q : Int) : List Int := ev r.length r u (swL p.toNat q.toNat)
def rdF (r u : List Int) (i p q : Int) : Nat := if okQ r u i p q then (cyc (peF r u p q) r.length i).length else 0
/-- The squares of the first rounds. -/
def psK (r u : List Int) (L : List UInt8) (E : List Int) (i : Int) : Nat → List Int
  | 0 => []
  | k + 1 => psK r u L E i k ++ sqW r u L (it E i k)
def psF (r u : List Int) (i p q : Int) : List Int := if okQ r u i p q then psK r u (swL p.toNat q.toNat) (peF r u p q) i (rdF r u i p q) else []
def rpL (L : List UInt8) : Nat → List UInt8
  | 0 => []
  | k + 1 => rpL L k ++ L
def ptF (r u : List Int) (i p q : Int) : ByteArray := if okQ r u i p q then wd (rpL (swL p.toNat q.toNat) (rdF r u i p q)) else wd []
/-- How often each square is met. -/
def vsK (n : Nat) (l : List Int) : List Int := l.foldl (fun v x => v.set x.toNat (v.getD x.toNat 0 + 1)) (List.replicate n 0)
def viF (r u : List Int) (i p q : Int) : List Int := if okQ r u i p q then vsK r.length (psF r u i p q) else []
theorem okQ_facts {r u : List Int} {i p q : Int} (h : okQ r u i p q = true) : Sf r.length r u ∧ (0 ≤ i ∧ i < r.length) ∧ slB p q = true := by
  simp only [okQ, Bool.and_eq_true, decide_eq_true_eq] at h
  exact ⟨transB_iff.1 h.1, ⟨h.2.1, h.2.2.1⟩, h.2.2.2⟩
theorem sl_nat {p q : Int} (h : slB p q = true) : ∃ a b : Nat, p = a ∧ q = b ∧ a + b ≤ 12 ∧ 1 ≤ a + b ∧ Nat.gcd a b = 1 := by
  simp only [slB, Bool.and_eq_true, decide_eq_true_eq] at h
  obtain ⟨⟨⟨h1, h2⟩, h3⟩, h4⟩ := h
  refine ⟨p.toNat, q.toNat, by omega, by omega, by omega, ?_, h4⟩
  rcases Nat.eq_zero_or_pos (p.toNat + q.toNat) with z | z
  · have a : p.toNat = 0 := by omega
    have b : q.toNat = 0 := by omega
    rw [a, b] at h4; cases h4
  · exact z
theorem swL_len (a b : Nat) : (swL a b).length = a + b := by simp [swL]
theorem pe_ok {r u : List Int} {i p q : Int} (h : okQ r u i p q = true) : Ok (peF r u p q) ∧ (peF r u p q).length = r.length := ev_ok (okQ_facts h).1 _
theorem pe_bij {r u : List Int} {i p q : Int} (h : okQ r u i p q = true) : Bij r.length (peF r u p q) := by
  have := (pe_ok h).1.bij
  rwa [(pe_ok h).2] at this
theorem rd_pos {r u : List Int} {i p q : Int} (h : okQ r u i p q = true) : 1 ≤ rdF r u i p q ∧ rdF r u i p q ≤ 24 := by
  obtain ⟨s, ⟨i0, i1⟩, _⟩ := okQ_facts h
  have hw := cyc_way (pe_bij h) i0 i1
  have h1 := List.length_pos_of_mem (cyc_self (pe_bij h) i0 i1)
  have h24 := s.small
  have hle : (cyc (peF r u p q) r.length i).length ≤ r.length := hw.inn.len
  unfold rdF
  rw [if_pos h]
  omega
theorem psK_len (r u : List Int) (L : List UInt8) (E : List Int) (i : Int) : ∀ k, (psK r u L E i k).length = k * L.length
  | 0 => by simp [psK]
  | k + 1 => by rw [psK, List.length_append, psK_len r u L E i k, sqW_len, Nat.add_mul, Nat.one_mul]
theorem rpL_len (L : List UInt8) : ∀ k, (rpL L k).length = k * L.length
  | 0 => by simp [rpL]
  | k + 1 => by rw [rpL, List.length_append, rpL_len L k, Nat.add_mul, Nat.one_mul]
end Go.Proofs.Ytkkklpchkkdhfaa.pth
