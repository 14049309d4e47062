/-
  The contract of the program's Join.
-/
import Derived.Test.YtdoohnphgembdaaDoorStrDefs
import Derived.Test.YtdoohnphgembdaaDoorShelf
namespace Go.Proofs.YtdoohnphgembdaaDoor.join
open Go.ChangeShapes Go.WideShapes Go.ChangeAt Go.RowKit
open Go.Proofs.YtdoohnphgembdaaDoor.mem Go.Proofs.YtdoohnphgembdaaDoor.strs
set_option linter.unusedVariables false
set_option maxRecDepth 100000

def L (xs : List ByteArray) : List (List UInt8) := xs.map (·.data.toList)
def J (xs : List ByteArray) (b : ByteArray) : List UInt8 := Lib.join (L xs) b.data.toList
theorem join_snoc {xs : List (List UInt8)} (h : xs ≠ []) (y sep : List UInt8) : Lib.join (xs ++ [y]) sep = Lib.join xs sep ++ sep ++ y := by
  cases xs with
  | nil => exact absurd rfl h
  | cons x r => rw [List.cons_append, Lib.join_cons, Lib.join_cons]; simp [Lib.joinTail]
theorem lens_eq (xs : List ByteArray) : Lib.lens (L xs) = sm xs := by
  simp [Lib.lens, L, sm, Function.comp_def]
theorem join_le (xs : List (List UInt8)) (sep : List UInt8) : (Lib.join xs sep).length ≤ sep.length * xs.length + Lib.lens xs := by
  cases xs with
  | nil => simp [Lib.join_nil]
  | cons x r =>
    rw [Lib.join_length]
    have := Nat.mul_le_mul_left sep.length (show r.length ≤ (x :: r).length by simp)
    omega
theorem J_le (xs : List ByteArray) (b : ByteArray) {m n : Nat} (h1 : xs.length ≤ n) (h2 : b.size ≤ m) : (J xs b).length ≤ m * n + sm xs := by
  have h := join_le (L xs) b.data.toList
  rw [lens_eq] at h
  have e1 : b.data.toList.length = b.size := by simp
  have e2 : (L xs).length = xs.length := by simp [L]
  rw [e1, e2] at h
  have := Nat.mul_le_mul h2 h1
  unfold J
  omega
theorem J_zero (b : ByteArray) : J [] b = [] := rfl
theorem take_at {xs : List ByteArray} {k : Nat} {s : ByteArray} (h : xs[k]? = some s) : xs.take (k + 1) = xs.take k ++ [s] := by
  rw [List.take_add_one, h]; rfl
theorem J_first {xs : List ByteArray} {b s : ByteArray} (h : xs[0]? = some s) : (⟨(J (xs.take 0) b).toArray⟩ ++ s : ByteArray) = ⟨(J (xs.take (0 + 1)) b).toArray⟩ := by
  rw [take_at h, List.take_zero, List.nil_append]
  have e : s = ⟨s.data.toList.toArray⟩ := by simp
  conv => lhs; rw [e]
  rw [ByteArray.mk_append_mk, J_zero]
  unfold J L
  rw [List.map_singleton, Lib.join_one, List.nil_append]
theorem J_next {xs : List ByteArray} {b s : ByteArray} {k : Nat} (h : xs[k]? = some s) (hk : 0 < k) : (⟨(J (xs.take k) b).toArray⟩ ++ b ++ s : ByteArray) = ⟨(J (xs.take (k + 1)) b).toArray⟩ := by
  have hl : k < xs.length := by
    rcases Nat.lt_or_ge k xs.length with h' | h'
    · exact h'
    · rw [List.getElem?_eq_none h'] at h; cases h
  have e1 : s = ⟨s.data.toList.toArray⟩ := by simp
  have e2 : b = ⟨b.data.toList.toArray⟩ := by simp
  have hne : L (xs.take k) ≠ [] := by
    intro e
    have h1 : (L (xs.take k)).length = k := by simp [L]; omega
    rw [e] at h1
    simp at h1
    omega
  rw [take_at h]
  have e3 : J (xs.take k ++ [s]) b = J (xs.take k) b ++ b.data.toList ++ s.data.toList := by
    unfold J
    rw [show L (xs.take k ++ [s]) = L (xs.take k) ++ [s.data.toList] by simp [L]]
    exact join_snoc hne _ _
  rw [e3]
  generalize J (xs.take k) b = q
  conv => lhs; rw [e1, e2]
  rw [ByteArray.mk_append_mk, ByteArray.mk_append_mk]

set_option maxHeartbeats 400000 in
theorem parts_any (A : Option Addr) (n c : Nat) (xs : List ByteArray) (b : ByteArray) (hi : Nat) (w : World)
    (hx : Rd w hi A n (S xs)) (hn : n ≤ 1048576) (hc : n ≤ c) (hm : sm xs ≤ 1048576) (hb : b.size ≤ 1048576) :
    Calls Tryd.prog 23 #[.string b, .slice A n c] w fun e w' => e = .returned (.string ⟨(J xs b).toArray⟩) ∧ Below w.heap.size w w' := by
  have lx : xs.length = n := by simpa [S] using hx.1
  by_cases h0 : 0 < n
  · obtain ⟨g, off, e, hlt, hcells⟩ := hx.2.2 h0
    subst e
    have hg : g < w.heap.size := Nat.lt_of_lt_of_le hlt hx.2.1
    have hcl : ∀ (j : Nat) x, xs[j]? = some x → w.cell? ⟨g, off + j, none⟩ = some (.string x) := by
      intro j x hj
      have hjl : j < n := by
        rcases Nat.lt_or_ge j xs.length with h' | h'
        · omega
        · rw [List.getElem?_eq_none h'] at hj; cases hj
      rw [hcells j hjl]; simp [S, hj]
    have hjl := J_le xs b (n := 1048576) (m := 1048576) (by omega) hb
    have HC := Lib.hid hcl; clear hcl hcells hx
    subst lx
    go_enter Tryd.func23, Tryd.ntmps23
    go_wp2_with fail
    refine (Tryd.strings_Join g off c xs b _ HC.out hg (by omega) hc (by show (J xs b).length ≤ _; omega)).mono ?_
    rintro e w' ⟨rfl, hb⟩
    go_wp2
    go_ret
    exact ⟨rfl, hb⟩
  · obtain rfl : n = 0 := by omega
    have e : xs = [] := List.eq_nil_of_length_eq_zero lx
    subst e
    clear hx lx
    go_enter Tryd.func23, Tryd.ntmps23
    go_wp2_with fail
    refine (Tryd.strings_Join_none A c b _).mono ?_
    rintro e w' ⟨rfl, hw⟩
    subst hw
    go_wp2
    go_ret
    exact ⟨rfl, Below.refl _ _⟩

theorem impl_any (A : Option Addr) (n c : Nat) (xs : List ByteArray) (b : ByteArray) (hi : Nat) (w : World)
    (hx : Rd w hi A n (S xs)) (hn : n ≤ 1048576) (hc : n ≤ c) (hm : sm xs ≤ 1048576) (hb : b.size ≤ 1048576) :
    Calls Tryd.prog 33 #[.slice A n c, .string b] w fun e w' => e = .returned (.string ⟨(J xs b).toArray⟩) ∧ Below w.heap.size w w' := by
  have HX := Lib.hid hx; clear hx
  go_enter Tryd.func33, Tryd.ntmps33
  go_wp2_with fail
  refine (parts_any A n c xs b hi _ HX.out hn hc hm hb).mono ?_
  rintro e w' ⟨rfl, hb⟩
  go_wp2
  go_ret
  exact ⟨rfl, hb⟩
end Go.Proofs.YtdoohnphgembdaaDoor.join
