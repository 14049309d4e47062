/-
  The contract of the program's SplitLines.
-/
import Derived.Test.YtfcocfaobglbaaaDoorSplitImpl
namespace Go.Proofs.YtfcocfaobglbaaaDoor.lines
open Go.ChangeShapes Go.WideShapes Go.ChangeAt Go.RowKit
open Go.Proofs.YtfcocfaobglbaaaDoor.mem Go.Proofs.YtfcocfaobglbaaaDoor.strs Go.Proofs.YtfcocfaobglbaaaDoor.split
set_option linter.unusedVariables false

def nl : ByteArray := ⟨#[10]⟩
theorem nl_size : nl.size = 1 := rfl
def pre (s : ByteArray) : List ByteArray := (st s (has nl nl.size) s.size).1
def last (s : ByteArray) : ByteArray := s.extract (st s (has nl nl.size) s.size).2 s.size
def lns (s : ByteArray) : List ByteArray := if (last s).size = 0 then pre s else pre s ++ [last s]
theorem fin_eq (s : ByteArray) : fin s (has nl nl.size) = pre s ++ [last s] := rfl
theorem pre_len (s : ByteArray) : (pre s).length ≤ s.size := st_len _ _ _
theorem lns_len (s : ByteArray) : (lns s).length ≤ s.size + 1 := by
  have := pre_len s
  unfold lns; split <;> simp <;> omega
theorem isEmpty_of (x : ByteArray) : x.toList.isEmpty = decide (x.size = 0) := by
  rw [ByteArray.toList_eq]
  have : x.size = x.data.toList.length := by simp
  rw [this]
  cases x.data.toList <;> simp
theorem cut_row {w : World} {lo hi n k : Nat} {A : Option Addr} {xs ys : List Value} (h : Row w lo hi A n (xs ++ ys)) (hk : xs.length = k) : Row w lo hi A k xs := by
  have hl := h.1
  simp at hl
  refine ⟨hk, h.2.1, fun hn => ?_⟩
  obtain ⟨g, off, e, hg, hlt, hc⟩ := h.2.2 (by omega)
  refine ⟨g, off, e, hg, hlt, fun j hj => ?_⟩
  obtain ⟨h1, h2⟩ := hc j (by omega)
  rw [List.getElem?_append_left (by omega)] at h1
  exact ⟨h1, h2⟩

theorem own_cap {w : World} {base n g cap : Nat} {e : TypeId} {xs : List Value} (h : w.ownsRow base e 1 (.slice (some ⟨g, 0, none⟩) n cap) n xs) : n ≤ cap ∧ cap ≤ maxLen := by
  rcases h.2 with ⟨hv, _⟩ | ⟨g', cap', cur, hv, _, _, h1, h2, _⟩
  · cases hv
  · injection hv with _ _ hc; subst hc; exact ⟨h1, h2⟩

def Post (lo : Nat) (xs : List ByteArray) (w : World) (e : Ending) (w' : World) : Prop :=
  ∃ A c, e = .returned (.slice A xs.length c) ∧ Row w' lo w'.heap.size A xs.length (S xs) ∧ Below w.heap.size w w'

set_option maxHeartbeats 400000 in
theorem impl_any (s : ByteArray) (w : World) (hs : s.size ≤ 1048576) :
    Calls Tryd.prog 13 #[.string s] w (Post (w.heap.size + 1) (lns s) w) := by
  have hp := pre_len s
  go_enter Tryd.func13, Tryd.ntmps13
  go_wp2_with fail
  refine (split.impl_any s nl _ hs (by rw [nl_size]; omega)).mono ?_
  rintro e wa ⟨v, rfl, oa, ba⟩
  rw [fin_eq] at oa
  obtain ⟨g, cap, rfl, hg, hgl⟩ := World.ownsRow.form oa (by simp)
  simp only [List.length_append, List.length_singleton] at oa
  have hc : wa.cell? ⟨g, (pre s).length, none⟩ = some (.string (last s)) := by
    rw [oa.cellAt (pre s).length (by omega)]; simp [S]
  obtain ⟨hcap, hcm⟩ := own_cap oa
  unfold maxLen at hcm
  have rA := Row.of_own oa
  rw [← S_snoc] at rA
  have RA := Lib.hid rA; have BA := Lib.hid ba; clear oa ba rA
  simp only [List.length_append, List.length_singleton]
  have hem := isEmpty_of (last s)
  by_cases hz : (last s).size = 0
  · have hl : lns s = pre s := by simp [lns, hz]
    have HL := Lib.hid hl
    rw [hz] at hem
    simp only [decide_true] at hem
    clear hz hl
    go_wp2
    go_ret
    rw [HL.out]
    exact ⟨_, _, rfl, cut_row RA.out (by simp [S]), BA.out⟩
  · have hl : lns s = pre s ++ [last s] := by simp [lns, hz]
    have HL := Lib.hid hl
    simp only [hz, decide_false] at hem
    clear hz hl
    go_wp2
    go_ret
    rw [HL.out]
    refine ⟨some ⟨g, 0, none⟩, cap, by simp, ?_, BA.out⟩
    rw [← S_snoc]; simpa using RA.out

end Go.Proofs.YtfcocfaobglbaaaDoor.lines
