/-
  RunWord of the model and of the program.
-/
import Derived.Test.YtpmojmhamgcfmaaWRw
namespace Go.Proofs.Ytpmojmhamgcfmaa.rw
open Go.ChangeShapes Go.WideShapes Go.ChangeAt Go.RowKit
open Go.Proofs.Ytpmojmhamgcfmaa.mem Go.Proofs.Ytpmojmhamgcfmaa.ints Go.Proofs.Ytpmojmhamgcfmaa.arr Go.Proofs.Ytpmojmhamgcfmaa.pm Go.Proofs.Ytpmojmhamgcfmaa.permOk Go.Proofs.Ytpmojmhamgcfmaa.permOf Go.Proofs.Ytpmojmhamgcfmaa.inv Go.Proofs.Ytpmojmhamgcfmaa.fns Go.Proofs.Ytpmojmhamgcfmaa.sf Go.Proofs.Ytpmojmhamgcfmaa.gl Go.Proofs.Ytpmojmhamgcfmaa.mk Go.Proofs.Ytpmojmhamgcfmaa.lw Go.Proofs.Ytpmojmhamgcfmaa.la Go.Proofs.Ytpmojmhamgcfmaa.wd
set_option linter.unusedVariables false
set_option maxRecDepth 100000
/-- What RunWord gives. -/
def rwB (r u : List Int) (s : ByteArray) : Bool := transB r u && wok s
def rwR (r u : List Int) (s : ByteArray) : List Int := if rwB r u s then (runS s.data.toList (r, u)).1 else []
def rwU (r u : List Int) (s : ByteArray) : List Int := if rwB r u s then (runS s.data.toList (r, u)).2 else []
theorem rw_no {r u : List Int} {s : ByteArray} (h : rwB r u s = false) : rwR r u s = [] ∧ rwU r u s = [] := by simp [rwR, rwU, h]
theorem rw_yes {r u : List Int} {s : ByteArray} (h : rwB r u s = true) : rwR r u s = (runS s.data.toList (r, u)).1 ∧ rwU r u s = (runS s.data.toList (r, u)).2 := by simp [rwR, rwU, h]
theorem rwB_no1 {r u : List Int} {s : ByteArray} (h : transB r u = false) : rwB r u s = false := by simp [rwB, h]
theorem rwB_no2 {r u : List Int} {s : ByteArray} (h : wok s = false) : rwB r u s = false := by simp [rwB, h]
theorem rwB_yes {r u : List Int} {s : ByteArray} (h : transB r u = true) (h' : wok s = true) : rwB r u s = true := by simp [rwB, h, h']
theorem rwB_wok {r u : List Int} {s : ByteArray} (h' : wok s = true) : rwB r u s = transB r u := by simp [rwB, h']
theorem rwR_len (r u : List Int) (s : ByteArray) : (rwR r u s).length ≤ 1048576 := by
  unfold rwR; split
  · rename_i h; have s1 := runS_sf s.data.toList (r, u) (transB_iff.1 (by unfold rwB at h; rw [Bool.and_eq_true] at h; exact h.1)); have := s1.r.len; omega
  · simp
theorem rwU_len (r u : List Int) (s : ByteArray) : (rwU r u s).length ≤ 1048576 := by
  unfold rwU; split
  · rename_i h; have s1 := runS_sf s.data.toList (r, u) (transB_iff.1 (by unfold rwB at h; rw [Bool.and_eq_true] at h; exact h.1)); have := s1.u.len; omega
  · simp
theorem rw_ac {r u : List Int} {s : ByteArray} (h : wok s = true) : acR (la.runN (nums s)) r u = rwR r u s ∧ acU (la.runN (nums s)) r u = rwU r u s := by
  have e : la.runN (nums s) = runS s.data.toList := funext fun q => runN_nums s.data.toList q (wok_all h)
  rw [e]; unfold acR acU rwR rwU; rw [rwB_wok h]; exact ⟨rfl, rfl⟩
set_option maxHeartbeats 1000000 in
theorem rw_impl (v : Value) (r u : List Int) (s : ByteArray) (hi : Nat) (w : World) (hx : Srd w hi v r u) (hn : r.length ≤ 1048576) (hm : u.length ≤ 1048576) (hs : s.size ≤ 1048576) :
    Calls Try.prog 7 #[v, .string s] w fun e w' => ∃ g, e = .returned (.tuple #[g, .bool (rwB r u s)]) ∧ Svl w' w.heap.size w'.heap.size g (rwR r u s) (rwU r u s) ∧ Below w.heap.size w w' := by
  have HX := Lib.hid hx
  obtain ⟨P, n, c, Q, m, d, rfl, q1, q2, e1, e2, ht, HR⟩ := hx.open
  clear hx
  go_enter Try.func7, Try.ntmps7
  go_wp2_with fail
  refine (lets_any s _ hs).mono ?_
  rintro e w1 ⟨v1, L, rfl, ho, hL, b1⟩
  obtain ⟨A, lc, rfl⟩ := own_form ho
  have A0 := Lib.hid (((Arr.new w [.slice P n c, .slice Q m d] 25 rfl).alloc _).keep b1 (by simp <;> omega))
  have A1 := Lib.hid ((Arr.new _ [.slice none 0 0, .slice none 0 0] 25 (g := w.heap.size + 1) (by simp)).keep b1 (by simp))
  have hs1 : w.heap.size + 2 ≤ w1.heap.size := by have := b1.size; simpa using this
  have c0 := A0.out.cell (k := 0) rfl
  have c1 := A0.out.cell (k := 1) rfl
  have B1 : Hid (Below w.heap.size w w1) := Lib.hid ((((Below.refl _ _).alloc (Nat.le_refl _) _).alloc (by simp) _).trans (b1.mono (by simp <;> omega))); clear b1
  have RL := Lib.hid (Row.of_own ho).rd; have HL := Lib.hid hL; clear ho hL
  cases hq : wok s
  · have HQ := Lib.hid (rwB_no2 (r := r) (u := u) hq)
    obtain ⟨z1, z2⟩ := rw_no HQ.out
    have Z1 := Lib.hid z1; have Z2 := Lib.hid z2; clear z1 z2
    go_wp2_with (first | (refine wpList_build rfl 25 _ rfl [] rfl _ built2 ?_) | (refine wpList_store_row rfl 25 _ _ rfl (w.heap.size + 1) #[.slice none 0 0, .slice none 0 0] rfl rfl 25 #[.slice none 0 0, .slice none 0 0] A1.out size2 rfl (by simp [Value.oneCell']) ?_))
    exact bodyPost_ret (v := .tuple #[.agg #[.slice none 0 0, .slice none 0 0], .bool false]) (permOf.results_cell_tmp rfl _ _ (w.heap.size + 1) 25 #[.slice none 0 0, .slice none 0 0] (0, 0) _ _ rfl rfl A1.out.row Try.underlying25 rfl size2) rfl (sb_nil Z1.out Z2.out HQ.out (below_setRow B1.out (by omega) _))
  · have HW := Lib.hid hq
    have hLn : L = nums s := by rw [HL.out, hq]; rfl
    subst hLn
    have h40 : (nums s).length ≤ 40 := by rw [nums_len]; exact wok_len hq
    have H3 : Hid (∀ l ∈ nums s, 0 ≤ l ∧ l ≤ 3) := Lib.hid (fun l hl => by
      obtain ⟨ch, hch, rfl⟩ := List.mem_map.1 hl
      rcases num_cases (List.all_eq_true.1 (wok_all hq) ch hch) with h | h | h | h <;> rw [h.2] <;> omega)
    obtain ⟨z1, z2⟩ := rw_ac (r := r) (u := u) hq
    have Z1 := Lib.hid z1; have Z2 := Lib.hid z2; have ZB := Lib.hid (rwB_wok (r := r) (u := u) hq); clear z1 z2
    clear hq HL
    generalize nums s = L at *
    go_wp2_with fail
    refine (sa_any _ r u A L.length lc L hi _ _ (HX.out.keep (B1.out.mono ht) (Nat.le_refl _)) hn hm RL.out (Nat.le_refl _) H3.out h40).mono ?_
    rintro e w2 ⟨g, rfl, sg, b1⟩
    rw [Z1.out, Z2.out] at sg
    rw [← ZB.out]
    obtain ⟨P3, c3, Q3, d3, rfl⟩ := sg.len
    have SG := Lib.hid sg; clear sg
    have s2 := b1.size
    replace A1 := Lib.hid (A1.out.keep b1 A1.out.lt)
    replace B1 := Lib.hid (B1.out.trans (b1.mono B1.out.size))
    clear b1 c0 c1 A0
    go_wp2_with (refine wpList_store_row rfl 25 _ _ rfl (w.heap.size + 1) #[.slice P3 (rwR r u s).length c3, .slice Q3 (rwU r u s).length d3] rfl rfl 25 #[.slice none 0 0, .slice none 0 0] A1.out size2 rfl (by simp [Value.oneCell']) ?_)
    exact bodyPost_ret (v := .tuple #[.agg #[.slice P3 (rwR r u s).length c3, .slice Q3 (rwU r u s).length d3], .bool (rwB r u s)]) (permOf.results_cell_tmp rfl _ _ (w.heap.size + 1) 25 #[.slice P3 (rwR r u s).length c3, .slice Q3 (rwU r u s).length d3] (0, 0) _ _ rfl rfl A1.out.row Try.underlying25 rfl size2) rfl (by
      have := Svl.row SG.out (g := w.heap.size + 1) (by omega) #[.slice P3 (rwR r u s).length c3, .slice Q3 (rwU r u s).length d3]
      exact ⟨_, rfl, (by simpa using this.later (by omega)), below_setRow B1.out (by omega) _⟩)
end Go.Proofs.Ytpmojmhamgcfmaa.rw
