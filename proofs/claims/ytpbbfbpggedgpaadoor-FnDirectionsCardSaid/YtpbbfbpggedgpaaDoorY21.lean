import Derived.Test.YtpbbfbpggedgpaaDoorY20
import Derived.Deep.CutRange
import Derived.Test.YtpbbfbpggedgpaaDoorY19
import Derived.Test.YtpbbfbpggedgpaaDoorY18
/-
  surfaceAfter, the four letters' functions and RunWord of the program.
-/
namespace Go.Proofs.YtpbbfbpggedgpaaDoor.la
open Go.ChangeShapes Go.WideShapes Go.ChangeAt Go.RowKit
open Go.Proofs.YtpbbfbpggedgpaaDoor.mem Go.Proofs.YtpbbfbpggedgpaaDoor.ints Go.Proofs.YtpbbfbpggedgpaaDoor.arr Go.Proofs.YtpbbfbpggedgpaaDoor.pm Go.Proofs.YtpbbfbpggedgpaaDoor.permOk Go.Proofs.YtpbbfbpggedgpaaDoor.permOf Go.Proofs.YtpbbfbpggedgpaaDoor.inv Go.Proofs.YtpbbfbpggedgpaaDoor.fns Go.Proofs.YtpbbfbpggedgpaaDoor.sf Go.Proofs.YtpbbfbpggedgpaaDoor.gl Go.Proofs.YtpbbfbpggedgpaaDoor.mk Go.Proofs.YtpbbfbpggedgpaaDoor.lw
set_option linter.unusedVariables false
set_option maxRecDepth 100000
set_option maxHeartbeats 4000000 in
theorem sa_any (v : Value) (r u : List Int) (A : Option Addr) (m c : Nat) (L : List Int) (hi hi' : Nat) (w : World) (hx : Srd w hi v r u) (hn : r.length ≤ 1048576) (hm : u.length ≤ 1048576)
    (hL : Rd w hi' A m (V L)) (hh : hi' ≤ w.heap.size) (h3 : ∀ l ∈ L, 0 ≤ l ∧ l ≤ 3) (h40 : m ≤ 40) :
    Calls Tryd.prog 28 #[v, .slice A m c] w (SB (acR (runN L) r u) (acU (runN L) r u) (transB r u) w) := by
  have HX := Lib.hid hx; have HL := Lib.hid hL; have H3 := Lib.hid h3; clear hL h3
  obtain ⟨P, n, c', Q, m', d, rfl, q1, q2, e1, e2, ht, HR⟩ := hx.open
  have L1 := Lib.hid q1
  clear hx
  have N0 := Lib.hid (fun o => Arr.new (w.alloc o) [.slice none 0 0, .slice none 0 0] 25 (g := w.heap.size + 1) (by simp))
  go_enter Tryd.func28, Tryd.ntmps28
  go_wp2_with fail
  refine (gluingOf_any _ r u hi _ (HX.out.keep (((Below.refl hi w).alloc ht _).alloc (by simp; omega) _) (Nat.le_refl _)) hn hm).mono ?_
  rintro e w1 ⟨rfl, b1⟩
  have A1 := Lib.hid ((N0.out _).keep b1 (by simp))
  have hs1 : w.heap.size + 2 ≤ w1.heap.size := by have := b1.size; simpa using this
  have B1 : Hid (Below w.heap.size w w1) := Lib.hid ((((Below.refl _ _).alloc (Nat.le_refl _) _).alloc (by simp) _).trans (b1.mono (by simp <;> omega))); clear b1 N0
  cases hq : transB r u
  · obtain ⟨z1, z2⟩ := ac_no (runN L) hq
    have Z1 := Lib.hid z1; have Z2 := Lib.hid z2; have HQ := Lib.hid hq; clear z1 z2
    go_wp2_with (first | (refine wpList_store_row rfl 69 _ _ rfl w1.heap.size (V (glv r u)).toArray rfl rfl 69 (V zero49).toArray (Arr.new w1 (V zero49) _ rfl) (size49 (glv_len _ _)) (by simp [V_len, glv_len, zero49]) (one_V _) ?_; generalize hw2 : (w1.alloc (.cells #[.int .i64 0, .int .i64 0, .int .i64 0, .int .i64 0, .int .i64 0, .int .i64 0, .int .i64 0, .int .i64 0, .int .i64 0, .int .i64 0, .int .i64 0, .int .i64 0, .int .i64 0, .int .i64 0, .int .i64 0, .int .i64 0, .int .i64 0, .int .i64 0, .int .i64 0, .int .i64 0, .int .i64 0, .int .i64 0, .int .i64 0, .int .i64 0, .int .i64 0, .int .i64 0, .int .i64 0, .int .i64 0, .int .i64 0, .int .i64 0, .int .i64 0, .int .i64 0, .int .i64 0, .int .i64 0, .int .i64 0, .int .i64 0, .int .i64 0, .int .i64 0, .int .i64 0, .int .i64 0, .int .i64 0, .int .i64 0, .int .i64 0, .int .i64 0, .int .i64 0, .int .i64 0, .int .i64 0, .int .i64 0, .int .i64 0] 69)).setRow w1.heap.size (V (glv r u)).toArray = w2; have A2 : Hid (Arr w2 w1.heap.size (V (glv r u)) 69) := Lib.hid (by rw [← hw2]; exact (Arr.new w1 (V zero49) _ rfl).row); have b1 : Below w1.heap.size w1 w2 := (by rw [← hw2]; exact arr.below_setRow ((Below.refl _ _).alloc (Nat.le_refl _) _) (Nat.le_refl _) _); have s2 := b1.size; replace A1 := Lib.hid (A1.out.keep b1 A1.out.lt); replace B1 : Hid (Below w.heap.size w w2) := Lib.hid (B1.out.trans (b1.mono B1.out.size)); clear hw2 b1) | (refine wpList_build rfl 25 _ rfl [] rfl _ built2 ?_) | (refine wpList_store_row rfl 25 _ _ rfl (w.heap.size + 1) #[.slice none 0 0, .slice none 0 0] rfl rfl 25 #[.slice none 0 0, .slice none 0 0] A1.out size2 rfl (by simp [Value.oneCell']) ?_))
    exact bodyPost_ret (v := .tuple #[.agg #[.slice none 0 0, .slice none 0 0], .bool false]) (permOf.results_cell_tmp rfl _ _ (w.heap.size + 1) 25 #[.slice none 0 0, .slice none 0 0] (0, 0) _ _ rfl rfl A1.out.row Tryd.underlying25 rfl size2) rfl (sb_nil Z1.out Z2.out HQ.out (below_setRow B1.out (by omega) _))
  · obtain ⟨z1, z2⟩ := ac_yes (runN L) hq
    have Z1 := Lib.hid z1; have Z2 := Lib.hid z2; have HQ := Lib.hid hq; clear z1 z2
    have HS : Hid (Sf n r u) := Lib.hid (by have := transB_iff.1 hq; rwa [L1.out] at this)
    have HG : Hid (glv r u = gl (ext r) (ext u) n) := Lib.hid (by rw [glv_yes hq, L1.out])
    have hn24 : n ≤ 24 := by have := HS.out.r.len; rwa [L1.out] at this
    have HK := Lib.hid (runN_sf L (r, u) HS.out)
    clear hq
    go_wp2_with (first | (refine wpList_store_row rfl 69 _ _ rfl w1.heap.size (V (glv r u)).toArray rfl rfl 69 (V zero49).toArray (Arr.new w1 (V zero49) _ rfl) (size49 (glv_len _ _)) (by simp [V_len, glv_len, zero49]) (one_V _) ?_; generalize hw2 : (w1.alloc (.cells #[.int .i64 0, .int .i64 0, .int .i64 0, .int .i64 0, .int .i64 0, .int .i64 0, .int .i64 0, .int .i64 0, .int .i64 0, .int .i64 0, .int .i64 0, .int .i64 0, .int .i64 0, .int .i64 0, .int .i64 0, .int .i64 0, .int .i64 0, .int .i64 0, .int .i64 0, .int .i64 0, .int .i64 0, .int .i64 0, .int .i64 0, .int .i64 0, .int .i64 0, .int .i64 0, .int .i64 0, .int .i64 0, .int .i64 0, .int .i64 0, .int .i64 0, .int .i64 0, .int .i64 0, .int .i64 0, .int .i64 0, .int .i64 0, .int .i64 0, .int .i64 0, .int .i64 0, .int .i64 0, .int .i64 0, .int .i64 0, .int .i64 0, .int .i64 0, .int .i64 0, .int .i64 0, .int .i64 0, .int .i64 0, .int .i64 0] 69)).setRow w1.heap.size (V (glv r u)).toArray = w2; have A2 : Hid (Arr w2 w1.heap.size (V (glv r u)) 69) := Lib.hid (by rw [← hw2]; exact (Arr.new w1 (V zero49) _ rfl).row); have b1 : Below w1.heap.size w1 w2 := (by rw [← hw2]; exact arr.below_setRow ((Below.refl _ _).alloc (Nat.le_refl _) _) (Nat.le_refl _) _); have s2 := b1.size; replace A1 := Lib.hid (A1.out.keep b1 A1.out.lt); replace B1 : Hid (Below w.heap.size w w2) := Lib.hid (B1.out.trans (b1.mono B1.out.size)); clear hw2 b1; rw [HG.out] at A2) | (refine wpList_load_row rfl 69 _ rfl w1.heap.size rfl 69 (V (gl (ext r) (ext u) n)).toArray (0, 0) _ A2.out Tryd.underlying69 rfl (size49 (gl_len (ext_len _) (ext_len _) _)) ?_) | fail)
    refine (after_any r u n A m c L hi' _ (HL.out.keep (B1.out.mono hh) (Nat.le_refl _)) (Nat.le_trans hh B1.out.size) H3.out HS.out h40).mono ?_
    rintro e w3 ⟨rfl, b1⟩
    replace A1 := Lib.hid (A1.out.keep b1 A1.out.lt)
    replace B1 := Lib.hid (B1.out.trans (b1.mono B1.out.size))
    have hs3 := b1.size
    clear b1 A2
    generalize runN L (r, u) = s3 at *
    obtain ⟨r3, u3⟩ := s3
    go_wp2_with fail
    refine (surface_any (ext r3) (ext u3) n _ (ext_len _) (ext_len _) hn24).mono ?_
    rintro e w6 ⟨g, rfl, sg, b1⟩
    have t1 : (ext r3).take n = r3 := by have := ext_take r3 (by rw [HK.out.lr]; exact hn24); rwa [HK.out.lr] at this
    have t2 : (ext u3).take n = u3 := by have := ext_take u3 (by rw [HK.out.lu]; exact hn24); rwa [HK.out.lu] at this
    rw [t1, t2] at sg
    obtain ⟨P3, c3, Q3, d3, rfl⟩ := sg.lens HK.out.lr HK.out.lu
    have hs6 := b1.size
    replace A1 := Lib.hid (A1.out.keep b1 A1.out.lt)
    replace B1 := Lib.hid (B1.out.trans (b1.mono B1.out.size))
    have SG := Lib.hid sg
    clear b1 sg t1 t2
    go_wp2_with (refine wpList_store_row rfl 25 _ _ rfl (w.heap.size + 1) #[.slice P3 n c3, .slice Q3 n d3] rfl rfl 25 #[.slice none 0 0, .slice none 0 0] A1.out size2 rfl (by simp [Value.oneCell']) ?_)
    exact bodyPost_ret (v := .tuple #[.agg #[.slice P3 n c3, .slice Q3 n d3], .bool true]) (permOf.results_cell_tmp rfl _ _ (w.heap.size + 1) 25 #[.slice P3 n c3, .slice Q3 n d3] (0, 0) _ _ rfl rfl A1.out.row Tryd.underlying25 rfl size2) rfl (by
      rw [Z1.out, Z2.out, HQ.out]
      have := Svl.row SG.out (g := w.heap.size + 1) (by omega) #[.slice P3 n c3, .slice Q3 n d3]
      exact ⟨_, rfl, (by simpa using this.later (by omega)), below_setRow B1.out (by omega) _⟩)
theorem rd_one (w : World) (z : Int) (g : Nat) (hg : w.heap.size = g) : Rd (w.alloc (.cells #[.int .i64 z] 61)) (g + 1) (some ⟨g, 0, none⟩) 1 (V [z]) := by
  subst hg
  have := Rd.of_cells (w := w.alloc (.cells #[.int .i64 z] 61)) (a := ⟨w.heap.size, 0, none⟩) (n := 1) (xs := V [z]) rfl (fun i hi => by
    obtain rfl : i = 0 := by omega
    exact (Arr.new w (V [z]) 61 rfl).cell rfl)
  simpa using this
theorem sh_one : runN [0] = shearS := by funext s; simp [runN, letN]
theorem us_one : runN [1] = unshearS := by funext s; simp [runN, letN]
theorem tu_one : runN [2] = turnS := by funext s; simp [runN, letN]
theorem ut_one : runN [3] = unturnS := by funext s; simp [runN, letN]
end Go.Proofs.YtpbbfbpggedgpaaDoor.la

/-
  Words on surfaces: l05Letter, l05Run and RunWord of the model, RunWord of the program.
-/
namespace Go.Proofs.YtpbbfbpggedgpaaDoor.rw
open Go.ChangeShapes Go.WideShapes Go.ChangeAt Go.RowKit
open Go.Proofs.YtpbbfbpggedgpaaDoor.mem Go.Proofs.YtpbbfbpggedgpaaDoor.ints Go.Proofs.YtpbbfbpggedgpaaDoor.arr Go.Proofs.YtpbbfbpggedgpaaDoor.pm Go.Proofs.YtpbbfbpggedgpaaDoor.permOk Go.Proofs.YtpbbfbpggedgpaaDoor.permOf Go.Proofs.YtpbbfbpggedgpaaDoor.inv Go.Proofs.YtpbbfbpggedgpaaDoor.fns Go.Proofs.YtpbbfbpggedgpaaDoor.sf Go.Proofs.YtpbbfbpggedgpaaDoor.gl Go.Proofs.YtpbbfbpggedgpaaDoor.mk Go.Proofs.YtpbbfbpggedgpaaDoor.lw Go.Proofs.YtpbbfbpggedgpaaDoor.la Go.Proofs.YtpbbfbpggedgpaaDoor.wd
set_option linter.unusedVariables false
set_option maxRecDepth 100000
theorem letS84 {c : UInt8} (h : c.toNat = 84) (s : Sur) : letS c s = shearS s := by simp [letS, h]
theorem letS116 {c : UInt8} (h : c.toNat = 116) (s : Sur) : letS c s = unshearS s := by simp [letS, h]
theorem letS83 {c : UInt8} (h : c.toNat = 83) (s : Sur) : letS c s = turnS s := by simp [letS, h]
theorem letS115 {c : UInt8} (h : c.toNat = 115) (s : Sur) : letS c s = unturnS s := by simp [letS, h]
/-- What l05Run keeps between two letters: a box with the surface's headers, two rows, each apart from the others. -/
def Bx (w wr : World) (B5 m : Nat) (r u : List Int) : Prop :=
  ∃ P c Q d l1 h1 l2 h2, Arr wr B5 [.slice P m c, .slice Q m d] 25 ∧ Row wr l1 h1 P m (V r) ∧ Row wr l2 h2 Q m (V u) ∧ m ≤ c ∧ m ≤ d ∧ w.heap.size + 2 ≤ l1 ∧ w.heap.size + 2 ≤ l2 ∧ (h1 ≤ l2 ∨ h2 ≤ l1) ∧
    (h1 ≤ B5 ∨ B5 < l1) ∧ (h2 ≤ B5 ∨ B5 < l2) ∧ w.heap.size + 2 ≤ B5 ∧ Arr wr (w.heap.size + 1) [.slice none 0 0, .slice none 0 0] 25 ∧ Below w.heap.size w wr
theorem row_set {w : World} {lo hi n g : Nat} {A : Option Addr} {xs : List Value} (h : Row w lo hi A n xs) (hg : hi ≤ g ∨ g < lo) (cs : Array Value) : Row (w.setRow g cs) lo hi A n xs :=
  h.out ((Out.refl g (g + 1) w).row_ (Nat.le_refl _) (Nat.lt_succ_self _) cs) (by omega)
theorem own_far {w w' : World} {base b : Nat} {e : TypeId} {g n c : Nat} {xs : List Value} {v : Value} (h : w.ownsRow base e 1 (.slice (some ⟨g, 0, none⟩) n c) n xs) (hg : w.grownBy w' v.ownBlock) (hv : v.ownBlock = some b) (hne : g ≠ b) : w'.ownsRow base e 1 (.slice (some ⟨g, 0, none⟩) n c) n xs := by
  refine ⟨h.1, ?_⟩
  rcases h.2 with ⟨h0, _⟩ | ⟨g', cap, cur, q1, q2, q3, q4⟩
  · exact absurd h0 (by simp)
  · refine .inr ⟨g', cap, cur, q1, q2, ?_, q4⟩
    injection q1 with q1 _ _; injection q1 with q1; injection q1 with q1 _ _
    subst q1
    rw [hg.block _ (Array.getElem?_eq_some_iff.1 q3).1 (by rw [hv]; intro e; cases e; exact hne rfl)]; exact q3
theorem arr_far {w w' : World} {g b : Nat} {cs : List Value} {t : TypeId} {v : Value} (h : Arr w g cs t) (hg : w.grownBy w' v.ownBlock) (hv : v.ownBlock = some b) (hne : g ≠ b) : Arr w' g cs t := by
  unfold Arr
  rw [hg.block _ h.lt (by rw [hv]; intro e; cases e; exact hne rfl)]; exact h
end Go.Proofs.YtpbbfbpggedgpaaDoor.rw

/-
  RunWord of the model and of the program.
-/
namespace Go.Proofs.YtpbbfbpggedgpaaDoor.rw
open Go.ChangeShapes Go.WideShapes Go.ChangeAt Go.RowKit
open Go.Proofs.YtpbbfbpggedgpaaDoor.mem Go.Proofs.YtpbbfbpggedgpaaDoor.ints Go.Proofs.YtpbbfbpggedgpaaDoor.arr Go.Proofs.YtpbbfbpggedgpaaDoor.pm Go.Proofs.YtpbbfbpggedgpaaDoor.permOk Go.Proofs.YtpbbfbpggedgpaaDoor.permOf Go.Proofs.YtpbbfbpggedgpaaDoor.inv Go.Proofs.YtpbbfbpggedgpaaDoor.fns Go.Proofs.YtpbbfbpggedgpaaDoor.sf Go.Proofs.YtpbbfbpggedgpaaDoor.gl Go.Proofs.YtpbbfbpggedgpaaDoor.mk Go.Proofs.YtpbbfbpggedgpaaDoor.lw Go.Proofs.YtpbbfbpggedgpaaDoor.la Go.Proofs.YtpbbfbpggedgpaaDoor.wd
set_option linter.unusedVariables false
set_option maxRecDepth 100000
/-- What RunWord gives. -/
def rwB (r u : List Int) (s : ByteArray) : Bool := transB r u && wok s
def rwR (r u : List Int) (s : ByteArray) : List Int := if rwB r u s then (runS s.data.toList (r, u)).1 else []
def rwU (r u : List Int) (s : ByteArray) : List Int := if rwB r u s then (runS s.data.toList (r, u)).2 else []
theorem rw_no {r u : List Int} {s : ByteArray} (h : rwB r u s = false) : rwR r u s = [] ∧ rwU r u s = [] := by simp [rwR, rwU, h]
theorem rw_yes {r u : List Int} {s : ByteArray} (h : rwB r u s = true) : rwR r u s = (runS s.data.toList (r, u)).1 ∧ rwU r u s = (runS s.data.toList (r, u)).2 := by simp [rwR, rwU, h]
theorem rwB_no1 {r u : List Int} {s : ByteArray} (h : transB r u = false) : rwB r u s = false := by simp [rwB, h]
theorem rwB_no2 {r u : List Int} {s : ByteArray} (h : wok s = false) : rwB r u s = false := by simp [rwB, h]
theorem rwB_yes {r u : List Int} {s : ByteArray} (h : transB r u = true) (h' : wok s = true) : rwB r u s = true := by simp [rwB, h, h']
theorem rwB_wok {r u : List Int} {s : ByteArray} (h' : wok s = true) : rwB r u s = transB r u := by simp [rwB, h']
theorem rwR_len (r u : List Int) (s : ByteArray) : (rwR r u s).length ≤ 1048576 := by
  unfold rwR; split
  · rename_i h; have s1 := runS_sf s.data.toList (r, u) (transB_iff.1 (by unfold rwB at h; rw [Bool.and_eq_true] at h; exact h.1)); have := s1.r.len; omega
  · simp
theorem rwU_len (r u : List Int) (s : ByteArray) : (rwU r u s).length ≤ 1048576 := by
  unfold rwU; split
  · rename_i h; have s1 := runS_sf s.data.toList (r, u) (transB_iff.1 (by unfold rwB at h; rw [Bool.and_eq_true] at h; exact h.1)); have := s1.u.len; omega
  · simp
theorem rw_ac {r u : List Int} {s : ByteArray} (h : wok s = true) : acR (la.runN (nums s)) r u = rwR r u s ∧ acU (la.runN (nums s)) r u = rwU r u s := by
  have e : la.runN (nums s) = runS s.data.toList := funext fun q => runN_nums s.data.toList q (wok_all h)
  rw [e]; unfold acR acU rwR rwU; rw [rwB_wok h]; exact ⟨rfl, rfl⟩
set_option maxHeartbeats 1000000 in
theorem rw_impl (v : Value) (r u : List Int) (s : ByteArray) (hi : Nat) (w : World) (hx : Srd w hi v r u) (hn : r.length ≤ 1048576) (hm : u.length ≤ 1048576) (hs : s.size ≤ 1048576) :
    Calls Tryd.prog 8 #[v, .string s] w fun e w' => ∃ g, e = .returned (.tuple #[g, .bool (rwB r u s)]) ∧ Svl w' w.heap.size w'.heap.size g (rwR r u s) (rwU r u s) ∧ Below w.heap.size w w' := by
  have HX := Lib.hid hx
  obtain ⟨P, n, c, Q, m, d, rfl, q1, q2, e1, e2, ht, HR⟩ := hx.open
  clear hx
  go_enter Tryd.func8, Tryd.ntmps8
  go_wp2_with fail
  refine (lets_any s _ hs).mono ?_
  rintro e w1 ⟨v1, L, rfl, ho, hL, b1⟩
  obtain ⟨A, lc, rfl⟩ := own_form ho
  have A0 := Lib.hid (((Arr.new w [.slice P n c, .slice Q m d] 25 rfl).alloc _).keep b1 (by simp <;> omega))
  have A1 := Lib.hid ((Arr.new _ [.slice none 0 0, .slice none 0 0] 25 (g := w.heap.size + 1) (by simp)).keep b1 (by simp))
  have hs1 : w.heap.size + 2 ≤ w1.heap.size := by have := b1.size; simpa using this
  have c0 := A0.out.cell (k := 0) rfl
  have c1 := A0.out.cell (k := 1) rfl
  have B1 : Hid (Below w.heap.size w w1) := Lib.hid ((((Below.refl _ _).alloc (Nat.le_refl _) _).alloc (by simp) _).trans (b1.mono (by simp <;> omega))); clear b1
  have RL := Lib.hid (Row.of_own ho).rd; have HL := Lib.hid hL; clear ho hL
  cases hq : wok s
  · have HQ := Lib.hid (rwB_no2 (r := r) (u := u) hq)
    obtain ⟨z1, z2⟩ := rw_no HQ.out
    have Z1 := Lib.hid z1; have Z2 := Lib.hid z2; clear z1 z2
    go_wp2_with (first | (refine wpList_build rfl 25 _ rfl [] rfl _ built2 ?_) | (refine wpList_store_row rfl 25 _ _ rfl (w.heap.size + 1) #[.slice none 0 0, .slice none 0 0] rfl rfl 25 #[.slice none 0 0, .slice none 0 0] A1.out size2 rfl (by simp [Value.oneCell']) ?_))
    exact bodyPost_ret (v := .tuple #[.agg #[.slice none 0 0, .slice none 0 0], .bool false]) (permOf.results_cell_tmp rfl _ _ (w.heap.size + 1) 25 #[.slice none 0 0, .slice none 0 0] (0, 0) _ _ rfl rfl A1.out.row Tryd.underlying25 rfl size2) rfl (sb_nil Z1.out Z2.out HQ.out (below_setRow B1.out (by omega) _))
  · have HW := Lib.hid hq
    have hLn : L = nums s := by rw [HL.out, hq]; rfl
    subst hLn
    have h40 : (nums s).length ≤ 40 := by rw [nums_len]; exact wok_len hq
    have H3 : Hid (∀ l ∈ nums s, 0 ≤ l ∧ l ≤ 3) := Lib.hid (fun l hl => by
      obtain ⟨ch, hch, rfl⟩ := List.mem_map.1 hl
      rcases num_cases (List.all_eq_true.1 (wok_all hq) ch hch) with h | h | h | h <;> rw [h.2] <;> omega)
    obtain ⟨z1, z2⟩ := rw_ac (r := r) (u := u) hq
    have Z1 := Lib.hid z1; have Z2 := Lib.hid z2; have ZB := Lib.hid (rwB_wok (r := r) (u := u) hq); clear z1 z2
    clear hq HL
    generalize nums s = L at *
    go_wp2_with fail
    refine (sa_any _ r u A L.length lc L hi _ _ (HX.out.keep (B1.out.mono ht) (Nat.le_refl _)) hn hm RL.out (Nat.le_refl _) H3.out h40).mono ?_
    rintro e w2 ⟨g, rfl, sg, b1⟩
    rw [Z1.out, Z2.out] at sg
    rw [← ZB.out]
    obtain ⟨P3, c3, Q3, d3, rfl⟩ := sg.len
    have SG := Lib.hid sg; clear sg
    have s2 := b1.size
    replace A1 := Lib.hid (A1.out.keep b1 A1.out.lt)
    replace B1 := Lib.hid (B1.out.trans (b1.mono B1.out.size))
    clear b1 c0 c1 A0
    go_wp2_with (refine wpList_store_row rfl 25 _ _ rfl (w.heap.size + 1) #[.slice P3 (rwR r u s).length c3, .slice Q3 (rwU r u s).length d3] rfl rfl 25 #[.slice none 0 0, .slice none 0 0] A1.out size2 rfl (by simp [Value.oneCell']) ?_)
    exact bodyPost_ret (v := .tuple #[.agg #[.slice P3 (rwR r u s).length c3, .slice Q3 (rwU r u s).length d3], .bool (rwB r u s)]) (permOf.results_cell_tmp rfl _ _ (w.heap.size + 1) 25 #[.slice P3 (rwR r u s).length c3, .slice Q3 (rwU r u s).length d3] (0, 0) _ _ rfl rfl A1.out.row Tryd.underlying25 rfl size2) rfl (by
      have := Svl.row SG.out (g := w.heap.size + 1) (by omega) #[.slice P3 (rwR r u s).length c3, .slice Q3 (rwU r u s).length d3]
      exact ⟨_, rfl, (by simpa using this.later (by omega)), below_setRow B1.out (by omega) _⟩)
end Go.Proofs.YtpbbfbpggedgpaaDoor.rw

/-
  CylindersIn and IsOneCylinder of the specification and of the program.
-/
namespace Go.Proofs.YtpbbfbpggedgpaaDoor.dr
open Go.ChangeShapes Go.WideShapes Go.ChangeAt Go.RowKit
open Go.Proofs.YtpbbfbpggedgpaaDoor.mem Go.Proofs.YtpbbfbpggedgpaaDoor.ints Go.Proofs.YtpbbfbpggedgpaaDoor.arr Go.Proofs.YtpbbfbpggedgpaaDoor.pm Go.Proofs.YtpbbfbpggedgpaaDoor.permOk Go.Proofs.YtpbbfbpggedgpaaDoor.permOf Go.Proofs.YtpbbfbpggedgpaaDoor.inv Go.Proofs.YtpbbfbpggedgpaaDoor.fns Go.Proofs.YtpbbfbpggedgpaaDoor.sf Go.Proofs.YtpbbfbpggedgpaaDoor.gl Go.Proofs.YtpbbfbpggedgpaaDoor.cy Go.Proofs.YtpbbfbpggedgpaaDoor.wd Go.Proofs.YtpbbfbpggedgpaaDoor.rw
set_option linter.unusedVariables false
set_option maxRecDepth 100000

theorem dw_wok {a b : Nat} (h : a + b ≤ 12) (g : Nat.gcd a b = 1) : wok (wd (dwL a b)) = true := by
  have := dwL_ok h g
  unfold wok
  rw [wd_size, decide_eq_true (by omega), show (wd (dwL a b)).data.toList = dwL a b from rfl, this.2]; rfl
def ciS (r u : List Int) (p q : Int) : Sur := runS (dwL p.toNat q.toNat) (r, u)
/-- What CylindersIn gives. -/
noncomputable def ciF (r u : List Int) (p q : Int) : List Cy := if ppB r u p q then cyF (ciS r u p q).1 (ciS r u p q).2 else []
theorem ciF_no {r u : List Int} {p q : Int} (h : ppB r u p q = false) : ciF r u p q = [] := by simp [ciF, h]
theorem ciF_yes {r u : List Int} {a b : Nat} (h : ppB r u a b = true) : ciF r u a b = cyF (runS (dwL a b) (r, u)).1 (runS (dwL a b) (r, u)).2 := by simp [ciF, h, ciS]
theorem ciF_24 (r u : List Int) (p q : Int) : (ciF r u p q).length ≤ 24 := by
  unfold ciF
  split
  · exact cyF_24 _ _
  · simp
theorem ciF_len (r u : List Int) (p q : Int) : (ciF r u p q).length ≤ 1048576 := by have := ciF_24 r u p q; omega
def CIPost (r u : List Int) (p q : Int) (w : World) (e : Ending) (w' : World) : Prop := ∃ A c, e = .returned (.tuple #[.slice A (ciF r u p q).length c, .bool (ppB r u p q)]) ∧ Crow w' w.heap.size w'.heap.size A (ciF r u p q).length (ciF r u p q) ∧ Below w.heap.size w w'
theorem ci_no {r u : List Int} {p q : Int} {w w' : World} (h : ppB r u p q = false) (hb : Below w.heap.size w w') : CIPost r u p q w (.returned (.tuple #[.slice none 0 0, .bool false])) w' := by
  refine ⟨none, 0, by rw [h, ciF_no h]; rfl, ?_, hb⟩
  rw [ciF_no h]
  exact ⟨rfl, rfl, Nat.le_refl _, fun q => absurd q (by simp)⟩
theorem run_sf {n : Nat} {r u : List Int} (hs : Sf n r u) (L : List UInt8) : transB (runS L (r, u)).1 (runS L (r, u)).2 = true ∧ (runS L (r, u)).1.length = n ∧ (runS L (r, u)).2.length = n := by
  have s := runS_sf L (r, u) hs
  refine ⟨transB_iff.2 (by rw [s.lr]; exact s), s.lr, s.lu⟩

set_option maxHeartbeats 8000000 in
theorem ci_impl (v : Value) (r u : List Int) (p q : Int) (hi : Nat) (w : World) (hx : Srd w hi v r u) (hn : r.length ≤ 1048576) (hm : u.length ≤ 1048576) (p0 : -9223372036854775808 ≤ p) (p1 : p ≤ 9223372036854775807) (q0 : -9223372036854775808 ≤ q) (q1' : q ≤ 9223372036854775807) :
    Calls Tryd.prog 9 #[v, .int .i64 p, .int .i64 q] w (CIPost r u p q w) := by
  have HX := Lib.hid hx; clear hx
  obtain ⟨P, n, c, Q, m, d, rfl, q1, q2, e1, e2, ht, HR⟩ := HX.out.open
  have L1 := Lib.hid q1
  clear HR q1 q2
  go_enter Tryd.func9, Tryd.ntmps9
  go_wp2_with fail
  refine (so_impl p q _ p0 p1 q0 q1').mono ?_
  rintro e w1 ⟨rfl, b1⟩
  have A0 := Lib.hid ((Arr.new w [.slice P n c, .slice Q m d] 25 rfl).keep b1 (by simp))
  have B1 := Lib.hid (below1 _ _ b1)
  have hs1 : w.heap.size + 1 ≤ w1.heap.size := by have := b1.size; simpa using this
  clear b1
  cases hq : slB p q
  · have HF := Lib.hid (ppB_2 (r := r) (u := u) hq); clear hq
    go_wp2_with fail
    go_ret2
    exact ci_no HF.out B1.out
  · obtain ⟨a, b, rfl, rfl, hab, hg, h1⟩ := slB_nat hq
    have HSL := Lib.hid hq
    have HW := Lib.hid (dwF_yes hq)
    have WK := Lib.hid (dw_wok hab hg)
    have RB := Lib.hid (rwB_wok (r := r) (u := u) WK.out)
    clear hq hg
    have hws : (wd (dwL a b)).size ≤ 1048576 := by have := wok_len WK.out; omega
    obtain ⟨S, hS⟩ : ∃ S, wd (dwL a b) = S := ⟨_, rfl⟩
    have HSS := Lib.hid hS
    rw [hS] at HW WK RB hws
    clear hS
    have X1 : Hid (Srd w1 hi (.agg #[.slice P n c, .slice Q m d]) r u) := Lib.hid (HX.out.keep (B1.out.mono ht) (Nat.le_refl _))
    have ht2 := Nat.le_trans ht B1.out.size
    go_wp2_with fail
    go_cut [8, 9] from 14 to 21 (fun p' q' wx => ∃ g P3 c3 Q3 d3 lo hi2, p' = .pointer (some ⟨g, 0, none⟩) ∧ q' = .bool (transB r u) ∧ w1.heap.size ≤ g ∧ w1.heap.size ≤ lo ∧ Hid (Arr wx g [.slice P3 (rwR r u S).length c3, .slice Q3 (rwU r u S).length d3] 25) ∧ Hid (Svl wx lo hi2 (.agg #[.slice P3 (rwR r u S).length c3, .slice Q3 (rwU r u S).length d3]) (rwR r u S) (rwU r u S)) ∧ Hid (Below w1.heap.size w1 wx))
    case first =>
      refine wp_region_held_drew (S := Hld w1.heap.size w1.heap.size w1 [(w.heap.size, [.slice P n c, .slice Q m d])]) (by kernel_rfl) (Hld.start1 A0.out) (fun hHeld => ?_)
      have b0 : Below w1.heap.size w1 w1.drew := ⟨rfl, rfl, rfl, Nat.le_refl _, fun _ _ => rfl⟩
      generalize w1.drew = v0 at *
      have s_0 := b0.size
      replace X1 := Lib.hid (X1.out.keep b0 ht2)
      have BW := Lib.hid b0; clear b0
      refine wpAnyH_take (i := 0) (v := .agg #[.slice P n c, .slice Q m d]) rfl (by kernel_rfl) (by kernel_rfl) (by kernel_rfl) (fun _ _ _ h => h) (yieldsIf_load_mid (by rfl) _ _ rfl (w.heap.size) 0 rfl [.slice P n c, .slice Q m d] _ (fun w h => h.fst) Tryd.underlying25 rfl (sizeS _ _)) hHeld ?_
      refine wpAnyH_take (i := 1) (v := .int .i64 (a : Int)) rfl (by kernel_rfl) (by kernel_rfl) (by kernel_rfl) (fun _ _ _ h => h) (Or.inl ⟨by rfl, fun w hSw => by go_simp⟩) hHeld ?_
      refine wpAnyH_take (i := 2) (v := .int .i64 (b : Int)) rfl (by kernel_rfl) (by kernel_rfl) (by kernel_rfl) (fun _ _ _ h => h) (Or.inl ⟨by rfl, fun w hSw => by go_simp⟩) hHeld ?_
      refine wpAnyH_ready (rs := [3, 8]) (by kernel_rfl) (by simp) (AllReadyH.cons rfl (fun K hK => ?_) (AllReadyH.cons rfl (fun K hK => ?_) AllReadyH.nil))
      · go_simp
        refine (dw_impl a b _ (by omega) (by omega) (by omega) (by omega)).mono ?_
        rintro e v1 ⟨rfl, b1⟩
        rw [HW.out]
        have s_1 := b1.size
        replace BW := Lib.hid (BW.out.trans (b1.mono BW.out.size))
        replace X1 := Lib.hid (X1.out.keep b1 (by omega))
        go_wp2_with fail
        have hHeld2 := hHeld.later b1 (by omega); clear b1 hHeld
        refine hK.out _ _ hHeld2 (fun hHeld => ?_)
        clear hK K hHeld2
        refine wpAnyH_ready (rs := [4, 8]) (by kernel_rfl) (by simp) (AllReadyH.cons rfl (fun K hK => ?_) (AllReadyH.cons rfl (fun K hK => ?_) AllReadyH.nil))
        · go_simp
          refine (rw_impl _ r u S hi _ X1.out hn hm hws).mono ?_
          rintro e v2 ⟨g, rfl, sv, b1⟩
          rw [RB.out]
          obtain ⟨P3, c3, Q3, d3, rfl⟩ := sv.len
          have VY := Lib.hid sv; clear sv
          have s_2 := b1.size
          replace BW := Lib.hid (BW.out.trans (b1.mono BW.out.size))
          replace X1 := Lib.hid (X1.out.keep b1 (by omega))
          go_wp2_with fail
          have hHeld2 := hHeld.later b1 (by omega); clear b1 hHeld
          refine hK.out _ _ hHeld2 (fun hHeld => ?_)
          clear hK K hHeld2
          refine wpAnyH_take (i := 5) (v := .tuple #[.agg #[.slice P3 (rwR r u S).length c3, .slice Q3 (rwU r u S).length d3], .bool (transB r u)]) rfl (by kernel_rfl) (by kernel_rfl) (by kernel_rfl) (fun _ _ _ h => h) (Or.inl ⟨by kernel_rfl, fun w hSw => by go_simp⟩) hHeld ?_
          refine wpAnyH_take (i := 6) (v := .agg #[.slice P3 (rwR r u S).length c3, .slice Q3 (rwU r u S).length d3]) rfl (by kernel_rfl) (by kernel_rfl) (by kernel_rfl) (fun _ _ _ h => h) (Or.inl ⟨by kernel_rfl, fun w hSw => by go_simp⟩) hHeld ?_
          refine wpAnyH_take (i := 7) (v := .bool (transB r u)) rfl (by kernel_rfl) (by kernel_rfl) (by kernel_rfl) (fun _ _ _ h => h) (Or.inl ⟨by kernel_rfl, fun w hSw => by go_simp⟩) hHeld ?_
          refine wpAnyH_ready (rs := [8]) (by kernel_rfl) (by simp) (AllReadyH.cons rfl (fun K hK => ?_) AllReadyH.nil)
          go_simp
          generalize hwa : v2.alloc (.cells #[.slice none 0 0, .slice none 0 0] 25) = v3
          have b1 : Below v2.heap.size v2 v3 := by rw [← hwa]; exact (Below.refl _ _).alloc (Nat.le_refl _) _
          have AL : Hid (Arr v3 v2.heap.size [.slice none 0 0, .slice none 0 0] 25) := Lib.hid (by rw [← hwa]; exact Arr.new _ _ _ rfl)
          have s_3 : v2.heap.size + 1 ≤ v3.heap.size := by rw [← hwa]; simp
          clear hwa
          replace BW := Lib.hid (BW.out.trans (b1.mono BW.out.size))
          replace X1 := Lib.hid (X1.out.keep b1 (by omega))
          replace VY := Lib.hid (VY.out.keep b1 VY.out.top)
          have hHeld2 := hHeld.later b1 (by omega); clear b1 hHeld
          refine hK.out _ _ hHeld2 (fun hHeld => ?_)
          clear hK K hHeld2
          refine wpAnyH_ready (rs := [9]) (by kernel_rfl) (by simp) (AllReadyH.cons rfl (fun K hK => ?_) AllReadyH.nil)
          refine step_store_row rfl 25 _ _ rfl (v2.heap.size) #[.slice P3 (rwR r u S).length c3, .slice Q3 (rwU r u S).length d3] rfl rfl 25 #[.slice none 0 0, .slice none 0 0] AL.out size2 rfl (by simp [Value.oneCell']) ?_
          change K (Act.put _ none _) _
          simp only [Act.put]
          refine hK.out _ _ (hHeld.other (by omega) (by simp; omega) _) (fun hHeld2 => ?_)
          clear hK K hHeld
          refine wpAnyH_take (i := 10) (v := .bool (transB r u)) rfl (by kernel_rfl) (by kernel_rfl) (by kernel_rfl) (fun _ _ _ h => h) (Or.inl ⟨by kernel_rfl, fun w hSw => by go_simp⟩) hHeld2 ?_
          refine wpAnyH_done (by kernel_rfl) ?_ _
          clear hHeld2
          go_wp2_with fail
          go_meet
          exact ⟨_, _, _, _, _, _, _, rfl, rfl, by omega, by omega, Lib.hid AL.out.row, Lib.hid (VY.out.out ((Out.refl (v2.heap.size) (v2.heap.size + 1) _).row_ (Nat.le_refl _) (Nat.lt_succ_self _) _) (by omega)), Lib.hid (below_setRow BW.out (by omega) _)⟩
        · go_simp
          generalize hwa : v1.alloc (.cells #[.slice none 0 0, .slice none 0 0] 25) = v2
          have b1 : Below v1.heap.size v1 v2 := by rw [← hwa]; exact (Below.refl _ _).alloc (Nat.le_refl _) _
          have AL : Hid (Arr v2 v1.heap.size [.slice none 0 0, .slice none 0 0] 25) := Lib.hid (by rw [← hwa]; exact Arr.new _ _ _ rfl)
          have s_2 : v1.heap.size + 1 ≤ v2.heap.size := by rw [← hwa]; simp
          clear hwa
          replace BW := Lib.hid (BW.out.trans (b1.mono BW.out.size))
          replace X1 := Lib.hid (X1.out.keep b1 (by omega))
          have hHeld2 := hHeld.later b1 (by omega); clear b1 hHeld
          refine hK.out _ _ hHeld2 (fun hHeld => ?_)
          clear hK K hHeld2
          refine wpAnyH_ready (rs := [4]) (by kernel_rfl) (by simp) (AllReadyH.cons rfl (fun K hK => ?_) AllReadyH.nil)
          go_simp
          refine (rw_impl _ r u S hi _ X1.out hn hm hws).mono ?_
          rintro e v3 ⟨g, rfl, sv, b1⟩
          rw [RB.out]
          obtain ⟨P3, c3, Q3, d3, rfl⟩ := sv.len
          have VY := Lib.hid sv; clear sv
          have s_3 := b1.size
          replace BW := Lib.hid (BW.out.trans (b1.mono BW.out.size))
          replace X1 := Lib.hid (X1.out.keep b1 (by omega))
          replace AL := Lib.hid (AL.out.keep b1 AL.out.lt)
          go_wp2_with fail
          have hHeld2 := hHeld.later b1 (by omega); clear b1 hHeld
          refine hK.out _ _ hHeld2 (fun hHeld => ?_)
          clear hK K hHeld2
          refine wpAnyH_take (i := 5) (v := .tuple #[.agg #[.slice P3 (rwR r u S).length c3, .slice Q3 (rwU r u S).length d3], .bool (transB r u)]) rfl (by kernel_rfl) (by kernel_rfl) (by kernel_rfl) (fun _ _ _ h => h) (Or.inl ⟨by kernel_rfl, fun w hSw => by go_simp⟩) hHeld ?_
          refine wpAnyH_take (i := 6) (v := .agg #[.slice P3 (rwR r u S).length c3, .slice Q3 (rwU r u S).length d3]) rfl (by kernel_rfl) (by kernel_rfl) (by kernel_rfl) (fun _ _ _ h => h) (Or.inl ⟨by kernel_rfl, fun w hSw => by go_simp⟩) hHeld ?_
          refine wpAnyH_take (i := 7) (v := .bool (transB r u)) rfl (by kernel_rfl) (by kernel_rfl) (by kernel_rfl) (fun _ _ _ h => h) (Or.inl ⟨by kernel_rfl, fun w hSw => by go_simp⟩) hHeld ?_
          refine wpAnyH_ready (rs := [9]) (by kernel_rfl) (by simp) (AllReadyH.cons rfl (fun K hK => ?_) AllReadyH.nil)
          refine step_store_row rfl 25 _ _ rfl (v1.heap.size) #[.slice P3 (rwR r u S).length c3, .slice Q3 (rwU r u S).length d3] rfl rfl 25 #[.slice none 0 0, .slice none 0 0] AL.out size2 rfl (by simp [Value.oneCell']) ?_
          change K (Act.put (Act.put (Act.put (Act.put _ (some 14) _) (some 20) _) (some 21) _) none _) _
          simp only [Act.put, List.setIfInBounds_toArray, List.set_cons_zero, List.set_cons_succ]
          refine hK.out _ _ (hHeld.other (by omega) (by simp; omega) _) (fun hHeld2 => ?_)
          clear hK K hHeld
          refine wpAnyH_take (i := 10) (v := .bool (transB r u)) rfl (by kernel_rfl) (by kernel_rfl) (by kernel_rfl) (fun _ _ _ h => h) (Or.inl ⟨by kernel_rfl, fun w hSw => by go_simp⟩) hHeld2 ?_
          refine wpAnyH_done (by kernel_rfl) ?_ _
          clear hHeld2
          go_wp2_with fail
          go_meet
          exact ⟨_, _, _, _, _, _, _, rfl, rfl, by omega, by omega, Lib.hid AL.out.row, Lib.hid (VY.out.out ((Out.refl (v1.heap.size) (v1.heap.size + 1) _).row_ (Nat.le_refl _) (Nat.lt_succ_self _) _) (by omega)), Lib.hid (below_setRow BW.out (by omega) _)⟩
      · go_simp
        generalize hwa : v0.alloc (.cells #[.slice none 0 0, .slice none 0 0] 25) = v1
        have b1 : Below v0.heap.size v0 v1 := by rw [← hwa]; exact (Below.refl _ _).alloc (Nat.le_refl _) _
        have AL : Hid (Arr v1 v0.heap.size [.slice none 0 0, .slice none 0 0] 25) := Lib.hid (by rw [← hwa]; exact Arr.new _ _ _ rfl)
        have s_1 : v0.heap.size + 1 ≤ v1.heap.size := by rw [← hwa]; simp
        clear hwa
        replace BW := Lib.hid (BW.out.trans (b1.mono BW.out.size))
        replace X1 := Lib.hid (X1.out.keep b1 (by omega))
        have hHeld2 := hHeld.later b1 (by omega); clear b1 hHeld
        refine hK.out _ _ hHeld2 (fun hHeld => ?_)
        clear hK K hHeld2
        refine wpAnyH_ready (rs := [3]) (by kernel_rfl) (by simp) (AllReadyH.cons rfl (fun K hK => ?_) AllReadyH.nil)
        go_simp
        refine (dw_impl a b _ (by omega) (by omega) (by omega) (by omega)).mono ?_
        rintro e v2 ⟨rfl, b1⟩
        rw [HW.out]
        have s_2 := b1.size
        replace BW := Lib.hid (BW.out.trans (b1.mono BW.out.size))
        replace X1 := Lib.hid (X1.out.keep b1 (by omega))
        replace AL := Lib.hid (AL.out.keep b1 AL.out.lt)
        go_wp2_with fail
        have hHeld2 := hHeld.later b1 (by omega); clear b1 hHeld
        refine hK.out _ _ hHeld2 (fun hHeld => ?_)
        clear hK K hHeld2
        refine wpAnyH_ready (rs := [4]) (by kernel_rfl) (by simp) (AllReadyH.cons rfl (fun K hK => ?_) AllReadyH.nil)
        go_simp
        refine (rw_impl _ r u S hi _ X1.out hn hm hws).mono ?_
        rintro e v3 ⟨g, rfl, sv, b1⟩
        rw [RB.out]
        obtain ⟨P3, c3, Q3, d3, rfl⟩ := sv.len
        have VY := Lib.hid sv; clear sv
        have s_3 := b1.size
        replace BW := Lib.hid (BW.out.trans (b1.mono BW.out.size))
        replace X1 := Lib.hid (X1.out.keep b1 (by omega))
        replace AL := Lib.hid (AL.out.keep b1 AL.out.lt)
        go_wp2_with fail
        have hHeld2 := hHeld.later b1 (by omega); clear b1 hHeld
        refine hK.out _ _ hHeld2 (fun hHeld => ?_)
        clear hK K hHeld2
        refine wpAnyH_take (i := 5) (v := .tuple #[.agg #[.slice P3 (rwR r u S).length c3, .slice Q3 (rwU r u S).length d3], .bool (transB r u)]) rfl (by kernel_rfl) (by kernel_rfl) (by kernel_rfl) (fun _ _ _ h => h) (Or.inl ⟨by kernel_rfl, fun w hSw => by go_simp⟩) hHeld ?_
        refine wpAnyH_take (i := 6) (v := .agg #[.slice P3 (rwR r u S).length c3, .slice Q3 (rwU r u S).length d3]) rfl (by kernel_rfl) (by kernel_rfl) (by kernel_rfl) (fun _ _ _ h => h) (Or.inl ⟨by kernel_rfl, fun w hSw => by go_simp⟩) hHeld ?_
        refine wpAnyH_take (i := 7) (v := .bool (transB r u)) rfl (by kernel_rfl) (by kernel_rfl) (by kernel_rfl) (fun _ _ _ h => h) (Or.inl ⟨by kernel_rfl, fun w hSw => by go_simp⟩) hHeld ?_
        refine wpAnyH_ready (rs := [9]) (by kernel_rfl) (by simp) (AllReadyH.cons rfl (fun K hK => ?_) AllReadyH.nil)
        refine step_store_row rfl 25 _ _ rfl (v0.heap.size) #[.slice P3 (rwR r u S).length c3, .slice Q3 (rwU r u S).length d3] rfl rfl 25 #[.slice none 0 0, .slice none 0 0] AL.out size2 rfl (by simp [Value.oneCell']) ?_
        change K (Act.put (Act.put (Act.put (Act.put _ (some 14) _) (some 20) _) (some 21) _) none _) _
        simp only [Act.put, List.setIfInBounds_toArray, List.set_cons_zero, List.set_cons_succ]
        refine hK.out _ _ (hHeld.other (by omega) (by simp; omega) _) (fun hHeld2 => ?_)
        clear hK K hHeld
        refine wpAnyH_take (i := 10) (v := .bool (transB r u)) rfl (by kernel_rfl) (by kernel_rfl) (by kernel_rfl) (fun _ _ _ h => h) (Or.inl ⟨by kernel_rfl, fun w hSw => by go_simp⟩) hHeld2 ?_
        refine wpAnyH_done (by kernel_rfl) ?_ _
        clear hHeld2
        go_wp2_with fail
        go_meet
        exact ⟨_, _, _, _, _, _, _, rfl, rfl, by omega, by omega, Lib.hid AL.out.row, Lib.hid (VY.out.out ((Out.refl (v0.heap.size) (v0.heap.size + 1) _).row_ (Nat.le_refl _) (Nat.lt_succ_self _) _) (by omega)), Lib.hid (below_setRow BW.out (by omega) _)⟩
    case rest =>
      obtain ⟨g, P3, c3, Q3, d3, lo, hi2, rfl, rfl, hg1, hlo, AG, SV, BW⟩ := hcut
      have B2 := Lib.hid (B1.out.trans (BW.out.mono B1.out.size))
      have hs2 := BW.out.size
      cases hq : transB r u
      · have c0 := AG.out.cell (k := 0) rfl
        have c1 := AG.out.cell (k := 1) rfl
        have HF := Lib.hid (ppB_1 (p := (a : Int)) (q := (b : Int)) hq); clear hq
        go_wp2_with fail
        go_ret2
        exact ci_no HF.out B2.out
      · have HS : Hid (Sf n r u) := Lib.hid (by have := transB_iff.1 hq; rwa [L1.out] at this)
        have HB := Lib.hid (ppB_yes hq HSL.out)
        have RN := Lib.hid (run_sf HS.out (dwL a b))
        have hY : rwR r u S = (runS (dwL a b) (r, u)).1 ∧ rwU r u S = (runS (dwL a b) (r, u)).2 := by
          have := rw_yes (r := r) (u := u) (s := S) (by rw [RB.out]; exact hq)
          rw [← HSS.out] at this ⊢
          exact this
        have HF : Hid (ciF r u a b = cyF (runS (dwL a b) (r, u)).1 (runS (dwL a b) (r, u)).2) := Lib.hid (ciF_yes HB.out)
        rw [hY.1, hY.2] at AG SV
        try rw [hY.1, hY.2]
        have c0 := AG.out.cell (k := 0) rfl
        have c1 := AG.out.cell (k := 1) rfl
        clear hY hq
        generalize (runS (dwL a b) (r, u)).1 = R3 at *
        generalize (runS (dwL a b) (r, u)).2 = U3 at *
        have n24 := HS.out.small
        have hl3 : R3.length ≤ 24 := by have := RN.out.2.1; omega
        have hl4 : U3.length ≤ 24 := by have := RN.out.2.2; omega
        have HT3 := Lib.hid RN.out.1
        clear RN
        go_wp2_with fail
        refine (cyo_impl _ R3 U3 _ _ SV.out.rd (by omega) (by omega)).mono ?_
        rintro e w4 ⟨C, cc, rfl, o4, b4⟩
        have O4 := Lib.hid (o4.low B2.out.size)
        have B4 := Lib.hid (B2.out.trans (b4.mono B2.out.size))
        rw [HT3.out]
        clear o4 b4
        go_wp2_with fail
        go_ret2
        exact ⟨C, cc, by (rw [HF.out, HB.out] <;> rfl), by rw [HF.out]; exact O4.out, B4.out⟩
/-- What IsOneCylinder answers. -/
noncomputable def ioF (r u : List Int) (p q : Int) : Bool := ppB r u p q && decide ((ciF r u p q).length = 1)

set_option maxHeartbeats 1000000 in
theorem io_impl (v : Value) (r u : List Int) (p q : Int) (hi : Nat) (w : World) (hx : Srd w hi v r u) (hn : r.length ≤ 1048576) (hm : u.length ≤ 1048576) (p0 : -9223372036854775808 ≤ p) (p1 : p ≤ 9223372036854775807) (q0 : -9223372036854775808 ≤ q) (q1' : q ≤ 9223372036854775807) :
    Calls Tryd.prog 17 #[v, .int .i64 p, .int .i64 q] w fun e w' => e = .returned (.bool (ioF r u p q)) ∧ Below w.heap.size w w' := by
  have HX := Lib.hid hx; clear hx
  obtain ⟨P, n, c, Q, m, d, rfl, q1, q2, e1, e2, ht, HR⟩ := HX.out.open
  clear HR q1 q2
  go_enter Tryd.func17, Tryd.ntmps17
  go_wp2_with fail
  refine (ci_impl _ r u p q hi _ (HX.out.keep ((Below.refl hi w).alloc ht _) (Nat.le_refl _)) hn hm p0 p1 q0 q1').mono ?_
  rintro e w1 ⟨A, cc, rfl, o1, b1⟩
  have B1 := Lib.hid (below1 _ _ b1); clear b1 o1
  have HF : Hid (ioF r u p q = (ppB r u p q && decide ((ciF r u p q).length = 1))) := Lib.hid rfl
  generalize (ciF r u p q).length = N at *
  generalize ppB r u p q = B at *
  cases B
  · go_wp2_with fail
    go_ret
    exact ⟨mem.ret_bool HF.out.symm, B1.out⟩
  · by_cases hN : N = 1
    · subst hN
      go_wp2_with fail
      go_ret
      exact ⟨mem.ret_bool (by rw [HF.out]; rfl), B1.out⟩
    · have HD : Hid (((N : Int) == 1) = false) := Lib.hid (by simp; omega)
      have HF2 : Hid ((true && decide (N = 1)) = false) := Lib.hid (by simp [hN])
      go_wp2_with fail
      go_ret
      exact ⟨mem.ret_bool (by rw [HF.out, HF2.out]; exact HD.out), B1.out⟩

end Go.Proofs.YtpbbfbpggedgpaaDoor.dr
