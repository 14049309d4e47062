/-
  A path as the program holds it: a gluing, a word, the squares in which the rounds begin; pathOf, PathRounds.
-/
import Derived.Test.YtkkklpchkkdhfaaUc
import Derived.Test.YtkkklpchkkdhfaaMg
namespace Go.Proofs.Ytkkklpchkkdhfaa.pth
open Go.ChangeShapes Go.WideShapes Go.ChangeAt Go.RowKit
open Go.Proofs.Ytkkklpchkkdhfaa.mem Go.Proofs.Ytkkklpchkkdhfaa.ints Go.Proofs.Ytkkklpchkkdhfaa.arr Go.Proofs.Ytkkklpchkkdhfaa.pm Go.Proofs.Ytkkklpchkkdhfaa.permOk Go.Proofs.Ytkkklpchkkdhfaa.permOf Go.Proofs.Ytkkklpchkkdhfaa.inv Go.Proofs.Ytkkklpchkkdhfaa.fns Go.Proofs.Ytkkklpchkkdhfaa.sf Go.Proofs.Ytkkklpchkkdhfaa.gl Go.Proofs.Ytkkklpchkkdhfaa.dr
set_option linter.unusedVariables false
set_option maxRecDepth 100000
set_option linter.unusedSimpArgs false

/-- The cells of a path. -/
def pL (G : List Int) (W : ByteArray) (B : Value) : List Value := V G ++ [.string W, B]
theorem pL_len {G : List Int} (h : G.length = 49) (W : ByteArray) (B : Value) : (pL G W B).length = 51 := by simp [pL, V_len, h]
theorem infoP : (Try.prog.info? 66).map (·.size) = some 51 := by kernel_rfl
theorem sizeP {G : List Int} (h : G.length = 49) (W : ByteArray) (B : Value) : (Try.prog.info? 66).map (·.size) = some (pL G W B).toArray.size := by rw [infoP, List.size_toArray, pL_len h]
theorem hiP {G : List Int} (h : G.length = 49) (W : ByteArray) (B : Value) : (Try.prog.info? 66).map (·.size) = some (pL G W B).length := by rw [infoP, pL_len h]
theorem oneP (G : List Int) (W : ByteArray) (A : Option Addr) (n c : Nat) : (pL G W (.slice A n c)).toArray.all (·.oneCell') = true := by simp [pL, V, Value.oneCell']
theorem built_p {p q : List Int} (hp : p.length = 24) (hq : q.length = 24) (n : Nat) (W : ByteArray) (A : Option Addr) (k c : Nat) :
    Try.prog.built 66 [(0, .agg (V (gl p q n)).toArray), (1, .string W), (2, .slice A k c)] = some (pL (gl p q n) W (.slice A k c)).toArray := by
  obtain ⟨a0, a1, a2, a3, a4, a5, a6, a7, a8, a9, b0, b1, b2, b3, b4, b5, b6, b7, b8, b9, c0, c1, c2, c3, rfl⟩ := list24 hp
  obtain ⟨a0', a1', a2', a3', a4', a5', a6', a7', a8', a9', b0', b1', b2', b3', b4', b5', b6', b7', b8', b9', c0', c1', c2', c3', rfl⟩ := list24 hq
  kernel_rfl
theorem built_pz : Try.prog.built 66 [] = some (pL zero49 (wd []) (.slice none 0 0)).toArray := by kernel_rfl
theorem pL_on {w : World} {b : Nat} {G : List Int} {W : ByteArray} {B : Value} {t : TypeId} (h : Arr w b (pL G W B) t) : w.rangeAt b 0 (V G) := fun j v hv => by
  rw [Nat.zero_add]
  refine h.cell ?_
  rw [← hv]
  unfold pL
  rw [List.getElem?_append_left (List.getElem?_eq_some_iff.1 hv).1]
theorem pL_word {w : World} {b : Nat} {G : List Int} {W : ByteArray} {B : Value} {t : TypeId} (hG : G.length = 49) (h : Arr w b (pL G W B) t) : w.cell? ⟨b, 49, none⟩ = some (.string W) := by
  refine h.cell ?_
  unfold pL
  rw [List.getElem?_append_right (by rw [V_len, hG]; omega), V_len, hG]
  rfl
theorem pL_begins {w : World} {b : Nat} {G : List Int} {W : ByteArray} {B : Value} {t : TypeId} (hG : G.length = 49) (h : Arr w b (pL G W B) t) : w.cell? ⟨b, 50, none⟩ = some B := by
  refine h.cell ?_
  unfold pL
  rw [List.getElem?_append_right (by rw [V_len, hG]; omega), V_len, hG]
  rfl
theorem yP {P : Program} {ops : Array Oper} {S : World → Prop} {op : Oper} {a : Act} (hw : Region.wanted op (yielded ops a.tmps) = true) (t : TypeId) (parts : Array (Nat × Operand)) (ho : op.op = .build t parts)
    (l : List (Nat × Value)) (hl : (parts.toList.map fun p => (p.1, a.eval p.2)) = l) (cells : Array Value) (hb : P.built t l = some cells) : YieldsIf P ops S op (.agg cells) a :=
  .inl ⟨hw, fun w _ => by
    have hb' : P.built t (parts.map fun (i, x) => (i, a.eval x)).toList = some cells := by rw [Array.toList_map]; subst hl; exact hb
    unfold execOp
    simp only [ho, Sem.run_bind, run_build w t _ cells hb', Result.andThen_ok]
    rfl⟩
def bgF (r u : List Int) (i p q : Int) : List Int := if okQ r u i p q then cyc (peF r u p q) r.length i else []
def bwL (r u : List Int) (i p q : Int) : List UInt8 := if okQ r u i p q then swL p.toNat q.toNat else []
theorem bg_len (r u : List Int) (i p q : Int) : (bgF r u i p q).length = rdF r u i p q := by unfold bgF rdF; split <;> rfl
theorem pt_bw (r u : List Int) (i p q : Int) : ptF r u i p q = wd (rpL (bwL r u i p q) (rdF r u i p q)) := by
  unfold ptF bwL
  cases h : okQ r u i p q
  · simp [rd_no h, rpL]
  · simp
/-- What pathOf gives. -/
def PaPost (r u : List Int) (i p q : Int) (w : World) (e : Ending) (w' : World) : Prop :=
  ∃ (G : List Int) (A : Option Addr) (c : Nat), G.length = 49 ∧ (okQ r u i p q = true → G = gl (ext r) (ext u) r.length) ∧
    e = .returned (.tuple #[.agg (pL G (wd (bwL r u i p q)) (.slice A (bgF r u i p q).length c)).toArray, .bool (okQ r u i p q)]) ∧
    w'.ownsRow w.heap.size 3 1 (.slice A (bgF r u i p q).length c) (bgF r u i p q).length (V (bgF r u i p q)) ∧ Below w.heap.size w w'
theorem pa_no {r u : List Int} {i p q : Int} {w w' : World} (h : okQ r u i p q = false) (hb : Below w.heap.size w w') : PaPost r u i p q w (.returned (.tuple #[.agg (pL zero49 (wd []) (.slice none 0 0)).toArray, .bool false])) w' := by
  have e1 : bgF r u i p q = [] := by simp [bgF, h]
  have e2 : bwL r u i p q = [] := by simp [bwL, h]
  refine ⟨zero49, none, 0, zero49_len, fun q => absurd (h.symm.trans q) (by simp), by rw [e1, e2, h]; rfl, ?_, hb⟩
  rw [e1]
  exact ⟨rfl, .inl ⟨rfl, rfl⟩⟩
theorem okQ_not {r u : List Int} {i p q : Int} (h : ¬ (transB r u = true ∧ 0 ≤ i ∧ i < r.length ∧ slB p q = true)) : okQ r u i p q = false := by
  cases e : okQ r u i p q
  · rfl
  · obtain ⟨s, ⟨a, b⟩, c⟩ := okQ_facts e
    exact absurd ⟨transB_iff.2 s, a, b, c⟩ h
theorem cyc_ext {n : Nat} {E : List Int} (hE : Ok E) (hl : E.length = n) (hn : n ≤ 24) {f : Nat} (hf : f < n) : Bij n (ext E) ∧ cyc (ext E) n (f : Int) = cyc E n (f : Int) := by
  have hb := hE.bij
  rw [hl] at hb
  have hx := hE.bijExt
  rw [hl] at hx
  refine ⟨hx, cyc_congr hb (fun i hi => ?_) (by omega) (by omega)⟩
  have := ext_at (xs := E) (i := i) (by omega)
  rw [this, if_pos (by omega)]

set_option maxHeartbeats 8000000 in
theorem pa_impl (v : Value) (r u : List Int) (i p q : Int) (hi : Nat) (w : World) (hx : Srd w hi v r u) (hn : r.length ≤ 1048576) (hm : u.length ≤ 1048576) (i0 : -9223372036854775808 ≤ i) (i1 : i ≤ 9223372036854775807) (p0 : -9223372036854775808 ≤ p) (p1 : p ≤ 9223372036854775807) (q0 : -9223372036854775808 ≤ q) (q1' : q ≤ 9223372036854775807) :
    Calls Try.prog 47 #[v, .int .i64 i, .int .i64 p, .int .i64 q] w (PaPost r u i p q w) := by
  have HX := Lib.hid hx; clear hx
  obtain ⟨P, n, c, Q, m, d, rfl, q1, q2, e1, e2, ht, HR⟩ := HX.out.open
  have L1 := Lib.hid q1
  have N0 := Lib.hid (fun o => Arr.new (w.alloc o) (pL zero49 (wd []) (.slice none 0 0)) 66 (g := w.heap.size + 1) (by simp))
  have B0 : Hid (∀ a b, Below w.heap.size w ((w.alloc a).alloc b)) := Lib.hid (fun a b => ((Below.refl _ _).alloc (Nat.le_refl _) _).alloc (by simp) _)
  clear HR q1 q2
  go_enter Try.func47, Try.ntmps47
  go_wp2_with fail
  refine (gluingOf_any _ r u hi _ (HX.out.keep (((Below.refl hi w).alloc ht _).alloc (by simp; omega) _) (Nat.le_refl _)) hn hm).mono ?_
  rintro e w1 ⟨rfl, b1⟩
  have hs1 : w.heap.size + 2 ≤ w1.heap.size := by have := b1.size; simpa using this
  have AP := Lib.hid ((N0.out _).keep b1 (by simp))
  have B1 : Hid (Below w.heap.size w w1) := Lib.hid ((B0.out _ _).trans (b1.mono (by simp <;> omega)))
  clear b1 N0 B0
  cases hq : transB r u
  · have HF : Hid (okQ r u i p q = false) := Lib.hid (okQ_not (by rw [hq]; simp)); clear hq
    go_wp2_with (first | (refine wpList_store_row rfl 64 _ _ rfl w1.heap.size (V (glv r u)).toArray rfl rfl 64 (V zero49).toArray (Arr.new w1 (V zero49) _ rfl) (size49 (glv_len _ _)) (by simp [V_len, glv_len, zero49]) (one_V _) ?_; generalize hw_ : (w1.alloc (.cells #[.int .i64 0, .int .i64 0, .int .i64 0, .int .i64 0, .int .i64 0, .int .i64 0, .int .i64 0, .int .i64 0, .int .i64 0, .int .i64 0, .int .i64 0, .int .i64 0, .int .i64 0, .int .i64 0, .int .i64 0, .int .i64 0, .int .i64 0, .int .i64 0, .int .i64 0, .int .i64 0, .int .i64 0, .int .i64 0, .int .i64 0, .int .i64 0, .int .i64 0, .int .i64 0, .int .i64 0, .int .i64 0, .int .i64 0, .int .i64 0, .int .i64 0, .int .i64 0, .int .i64 0, .int .i64 0, .int .i64 0, .int .i64 0, .int .i64 0, .int .i64 0, .int .i64 0, .int .i64 0, .int .i64 0, .int .i64 0, .int .i64 0, .int .i64 0, .int .i64 0, .int .i64 0, .int .i64 0, .int .i64 0, .int .i64 0] 64)).setRow w1.heap.size (V (glv r u)).toArray = w2; have A2 : Hid (Arr w2 w1.heap.size (V (glv r u)) 64) := Lib.hid (by rw [← hw_]; exact (Arr.new w1 (V zero49) _ rfl).row); have b2 : Below w1.heap.size w1 w2 := (by rw [← hw_]; exact arr.below_setRow ((Below.refl _ _).alloc (Nat.le_refl _) _) (Nat.le_refl _) _); have t_ : w1.heap.size + 1 ≤ w2.heap.size := (by rw [← hw_]; simp); clear hw_; replace AP := Lib.hid (AP.out.keep b2 AP.out.lt); replace B1 := Lib.hid (B1.out.trans (b2.mono B1.out.size)); clear b2) | (refine gl.wpList_build rfl 66 _ rfl [] rfl (pL zero49 (wd []) (.slice none 0 0)).toArray built_pz ?_) | (refine wpList_store_row rfl 66 _ _ rfl (w.heap.size + 1) (pL zero49 (wd []) (.slice none 0 0)).toArray rfl rfl 66 (pL zero49 (wd []) (.slice none 0 0)).toArray AP.out (sizeP zero49_len _ _) rfl (oneP _ _ _ _ _) ?_))
    exact bodyPost_ret (v := .tuple #[.agg (pL zero49 (wd []) (.slice none 0 0)).toArray, .bool false]) (permOf.results_cell_tmp rfl _ _ (w.heap.size + 1) 66 (pL zero49 (wd []) (.slice none 0 0)).toArray (0, 0) _ _ rfl rfl AP.out.row Try.underlying66 rfl (sizeP zero49_len _ _)) rfl (pa_no HF.out (below_setRow B1.out (by omega) _))
  · have HT := Lib.hid hq
    have HS : Hid (Sf n r u) := Lib.hid (by have := transB_iff.1 HT.out; rwa [L1.out] at this)
    have HG : Hid (glv r u = gl (ext r) (ext u) n) := Lib.hid (by rw [glv_yes hq, L1.out])
    have hn24 : n ≤ 24 := HS.out.small
    clear hq
    rw [HG.out]
    have ON := Lib.hid (okQ_not (r := r) (u := u) (i := i) (p := p) (q := q))
    by_cases hi0 : i < 0
    · have HF : Hid (okQ r u i p q = false) := Lib.hid (ON.out (by omega))
      go_wp2_with (first | (refine wpList_store_row rfl 64 _ _ rfl w1.heap.size (V (gl (ext r) (ext u) n)).toArray rfl rfl 64 (V zero49).toArray (Arr.new w1 (V zero49) _ rfl) (size49 (gl_len (ext_len _) (ext_len _) n)) (by simp [V_len, gl_len, ext_len, zero49]) (one_V _) ?_; generalize hw_ : (w1.alloc (.cells #[.int .i64 0, .int .i64 0, .int .i64 0, .int .i64 0, .int .i64 0, .int .i64 0, .int .i64 0, .int .i64 0, .int .i64 0, .int .i64 0, .int .i64 0, .int .i64 0, .int .i64 0, .int .i64 0, .int .i64 0, .int .i64 0, .int .i64 0, .int .i64 0, .int .i64 0, .int .i64 0, .int .i64 0, .int .i64 0, .int .i64 0, .int .i64 0, .int .i64 0, .int .i64 0, .int .i64 0, .int .i64 0, .int .i64 0, .int .i64 0, .int .i64 0, .int .i64 0, .int .i64 0, .int .i64 0, .int .i64 0, .int .i64 0, .int .i64 0, .int .i64 0, .int .i64 0, .int .i64 0, .int .i64 0, .int .i64 0, .int .i64 0, .int .i64 0, .int .i64 0, .int .i64 0, .int .i64 0, .int .i64 0, .int .i64 0] 64)).setRow w1.heap.size (V (gl (ext r) (ext u) n)).toArray = w2; have A2 : Hid (Arr w2 w1.heap.size (V (gl (ext r) (ext u) n)) 64) := Lib.hid (by rw [← hw_]; exact (Arr.new w1 (V zero49) _ rfl).row); have b2 : Below w1.heap.size w1 w2 := (by rw [← hw_]; exact arr.below_setRow ((Below.refl _ _).alloc (Nat.le_refl _) _) (Nat.le_refl _) _); have t_ : w1.heap.size + 1 ≤ w2.heap.size := (by rw [← hw_]; simp); clear hw_; replace AP := Lib.hid (AP.out.keep b2 AP.out.lt); replace B1 := Lib.hid (B1.out.trans (b2.mono B1.out.size)); clear b2; have c48 := gl_count (ext_len r) (ext_len u) A2.out) | (refine gl.wpList_build rfl 66 _ rfl [] rfl (pL zero49 (wd []) (.slice none 0 0)).toArray built_pz ?_) | (refine wpList_store_row rfl 66 _ _ rfl (w.heap.size + 1) (pL zero49 (wd []) (.slice none 0 0)).toArray rfl rfl 66 (pL zero49 (wd []) (.slice none 0 0)).toArray AP.out (sizeP zero49_len _ _) rfl (oneP _ _ _ _ _) ?_))
      exact bodyPost_ret (v := .tuple #[.agg (pL zero49 (wd []) (.slice none 0 0)).toArray, .bool false]) (permOf.results_cell_tmp rfl _ _ (w.heap.size + 1) 66 (pL zero49 (wd []) (.slice none 0 0)).toArray (0, 0) _ _ rfl rfl AP.out.row Try.underlying66 rfl (sizeP zero49_len _ _)) rfl (pa_no HF.out (below_setRow B1.out (by omega) _))
    obtain ⟨x, rfl⟩ := Int.eq_ofNat_of_zero_le (show 0 ≤ i by omega)
    clear hi0
    by_cases hxn : n ≤ x
    · have HF : Hid (okQ r u (x : Int) p q = false) := Lib.hid (ON.out (by rw [L1.out]; omega))
      have dx : decide ((n : Int) ≤ (x : Int)) = true := decide_eq_true (by omega)
      go_wp2_with (first | (refine wpList_store_row rfl 64 _ _ rfl w1.heap.size (V (gl (ext r) (ext u) n)).toArray rfl rfl 64 (V zero49).toArray (Arr.new w1 (V zero49) _ rfl) (size49 (gl_len (ext_len _) (ext_len _) n)) (by simp [V_len, gl_len, ext_len, zero49]) (one_V _) ?_; generalize hw_ : (w1.alloc (.cells #[.int .i64 0, .int .i64 0, .int .i64 0, .int .i64 0, .int .i64 0, .int .i64 0, .int .i64 0, .int .i64 0, .int .i64 0, .int .i64 0, .int .i64 0, .int .i64 0, .int .i64 0, .int .i64 0, .int .i64 0, .int .i64 0, .int .i64 0, .int .i64 0, .int .i64 0, .int .i64 0, .int .i64 0, .int .i64 0, .int .i64 0, .int .i64 0, .int .i64 0, .int .i64 0, .int .i64 0, .int .i64 0, .int .i64 0, .int .i64 0, .int .i64 0, .int .i64 0, .int .i64 0, .int .i64 0, .int .i64 0, .int .i64 0, .int .i64 0, .int .i64 0, .int .i64 0, .int .i64 0, .int .i64 0, .int .i64 0, .int .i64 0, .int .i64 0, .int .i64 0, .int .i64 0, .int .i64 0, .int .i64 0, .int .i64 0] 64)).setRow w1.heap.size (V (gl (ext r) (ext u) n)).toArray = w2; have A2 : Hid (Arr w2 w1.heap.size (V (gl (ext r) (ext u) n)) 64) := Lib.hid (by rw [← hw_]; exact (Arr.new w1 (V zero49) _ rfl).row); have b2 : Below w1.heap.size w1 w2 := (by rw [← hw_]; exact arr.below_setRow ((Below.refl _ _).alloc (Nat.le_refl _) _) (Nat.le_refl _) _); have t_ : w1.heap.size + 1 ≤ w2.heap.size := (by rw [← hw_]; simp); clear hw_; replace AP := Lib.hid (AP.out.keep b2 AP.out.lt); replace B1 := Lib.hid (B1.out.trans (b2.mono B1.out.size)); clear b2; have c48 := gl_count (ext_len r) (ext_len u) A2.out) | (refine gl.wpList_build rfl 66 _ rfl [] rfl (pL zero49 (wd []) (.slice none 0 0)).toArray built_pz ?_) | (refine wpList_store_row rfl 66 _ _ rfl (w.heap.size + 1) (pL zero49 (wd []) (.slice none 0 0)).toArray rfl rfl 66 (pL zero49 (wd []) (.slice none 0 0)).toArray AP.out (sizeP zero49_len _ _) rfl (oneP _ _ _ _ _) ?_))
      exact bodyPost_ret (v := .tuple #[.agg (pL zero49 (wd []) (.slice none 0 0)).toArray, .bool false]) (permOf.results_cell_tmp rfl _ _ (w.heap.size + 1) 66 (pL zero49 (wd []) (.slice none 0 0)).toArray (0, 0) _ _ rfl rfl AP.out.row Try.underlying66 rfl (sizeP zero49_len _ _)) rfl (pa_no HF.out (below_setRow B1.out (by omega) _))
    have hxn' : x < n := by omega
    go_wp2_with (refine wpList_store_row rfl 64 _ _ rfl w1.heap.size (V (gl (ext r) (ext u) n)).toArray rfl rfl 64 (V zero49).toArray (Arr.new w1 (V zero49) _ rfl) (size49 (gl_len (ext_len _) (ext_len _) n)) (by simp [V_len, gl_len, ext_len, zero49]) (one_V _) ?_; generalize hw_ : (w1.alloc (.cells #[.int .i64 0, .int .i64 0, .int .i64 0, .int .i64 0, .int .i64 0, .int .i64 0, .int .i64 0, .int .i64 0, .int .i64 0, .int .i64 0, .int .i64 0, .int .i64 0, .int .i64 0, .int .i64 0, .int .i64 0, .int .i64 0, .int .i64 0, .int .i64 0, .int .i64 0, .int .i64 0, .int .i64 0, .int .i64 0, .int .i64 0, .int .i64 0, .int .i64 0, .int .i64 0, .int .i64 0, .int .i64 0, .int .i64 0, .int .i64 0, .int .i64 0, .int .i64 0, .int .i64 0, .int .i64 0, .int .i64 0, .int .i64 0, .int .i64 0, .int .i64 0, .int .i64 0, .int .i64 0, .int .i64 0, .int .i64 0, .int .i64 0, .int .i64 0, .int .i64 0, .int .i64 0, .int .i64 0, .int .i64 0, .int .i64 0] 64)).setRow w1.heap.size (V (gl (ext r) (ext u) n)).toArray = w2; have A2 : Hid (Arr w2 w1.heap.size (V (gl (ext r) (ext u) n)) 64) := Lib.hid (by rw [← hw_]; exact (Arr.new w1 (V zero49) _ rfl).row); have b2 : Below w1.heap.size w1 w2 := (by rw [← hw_]; exact arr.below_setRow ((Below.refl _ _).alloc (Nat.le_refl _) _) (Nat.le_refl _) _); have t_ : w1.heap.size + 1 ≤ w2.heap.size := (by rw [← hw_]; simp); clear hw_; replace AP := Lib.hid (AP.out.keep b2 AP.out.lt); replace B1 := Lib.hid (B1.out.trans (b2.mono B1.out.size)); clear b2; have c48 := gl_count (ext_len r) (ext_len u) A2.out)
    refine (so_impl p q _ p0 p1 q0 q1').mono ?_
    rintro e w3 ⟨rfl, b1⟩
    clear c48
    replace AP := Lib.hid (AP.out.keep b1 AP.out.lt)
    replace A2 := Lib.hid (A2.out.keep b1 A2.out.lt)
    replace B1 := Lib.hid (B1.out.trans (b1.mono B1.out.size))
    have hs3 := b1.size
    clear b1
    cases hq : slB p q
    · have HF : Hid (okQ r u (x : Int) p q = false) := Lib.hid (ON.out (by rw [hq]; simp)); clear hq
      go_wp2_with (first | (refine gl.wpList_build rfl 66 _ rfl [] rfl (pL zero49 (wd []) (.slice none 0 0)).toArray built_pz ?_) | (refine wpList_store_row rfl 66 _ _ rfl (w.heap.size + 1) (pL zero49 (wd []) (.slice none 0 0)).toArray rfl rfl 66 (pL zero49 (wd []) (.slice none 0 0)).toArray AP.out (sizeP zero49_len _ _) rfl (oneP _ _ _ _ _) ?_))
      exact bodyPost_ret (v := .tuple #[.agg (pL zero49 (wd []) (.slice none 0 0)).toArray, .bool false]) (permOf.results_cell_tmp rfl _ _ (w.heap.size + 1) 66 (pL zero49 (wd []) (.slice none 0 0)).toArray (0, 0) _ _ rfl rfl AP.out.row Try.underlying66 rfl (sizeP zero49_len _ _)) rfl (pa_no HF.out (below_setRow B1.out (by omega) _))
    · obtain ⟨a, b, rfl, rfl, hab, hg, h1⟩ := slB_nat hq
      have HO : Hid (okQ r u (x : Int) (a : Int) (b : Int) = true) := Lib.hid (by simp only [okQ, Bool.and_eq_true, decide_eq_true_eq]; exact ⟨HT.out, by omega, by rw [L1.out]; omega, hq⟩)
      have HW := Lib.hid (swF_yes hq)
      have EO := Lib.hid (ev_ok HS.out (swL a b))
      have HPE : Hid (peF r u (a : Int) (b : Int) = ev n r u (swL a b)) := Lib.hid (by unfold peF; rw [L1.out, Int.toNat_natCast, Int.toNat_natCast])
      have HBW : Hid (bwL r u (x : Int) (a : Int) (b : Int) = swL a b) := Lib.hid (by unfold bwL; rw [if_pos HO.out, Int.toNat_natCast, Int.toNat_natCast])
      have CX := Lib.hid (cyc_ext EO.out.1 EO.out.2 hn24 hxn')
      have HBG : Hid (bgF r u (x : Int) (a : Int) (b : Int) = cyc (ext (ev n r u (swL a b))) n (x : Int)) := Lib.hid (by unfold bgF; rw [if_pos HO.out, HPE.out, L1.out, CX.out.2])
      clear hq hg ON
      go_wp2_with fail
      refine (sw_impl a b _ (by omega) (by omega) (by omega) (by omega)).mono ?_
      rintro e w4 ⟨rfl, b1⟩
      rw [HW.out]
      replace AP := Lib.hid (AP.out.keep b1 AP.out.lt)
      replace A2 := Lib.hid (A2.out.keep b1 A2.out.lt)
      replace B1 := Lib.hid (B1.out.trans (b1.mono B1.out.size))
      have hs4 := b1.size
      clear b1
      obtain ⟨L, hL⟩ : ∃ L, L = swL a b := ⟨_, rfl⟩
      have l12 : L.length ≤ 12 := by rw [hL, swL_len]; exact hab
      have HLr : Hid (∀ c ∈ L, c = 114 ∨ c = 117) := Lib.hid (by rw [hL]; exact fun _ h => swL_or h)
      rw [← hL] at EO HPE HBW CX HBG ⊢
      clear hL HW HPE
      go_wp2_with fail
      refine wp_region_held_drew (S := Hld (w.heap.size + 1) w4.heap.size w4 [(w1.heap.size, V (gl (ext r) (ext u) n))]) (by kernel_rfl) ((Hld.start1 A2.out).lower (by omega)) (fun hHeld => ?_)
      have b1 : Below w4.heap.size w4 w4.drew := ⟨rfl, rfl, rfl, Nat.le_refl _, fun _ _ => rfl⟩
      generalize w4.drew = w5 at *
      replace AP := Lib.hid (AP.out.keep b1 AP.out.lt)
      replace B1 := Lib.hid (B1.out.trans (b1.mono B1.out.size))
      have hs5 := b1.size
      clear b1 A2
      refine wpAnyH_take (i := 0) (v := .agg (V (gl (ext r) (ext u) n)).toArray) rfl (by kernel_rfl) (by kernel_rfl) (by kernel_rfl) (fun _ _ _ h => h) (yieldsIf_load_mid (by rfl) _ _ rfl (w1.heap.size) 0 rfl (V (gl (ext r) (ext u) n)) _ (fun w h => h.fst) Try.underlying64 rfl (hi49 (gl_len (ext_len _) (ext_len _) _))) hHeld ?_
      refine wpAnyH_take (i := 1) (v := .string (wd L)) rfl (by kernel_rfl) (by kernel_rfl) (by kernel_rfl) (fun _ _ _ h => h) (Or.inl ⟨by rfl, fun w hSw => by go_simp⟩) hHeld ?_
      refine wpAnyH_take (i := 2) (v := .agg (V (gl (ext r) (ext u) n)).toArray) rfl (by kernel_rfl) (by kernel_rfl) (by kernel_rfl) (fun _ _ _ h => h) (yieldsIf_load_mid (by rfl) _ _ rfl (w1.heap.size) 0 rfl (V (gl (ext r) (ext u) n)) _ (fun w h => h.fst) Try.underlying64 rfl (hi49 (gl_len (ext_len _) (ext_len _) _))) hHeld ?_
      refine wpAnyH_take (i := 3) (v := .string (wd L)) rfl (by kernel_rfl) (by kernel_rfl) (by kernel_rfl) (fun _ _ _ h => h) (Or.inl ⟨by rfl, fun w hSw => by go_simp⟩) hHeld ?_
      refine wpAnyH_take (i := 5) (v := .int .i64 (x : Int)) rfl (by kernel_rfl) (by kernel_rfl) (by kernel_rfl) (fun _ _ _ h => h) (Or.inl ⟨by rfl, fun w hSw => by go_simp⟩) hHeld ?_
      refine wpAnyH_ready (rs := [4]) (by kernel_rfl) (by simp) (AllReadyH.cons rfl (fun K hK => ?_) AllReadyH.nil)
      go_simp
      refine (along_any r u n L _ HS.out l12 HLr.out).mono ?_
      rintro e w6 ⟨rfl, b1⟩
      replace AP := Lib.hid (AP.out.keep b1 AP.out.lt)
      replace B1 := Lib.hid (B1.out.trans (b1.mono B1.out.size))
      have hs6 := b1.size
      go_wp2_with fail
      have hHeld2 := hHeld.later b1 (by omega); clear b1 hHeld
      refine hK.out _ _ hHeld2 (fun hHeld => ?_)
      clear hK K hHeld2
      refine wpAnyH_ready (rs := [6]) (by kernel_rfl) (by simp) (AllReadyH.cons rfl (fun K hK => ?_) AllReadyH.nil)
      go_simp
      refine (cycleFrom_any (ext (ev n r u L)) n x _ (ext_len _) CX.out.1 hn24 hxn').mono ?_
      rintro e w7 ⟨v7, rfl, o7, b1⟩
      rw [← HBG.out] at o7
      obtain ⟨P7, c7, rfl⟩ := own_form o7
      have O7 : Hid (w7.ownsRow w.heap.size 3 1 (.slice P7 (bgF r u (x : Int) (a : Int) (b : Int)).length c7) (bgF r u (x : Int) (a : Int) (b : Int)).length (V (bgF r u (x : Int) (a : Int) (b : Int)))) := Lib.hid (own_low o7 (by omega))
      have O7b : Hid (∀ g, (Value.slice P7 (bgF r u (x : Int) (a : Int) (b : Int)).length c7).ownBlock = some g → w6.heap.size ≤ g) := Lib.hid (fun g hg => (o7.lt g hg).1)
      clear o7
      replace AP := Lib.hid (AP.out.keep b1 AP.out.lt)
      replace B1 := Lib.hid (B1.out.trans (b1.mono B1.out.size))
      have hs7 := b1.size
      have BP := Lib.hid (built_p (ext_len r) (ext_len u) n (wd L) P7 (bgF r u (x : Int) (a : Int) (b : Int)).length c7)
      have PG : Hid ((gl (ext r) (ext u) n).length = 49) := Lib.hid (gl_len (ext_len _) (ext_len _) n)
      have GE : Hid (gl (ext r) (ext u) n = gl (ext r) (ext u) r.length) := Lib.hid (by rw [L1.out])
      have PAY : Hid (∀ (w8 : World) (h : w8.ownsRow w.heap.size 3 1 (.slice P7 (bgF r u (x : Int) (a : Int) (b : Int)).length c7) (bgF r u (x : Int) (a : Int) (b : Int)).length (V (bgF r u (x : Int) (a : Int) (b : Int)))) (hb : Below w.heap.size w w8), PaPost r u (x : Int) (a : Int) (b : Int) w (.returned (.tuple #[.agg (pL (gl (ext r) (ext u) n) (wd L) (.slice P7 (bgF r u (x : Int) (a : Int) (b : Int)).length c7)).toArray, .bool true])) w8) := Lib.hid (fun w8 h hb => ⟨_, P7, c7, PG.out, fun _ => GE.out, by rw [HBW.out, HO.out], h, hb⟩)
      clear GE HBW HBG CX HO
      generalize bgF r u (x : Int) (a : Int) (b : Int) = BG at *
      go_wp2_with fail
      have hHeld2 := hHeld.later b1 (by omega); clear b1 hHeld
      refine hK.out _ _ hHeld2 (fun hHeld => ?_)
      clear hK K hHeld2
      refine wpAnyH_take (i := 7) (v := .agg (pL (gl (ext r) (ext u) n) (wd L) (.slice P7 BG.length c7)).toArray) rfl (by kernel_rfl) (by kernel_rfl) (by kernel_rfl) (fun _ _ _ h => h) (yP (by rfl) 66 _ rfl [(0, .agg (V (gl (ext r) (ext u) n)).toArray), (1, .string (wd L)), (2, .slice P7 BG.length c7)] rfl _ BP.out) hHeld ?_
      refine wpAnyH_ready (rs := [8]) (by kernel_rfl) (by simp) (AllReadyH.cons rfl (fun K hK => ?_) AllReadyH.nil)
      refine step_store_row rfl 66 _ _ rfl (w.heap.size + 1) (pL (gl (ext r) (ext u) n) (wd L) (.slice P7 BG.length c7)).toArray rfl rfl 66 (pL zero49 (wd []) (.slice none 0 0)).toArray AP.out (sizeP PG.out _ _) (by rw [List.size_toArray, List.size_toArray, pL_len PG.out, pL_len zero49_len]) (oneP _ _ _ _ _) ?_
      have AF : Hid (Arr (w7.setRow (w.heap.size + 1) (pL (gl (ext r) (ext u) n) (wd L) (.slice P7 BG.length c7)).toArray) (w.heap.size + 1) (pL (gl (ext r) (ext u) n) (wd L) (.slice P7 BG.length c7)) 66) := Lib.hid AP.out.row
      have OF : Hid ((w7.setRow (w.heap.size + 1) (pL (gl (ext r) (ext u) n) (wd L) (.slice P7 BG.length c7)).toArray).ownsRow w.heap.size 3 1 (.slice P7 BG.length c7) BG.length (V BG)) := Lib.hid (ownk O7.out (fun g hg => setRow_other _ _ _ _ (by have := O7b.out g hg; omega)))
      have BF := Lib.hid (below_setRow B1.out (show w.heap.size ≤ w.heap.size + 1 by omega) (pL (gl (ext r) (ext u) n) (wd L) (.slice P7 BG.length c7)).toArray)
      have hH2 := hHeld.other (g := w.heap.size + 1) (Nat.le_refl _) (by simp; omega) (pL (gl (ext r) (ext u) n) (wd L) (.slice P7 BG.length c7)).toArray
      refine hK.out _ _ hH2 (fun hHeld2 => ?_)
      clear hK K hHeld hH2
      generalize w7.setRow (w.heap.size + 1) (pL (gl (ext r) (ext u) n) (wd L) (.slice P7 BG.length c7)).toArray = w8 at *
      refine wpAnyH_take (i := 9) (v := .bool true) rfl (by kernel_rfl) (by kernel_rfl) (by kernel_rfl) (fun _ _ _ h => h) (Or.inl ⟨by rfl, fun w hSw => by go_simp⟩) hHeld2 ?_
      refine wpAnyH_done (by kernel_rfl) ?_ _
      go_wp2_with fail
      refine bodyPost_ret (v := .tuple #[.agg (pL (gl (ext r) (ext u) n) (wd L) (.slice P7 BG.length c7)).toArray, .bool true]) (permOf.results_cell_tmp rfl _ _ (w.heap.size + 1) 66 (pL (gl (ext r) (ext u) n) (wd L) (.slice P7 BG.length c7)).toArray (0, 0) _ _ rfl rfl AF.out Try.underlying66 rfl (sizeP PG.out _ _)) rfl ?_
      exact PAY.out _ OF.out BF.out
end Go.Proofs.Ytkkklpchkkdhfaa.pth
