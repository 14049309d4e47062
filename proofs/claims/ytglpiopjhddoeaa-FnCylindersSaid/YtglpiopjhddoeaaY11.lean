import Derived.Test.YtglpiopjhddoeaaY10
import Derived.Test.YtglpiopjhddoeaaY08
import Derived.Test.YtglpiopjhddoeaaY09
/-
  The program's gluing made a surface again; a gluing renamed.
-/
namespace Go.Proofs.Ytglpiopjhddoeaa.gl
open Go.ChangeShapes Go.WideShapes Go.ChangeAt Go.RowKit
open Go.Proofs.Ytglpiopjhddoeaa.mem Go.Proofs.Ytglpiopjhddoeaa.ints Go.Proofs.Ytglpiopjhddoeaa.arr Go.Proofs.Ytglpiopjhddoeaa.pm Go.Proofs.Ytglpiopjhddoeaa.permOk Go.Proofs.Ytglpiopjhddoeaa.permOf Go.Proofs.Ytglpiopjhddoeaa.inv Go.Proofs.Ytglpiopjhddoeaa.fns Go.Proofs.Ytglpiopjhddoeaa.sf
set_option linter.unusedVariables false
set_option maxRecDepth 100000

theorem rg_right {w : World} {b : Nat} {p q : List Int} {n : Nat} (hp : p.length = 24) (h : w.rangeAt b 0 (V (gl p q n))) : w.rangeAt b 0 (V p) := fun j v hv => by
  have hj : j < 24 := by have := (List.getElem?_eq_some_iff.1 hv).1; simpa [V, hp] using this
  refine h j v ?_
  rw [← hv]
  simp only [gl, V, List.map_append, List.append_assoc]
  rw [List.getElem?_append_left (by simp; omega)]
theorem rg_up {w : World} {b : Nat} {p q : List Int} {n : Nat} (hp : p.length = 24) (hq : q.length = 24) (h : w.rangeAt b 0 (V (gl p q n))) : w.rangeAt b 24 (V q) := fun j v hv => by
  have hj : j < 24 := by have := (List.getElem?_eq_some_iff.1 hv).1; simpa [V, hq] using this
  have := h (24 + j) v (by
    rw [← hv]
    simp only [gl, V, List.map_append, List.append_assoc]
    rw [List.getElem?_append_right (by simp; omega), List.getElem?_append_left (by simp; omega)]
    congr 1; simp; omega)
  rwa [Nat.zero_add] at this
theorem rg_count {w : World} {b : Nat} {p q : List Int} {n : Nat} (hp : p.length = 24) (hq : q.length = 24) (h : w.rangeAt b 0 (V (gl p q n))) : w.cell? ⟨b, 48, none⟩ = some (.int .i64 n) := by
  have := h 48 (.int .i64 n) (by
    simp only [gl, V, List.map_append]
    rw [List.getElem?_append_right (by simp; omega)]
    simp [hp, hq])
  rwa [Nat.zero_add] at this
theorem hi24 {l : List Int} (h : l.length = 24) : (Try.prog.info? 61).map (·.size) = some (V l).length := by rw [info44, V_len, h]
theorem hi49 {l : List Int} (h : l.length = 49) : (Try.prog.info? 63).map (·.size) = some (V l).length := by rw [info49, V_len, h]
theorem _root_.Go.Proofs.Ytglpiopjhddoeaa.sf.Hld.lower {base base' top : Nat} {w W : World} {bs : List (Nat × List Value)} (h : Hld base top w bs W) (hb : base' ≤ base) : Hld base' top w bs W := ⟨h.at_, h.below.mono hb, h.size⟩
theorem _root_.Go.Proofs.Ytglpiopjhddoeaa.sf.Hld.start3 {w : World} {a b c : Nat} {xs ys zs : List Value} {t t' t'' : TypeId} (h1 : Arr w a xs t) (h2 : Arr w b ys t') (h3 : Arr w c zs t'') : Hld w.heap.size w.heap.size w [(a, xs), (b, ys), (c, zs)] w.drew :=
  ⟨fun p hp => by
    simp only [List.mem_cons, List.not_mem_nil, or_false] at hp
    rcases hp with rfl | rfl | rfl
    · exact ⟨h1.lt, fun j v hv => by rw [Nat.zero_add]; exact h1.cell hv⟩
    · exact ⟨h2.lt, fun j v hv => by rw [Nat.zero_add]; exact h2.cell hv⟩
    · exact ⟨h3.lt, fun j v hv => by rw [Nat.zero_add]; exact h3.cell hv⟩,
    ⟨rfl, rfl, rfl, Nat.le_refl _, fun _ _ => rfl⟩, Nat.le_refl _⟩
theorem _root_.Go.Proofs.Ytglpiopjhddoeaa.sf.Hld.trd {base top a : Nat} {w W : World} {xs : List Value} {p q : Nat × List Value} {l : List (Nat × List Value)} (h : Hld base top w (p :: q :: (a, xs) :: l) W) : W.rangeAt a 0 xs := (h.at_ (a, xs) (by simp)).2
theorem step_build {P : Program} {ops : Array Oper} {o : Oper} {a : Act} {w : World} {K : Act → World → Prop} {Q : Exit → Act → World → Prop} {E : Prop} (hgd : o.guard = none) (t : TypeId) (parts : Array (Nat × Operand)) (ho : o.op = .build t parts)
    (l : List (Nat × Value)) (hl : (parts.toList.map fun p => (p.1, a.eval p.2)) = l) (cells : Array Value) (hb : P.built t l = some cells)
    (h : K (a.put o.dst (.agg cells)) w) : if Region.wanted o (yielded ops a.tmps) = true then Oper.wp P o a w K Q else E := by
  have hw : Region.wanted o (yielded ops a.tmps) = true := by simp [Region.wanted, hgd]
  have hb' : P.built t (parts.map fun (i, x) => (i, a.eval x)).toList = some cells := by
    rw [Array.toList_map]
    subst hl
    exact hb
  rw [if_pos hw]
  refine wp_build t parts ho (by rw [hb']; rfl) ?_
  rw [hb']
  exact h
theorem _root_.Go.Proofs.Ytglpiopjhddoeaa.sf.Hld.other {base top : Nat} {w W : World} {bs : List (Nat × List Value)} (h : Hld base top w bs W) {g : Nat} (hg : base ≤ g) (hne : ∀ p ∈ bs, p.1 ≠ g) (cs : Array Value) : Hld base top w bs (W.setRow g cs) :=
  ⟨fun p hp => ⟨(h.at_ p hp).1, fun j v hv => by
    rw [World.cell?_of_block (w := W) (a := ⟨p.1, 0 + j, none⟩) (setRow_other W g p.1 cs (hne p hp))]
    exact (h.at_ p hp).2 j v hv⟩, below_setRow h.below hg _, by simpa using h.size⟩

end Go.Proofs.Ytglpiopjhddoeaa.gl

/-
  The round about the corners: of the program's gluing, of the model.
-/
namespace Go.Proofs.Ytglpiopjhddoeaa.gl
open Go.ChangeShapes Go.WideShapes Go.ChangeAt Go.RowKit
open Go.Proofs.Ytglpiopjhddoeaa.mem Go.Proofs.Ytglpiopjhddoeaa.ints Go.Proofs.Ytglpiopjhddoeaa.arr Go.Proofs.Ytglpiopjhddoeaa.pm Go.Proofs.Ytglpiopjhddoeaa.permOk Go.Proofs.Ytglpiopjhddoeaa.permOf Go.Proofs.Ytglpiopjhddoeaa.inv Go.Proofs.Ytglpiopjhddoeaa.fns Go.Proofs.Ytglpiopjhddoeaa.sf
set_option linter.unusedVariables false
set_option maxRecDepth 100000

set_option maxHeartbeats 8000000 in
theorem around_any (p q : List Int) (n : Nat) (w : World) (hp : Sq p) (hq : Sq q) :
    Calls Try.prog 68 #[.agg (V (gl p q n)).toArray] w fun e w' => e = .returned (.agg (V (ar24 p q)).toArray) ∧ Below w.heap.size w w' := by
  have HP := Lib.hid hp; have HQ := Lib.hid hq; clear hp hq
  go_enter Try.func68, Try.ntmps68
  go_wp2_with fail
  generalize hw1 : (w.alloc (.cells (V (gl p q n)).toArray 63)).alloc (.cells #[.int .i64 0, .int .i64 0, .int .i64 0, .int .i64 0, .int .i64 0, .int .i64 0, .int .i64 0, .int .i64 0, .int .i64 0, .int .i64 0, .int .i64 0, .int .i64 0, .int .i64 0, .int .i64 0, .int .i64 0, .int .i64 0, .int .i64 0, .int .i64 0, .int .i64 0, .int .i64 0, .int .i64 0, .int .i64 0, .int .i64 0, .int .i64 0] 61) = w1
  have A2 : Hid (Arr w1 w.heap.size (V (gl p q n)) 63) := Lib.hid (by rw [← hw1]; exact (Arr.new w _ _ rfl).alloc _)
  have A4 : Hid (Arr w1 (w.heap.size + 1) (V zeros) 61) := Lib.hid (by rw [← hw1]; exact Arr.new _ (V zeros) _ (by simp))
  have B1 : Hid (Below w.heap.size w w1) := Lib.hid (by rw [← hw1]; exact ((Below.refl _ _).alloc (Nat.le_refl _) _).alloc (by simp) _)
  have s1 : w1.heap.size = w.heap.size + 2 := by rw [← hw1]; simp
  clear hw1
  refine wp_region_held_drew (S := Hld w.heap.size w1.heap.size w1 [(w.heap.size, V (gl p q n))]) (by kernel_rfl) ((Hld.start1 A2.out).lower (by omega)) (fun hHeld => ?_)
  have b1 : Below w1.heap.size w1 w1.drew := ⟨rfl, rfl, rfl, Nat.le_refl _, fun _ _ => rfl⟩
  generalize w1.drew = w4 at *
  have s4 := b1.size
  replace A4 := Lib.hid (A4.out.keep b1 A4.out.lt)
  replace B1 := Lib.hid (B1.out.trans (b1.mono B1.out.size))
  clear b1 A2
  refine wpAnyH_take (i := 0) (v := .pointer (some ⟨w.heap.size, 0, none⟩)) rfl (by kernel_rfl) (by kernel_rfl) (by kernel_rfl) (fun _ _ _ h => h) (Or.inl ⟨by rfl, fun w hSw => by go_simp⟩) hHeld ?_
  refine wpAnyH_take (i := 2) (v := .pointer (some ⟨w.heap.size, 24, none⟩)) rfl (by kernel_rfl) (by kernel_rfl) (by kernel_rfl) (fun _ _ _ h => h) (Or.inl ⟨by rfl, fun w hSw => by go_simp⟩) hHeld ?_
  refine wpAnyH_take (i := 5) (v := .pointer (some ⟨w.heap.size, 0, none⟩)) rfl (by kernel_rfl) (by kernel_rfl) (by kernel_rfl) (fun _ _ _ h => h) (Or.inl ⟨by rfl, fun w hSw => by go_simp⟩) hHeld ?_
  refine wpAnyH_take (i := 9) (v := .pointer (some ⟨w.heap.size, 24, none⟩)) rfl (by kernel_rfl) (by kernel_rfl) (by kernel_rfl) (fun _ _ _ h => h) (Or.inl ⟨by rfl, fun w hSw => by go_simp⟩) hHeld ?_
  refine wpAnyH_take (i := 1) (v := .agg (V p).toArray) rfl (by kernel_rfl) (by kernel_rfl) (by kernel_rfl) (fun _ _ _ h => h) (yieldsIf_load_mid (by rfl) _ _ rfl (w.heap.size) 0 rfl (V p) _ (fun w h => rg_right HP.out.len h.fst) Try.underlying61 rfl (hi24 HP.out.len)) hHeld ?_
  refine wpAnyH_take (i := 3) (v := .agg (V q).toArray) rfl (by kernel_rfl) (by kernel_rfl) (by kernel_rfl) (fun _ _ _ h => h) (yieldsIf_load_mid (by rfl) _ _ rfl (w.heap.size) 24 rfl (V q) _ (fun w h => rg_up HP.out.len HQ.out.len h.fst) Try.underlying61 rfl (hi24 HQ.out.len)) hHeld ?_
  refine wpAnyH_take (i := 6) (v := .agg (V p).toArray) rfl (by kernel_rfl) (by kernel_rfl) (by kernel_rfl) (fun _ _ _ h => h) (yieldsIf_load_mid (by rfl) _ _ rfl (w.heap.size) 0 rfl (V p) _ (fun w h => rg_right HP.out.len h.fst) Try.underlying61 rfl (hi24 HP.out.len)) hHeld ?_
  refine wpAnyH_take (i := 10) (v := .agg (V q).toArray) rfl (by kernel_rfl) (by kernel_rfl) (by kernel_rfl) (fun _ _ _ h => h) (yieldsIf_load_mid (by rfl) _ _ rfl (w.heap.size) 24 rfl (V q) _ (fun w h => rg_up HP.out.len HQ.out.len h.fst) Try.underlying61 rfl (hi24 HQ.out.len)) hHeld ?_
  refine wpAnyH_ready (rs := [4]) (by kernel_rfl) (by simp) (AllReadyH.cons rfl (fun K hK => ?_) AllReadyH.nil)
  go_simp
  refine (inv.then_any p q _ HP.out HQ.out).mono ?_
  rintro e w' ⟨rfl, b1⟩
  replace A4 := Lib.hid (A4.out.keep b1 A4.out.lt)
  replace B1 := Lib.hid (B1.out.trans (b1.mono B1.out.size))
  go_wp2_with fail
  have hHeld2 := hHeld.later b1 (by omega); clear b1 hHeld
  refine hK.out _ _ hHeld2 (fun hHeld => ?_)
  clear hK K hHeld2
  refine wpAnyH_ready (rs := [7]) (by kernel_rfl) (by simp) (AllReadyH.cons rfl (fun K hK => ?_) AllReadyH.nil)
  go_simp
  refine (inverse_any p _ HP.out).mono ?_
  rintro e w' ⟨rfl, b1⟩
  replace A4 := Lib.hid (A4.out.keep b1 A4.out.lt)
  replace B1 := Lib.hid (B1.out.trans (b1.mono B1.out.size))
  go_wp2_with fail
  have hHeld2 := hHeld.later b1 (by omega); clear b1 hHeld
  refine hK.out _ _ hHeld2 (fun hHeld => ?_)
  clear hK K hHeld2
  refine wpAnyH_ready (rs := [8]) (by kernel_rfl) (by simp) (AllReadyH.cons rfl (fun K hK => ?_) AllReadyH.nil)
  go_simp
  refine (inv.then_any (thenL p q) (invTo 24 p 24) _ (then_sq HP.out HQ.out) (inv_sq _)).mono ?_
  rintro e w' ⟨rfl, b1⟩
  replace A4 := Lib.hid (A4.out.keep b1 A4.out.lt)
  replace B1 := Lib.hid (B1.out.trans (b1.mono B1.out.size))
  go_wp2_with fail
  have hHeld2 := hHeld.later b1 (by omega); clear b1 hHeld
  refine hK.out _ _ hHeld2 (fun hHeld => ?_)
  clear hK K hHeld2
  refine wpAnyH_ready (rs := [11]) (by kernel_rfl) (by simp) (AllReadyH.cons rfl (fun K hK => ?_) AllReadyH.nil)
  go_simp
  refine (inverse_any q _ HQ.out).mono ?_
  rintro e w' ⟨rfl, b1⟩
  replace A4 := Lib.hid (A4.out.keep b1 A4.out.lt)
  replace B1 := Lib.hid (B1.out.trans (b1.mono B1.out.size))
  go_wp2_with fail
  have hHeld2 := hHeld.later b1 (by omega); clear b1 hHeld
  refine hK.out _ _ hHeld2 (fun hHeld => ?_)
  clear hK K hHeld2
  refine wpAnyH_ready (rs := [12]) (by kernel_rfl) (by simp) (AllReadyH.cons rfl (fun K hK => ?_) AllReadyH.nil)
  go_simp
  refine (inv.then_any (thenL (thenL p q) (invTo 24 p 24)) (invTo 24 q 24) _ (then_sq (then_sq HP.out HQ.out) (inv_sq _)) (inv_sq _)).mono ?_
  rintro e w' ⟨rfl, b1⟩
  replace A4 := Lib.hid (A4.out.keep b1 A4.out.lt)
  replace B1 := Lib.hid (B1.out.trans (b1.mono B1.out.size))
  go_wp2_with fail
  have hHeld2 := hHeld.later b1 (by omega); clear b1 hHeld
  refine hK.out _ _ hHeld2 (fun hHeld => ?_)
  clear hK K hHeld2
  have HA : Hid (thenL (thenL (thenL p q) (invTo 24 p 24)) (invTo 24 q 24) = ar24 p q) := Lib.hid rfl
  rw [HA.out]
  have HL := Lib.hid (ar24_len p q)
  generalize haa : ar24 p q = a at *
  have HAA := Lib.hid haa; clear haa
  clear HA
  refine wpAnyH_ready (rs := [13]) (by kernel_rfl) (by simp) (AllReadyH.cons rfl (fun K hK => ?_) AllReadyH.nil)
  refine step_store_row rfl 61 _ _ rfl (w.heap.size + 1) (V a).toArray rfl rfl 61 (V zeros).toArray A4.out (size_V HL.out) (by simp [V_len, HL.out, zeros]) (one_V _) ?_
  refine hK.out _ _ (hHeld.other (by omega) (by simp) _) (fun hHeld2 => ?_)
  clear hK K hHeld2
  refine wpAnyH_done (by kernel_rfl) ?_ _
  go_wp2_with fail
  exact bodyPost_ret (v := .agg (V a).toArray) (results_cell_row rfl _ _ (w.heap.size + 1) 61 (V a).toArray (0, 0) _ rfl A4.out.row Try.underlying61 rfl (size_V HL.out)) rfl ⟨by rw [HAA.out], below_setRow B1.out (by omega) _⟩

theorem l02inv_gives (A : Option Addr) (n c : Nat) (xs : List Int) (hi : Nat) (w : World) (hx : Rd w hi A n (V xs)) (ok : Ok xs) (hn : xs.length = n) :
    Calls Try.prog 61 #[.slice A n c] w (Gives (Inv xs) w) := by
  subst hn; exact l02inv_any A _ c xs hi w hx ok
theorem _root_.Go.Proofs.Ytglpiopjhddoeaa.sf.Hld.c0 {base top a : Nat} {w W : World} {x y : Value} {l : List (Nat × List Value)} (h : Hld base top w ((a, [x, y]) :: l) W) : W.cell? ⟨a, 0, none⟩ = some x := by simpa using h.fst 0 x rfl
theorem _root_.Go.Proofs.Ytglpiopjhddoeaa.sf.Hld.c1 {base top a : Nat} {w W : World} {x y : Value} {l : List (Nat × List Value)} (h : Hld base top w ((a, [x, y]) :: l) W) : W.cell? ⟨a, 1, none⟩ = some y := by simpa using h.fst 1 y rfl
set_option maxHeartbeats 4000000 in
theorem around_spec (v : Value) (r u : List Int) (hi : Nat) (w : World) (hx : Srd w hi v r u) (hs : Sf r.length r u) :
    Calls Try.prog 73 #[v] w (Gives (comm r u) w) := by
  have HX := Lib.hid hx; clear hx
  have HS := Lib.hid hs; clear hs
  obtain ⟨P, n, c, Q, m, d, rfl, q1, q2, e1, e2, ht, HR⟩ := HX.out.open
  have RU : Hid (r.length = u.length) := Lib.hid (HS.out.lu ▸ rfl)
  have HI : Hid (n = m) := Lib.hid (by rw [← q1, ← q2]; exact RU.out)
  have Q1 := Lib.hid q1; have Q2 := Lib.hid q2; clear q1 q2
  go_enter Try.func73, Try.ntmps73
  go_wp2_with fail
  refine (l02then_any P n c Q m d r u _ _ _ (HR.out _).1 (HR.out _).2 HS.out.r HI.out).mono ?_
  rintro e w1 hg
  obtain ⟨v1, rfl, o1, b1⟩ := hg
  obtain ⟨P1, c1, rfl⟩ := own_form o1
  have hs1 : w.heap.size + 1 ≤ w1.heap.size := by have := b1.size; simpa using this
  have A0 := Lib.hid ((Arr.new w [.slice P n c, .slice Q m d] 25 rfl).keep b1 (by simp))
  have R1 := Lib.hid (Row.of_own o1)
  have B1 := Lib.hid (below1 _ _ b1)
  have X1 : Hid (Srd w1 hi (.agg #[.slice P n c, .slice Q m d]) r u) := Lib.hid (HX.out.keep (B1.out.mono ht) (Nat.le_refl _))
  clear o1 b1 HR
  go_wp2_with fail
  refine wp_region_held_drew (S := Hld w1.heap.size w1.heap.size w1 [(w.heap.size, [.slice P n c, .slice Q m d])]) (by kernel_rfl) (Hld.start1 A0.out) (fun hHeld => ?_)
  have b1 : Below w1.heap.size w1 w1.drew := ⟨rfl, rfl, rfl, Nat.le_refl _, fun _ _ => rfl⟩
  generalize w1.drew = w2 at *
  have s_ := b1.size; replace R1 := Lib.hid (R1.out.keep b1 R1.out.2.1); replace X1 := Lib.hid (X1.out.keep b1 X1.out.top); replace B1 := Lib.hid (B1.out.trans (b1.mono B1.out.size))
  replace A0 := Lib.hid (A0.out.keep b1 A0.out.lt); clear b1 s_
  refine wpAnyH_take (i := 0) (v := .pointer (some ⟨w.heap.size, 0, none⟩)) rfl (by kernel_rfl) (by kernel_rfl) (by kernel_rfl) (fun _ _ _ h => h) (Or.inl ⟨by rfl, fun w hSw => by go_simp⟩) hHeld ?_
  refine wpAnyH_take (i := 3) (v := .pointer (some ⟨w.heap.size, 1, none⟩)) rfl (by kernel_rfl) (by kernel_rfl) (by kernel_rfl) (fun _ _ _ h => h) (Or.inl ⟨by rfl, fun w hSw => by go_simp⟩) hHeld ?_
  refine wpAnyH_take (i := 1) (v := .slice P n c) rfl (by kernel_rfl) (by kernel_rfl) (by kernel_rfl) (fun _ _ _ h => h) (Or.inl ⟨by rfl, fun w hSw => by have := hSw.c0; go_simp⟩) hHeld ?_
  refine wpAnyH_take (i := 4) (v := .slice Q m d) rfl (by kernel_rfl) (by kernel_rfl) (by kernel_rfl) (fun _ _ _ h => h) (Or.inl ⟨by rfl, fun w hSw => by have := hSw.c1; go_simp⟩) hHeld ?_
  refine wpAnyH_ready (rs := [2]) (by kernel_rfl) (by simp) (AllReadyH.cons rfl (fun K hK => ?_) AllReadyH.nil)
  go_simp
  refine (l02inv_gives P n c r hi _ (Srd.fst X1.out) HS.out.r Q1.out).mono ?_
  rintro e w3 ⟨v3, rfl, o3, b1⟩
  obtain ⟨P3, c3, rfl⟩ := own_form o3
  have s_ := b1.size; replace R1 := Lib.hid (R1.out.keep b1 R1.out.2.1); replace X1 := Lib.hid (X1.out.keep b1 X1.out.top); replace B1 := Lib.hid (B1.out.trans (b1.mono B1.out.size))
  have R3 := Lib.hid (Row.of_own o3); clear o3 s_
  go_wp2_with fail
  have hHeld2 := hHeld.later b1 (by omega); clear b1 hHeld
  refine hK.out _ _ hHeld2 (fun hHeld => ?_)
  clear hK K hHeld2
  refine wpAnyH_ready (rs := [5]) (by kernel_rfl) (by simp) (AllReadyH.cons rfl (fun K hK => ?_) AllReadyH.nil)
  go_simp
  refine (l02inv_gives Q m d u hi _ (Srd.snd X1.out) HS.out.u Q2.out).mono ?_
  rintro e w4 ⟨v4, rfl, o4, b1⟩
  obtain ⟨P4, c4, rfl⟩ := own_form o4
  have s_ := b1.size; replace R1 := Lib.hid (R1.out.keep b1 R1.out.2.1); replace X1 := Lib.hid (X1.out.keep b1 X1.out.top); replace B1 := Lib.hid (B1.out.trans (b1.mono B1.out.size))
  replace R3 := Lib.hid (R3.out.keep b1 R3.out.2.1)
  have R4 := Lib.hid (Row.of_own o4); clear o4 s_
  go_wp2_with fail
  have hHeld2 := hHeld.later b1 (by omega); clear b1 hHeld
  refine hK.out _ _ hHeld2 (fun hHeld => ?_)
  clear hK K hHeld2
  refine wpAnyH_ready (rs := [6]) (by kernel_rfl) (by simp) (AllReadyH.cons rfl (fun K hK => ?_) AllReadyH.nil)
  go_simp
  refine (l02then_any P3 _ c3 P4 _ c4 (Inv r) (Inv u) _ _ _ R3.out.rd R4.out.rd (Inv_ok HS.out.r) (by rw [Inv_len, Inv_len]; exact RU.out)).mono ?_
  rintro e w5 ⟨v5, rfl, o5, b1⟩
  obtain ⟨P5, c5, rfl⟩ := own_form o5
  have s_ := b1.size; replace R1 := Lib.hid (R1.out.keep b1 R1.out.2.1); replace X1 := Lib.hid (X1.out.keep b1 X1.out.top); replace B1 := Lib.hid (B1.out.trans (b1.mono B1.out.size))
  replace R3 := Lib.hid (R3.out.keep b1 R3.out.2.1)
  replace R4 := Lib.hid (R4.out.keep b1 R4.out.2.1)
  have R5 := Lib.hid (Row.of_own o5); clear o5 s_
  go_wp2_with fail
  have hHeld2 := hHeld.later b1 (by omega); clear b1 hHeld
  refine hK.out _ _ hHeld2 (fun hHeld => ?_)
  clear hK K hHeld2
  refine wpAnyH_ready (rs := [7]) (by kernel_rfl) (by simp) (AllReadyH.cons rfl (fun K hK => ?_) AllReadyH.nil)
  go_simp
  refine hK.out _ _ hHeld (fun hHeld2 => ?_)
  clear hK K hHeld hHeld2
  refine wpAnyH_done (by kernel_rfl) ?_ _
  go_wp2_with fail
  refine (l02then_any P1 _ c1 P5 _ c5 (thn r u) (thn (Inv r) (Inv u)) _ _ _ R1.out.rd R5.out.rd (thn_ok HS.out.r HS.out.u RU.out) (by rw [thn_len, thn_len, Inv_len])).mono ?_
  rintro e w6 hg
  obtain ⟨v6, rfl, o6, b6⟩ := gives_later B1.out hg
  have O6 := Lib.hid o6; have B6 := Lib.hid b6; clear o6 b6 hg
  have HC : Hid (comm r u = thn (thn r u) (thn (Inv r) (Inv u))) := Lib.hid rfl
  rw [HC.out]
  go_wp2_with fail
  go_ret
  exact ⟨v6, rfl, O6.out, B6.out⟩
end Go.Proofs.Ytglpiopjhddoeaa.gl
