/-
  The program's gluing made a surface again; a gluing renamed.
-/
import Derived.Test.YtpbbfbpggedgpaaGl
namespace Go.Proofs.Ytpbbfbpggedgpaa.gl
open Go.ChangeShapes Go.WideShapes Go.ChangeAt Go.RowKit
open Go.Proofs.Ytpbbfbpggedgpaa.mem Go.Proofs.Ytpbbfbpggedgpaa.ints Go.Proofs.Ytpbbfbpggedgpaa.arr Go.Proofs.Ytpbbfbpggedgpaa.pm Go.Proofs.Ytpbbfbpggedgpaa.permOk Go.Proofs.Ytpbbfbpggedgpaa.permOf Go.Proofs.Ytpbbfbpggedgpaa.inv Go.Proofs.Ytpbbfbpggedgpaa.fns Go.Proofs.Ytpbbfbpggedgpaa.sf
set_option linter.unusedVariables false
set_option maxRecDepth 100000

theorem rg_right {w : World} {b : Nat} {p q : List Int} {n : Nat} (hp : p.length = 24) (h : w.rangeAt b 0 (V (gl p q n))) : w.rangeAt b 0 (V p) := fun j v hv => by
  have hj : j < 24 := by have := (List.getElem?_eq_some_iff.1 hv).1; simpa [V, hp] using this
  refine h j v ?_
  rw [← hv]
  simp only [gl, V, List.map_append, List.append_assoc]
  rw [List.getElem?_append_left (by simp; omega)]
theorem rg_up {w : World} {b : Nat} {p q : List Int} {n : Nat} (hp : p.length = 24) (hq : q.length = 24) (h : w.rangeAt b 0 (V (gl p q n))) : w.rangeAt b 24 (V q) := fun j v hv => by
  have hj : j < 24 := by have := (List.getElem?_eq_some_iff.1 hv).1; simpa [V, hq] using this
  have := h (24 + j) v (by
    rw [← hv]
    simp only [gl, V, List.map_append, List.append_assoc]
    rw [List.getElem?_append_right (by simp; omega), List.getElem?_append_left (by simp; omega)]
    congr 1; simp; omega)
  rwa [Nat.zero_add] at this
theorem rg_count {w : World} {b : Nat} {p q : List Int} {n : Nat} (hp : p.length = 24) (hq : q.length = 24) (h : w.rangeAt b 0 (V (gl p q n))) : w.cell? ⟨b, 48, none⟩ = some (.int .i64 n) := by
  have := h 48 (.int .i64 n) (by
    simp only [gl, V, List.map_append]
    rw [List.getElem?_append_right (by simp; omega)]
    simp [hp, hq])
  rwa [Nat.zero_add] at this
theorem hi24 {l : List Int} (h : l.length = 24) : (Try.prog.info? 50).map (·.size) = some (V l).length := by rw [info44, V_len, h]
theorem hi49 {l : List Int} (h : l.length = 49) : (Try.prog.info? 52).map (·.size) = some (V l).length := by rw [info49, V_len, h]
theorem _root_.Go.Proofs.Ytpbbfbpggedgpaa.sf.Hld.lower {base base' top : Nat} {w W : World} {bs : List (Nat × List Value)} (h : Hld base top w bs W) (hb : base' ≤ base) : Hld base' top w bs W := ⟨h.at_, h.below.mono hb, h.size⟩
theorem _root_.Go.Proofs.Ytpbbfbpggedgpaa.sf.Hld.start3 {w : World} {a b c : Nat} {xs ys zs : List Value} {t t' t'' : TypeId} (h1 : Arr w a xs t) (h2 : Arr w b ys t') (h3 : Arr w c zs t'') : Hld w.heap.size w.heap.size w [(a, xs), (b, ys), (c, zs)] w.drew :=
  ⟨fun p hp => by
    simp only [List.mem_cons, List.not_mem_nil, or_false] at hp
    rcases hp with rfl | rfl | rfl
    · exact ⟨h1.lt, fun j v hv => by rw [Nat.zero_add]; exact h1.cell hv⟩
    · exact ⟨h2.lt, fun j v hv => by rw [Nat.zero_add]; exact h2.cell hv⟩
    · exact ⟨h3.lt, fun j v hv => by rw [Nat.zero_add]; exact h3.cell hv⟩,
    ⟨rfl, rfl, rfl, Nat.le_refl _, fun _ _ => rfl⟩, Nat.le_refl _⟩
theorem _root_.Go.Proofs.Ytpbbfbpggedgpaa.sf.Hld.trd {base top a : Nat} {w W : World} {xs : List Value} {p q : Nat × List Value} {l : List (Nat × List Value)} (h : Hld base top w (p :: q :: (a, xs) :: l) W) : W.rangeAt a 0 xs := (h.at_ (a, xs) (by simp)).2
theorem step_build {P : Program} {ops : Array Oper} {o : Oper} {a : Act} {w : World} {K : Act → World → Prop} {Q : Exit → Act → World → Prop} {E : Prop} (hgd : o.guard = none) (t : TypeId) (parts : Array (Nat × Operand)) (ho : o.op = .build t parts)
    (l : List (Nat × Value)) (hl : (parts.toList.map fun p => (p.1, a.eval p.2)) = l) (cells : Array Value) (hb : P.built t l = some cells)
    (h : K (a.put o.dst (.agg cells)) w) : if Region.wanted o (yielded ops a.tmps) = true then Oper.wp P o a w K Q else E := by
  have hw : Region.wanted o (yielded ops a.tmps) = true := by simp [Region.wanted, hgd]
  have hb' : P.built t (parts.map fun (i, x) => (i, a.eval x)).toList = some cells := by
    rw [Array.toList_map]
    subst hl
    exact hb
  rw [if_pos hw]
  refine wp_build t parts ho (by rw [hb']; rfl) ?_
  rw [hb']
  exact h
theorem _root_.Go.Proofs.Ytpbbfbpggedgpaa.sf.Hld.other {base top : Nat} {w W : World} {bs : List (Nat × List Value)} (h : Hld base top w bs W) {g : Nat} (hg : base ≤ g) (hne : ∀ p ∈ bs, p.1 ≠ g) (cs : Array Value) : Hld base top w bs (W.setRow g cs) :=
  ⟨fun p hp => ⟨(h.at_ p hp).1, fun j v hv => by
    rw [World.cell?_of_block (w := W) (a := ⟨p.1, 0 + j, none⟩) (setRow_other W g p.1 cs (hne p hp))]
    exact (h.at_ p hp).2 j v hv⟩, below_setRow h.below hg _, by simpa using h.size⟩

set_option maxHeartbeats 4000000 in
theorem surface_any (p q : List Int) (n : Nat) (w : World) (hp : p.length = 24) (hq : q.length = 24) (hn : n ≤ 24) :
    Calls Try.prog 73 #[.agg (V (gl p q n)).toArray] w fun e w' => ∃ g, e = .returned g ∧ Svl w' w.heap.size w'.heap.size g (p.take n) (q.take n) ∧ Below w.heap.size w w' := by
  go_enter Try.func73, Try.ntmps73
  go_wp2_with fail
  generalize hw1 : (w.alloc (.cells (V (gl p q n)).toArray 52)).alloc (.cells #[.slice none 0 0, .slice none 0 0] 30) = w1
  have A0 : Hid (Arr w1 w.heap.size (V (gl p q n)) 52) := Lib.hid (by rw [← hw1]; exact (Arr.new w _ _ rfl).alloc _)
  have A1 : Hid (Arr w1 (w.heap.size + 1) [.slice none 0 0, .slice none 0 0] 30) := Lib.hid (by rw [← hw1]; exact Arr.new _ _ _ (by simp))
  have B1 : Hid (Below w.heap.size w w1) := Lib.hid (by rw [← hw1]; exact ((Below.refl _ _).alloc (Nat.le_refl _) _).alloc (by simp) _)
  have s1 : w1.heap.size = w.heap.size + 2 := by rw [← hw1]; simp
  clear hw1
  refine wp_region_held_drew (S := Hld w.heap.size w1.heap.size w1 [(w.heap.size, V (gl p q n))]) (by kernel_rfl) ((Hld.start1 A0.out).lower (by omega)) (fun hHeld => ?_)
  have b1 : Below w1.heap.size w1 w1.drew := ⟨rfl, rfl, rfl, Nat.le_refl _, fun _ _ => rfl⟩
  generalize w1.drew = w2 at *
  have s2 := b1.size
  replace A1 := Lib.hid (A1.out.keep b1 A1.out.lt)
  replace B1 := Lib.hid (B1.out.trans (b1.mono B1.out.size))
  clear b1 A0
  refine wpAnyH_take (i := 0) (v := .pointer (some ⟨w.heap.size, 0, none⟩)) rfl (by kernel_rfl) (by kernel_rfl) (by kernel_rfl) (fun _ _ _ h => h) (Or.inl ⟨by rfl, fun w hSw => by go_simp⟩) hHeld ?_
  refine wpAnyH_take (i := 2) (v := .pointer (some ⟨w.heap.size, 48, none⟩)) rfl (by kernel_rfl) (by kernel_rfl) (by kernel_rfl) (fun _ _ _ h => h) (Or.inl ⟨by rfl, fun w hSw => by go_simp⟩) hHeld ?_
  refine wpAnyH_take (i := 5) (v := .pointer (some ⟨w.heap.size, 24, none⟩)) rfl (by kernel_rfl) (by kernel_rfl) (by kernel_rfl) (fun _ _ _ h => h) (Or.inl ⟨by rfl, fun w hSw => by go_simp⟩) hHeld ?_
  refine wpAnyH_take (i := 7) (v := .pointer (some ⟨w.heap.size, 48, none⟩)) rfl (by kernel_rfl) (by kernel_rfl) (by kernel_rfl) (fun _ _ _ h => h) (Or.inl ⟨by rfl, fun w hSw => by go_simp⟩) hHeld ?_
  refine wpAnyH_take (i := 1) (v := .agg (V p).toArray) rfl (by kernel_rfl) (by kernel_rfl) (by kernel_rfl) (fun _ _ _ h => h) (yieldsIf_load_mid (by rfl) _ _ rfl w.heap.size 0 rfl (V p) _ (fun w h => rg_right hp h.fst) Try.underlying50 rfl (hi24 hp)) hHeld ?_
  refine wpAnyH_take (i := 6) (v := .agg (V q).toArray) rfl (by kernel_rfl) (by kernel_rfl) (by kernel_rfl) (fun _ _ _ h => h) (yieldsIf_load_mid (by rfl) _ _ rfl w.heap.size 24 rfl (V q) _ (fun w h => rg_up hp hq h.fst) Try.underlying50 rfl (hi24 hq)) hHeld ?_
  refine wpAnyH_take (i := 3) (v := .int .i64 n) rfl (by kernel_rfl) (by kernel_rfl) (by kernel_rfl) (fun _ _ _ h => h) (Or.inl ⟨by rfl, fun w hSw => by have := rg_count hp hq hSw.fst; go_simp⟩) hHeld ?_
  refine wpAnyH_take (i := 8) (v := .int .i64 n) rfl (by kernel_rfl) (by kernel_rfl) (by kernel_rfl) (fun _ _ _ h => h) (Or.inl ⟨by rfl, fun w hSw => by have := rg_count hp hq hSw.fst; go_simp⟩) hHeld ?_
  refine wpAnyH_ready (rs := [4]) (by kernel_rfl) (by simp) (AllReadyH.cons rfl (fun K hK => ?_) AllReadyH.nil)
  go_simp
  refine (list_gives p n _ hp hn).mono ?_
  rintro e w3 ⟨v1, rfl, o1, b1⟩
  obtain ⟨P1, c1, rfl⟩ := own_form o1
  have R1 := Lib.hid (Row.of_own o1); have C1 := (own_cap o1).2; clear o1
  have s3 := b1.size
  have l1 : (p.take n).length = n := by simp; omega
  have l2 : (q.take n).length = n := by simp; omega
  replace A1 := Lib.hid (A1.out.keep b1 A1.out.lt)
  replace B1 := Lib.hid (B1.out.trans (b1.mono B1.out.size))
  go_wp2_with fail
  have hHeld2 := hHeld.later b1 (by omega); clear b1 hHeld
  refine hK.out _ _ hHeld2 (fun hHeld => ?_)
  clear hK K hHeld2
  refine wpAnyH_ready (rs := [9]) (by kernel_rfl) (by simp) (AllReadyH.cons rfl (fun K hK => ?_) AllReadyH.nil)
  go_simp
  refine (list_gives q n _ hq hn).mono ?_
  rintro e w4 ⟨v2, rfl, o2, b1⟩
  obtain ⟨P2, c2, rfl⟩ := own_form o2
  have R2 := Lib.hid (Row.of_own o2); have C2 := (own_cap o2).2; clear o2
  have s4 := b1.size
  replace A1 := Lib.hid (A1.out.keep b1 A1.out.lt)
  replace R1 := Lib.hid (R1.out.keep b1 R1.out.2.1)
  replace B1 := Lib.hid (B1.out.trans (b1.mono B1.out.size))
  go_wp2_with fail
  have hHeld2 := hHeld.later b1 (by omega); clear b1 hHeld
  refine hK.out _ _ hHeld2 (fun hHeld => ?_)
  clear hK K hHeld2
  refine wpAnyH_ready (rs := [10]) (by kernel_rfl) (by simp) (AllReadyH.cons rfl (fun K hK => ?_) AllReadyH.nil)
  go_simp
  refine hK.out _ _ hHeld (fun hHeld2 => ?_)
  clear hK K hHeld2
  refine wpAnyH_ready (rs := [11]) (by kernel_rfl) (by simp) (AllReadyH.cons rfl (fun K hK => ?_) AllReadyH.nil)
  rw [l1] at R1 C1; rw [l2] at R2 C2
  refine step_store_row rfl 30 _ _ rfl (w.heap.size + 1) #[.slice P1 n c1, .slice P2 n c2] rfl (by simp [go_sem]) 30 #[.slice none 0 0, .slice none 0 0] A1.out size2 rfl (by simp [Value.oneCell']) ?_
  refine hK.out _ _ (hHeld.other (by omega) (by simp) _) (fun hHeld2 => ?_)
  clear hK K hHeld2
  refine wpAnyH_done (by kernel_rfl) ?_ _
  go_wp2_with fail
  refine bodyPost_ret (v := .agg #[.slice P1 n c1, .slice P2 n c2]) (results_cell_row rfl _ _ (w.heap.size + 1) 30 #[.slice P1 n c1, .slice P2 n c2] (0, 0) _ rfl A1.out.row Try.underlying30 rfl size2) rfl ⟨_, rfl, ?_, below_setRow B1.out (by omega) _⟩
  have oo : Out w.heap.size w2.heap.size w4 (w4.setRow (w.heap.size + 1) #[.slice P1 n c1, .slice P2 n c2]) := (Out.refl _ _ _).row_ (by omega) (by omega) _
  exact ⟨P1, n, c1, P2, n, c2, w2.heap.size, w3.heap.size, w3.heap.size, w4.heap.size, rfl, R1.out.out oo (.inr (by omega)), R2.out.out oo (.inr (by omega)), C1, C2, by omega, by have := oo.size; omega, by omega, by have := oo.size; omega, .inl (Nat.le_refl _), Nat.le_refl _⟩
end Go.Proofs.Ytpbbfbpggedgpaa.gl
