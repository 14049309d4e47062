import Derived.Test.YtpbbfbpggedgpaaDoorY07
import Derived.Test.YtpbbfbpggedgpaaDoorY01
/-
  The program's gluing made a surface again; a gluing renamed.
-/
namespace Go.Proofs.YtpbbfbpggedgpaaDoor.gl
open Go.ChangeShapes Go.WideShapes Go.ChangeAt Go.RowKit
open Go.Proofs.YtpbbfbpggedgpaaDoor.mem Go.Proofs.YtpbbfbpggedgpaaDoor.ints Go.Proofs.YtpbbfbpggedgpaaDoor.arr Go.Proofs.YtpbbfbpggedgpaaDoor.pm Go.Proofs.YtpbbfbpggedgpaaDoor.permOk Go.Proofs.YtpbbfbpggedgpaaDoor.permOf Go.Proofs.YtpbbfbpggedgpaaDoor.inv Go.Proofs.YtpbbfbpggedgpaaDoor.fns Go.Proofs.YtpbbfbpggedgpaaDoor.sf
set_option linter.unusedVariables false
set_option maxRecDepth 100000

theorem rg_right {w : World} {b : Nat} {p q : List Int} {n : Nat} (hp : p.length = 24) (h : w.rangeAt b 0 (V (gl p q n))) : w.rangeAt b 0 (V p) := fun j v hv => by
  have hj : j < 24 := by have := (List.getElem?_eq_some_iff.1 hv).1; simpa [V, hp] using this
  refine h j v ?_
  rw [← hv]
  simp only [gl, V, List.map_append, List.append_assoc]
  rw [List.getElem?_append_left (by simp; omega)]
theorem rg_up {w : World} {b : Nat} {p q : List Int} {n : Nat} (hp : p.length = 24) (hq : q.length = 24) (h : w.rangeAt b 0 (V (gl p q n))) : w.rangeAt b 24 (V q) := fun j v hv => by
  have hj : j < 24 := by have := (List.getElem?_eq_some_iff.1 hv).1; simpa [V, hq] using this
  have := h (24 + j) v (by
    rw [← hv]
    simp only [gl, V, List.map_append, List.append_assoc]
    rw [List.getElem?_append_right (by simp; omega), List.getElem?_append_left (by simp; omega)]
    congr 1; simp; omega)
  rwa [Nat.zero_add] at this
theorem rg_count {w : World} {b : Nat} {p q : List Int} {n : Nat} (hp : p.length = 24) (hq : q.length = 24) (h : w.rangeAt b 0 (V (gl p q n))) : w.cell? ⟨b, 48, none⟩ = some (.int .i64 n) := by
  have := h 48 (.int .i64 n) (by
    simp only [gl, V, List.map_append]
    rw [List.getElem?_append_right (by simp; omega)]
    simp [hp, hq])
  rwa [Nat.zero_add] at this
theorem hi24 {l : List Int} (h : l.length = 24) : (Tryd.prog.info? 67).map (·.size) = some (V l).length := by rw [info44, V_len, h]
theorem hi49 {l : List Int} (h : l.length = 49) : (Tryd.prog.info? 69).map (·.size) = some (V l).length := by rw [info49, V_len, h]
theorem _root_.Go.Proofs.YtpbbfbpggedgpaaDoor.sf.Hld.lower {base base' top : Nat} {w W : World} {bs : List (Nat × List Value)} (h : Hld base top w bs W) (hb : base' ≤ base) : Hld base' top w bs W := ⟨h.at_, h.below.mono hb, h.size⟩
theorem _root_.Go.Proofs.YtpbbfbpggedgpaaDoor.sf.Hld.start3 {w : World} {a b c : Nat} {xs ys zs : List Value} {t t' t'' : TypeId} (h1 : Arr w a xs t) (h2 : Arr w b ys t') (h3 : Arr w c zs t'') : Hld w.heap.size w.heap.size w [(a, xs), (b, ys), (c, zs)] w.drew :=
  ⟨fun p hp => by
    simp only [List.mem_cons, List.not_mem_nil, or_false] at hp
    rcases hp with rfl | rfl | rfl
    · exact ⟨h1.lt, fun j v hv => by rw [Nat.zero_add]; exact h1.cell hv⟩
    · exact ⟨h2.lt, fun j v hv => by rw [Nat.zero_add]; exact h2.cell hv⟩
    · exact ⟨h3.lt, fun j v hv => by rw [Nat.zero_add]; exact h3.cell hv⟩,
    ⟨rfl, rfl, rfl, Nat.le_refl _, fun _ _ => rfl⟩, Nat.le_refl _⟩
theorem _root_.Go.Proofs.YtpbbfbpggedgpaaDoor.sf.Hld.trd {base top a : Nat} {w W : World} {xs : List Value} {p q : Nat × List Value} {l : List (Nat × List Value)} (h : Hld base top w (p :: q :: (a, xs) :: l) W) : W.rangeAt a 0 xs := (h.at_ (a, xs) (by simp)).2
theorem step_build {P : Program} {ops : Array Oper} {o : Oper} {a : Act} {w : World} {K : Act → World → Prop} {Q : Exit → Act → World → Prop} {E : Prop} (hgd : o.guard = none) (t : TypeId) (parts : Array (Nat × Operand)) (ho : o.op = .build t parts)
    (l : List (Nat × Value)) (hl : (parts.toList.map fun p => (p.1, a.eval p.2)) = l) (cells : Array Value) (hb : P.built t l = some cells)
    (h : K (a.put o.dst (.agg cells)) w) : if Region.wanted o (yielded ops a.tmps) = true then Oper.wp P o a w K Q else E := by
  have hw : Region.wanted o (yielded ops a.tmps) = true := by simp [Region.wanted, hgd]
  have hb' : P.built t (parts.map fun (i, x) => (i, a.eval x)).toList = some cells := by
    rw [Array.toList_map]
    subst hl
    exact hb
  rw [if_pos hw]
  refine wp_build t parts ho (by rw [hb']; rfl) ?_
  rw [hb']
  exact h
theorem _root_.Go.Proofs.YtpbbfbpggedgpaaDoor.sf.Hld.other {base top : Nat} {w W : World} {bs : List (Nat × List Value)} (h : Hld base top w bs W) {g : Nat} (hg : base ≤ g) (hne : ∀ p ∈ bs, p.1 ≠ g) (cs : Array Value) : Hld base top w bs (W.setRow g cs) :=
  ⟨fun p hp => ⟨(h.at_ p hp).1, fun j v hv => by
    rw [World.cell?_of_block (w := W) (a := ⟨p.1, 0 + j, none⟩) (setRow_other W g p.1 cs (hne p hp))]
    exact (h.at_ p hp).2 j v hv⟩, below_setRow h.below hg _, by simpa using h.size⟩

set_option maxHeartbeats 4000000 in
theorem surface_any (p q : List Int) (n : Nat) (w : World) (hp : p.length = 24) (hq : q.length = 24) (hn : n ≤ 24) :
    Calls Tryd.prog 47 #[.agg (V (gl p q n)).toArray] w fun e w' => ∃ g, e = .returned g ∧ Svl w' w.heap.size w'.heap.size g (p.take n) (q.take n) ∧ Below w.heap.size w w' := by
  go_enter Tryd.func47, Tryd.ntmps47
  go_wp2_with fail
  generalize hw1 : (w.alloc (.cells (V (gl p q n)).toArray 69)).alloc (.cells #[.slice none 0 0, .slice none 0 0] 25) = w1
  have A0 : Hid (Arr w1 w.heap.size (V (gl p q n)) 69) := Lib.hid (by rw [← hw1]; exact (Arr.new w _ _ rfl).alloc _)
  have A1 : Hid (Arr w1 (w.heap.size + 1) [.slice none 0 0, .slice none 0 0] 25) := Lib.hid (by rw [← hw1]; exact Arr.new _ _ _ (by simp))
  have B1 : Hid (Below w.heap.size w w1) := Lib.hid (by rw [← hw1]; exact ((Below.refl _ _).alloc (Nat.le_refl _) _).alloc (by simp) _)
  have s1 : w1.heap.size = w.heap.size + 2 := by rw [← hw1]; simp
  clear hw1
  refine wp_region_held_drew (S := Hld w.heap.size w1.heap.size w1 [(w.heap.size, V (gl p q n))]) (by kernel_rfl) ((Hld.start1 A0.out).lower (by omega)) (fun hHeld => ?_)
  have b1 : Below w1.heap.size w1 w1.drew := ⟨rfl, rfl, rfl, Nat.le_refl _, fun _ _ => rfl⟩
  generalize w1.drew = w2 at *
  have s2 := b1.size
  replace A1 := Lib.hid (A1.out.keep b1 A1.out.lt)
  replace B1 := Lib.hid (B1.out.trans (b1.mono B1.out.size))
  clear b1 A0
  refine wpAnyH_take (i := 0) (v := .pointer (some ⟨w.heap.size, 0, none⟩)) rfl (by kernel_rfl) (by kernel_rfl) (by kernel_rfl) (fun _ _ _ h => h) (Or.inl ⟨by rfl, fun w hSw => by go_simp⟩) hHeld ?_
  refine wpAnyH_take (i := 2) (v := .pointer (some ⟨w.heap.size, 48, none⟩)) rfl (by kernel_rfl) (by kernel_rfl) (by kernel_rfl) (fun _ _ _ h => h) (Or.inl ⟨by rfl, fun w hSw => by go_simp⟩) hHeld ?_
  refine wpAnyH_take (i := 5) (v := .pointer (some ⟨w.heap.size, 24, none⟩)) rfl (by kernel_rfl) (by kernel_rfl) (by kernel_rfl) (fun _ _ _ h => h) (Or.inl ⟨by rfl, fun w hSw => by go_simp⟩) hHeld ?_
  refine wpAnyH_take (i := 7) (v := .pointer (some ⟨w.heap.size, 48, none⟩)) rfl (by kernel_rfl) (by kernel_rfl) (by kernel_rfl) (fun _ _ _ h => h) (Or.inl ⟨by rfl, fun w hSw => by go_simp⟩) hHeld ?_
  refine wpAnyH_take (i := 1) (v := .agg (V p).toArray) rfl (by kernel_rfl) (by kernel_rfl) (by kernel_rfl) (fun _ _ _ h => h) (yieldsIf_load_mid (by rfl) _ _ rfl w.heap.size 0 rfl (V p) _ (fun w h => rg_right hp h.fst) Tryd.underlying67 rfl (hi24 hp)) hHeld ?_
  refine wpAnyH_take (i := 6) (v := .agg (V q).toArray) rfl (by kernel_rfl) (by kernel_rfl) (by kernel_rfl) (fun _ _ _ h => h) (yieldsIf_load_mid (by rfl) _ _ rfl w.heap.size 24 rfl (V q) _ (fun w h => rg_up hp hq h.fst) Tryd.underlying67 rfl (hi24 hq)) hHeld ?_
  refine wpAnyH_take (i := 3) (v := .int .i64 n) rfl (by kernel_rfl) (by kernel_rfl) (by kernel_rfl) (fun _ _ _ h => h) (Or.inl ⟨by rfl, fun w hSw => by have := rg_count hp hq hSw.fst; go_simp⟩) hHeld ?_
  refine wpAnyH_take (i := 8) (v := .int .i64 n) rfl (by kernel_rfl) (by kernel_rfl) (by kernel_rfl) (fun _ _ _ h => h) (Or.inl ⟨by rfl, fun w hSw => by have := rg_count hp hq hSw.fst; go_simp⟩) hHeld ?_
  refine wpAnyH_ready (rs := [4]) (by kernel_rfl) (by simp) (AllReadyH.cons rfl (fun K hK => ?_) AllReadyH.nil)
  go_simp
  refine (list_gives p n _ hp hn).mono ?_
  rintro e w3 ⟨v1, rfl, o1, b1⟩
  obtain ⟨P1, c1, rfl⟩ := own_form o1
  have R1 := Lib.hid (Row.of_own o1); have C1 := (own_cap o1).2; clear o1
  have s3 := b1.size
  have l1 : (p.take n).length = n := by simp; omega
  have l2 : (q.take n).length = n := by simp; omega
  replace A1 := Lib.hid (A1.out.keep b1 A1.out.lt)
  replace B1 := Lib.hid (B1.out.trans (b1.mono B1.out.size))
  go_wp2_with fail
  have hHeld2 := hHeld.later b1 (by omega); clear b1 hHeld
  refine hK.out _ _ hHeld2 (fun hHeld => ?_)
  clear hK K hHeld2
  refine wpAnyH_ready (rs := [9]) (by kernel_rfl) (by simp) (AllReadyH.cons rfl (fun K hK => ?_) AllReadyH.nil)
  go_simp
  refine (list_gives q n _ hq hn).mono ?_
  rintro e w4 ⟨v2, rfl, o2, b1⟩
  obtain ⟨P2, c2, rfl⟩ := own_form o2
  have R2 := Lib.hid (Row.of_own o2); have C2 := (own_cap o2).2; clear o2
  have s4 := b1.size
  replace A1 := Lib.hid (A1.out.keep b1 A1.out.lt)
  replace R1 := Lib.hid (R1.out.keep b1 R1.out.2.1)
  replace B1 := Lib.hid (B1.out.trans (b1.mono B1.out.size))
  go_wp2_with fail
  have hHeld2 := hHeld.later b1 (by omega); clear b1 hHeld
  refine hK.out _ _ hHeld2 (fun hHeld => ?_)
  clear hK K hHeld2
  refine wpAnyH_ready (rs := [10]) (by kernel_rfl) (by simp) (AllReadyH.cons rfl (fun K hK => ?_) AllReadyH.nil)
  go_simp
  refine hK.out _ _ hHeld (fun hHeld2 => ?_)
  clear hK K hHeld2
  refine wpAnyH_ready (rs := [11]) (by kernel_rfl) (by simp) (AllReadyH.cons rfl (fun K hK => ?_) AllReadyH.nil)
  rw [l1] at R1 C1; rw [l2] at R2 C2
  refine step_store_row rfl 25 _ _ rfl (w.heap.size + 1) #[.slice P1 n c1, .slice P2 n c2] rfl (by simp [go_sem]) 25 #[.slice none 0 0, .slice none 0 0] A1.out size2 rfl (by simp [Value.oneCell']) ?_
  refine hK.out _ _ (hHeld.other (by omega) (by simp) _) (fun hHeld2 => ?_)
  clear hK K hHeld2
  refine wpAnyH_done (by kernel_rfl) ?_ _
  go_wp2_with fail
  refine bodyPost_ret (v := .agg #[.slice P1 n c1, .slice P2 n c2]) (results_cell_row rfl _ _ (w.heap.size + 1) 25 #[.slice P1 n c1, .slice P2 n c2] (0, 0) _ rfl A1.out.row Tryd.underlying25 rfl size2) rfl ⟨_, rfl, ?_, below_setRow B1.out (by omega) _⟩
  have oo : Out w.heap.size w2.heap.size w4 (w4.setRow (w.heap.size + 1) #[.slice P1 n c1, .slice P2 n c2]) := (Out.refl _ _ _).row_ (by omega) (by omega) _
  exact ⟨P1, n, c1, P2, n, c2, w2.heap.size, w3.heap.size, w3.heap.size, w4.heap.size, rfl, R1.out.out oo (.inr (by omega)), R2.out.out oo (.inr (by omega)), C1, C2, by omega, by have := oo.size; omega, by omega, by have := oo.size; omega, .inl (Nat.le_refl _), Nat.le_refl _⟩
end Go.Proofs.YtpbbfbpggedgpaaDoor.gl

/-
  A gluing renamed.
-/
namespace Go.Proofs.YtpbbfbpggedgpaaDoor.gl
open Go.ChangeShapes Go.WideShapes Go.ChangeAt Go.RowKit
open Go.Proofs.YtpbbfbpggedgpaaDoor.mem Go.Proofs.YtpbbfbpggedgpaaDoor.ints Go.Proofs.YtpbbfbpggedgpaaDoor.arr Go.Proofs.YtpbbfbpggedgpaaDoor.pm Go.Proofs.YtpbbfbpggedgpaaDoor.permOk Go.Proofs.YtpbbfbpggedgpaaDoor.permOf Go.Proofs.YtpbbfbpggedgpaaDoor.inv Go.Proofs.YtpbbfbpggedgpaaDoor.fns Go.Proofs.YtpbbfbpggedgpaaDoor.sf
set_option linter.unusedVariables false
set_option maxRecDepth 100000

/-- p among 24 elements, renamed by ns. -/
def ren24 (p ns : List Int) : List Int := thenL (thenL (invTo 24 ns 24) p) ns
theorem ren24_len (p ns : List Int) : (ren24 p ns).length = 24 := tab_len _
theorem ren24_sq {p ns : List Int} (hp : Sq p) (hn : Sq ns) : Sq (ren24 p ns) := then_sq (then_sq (inv_sq _) hp) hn
theorem ext_ok {xs : List Int} (h : Ok xs) : Ok (ext xs) := by
  have hl := h.len
  refine ⟨by rw [ext_len]; omega, fun i hi => h.sq.lo i (by rwa [ext_len] at hi), fun i hi => by rw [ext_len] at *; exact h.sq.hi i hi, fun i j hi hj e => ?_⟩
  rw [ext_len] at hi hj
  rw [ext_at hi, ext_at hj] at e
  split at e <;> split at e
  · exact h.inj i j (by assumption) (by assumption) e
  · have := h.hi i (by assumption); omega
  · have := h.hi j (by assumption); omega
  · omega
theorem ren24_ext {n : Nat} {xs ys : List Int} (h : Ok xs) (h' : Ok ys) (lx : xs.length = n) (ly : ys.length = n) : ren24 (ext xs) (ext ys) = ext (renTo n xs ys n) := by
  have hn : n ≤ 24 := by have := h.len; omega
  refine list_eq 24 (ren24_len _ _) (ext_len _) fun i hi => ?_
  rw [ext_at hi, renTo_len]
  by_cases hin : i < n
  · rw [if_pos hin]
    have e := take_ren h h' (by omega)
    rw [lx] at e
    rw [← e]
    unfold ren24
    simp [List.getD, hin]
  · rw [if_neg hin]
    have o := ext_ok h'
    have ey : (ext ys).getD i 0 = (i : Int) := by rw [ext_at hi, if_neg (by omega)]
    have ex : (ext xs).getD i 0 = (i : Int) := by rw [ext_at hi, if_neg (by omega)]
    have a := inv_at o (k := i) (by rw [ext_len]; exact hi)
    rw [ey, ext_len, Int.toNat_natCast] at a
    unfold ren24 thenL
    rw [tab_get _ hi, tab_get _ hi, a, Int.toNat_natCast, ex, Int.toNat_natCast, ey]

end Go.Proofs.YtpbbfbpggedgpaaDoor.gl

/-
  The names from a square, as the program finds them.
-/
namespace Go.Proofs.YtpbbfbpggedgpaaDoor.gl
open Go.ChangeShapes Go.WideShapes Go.ChangeAt Go.RowKit
open Go.Proofs.YtpbbfbpggedgpaaDoor.mem Go.Proofs.YtpbbfbpggedgpaaDoor.ints Go.Proofs.YtpbbfbpggedgpaaDoor.arr Go.Proofs.YtpbbfbpggedgpaaDoor.pm Go.Proofs.YtpbbfbpggedgpaaDoor.permOk Go.Proofs.YtpbbfbpggedgpaaDoor.permOf Go.Proofs.YtpbbfbpggedgpaaDoor.inv Go.Proofs.YtpbbfbpggedgpaaDoor.fns Go.Proofs.YtpbbfbpggedgpaaDoor.sf
set_option linter.unusedVariables false
set_option maxRecDepth 100000

/-- The names behind k rounds. -/
def nms (ps qs : List Int) (f : Int) : Nat → List Int
  | 0 => idl
  | k + 1 => (nms ps qs f k).set ((rs ps qs f k).getD k 0).toNat (k : Int)
theorem nms_len (ps qs : List Int) (f : Int) (k : Nat) : (nms ps qs f k).length = 24 := by
  induction k with
  | zero => exact tab_len _
  | succ k ih => rw [nms, List.length_set]; exact ih
def nmsF (ps qs : List Int) (f : Int) : List Int := nms ps qs f (reach ps qs f).length
theorem nms_at {ps qs : List Int} (hp : Maps 24 ps) (hq : Maps 24 qs) (l24 : ps.length = 24) {f : Int} (f0 : 0 ≤ f) (f1 : f < 24) : ∀ k, k ≤ (reach ps qs f).length →
    (∀ j, j < k → (nms ps qs f k).getD ((reach ps qs f).getD j 0).toNat 0 = (j : Int)) ∧ (∀ i : Nat, i < 24 → (∀ j, j < k → (reach ps qs f).getD j 0 ≠ (i : Int)) → (nms ps qs f k).getD i 0 = (i : Int)) := by
  intro k
  induction k with
  | zero => exact fun _ => ⟨fun j hj => by omega, fun i hi _ => tab_get _ hi⟩
  | succ k ih =>
    intro hk
    obtain ⟨h1, h2⟩ := ih (by omega)
    have hin : In 24 (reach ps qs f) := rs_in hp hq f0 f1 _
    have hle := hin.len
    have hk24 : k ≤ 24 := by omega
    have hkk : k < (rs ps qs f k).length := rs_early (m := ps.length) (by unfold reach at hk; omega) (by omega)
    have he : (rs ps qs f k).getD k 0 = (reach ps qs f).getD k 0 := (pre_at (rs_pre ps qs f (by omega)) hkk).symm
    obtain ⟨z, hz, _, hzd⟩ := hin.at_ (k := k) (by omega)
    have hs : nms ps qs f (k + 1) = (nms ps qs f k).set z (k : Int) := by rw [nms, he, hzd]; rfl
    have hl := nms_len ps qs f k
    rw [hs]
    refine ⟨fun j hj => ?_, fun i hi hne => ?_⟩
    · by_cases e : j = k
      · subst e
        rw [hzd, Int.toNat_natCast]
        simp [List.getD, hl, hz]
      · obtain ⟨y, hy, _, hyd⟩ := hin.at_ (k := j) (by omega)
        have hyz : y ≠ z := fun e2 => e (nodup_getD hin.nd (by omega) (by omega) (by rw [hzd, hyd, e2]))
        rw [hyd, Int.toNat_natCast]
        have := h1 j (by omega)
        rw [hyd, Int.toNat_natCast] at this
        rw [← this]
        simp [List.getD, Ne.symm hyz]
    · have hiz : i ≠ z := fun e2 => hne k (by omega) (by rw [hzd, e2])
      rw [← h2 i hi (fun j hj => hne j (by omega))]
      simp [List.getD, Ne.symm hiz]
/-- The program's names are the model's. -/
theorem nmsF_eq {n : Nat} {R U : List Int} (s : Sf n R U) {f : Int} (f0 : 0 ≤ f) (f1 : f < n) : nmsF (ext R) (ext U) f = ext (nm R U f) := by
  have hn : n ≤ 24 := by have := s.r.len; have := s.lr; omega
  have er : reach (ext R) (ext U) f = reach R U f := reach_ext s.r s.u (by rw [s.lr, s.lu]) f0 (by rw [s.lr]; exact f1)
  have fl := s.flen f0 f1
  obtain ⟨nk, nl⟩ := s.nok f0 f1
  obtain ⟨h1, h2⟩ := nms_at (Sq.maps s.r.sq) (Sq.maps s.u.sq) (ext_len _) f0 (by omega) n (by rw [er, fl]; exact Nat.le_refl _)
  rw [er] at h1 h2
  unfold nmsF
  rw [er, fl]
  refine list_eq 24 (nms_len _ _ _ _) (ext_len _) fun i hi => ?_
  rw [ext_at hi, nl]
  by_cases hin : i < n
  · rw [if_pos hin]
    obtain ⟨k, hk, e⟩ := mem_getD (s.full f0 f1 (y := (i : Int)) (by omega) (by omega))
    have a := h1 k (by omega)
    rw [e, Int.toNat_natCast] at a
    have b := Inv_at (s.rok f0 f1) hk
    rw [e, Int.toNat_natCast] at b
    rw [a]
    exact b.symm
  · rw [if_neg hin]
    exact h2 i hi (fun j hj e => by
      have := (s.inn f0 f1).hi _ (getD_mem (i := j) (l := reach R U f) (by omega))
      omega)

/-- The boxed gluing, the result's box, the names, the flags of l, and the row l that grows. -/
structure Nr (w wr : World) (B : Nat) (p q : List Int) (n : Nat) (v : Value) (l ns : List Int) : Prop where
  own : wr.ownsRow (B + 2) 3 1 v l.length (V l)
  g : Arr wr w.heap.size (V (gl p q n)) 69
  res : Arr wr (w.heap.size + 1) (V zeros) 67
  nm : Arr wr B (V ns) 67
  met : Arr wr (B + 1) (VB (flagsOf l)) 95
  below : Below w.heap.size w wr
  hB : w.heap.size + 2 ≤ B
theorem Nr.drew {w wr : World} {B : Nat} {p q l ns : List Int} {n : Nat} {v : Value} (h : Nr w wr B p q n v l ns) (m : Nat) : Nr w (wr.drewN m) B p q n v l ns := ⟨h.own, h.g, h.res, h.nm, h.met, below_drewN h.below m, h.hB⟩
theorem Nr.ne {w wr : World} {B : Nat} {p q l ns : List Int} {n : Nat} {v : Value} (h : Nr w wr B p q n v l ns) {k : Nat} (hk : k < B + 2) : some k ≠ v.ownBlock := fun e => by
  have := (h.own.lt k e.symm).1; omega
theorem Nr.name {w wr : World} {B : Nat} {p q l ns : List Int} {n : Nat} {v : Value} (h : Nr w wr B p q n v l ns) (z k : Nat) : Nr w (wr.setCell ⟨B, z, none⟩ (.int .i64 (k : Int))) B p q n v l (ns.set z (k : Int)) := by
  have hB := h.hB
  refine ⟨?_, h.g.other (by omega) _, h.res.other (by omega) _, ?_, h.met.other (by omega) _, h.below.setCell (show w.heap.size ≤ B by omega) _, hB⟩
  · exact h.own.kept (row := some B) ⟨rfl, rfl, rfl, by simp [World.setCell], fun i hi hne => heap_setCell_other _ _ _ _ (fun e => hne (by rw [e]))⟩ (.inr (fun e => h.ne (k := B) (by omega) e.symm))
  · have := h.nm.set_ z (.int .i64 (k : Int))
    rw [V_set] at this
    exact this
theorem Nr.next {w wr w1 w' : World} {B : Nat} {p q l ns : List Int} {n m : Nat} {v v' : Value} {z : Nat} (h : Nr w wr B p q n v l ns) (hw1 : w1 = wr.setCell ⟨B + 1, z, none⟩ (.bool true))
    (ho : w'.ownsRow (B + 2) 3 1 v' (m + 1) (V l ++ [.int .i64 (z : Int)])) (hn : m = l.length) (hg : w1.grownBy w' v.ownBlock) (hz : ¬ (z : Int) ∈ l) : Nr w w' B p q n v' (add1 l (z : Int)) ns := by
  subst hn
  have e : V (add1 l (z : Int)) = V l ++ [.int .i64 (z : Int)] := by unfold add1; rw [if_neg hz]; simp [V]
  have el : (add1 l (z : Int)).length = l.length + 1 := by unfold add1; rw [if_neg hz]; simp
  have hB := h.hB
  have g1 := h.g.lt; have g2 := h.res.lt; have g3 := h.nm.lt; have hm := h.met.lt
  have s1 : w1.heap.size = wr.heap.size := by rw [hw1]; simp [World.setCell]
  refine ⟨by rw [e, el]; exact ho, ?_, ?_, ?_, ?_, ?_, hB⟩
  · exact (hg.block _ (by omega) (h.ne (by omega))).trans (by rw [hw1]; exact h.g.other (by omega) _)
  · exact (hg.block _ (by omega) (h.ne (by omega))).trans (by rw [hw1]; exact h.res.other (by omega) _)
  · exact (hg.block _ (by omega) (h.ne (by omega))).trans (by rw [hw1]; exact h.nm.other (by omega) _)
  · refine (hg.block _ (by omega) (h.ne (by omega))).trans ?_
    have hh := h.met.set_ z (.bool true)
    rw [VB_set, flagsOf_add hz, ← hw1] at hh
    exact hh
  · refine Below.trans (b := w1) (by rw [hw1]; exact h.below.setCell (by simp; omega) _) ?_
    exact (Below.refl _ _).grown hg (by have := h.below.size; omega) (fun k hk => by have := (h.own.lt k hk).1; omega)
theorem flagsOf_one {z : Nat} : (List.replicate 24 false).set z true = flagsOf [(z : Int)] := by
  have h : List.replicate 24 false = flagsOf [] := by decide
  rw [h, flagsOf_add (by simp)]
  rfl

theorem gl_at_right {p q : List Int} {n k : Nat} (hp : p.length = 24) (hk : k < 24) : (V (gl p q n))[k]? = some (.int .i64 (p.getD k 0)) := by
  rw [V_getD (by simp [gl]; omega), right_at hp hk]
theorem gl_at_up {p q : List Int} {n k : Nat} (hp : p.length = 24) (hq : q.length = 24) (hk : k < 24) : (V (gl p q n))[24 + k]? = some (.int .i64 (q.getD k 0)) := by
  rw [V_getD (by simp [gl]; omega), up_at hp hq hk]

end Go.Proofs.YtpbbfbpggedgpaaDoor.gl

/-
  The model's names and renaming of a surface; NamesFrom and RenameSurface, of the model and of the program.
-/
namespace Go.Proofs.YtpbbfbpggedgpaaDoor.gl
open Go.ChangeShapes Go.WideShapes Go.ChangeAt Go.RowKit
open Go.Proofs.YtpbbfbpggedgpaaDoor.mem Go.Proofs.YtpbbfbpggedgpaaDoor.ints Go.Proofs.YtpbbfbpggedgpaaDoor.arr Go.Proofs.YtpbbfbpggedgpaaDoor.pm Go.Proofs.YtpbbfbpggedgpaaDoor.permOk Go.Proofs.YtpbbfbpggedgpaaDoor.permOf Go.Proofs.YtpbbfbpggedgpaaDoor.inv Go.Proofs.YtpbbfbpggedgpaaDoor.fns Go.Proofs.YtpbbfbpggedgpaaDoor.sf
set_option linter.unusedVariables false
set_option maxRecDepth 100000

theorem gives_rows {r : List Int} {w w' : World} {v : Value} (h : w'.ownsRow w.heap.size 3 1 v r.length (V r)) : ∃ P c, v = .slice P r.length c ∧ Row w' w.heap.size w'.heap.size P r.length (V r) ∧ r.length ≤ c := by
  obtain ⟨P, c, rfl⟩ := own_form h
  exact ⟨P, c, rfl, Row.of_own h, (own_cap h).2⟩

end Go.Proofs.YtpbbfbpggedgpaaDoor.gl

/-
  NamesFrom, of the model and of the program.
-/
namespace Go.Proofs.YtpbbfbpggedgpaaDoor.gl
open Go.ChangeShapes Go.WideShapes Go.ChangeAt Go.RowKit
open Go.Proofs.YtpbbfbpggedgpaaDoor.mem Go.Proofs.YtpbbfbpggedgpaaDoor.ints Go.Proofs.YtpbbfbpggedgpaaDoor.arr Go.Proofs.YtpbbfbpggedgpaaDoor.pm Go.Proofs.YtpbbfbpggedgpaaDoor.permOk Go.Proofs.YtpbbfbpggedgpaaDoor.permOf Go.Proofs.YtpbbfbpggedgpaaDoor.inv Go.Proofs.YtpbbfbpggedgpaaDoor.fns Go.Proofs.YtpbbfbpggedgpaaDoor.sf
set_option linter.unusedVariables false
set_option maxRecDepth 100000

theorem ext_take (xs : List Int) (h : xs.length ≤ 24) : (ext xs).take xs.length = xs := by
  refine list_eq xs.length (by simp [ext_len]; omega) rfl fun i hi => ?_
  have e : (ext xs).getD i 0 = xs.getD i 0 := by rw [ext_at (by omega), if_pos hi]
  rw [← e]
  simp [List.getD, hi]
/-- The names from a square, if there is one. -/
def nfF (r u : List Int) (a : Int) : List Int := if transB r u = true ∧ 0 ≤ a ∧ a < r.length then nm r u a else []
theorem nfF_no {r u : List Int} {a : Int} (h : ¬ (transB r u = true ∧ 0 ≤ a ∧ a < r.length)) : nfF r u a = [] := by unfold nfF; rw [if_neg h]
theorem nfF_yes {r u : List Int} {a : Int} (h : transB r u = true) (a0 : 0 ≤ a) (a1 : a < r.length) : nfF r u a = nm r u a := by unfold nfF; rw [if_pos ⟨h, a0, a1⟩]
theorem nfF_len (r u : List Int) (a : Int) : (nfF r u a).length ≤ 1048576 := by
  unfold nfF; split
  · rename_i h
    obtain ⟨nk, nl⟩ := (transB_iff.1 h.1).nok h.2.1 h.2.2
    have := nk.len; omega
  · simp

end Go.Proofs.YtpbbfbpggedgpaaDoor.gl

/-
  RenameSurface, of the model and of the program.
-/
namespace Go.Proofs.YtpbbfbpggedgpaaDoor.gl
open Go.ChangeShapes Go.WideShapes Go.ChangeAt Go.RowKit
open Go.Proofs.YtpbbfbpggedgpaaDoor.mem Go.Proofs.YtpbbfbpggedgpaaDoor.ints Go.Proofs.YtpbbfbpggedgpaaDoor.arr Go.Proofs.YtpbbfbpggedgpaaDoor.pm Go.Proofs.YtpbbfbpggedgpaaDoor.permOk Go.Proofs.YtpbbfbpggedgpaaDoor.permOf Go.Proofs.YtpbbfbpggedgpaaDoor.inv Go.Proofs.YtpbbfbpggedgpaaDoor.fns Go.Proofs.YtpbbfbpggedgpaaDoor.sf
set_option linter.unusedVariables false
set_option maxRecDepth 100000

/-- A surface and a bool. -/
def SB (r u : List Int) (b : Bool) (w : World) (e : Ending) (w' : World) : Prop := ∃ g, e = .returned (.tuple #[g, .bool b]) ∧ Svl w' w.heap.size w'.heap.size g r u ∧ Below w.heap.size w w'
theorem built2 : Tryd.prog.built 25 [] = some #[.slice none 0 0, .slice none 0 0] := by kernel_rfl
theorem sb_nil {w w1 : World} {b : Bool} {r u : List Int} (hr : r = []) (hu : u = []) (hb : b = false) (h : Below w.heap.size w w1) : SB r u b w (.returned (.tuple #[.agg #[.slice none 0 0, .slice none 0 0], .bool false])) w1 := by
  subst hr; subst hu; subst hb
  exact ⟨_, rfl, Svl.nil _ _ _ (Nat.le_refl _) h.size, h⟩
theorem Svl.row {w : World} {lo hi g : Nat} {v : Value} {r u : List Int} (h : Svl w lo hi v r u) (hg : g < lo) (cs : Array Value) : Svl (w.setRow g cs) lo hi v r u :=
  h.out ((Out.refl 0 (g + 1) w).row_ (Nat.zero_le _) (Nat.lt_succ_self _) cs) (.inr (by omega))
def rsB (r u ns : List Int) : Bool := transB r u && okB ns && decide (ns.length = r.length)
def rsR (r u ns : List Int) : List Int := if rsB r u ns then renTo r.length r ns r.length else []
def rsU (r u ns : List Int) : List Int := if rsB r u ns then renTo r.length u ns r.length else []
theorem rsB_iff {r u ns : List Int} : rsB r u ns = true ↔ transB r u = true ∧ okB ns = true ∧ ns.length = r.length := by simp [rsB, and_assoc]
theorem rs_no {r u ns : List Int} (h : ¬ (transB r u = true ∧ okB ns = true ∧ ns.length = r.length)) : rsR r u ns = [] ∧ rsU r u ns = [] ∧ rsB r u ns = false := by
  have : rsB r u ns = false := by rw [← Bool.not_eq_true, rsB_iff]; exact h
  simp [rsR, rsU, this]
theorem rs_yes {r u ns : List Int} (h : transB r u = true) (h2 : okB ns = true) (h3 : ns.length = r.length) : rsR r u ns = renTo r.length r ns r.length ∧ rsU r u ns = renTo r.length u ns r.length ∧ rsB r u ns = true := by
  have : rsB r u ns = true := rsB_iff.2 ⟨h, h2, h3⟩
  simp [rsR, rsU, this]
theorem rsR_len (r u ns : List Int) : (rsR r u ns).length ≤ 1048576 := by
  unfold rsR; split
  · rename_i h; have := (transB_iff.1 (rsB_iff.1 h).1).r.len; rw [renTo_len]; omega
  · simp
theorem rsU_len (r u ns : List Int) : (rsU r u ns).length ≤ 1048576 := by
  unfold rsU; split
  · rename_i h; have := (transB_iff.1 (rsB_iff.1 h).1).r.len; rw [renTo_len]; omega
  · simp

end Go.Proofs.YtpbbfbpggedgpaaDoor.gl

/-
  Slices of slices of ints: rows of headers, each with a row of its own; the laws' helpers eqIntSS, markIntSS, heldIntSS.
-/
namespace Go.Proofs.YtpbbfbpggedgpaaDoor.mat
open Go.ChangeShapes Go.WideShapes Go.ChangeAt Go.RowKit
open Go.Proofs.YtpbbfbpggedgpaaDoor.mem Go.Proofs.YtpbbfbpggedgpaaDoor.ints
set_option linter.unusedVariables false
set_option maxRecDepth 100000

/-- The headers hs have the rows xss; those that are not empty lie in different blocks bl i, from lo on and below hi, none of them in ex. -/
structure Hs (w : World) (lo hi : Nat) (ex : Nat → Prop) (bl : Nat → Nat) (hs : List Value) (xss : List (List Int)) : Prop where
  len : hs.length = xss.length
  top : hi ≤ w.heap.size
  row : ∀ i xs, xss[i]? = some xs → ∃ A c, hs[i]? = some (.slice A xs.length c) ∧ (0 < xs.length → lo ≤ bl i ∧ bl i < hi ∧ ¬ ex (bl i) ∧ Row w (bl i) (bl i + 1) A xs.length (V xs))
  ne : ∀ i j xs ys, xss[i]? = some xs → xss[j]? = some ys → 0 < xs.length → 0 < ys.length → i ≠ j → bl i ≠ bl j

theorem Row.block {w w' : World} {g n : Nat} {A : Option Addr} {xs : List Value} (h : Row w g (g + 1) A n xs) (hb : w'.heap[g]? = w.heap[g]?) (hs : w.heap.size ≤ w'.heap.size) : Row w' g (g + 1) A n xs := by
  refine ⟨h.1, Nat.le_trans h.2.1 hs, fun hn => ?_⟩
  obtain ⟨g', off, e, h1, h2, hc⟩ := h.2.2 hn
  obtain rfl : g' = g := by omega
  refine ⟨g', off, e, h1, h2, fun j hj => ?_⟩
  rw [World.cell?_of_block (w := w) (a := ⟨g', off + j, none⟩) hb, World.frozen?_of_block (w := w) (a := ⟨g', off + j, none⟩) hb]
  exact hc j hj
theorem Hs.keep {w w' : World} {lo hi : Nat} {ex : Nat → Prop} {bl : Nat → Nat} {hs : List Value} {xss : List (List Int)} (h : Hs w lo hi ex bl hs xss) (hs' : w.heap.size ≤ w'.heap.size)
    (hk : ∀ b, lo ≤ b → b < hi → ¬ ex b → w'.heap[b]? = w.heap[b]?) : Hs w' lo hi ex bl hs xss := by
  refine ⟨h.len, Nat.le_trans h.top hs', fun i xs hx => ?_, h.ne⟩
  obtain ⟨A, c, e, hr⟩ := h.row i xs hx
  refine ⟨A, c, e, fun hp => ?_⟩
  obtain ⟨h1, h2, h3, h4⟩ := hr hp
  exact ⟨h1, h2, h3, Row.block h4 (hk _ h1 h2 h3) hs'⟩
theorem Hs.nil (w : World) (lo hi : Nat) (ex : Nat → Prop) (bl : Nat → Nat) (h : hi ≤ w.heap.size) : Hs w lo hi ex bl [] [] :=
  ⟨rfl, h, fun i xs hx => by simp at hx, fun i j xs ys hx => by simp at hx⟩
theorem Hs.exs {w : World} {lo hi : Nat} {ex ex' : Nat → Prop} {bl : Nat → Nat} {hs : List Value} {xss : List (List Int)} (h : Hs w lo hi ex bl hs xss) (he : ∀ b, lo ≤ b → b < hi → ¬ ex b → ¬ ex' b) : Hs w lo hi ex' bl hs xss := by
  refine ⟨h.len, h.top, fun i xs hx => ?_, h.ne⟩
  obtain ⟨A, c, e, hr⟩ := h.row i xs hx
  exact ⟨A, c, e, fun hp => ⟨(hr hp).1, (hr hp).2.1, he _ (hr hp).1 (hr hp).2.1 (hr hp).2.2.1, (hr hp).2.2.2⟩⟩
theorem Hs.wider {w : World} {lo hi lo' hi' : Nat} {ex : Nat → Prop} {bl : Nat → Nat} {hs : List Value} {xss : List (List Int)} (h : Hs w lo hi ex bl hs xss) (h0 : lo' ≤ lo) (h1 : hi ≤ hi') (h2 : hi' ≤ w.heap.size) : Hs w lo' hi' ex bl hs xss := by
  refine ⟨h.len, h2, fun i xs hx => ?_, h.ne⟩
  obtain ⟨A, c, e, hr⟩ := h.row i xs hx
  exact ⟨A, c, e, fun hp => ⟨by have := (hr hp).1; omega, by have := (hr hp).2.1; omega, (hr hp).2.2⟩⟩
theorem Hs.snoc {w : World} {lo hi : Nat} {ex : Nat → Prop} {bl : Nat → Nat} {hs : List Value} {xss : List (List Int)} (h : Hs w lo hi ex bl hs xss) {g c : Nat} {A : Option Addr} {xs : List Int} (hg : hi ≤ g) (hlo : lo ≤ hi) (hx : ¬ ex g) (hr : Row w g (g + 1) A xs.length (V xs)) :
    Hs w lo (g + 1) ex (fun i => if i = xss.length then g else bl i) (hs ++ [.slice A xs.length c]) (xss ++ [xs]) := by
  have hl := h.len
  refine ⟨by simp [hl], hr.2.1, fun i ys hy => ?_, fun i j ys zs hy hz y0 z0 hij => ?_⟩
  · rw [List.getElem?_append] at hy
    by_cases hi' : i < xss.length
    · rw [if_pos hi'] at hy
      obtain ⟨A', c', e, hr'⟩ := h.row i ys hy
      refine ⟨A', c', ?_, fun hp => ?_⟩
      · rw [List.getElem?_append_left (by omega)]; exact e
      · rw [if_neg (by omega)]
        obtain ⟨q1, q2, q3, q4⟩ := hr' hp
        exact ⟨q1, by omega, q3, q4⟩
    · rw [if_neg hi'] at hy
      have e0 : i = xss.length := by
        rcases Nat.lt_or_ge (i - xss.length) 1 with q | q
        · omega
        · rw [List.getElem?_eq_none (by simpa using q)] at hy; cases hy
      subst e0
      simp at hy
      subst hy
      refine ⟨A, c, ?_, fun hp => ?_⟩
      · rw [List.getElem?_append_right (by omega), hl]; simp
      · rw [if_pos rfl]
        exact ⟨by omega, by omega, hx, hr⟩
  · have hlt : ∀ (q : Nat) (us : List Int), (xss ++ [xs])[q]? = some us → q ≠ xss.length → xss[q]? = some us := by
      intro q us hq hne
      rw [List.getElem?_append] at hq
      by_cases hq' : q < xss.length
      · rw [if_pos hq'] at hq; exact hq
      · rw [if_neg hq', List.getElem?_eq_none (by simp; omega)] at hq; cases hq
    by_cases e1 : i = xss.length
    · by_cases e2 : j = xss.length
      · omega
      · simp only [if_pos e1, if_neg e2]
        obtain ⟨A', c', e, hr'⟩ := h.row j zs (hlt j zs hz e2)
        have := (hr' z0).2.1
        omega
    · by_cases e2 : j = xss.length
      · simp only [if_pos e2, if_neg e1]
        obtain ⟨A', c', e, hr'⟩ := h.row i ys (hlt i ys hy e1)
        have := (hr' y0).2.1
        omega
      · simp only [if_neg e1, if_neg e2]
        exact h.ne i j ys zs (hlt i ys hy e1) (hlt j zs hz e2) y0 z0 hij
/-- A row, alone: where it may be written. -/
theorem Hs.one {w : World} {lo hi : Nat} {ex : Nat → Prop} {bl : Nat → Nat} {hs : List Value} {xss : List (List Int)} (h : Hs w lo hi ex bl hs xss) {i : Nat} {xs : List Int} (hx : xss[i]? = some xs) :
    ∃ A c l u, hs[i]? = some (.slice A xs.length c) ∧ Row w l u A xs.length (V xs) ∧ (0 < xs.length → lo ≤ l ∧ u ≤ hi ∧ l = bl i ∧ u = l + 1 ∧ ¬ ex l) ∧ (xs.length = 0 → l = 0 ∧ u = 0) := by
  obtain ⟨A, c, e, hr⟩ := h.row i xs hx
  rcases Nat.eq_zero_or_pos xs.length with h0 | h0
  · refine ⟨A, c, 0, 0, e, ⟨by simp [V], Nat.zero_le _, fun q => by omega⟩, fun q => by omega, fun _ => ⟨rfl, rfl⟩⟩
  · obtain ⟨q1, q2, q3, q4⟩ := hr h0
    exact ⟨A, c, bl i, bl i + 1, e, q4, fun _ => ⟨q1, by omega, rfl, rfl, q3⟩, fun q => by omega⟩
theorem Hs.set_ {w w' : World} {lo hi : Nat} {ex : Nat → Prop} {bl : Nat → Nat} {hs : List Value} {xss : List (List Int)} (h : Hs w lo hi ex bl hs xss) {i l u c : Nat} {A : Option Addr} {xs ys : List Int} (hx : xss[i]? = some xs) (hl : ys.length = xs.length)
    (he : hs[i]? = some (.slice A xs.length c)) (hp : 0 < xs.length → lo ≤ l ∧ u ≤ hi ∧ l = bl i ∧ u = l + 1 ∧ ¬ ex l) (hr : Row w' l u A xs.length (V ys)) (ho : Out l u w w') (h0 : xs.length = 0 → l = 0 ∧ u = 0) : Hs w' lo hi ex bl hs (xss.set i ys) := by
  have hi' : i < xss.length := (List.getElem?_eq_some_iff.1 hx).1
  have key : ∀ j zs, (xss.set i ys)[j]? = some zs → ∃ zs0, xss[j]? = some zs0 ∧ zs0.length = zs.length ∧ (j ≠ i → zs0 = zs) := by
    intro j zs hz
    by_cases e : j = i
    · subst e
      rw [List.getElem?_set_self hi'] at hz
      obtain rfl := Option.some.inj hz
      exact ⟨xs, hx, hl.symm, fun q => absurd rfl q⟩
    · rw [List.getElem?_set_ne (by omega)] at hz
      exact ⟨zs, hz, rfl, fun _ => rfl⟩
  refine ⟨by simp [h.len], Nat.le_trans h.top ho.size, fun j zs hz => ?_, fun j k zs us hz hu z0 u0 hjk => ?_⟩
  · by_cases e : j = i
    · subst e
      rw [List.getElem?_set_self hi'] at hz
      obtain rfl := Option.some.inj hz
      refine ⟨A, c, by rw [hl]; exact he, fun q => ?_⟩
      rw [hl] at q
      obtain ⟨a1, a2, a3, a4, a5⟩ := hp q
      subst a4; subst a3
      exact ⟨a1, by omega, a5, by rw [hl]; exact hr⟩
    · rw [List.getElem?_set_ne (by omega)] at hz
      obtain ⟨A', c', e', hr'⟩ := h.row j zs hz
      refine ⟨A', c', e', fun q => ?_⟩
      obtain ⟨a1, a2, a3, a4⟩ := hr' q
      refine ⟨a1, a2, a3, Row.block a4 (ho.block _ (by have := h.top; omega) ?_) ho.size⟩
      rcases Nat.eq_zero_or_pos xs.length with x0 | x0
      · obtain ⟨b1, b2⟩ := h0 x0; right; omega
      · obtain ⟨b1, b2, b3, b4, b5⟩ := hp x0
        have := h.ne i j xs zs hx hz x0 q (by omega)
        omega
  · obtain ⟨z1, a1, a2, _⟩ := key j zs hz
    obtain ⟨u1, b1, b2, _⟩ := key k us hu
    exact h.ne j k z1 u1 a1 b1 (by omega) (by omega) hjk

/-- '.slice A n c' reads as the rows xss; all of it lies from lo on and below hi, each row in a block of its own. -/
def Mat (w : World) (lo hi : Nat) (A : Option Addr) (n : Nat) (xss : List (List Int)) : Prop :=
  xss.length = n ∧ hi ≤ w.heap.size ∧ ∃ hs bl G, Hs w lo hi (fun b => b = G) bl hs xss ∧ (0 < n → lo ≤ G ∧ G < hi ∧ Row w G (G + 1) A n hs)
theorem Mat.keep {w w' : World} {lo hi n B : Nat} {A : Option Addr} {xss : List (List Int)} (h : Mat w lo hi A n xss) (hb : Below B w w') (hB : hi ≤ B) : Mat w' lo hi A n xss := by
  obtain ⟨h1, h2, hs, bl, G, h3, h4⟩ := h
  refine ⟨h1, Nat.le_trans h2 hb.size, hs, bl, G, h3.keep hb.size (fun b _ q _ => hb.block b (by omega)), fun hn => ?_⟩
  obtain ⟨q1, q2, q3⟩ := h4 hn
  exact ⟨q1, q2, Row.block q3 (hb.block G (by omega)) hb.size⟩
theorem Mat.out {w w' : World} {lo hi lo' hi' n : Nat} {A : Option Addr} {xss : List (List Int)} (h : Mat w lo hi A n xss) (ho : Out lo' hi' w w') (hd : hi ≤ lo' ∨ hi' ≤ lo) : Mat w' lo hi A n xss := by
  obtain ⟨h1, h2, hs, bl, G, h3, h4⟩ := h
  refine ⟨h1, Nat.le_trans h2 ho.size, hs, bl, G, h3.keep ho.size (fun b p q _ => ho.block b (by omega) (by omega)), fun hn => ?_⟩
  obtain ⟨q1, q2, q3⟩ := h4 hn
  exact ⟨q1, q2, Row.block q3 (ho.block G (by omega) (by omega)) ho.size⟩
theorem Mat.wider {w : World} {lo hi lo' hi' n : Nat} {A : Option Addr} {xss : List (List Int)} (h : Mat w lo hi A n xss) (h0 : lo' ≤ lo) (h1 : hi ≤ hi') (h2 : hi' ≤ w.heap.size) : Mat w lo' hi' A n xss := by
  obtain ⟨a1, a2, hs, bl, G, h3, h4⟩ := h
  refine ⟨a1, h2, hs, bl, G, h3.wider h0 h1 h2, fun hn => ?_⟩
  obtain ⟨q1, q2, q3⟩ := h4 hn
  exact ⟨by omega, by omega, q3⟩
theorem Mat.nil (w : World) (lo hi : Nat) (A : Option Addr) (h : hi ≤ w.heap.size) : Mat w lo hi A 0 [] := ⟨rfl, h, [], fun _ => 0, 0, Hs.nil _ _ _ _ _ h, fun q => by omega⟩
theorem Mat.at_ {w : World} {lo hi n k : Nat} {A : Option Addr} {xss : List (List Int)} (h : Mat w lo hi A n xss) (hk : k < n) :
    ∃ G off A' c xs l u, A = some ⟨G, off, none⟩ ∧ xss[k]? = some xs ∧ w.cell? ⟨G, off + k, none⟩ = some (.slice A' xs.length c) ∧ Row w l u A' xs.length (V xs) ∧
      (∀ w' ys, ys.length = xs.length → Row w' l u A' xs.length (V ys) → Out l u w w' → Mat w' lo hi A n (xss.set k ys) ∧ Out lo hi w w') := by
  obtain ⟨h1, h2, hs, bl, G, h3, h4⟩ := h
  obtain ⟨q1, q2, q3⟩ := h4 (by omega)
  have hx : xss[k]? = some xss[k] := List.getElem?_eq_getElem (by omega)
  obtain ⟨A', c, l, u, e, hr, hp, hz⟩ := h3.one hx
  obtain ⟨g, off, v, rfl, g1, g2, hv, hc, _⟩ := q3.at_ hk
  obtain rfl : g = G := by omega
  rw [e] at hv
  obtain rfl := Option.some.inj hv
  refine ⟨g, off, A', c, xss[k], l, u, rfl, hx, hc, hr, fun w' ys hl hr' ho => ?_⟩
  refine ⟨⟨by simpa using h1, Nat.le_trans h2 ho.size, hs, bl, g, h3.set_ hx hl e hp hr' ho hz, fun _ => ⟨q1, q2, Row.block q3 (ho.block _ (by omega) ?_) ho.size⟩⟩, ?_⟩
  · rcases Nat.eq_zero_or_pos (xss[k]).length with x0 | x0
    · obtain ⟨b1, b2⟩ := hz x0; right; omega
    · obtain ⟨b1, b2, b3, b4, b5⟩ := hp x0; omega
  · rcases Nat.eq_zero_or_pos (xss[k]).length with x0 | x0
    · obtain ⟨b1, b2⟩ := hz x0
      exact ⟨ho.os, ho.tape, ho.output, ho.size, fun j hj _ => ho.block j hj (by omega)⟩
    · obtain ⟨b1, b2, b3, b4, b5⟩ := hp x0
      exact ho.wider b1 b2

def tot (xss : List (List Int)) : Nat := (xss.map List.length).sum
theorem tot_row {xss : List (List Int)} {k : Nat} {xs : List Int} (h : xss[k]? = some xs) : xs.length ≤ tot xss := by
  have hm := List.mem_of_getElem? h
  clear h
  unfold tot
  induction xss with
  | nil => simp at hm
  | cons a t ih =>
    rcases List.mem_cons.1 hm with rfl | hm
    · simp
    · have := ih hm; simp; omega
theorem tot_take {xss : List (List Int)} {k : Nat} {xs : List Int} (h : xss[k]? = some xs) : tot (xss.take (k + 1)) = tot (xss.take k) + xs.length := by
  unfold tot; rw [List.take_add_one, h]; simp
theorem tot_le (xss : List (List Int)) (k : Nat) : tot (xss.take k) ≤ tot xss := by
  have : tot xss = tot (xss.take k) + tot (xss.drop k) := by
    unfold tot; rw [← List.sum_append, ← List.map_append, List.take_append_drop]
  omega
def eqm (xss yss : List (List Int)) : Bool := decide (xss = yss)
theorem eqm_self (xss : List (List Int)) : eqm xss xss = true := by simp [eqm]
def SameM (xss yss : List (List Int)) (k : Nat) : Prop := ∀ j, j < k → xss[j]? = yss[j]?
theorem eqm_no {xss yss : List (List Int)} {k : Nat} {xs ys : List Int} (h1 : xss[k]? = some xs) (h2 : yss[k]? = some ys) (h : eqi xs ys = false) : eqm xss yss = false := by
  unfold eqm; rw [decide_eq_false_iff_not]; rintro rfl
  rw [h1] at h2
  obtain rfl := Option.some.inj h2
  simp [eqi] at h
theorem eqm_len {xss yss : List (List Int)} (h : xss.length ≠ yss.length) : eqm xss yss = false := by
  unfold eqm; rw [decide_eq_false_iff_not]; rintro rfl; exact h rfl
theorem eqm_yes {xss yss : List (List Int)} {n : Nat} (h1 : xss.length = n) (h2 : yss.length = n) (h : SameM xss yss n) : eqm xss yss = true := by
  unfold eqm; rw [decide_eq_true_iff]
  refine List.ext_getElem? fun i => ?_
  by_cases hi : i < n
  · exact h i hi
  · rw [List.getElem?_eq_none (by omega), List.getElem?_eq_none (by omega)]
theorem SameM.step {xss yss : List (List Int)} {k : Nat} {xs ys : List Int} (h : SameM xss yss k) (h1 : xss[k]? = some xs) (h2 : yss[k]? = some ys) (he : eqi xs ys = true) : SameM xss yss (k + 1) := by
  intro j hj
  by_cases e : j = k
  · subst e
    have : xs = ys := by simpa [eqi] using he
    rw [h1, h2, this]
  · exact h j (by omega)

theorem drawn_trans {a b c : World} (h : Drawn a b) (k : Drawn b c) : Drawn a c := by
  obtain ⟨m, rfl⟩ := h; obtain ⟨n, rfl⟩ := k; exact ⟨m + n, by simp⟩
theorem drawn_rd {w w' : World} {hi n : Nat} {A : Option Addr} {xs : List Value} (h : Drawn w w') (r : Rd w hi A n xs) : Rd w' hi A n xs := by
  obtain ⟨m, rfl⟩ := h; exact r

/-- The rows' numbers from k on. -/
def marksm (k : Int) : List (List Int) → List (List Int)
  | [] => []
  | xs :: t => Marks k xs.length :: marksm (k + xs.length) t
theorem marks_len (k : Int) (n : Nat) : (Marks k n).length = n := by simp [Marks]
theorem marksm_len (xss : List (List Int)) : ∀ k, (marksm k xss).length = xss.length := by
  induction xss with
  | nil => intro k; rfl
  | cons a t ih => intro k; simp [marksm, ih]
theorem marksm_tot (xss : List (List Int)) : ∀ k, tot (marksm k xss) = tot xss := by
  induction xss with
  | nil => intro k; rfl
  | cons a t ih => intro k; have := ih (k + a.length); simp only [tot, marksm, List.map_cons, List.sum_cons, marks_len] at *; omega
theorem marksm_at (xss : List (List Int)) : ∀ (k : Int) (j : Nat) (xs : List Int), xss[j]? = some xs → (marksm k xss)[j]? = some (Marks (k + tot (xss.take j)) xs.length) := by
  induction xss with
  | nil => intro k j xs h; simp at h
  | cons a t ih =>
    intro k j xs h
    cases j with
    | zero => simp at h; subst h; simp [marksm, tot]
    | succ j =>
      simp at h
      have := ih (k + a.length) j xs h
      simp only [marksm, List.getElem?_cons_succ, List.take_succ_cons]
      rw [this]
      simp only [tot, List.map_cons, List.sum_cons]
      congr 2
      omega
/-- The first j rows are marked. -/
def mix (k : Int) (xss : List (List Int)) (j : Nat) : List (List Int) := (marksm k xss).take j ++ xss.drop j
theorem mix_zero (k : Int) (xss : List (List Int)) : mix k xss 0 = xss := by simp [mix]
theorem mix_all (k : Int) (xss : List (List Int)) {n : Nat} (h : xss.length = n) : mix k xss n = marksm k xss := by
  unfold mix; rw [List.take_of_length_le (by rw [marksm_len]; omega), List.drop_of_length_le (by omega), List.append_nil]
theorem mix_at {k : Int} {xss : List (List Int)} {j : Nat} (h : j < xss.length) : (mix k xss j)[j]? = xss[j]? := by
  unfold mix
  have hl : ((marksm k xss).take j).length = j := by rw [List.length_take, marksm_len]; omega
  rw [List.getElem?_append_right (by omega), hl]
  simp
theorem mix_step {k : Int} {xss : List (List Int)} {j : Nat} {xs : List Int} (h : xss[j]? = some xs) : (mix k xss j).set j (Marks (k + tot (xss.take j)) xs.length) = mix k xss (j + 1) := by
  have hj : j < xss.length := (List.getElem?_eq_some_iff.1 h).1
  have hl : ((marksm k xss).take j).length = j := by rw [List.length_take, marksm_len]; omega
  unfold mix
  rw [List.take_add_one, marksm_at xss k j xs h, List.set_append_right _ _ (by omega), hl, Nat.sub_self]
  have : xss.drop j = xs :: xss.drop (j + 1) := by
    rw [List.drop_eq_getElem_cons hj]
    congr 1
    rw [List.getElem?_eq_getElem hj] at h
    exact Option.some.inj h
  rw [this]
  simp
def MarkRelM (A : Option Addr) (n lo hi : Nat) (k : Int) (xss : List (List Int)) (w wr : World) (j : Nat) : Prop := Mat wr lo hi A n (mix k xss j) ∧ Out lo hi w wr

end Go.Proofs.YtpbbfbpggedgpaaDoor.mat
