import Derived.Test.YtngglhbcpeigcaaY07
import Derived.Test.YtngglhbcpeigcaaY02
import Derived.Test.YtngglhbcpeigcaaY05
import Derived.Lib.SmallJoins
import Derived.Test.YtngglhbcpeigcaaY06
/-
  The program's gluing made a surface again; a gluing renamed.
-/
namespace Go.Proofs.Ytngglhbcpeigcaa.gl
open Go.ChangeShapes Go.WideShapes Go.ChangeAt Go.RowKit
open Go.Proofs.Ytngglhbcpeigcaa.mem Go.Proofs.Ytngglhbcpeigcaa.ints Go.Proofs.Ytngglhbcpeigcaa.arr Go.Proofs.Ytngglhbcpeigcaa.pm Go.Proofs.Ytngglhbcpeigcaa.permOk Go.Proofs.Ytngglhbcpeigcaa.permOf Go.Proofs.Ytngglhbcpeigcaa.inv Go.Proofs.Ytngglhbcpeigcaa.fns Go.Proofs.Ytngglhbcpeigcaa.sf
set_option linter.unusedVariables false
set_option maxRecDepth 100000

theorem rg_right {w : World} {b : Nat} {p q : List Int} {n : Nat} (hp : p.length = 24) (h : w.rangeAt b 0 (V (gl p q n))) : w.rangeAt b 0 (V p) := fun j v hv => by
  have hj : j < 24 := by have := (List.getElem?_eq_some_iff.1 hv).1; simpa [V, hp] using this
  refine h j v ?_
  rw [← hv]
  simp only [gl, V, List.map_append, List.append_assoc]
  rw [List.getElem?_append_left (by simp; omega)]
theorem rg_up {w : World} {b : Nat} {p q : List Int} {n : Nat} (hp : p.length = 24) (hq : q.length = 24) (h : w.rangeAt b 0 (V (gl p q n))) : w.rangeAt b 24 (V q) := fun j v hv => by
  have hj : j < 24 := by have := (List.getElem?_eq_some_iff.1 hv).1; simpa [V, hq] using this
  have := h (24 + j) v (by
    rw [← hv]
    simp only [gl, V, List.map_append, List.append_assoc]
    rw [List.getElem?_append_right (by simp; omega), List.getElem?_append_left (by simp; omega)]
    congr 1; simp; omega)
  rwa [Nat.zero_add] at this
theorem rg_count {w : World} {b : Nat} {p q : List Int} {n : Nat} (hp : p.length = 24) (hq : q.length = 24) (h : w.rangeAt b 0 (V (gl p q n))) : w.cell? ⟨b, 48, none⟩ = some (.int .i64 n) := by
  have := h 48 (.int .i64 n) (by
    simp only [gl, V, List.map_append]
    rw [List.getElem?_append_right (by simp; omega)]
    simp [hp, hq])
  rwa [Nat.zero_add] at this
theorem hi24 {l : List Int} (h : l.length = 24) : (Try.prog.info? 60).map (·.size) = some (V l).length := by rw [info44, V_len, h]
theorem hi49 {l : List Int} (h : l.length = 49) : (Try.prog.info? 62).map (·.size) = some (V l).length := by rw [info49, V_len, h]
theorem _root_.Go.Proofs.Ytngglhbcpeigcaa.sf.Hld.lower {base base' top : Nat} {w W : World} {bs : List (Nat × List Value)} (h : Hld base top w bs W) (hb : base' ≤ base) : Hld base' top w bs W := ⟨h.at_, h.below.mono hb, h.size⟩
theorem _root_.Go.Proofs.Ytngglhbcpeigcaa.sf.Hld.start3 {w : World} {a b c : Nat} {xs ys zs : List Value} {t t' t'' : TypeId} (h1 : Arr w a xs t) (h2 : Arr w b ys t') (h3 : Arr w c zs t'') : Hld w.heap.size w.heap.size w [(a, xs), (b, ys), (c, zs)] w.drew :=
  ⟨fun p hp => by
    simp only [List.mem_cons, List.not_mem_nil, or_false] at hp
    rcases hp with rfl | rfl | rfl
    · exact ⟨h1.lt, fun j v hv => by rw [Nat.zero_add]; exact h1.cell hv⟩
    · exact ⟨h2.lt, fun j v hv => by rw [Nat.zero_add]; exact h2.cell hv⟩
    · exact ⟨h3.lt, fun j v hv => by rw [Nat.zero_add]; exact h3.cell hv⟩,
    ⟨rfl, rfl, rfl, Nat.le_refl _, fun _ _ => rfl⟩, Nat.le_refl _⟩
theorem _root_.Go.Proofs.Ytngglhbcpeigcaa.sf.Hld.trd {base top a : Nat} {w W : World} {xs : List Value} {p q : Nat × List Value} {l : List (Nat × List Value)} (h : Hld base top w (p :: q :: (a, xs) :: l) W) : W.rangeAt a 0 xs := (h.at_ (a, xs) (by simp)).2
theorem step_build {P : Program} {ops : Array Oper} {o : Oper} {a : Act} {w : World} {K : Act → World → Prop} {Q : Exit → Act → World → Prop} {E : Prop} (hgd : o.guard = none) (t : TypeId) (parts : Array (Nat × Operand)) (ho : o.op = .build t parts)
    (l : List (Nat × Value)) (hl : (parts.toList.map fun p => (p.1, a.eval p.2)) = l) (cells : Array Value) (hb : P.built t l = some cells)
    (h : K (a.put o.dst (.agg cells)) w) : if Region.wanted o (yielded ops a.tmps) = true then Oper.wp P o a w K Q else E := by
  have hw : Region.wanted o (yielded ops a.tmps) = true := by simp [Region.wanted, hgd]
  have hb' : P.built t (parts.map fun (i, x) => (i, a.eval x)).toList = some cells := by
    rw [Array.toList_map]
    subst hl
    exact hb
  rw [if_pos hw]
  refine wp_build t parts ho (by rw [hb']; rfl) ?_
  rw [hb']
  exact h
theorem _root_.Go.Proofs.Ytngglhbcpeigcaa.sf.Hld.other {base top : Nat} {w W : World} {bs : List (Nat × List Value)} (h : Hld base top w bs W) {g : Nat} (hg : base ≤ g) (hne : ∀ p ∈ bs, p.1 ≠ g) (cs : Array Value) : Hld base top w bs (W.setRow g cs) :=
  ⟨fun p hp => ⟨(h.at_ p hp).1, fun j v hv => by
    rw [World.cell?_of_block (w := W) (a := ⟨p.1, 0 + j, none⟩) (setRow_other W g p.1 cs (hne p hp))]
    exact (h.at_ p hp).2 j v hv⟩, below_setRow h.below hg _, by simpa using h.size⟩

end Go.Proofs.Ytngglhbcpeigcaa.gl

/-
  Fractions: what RatioOk and RatioOf answer; contracts of the specification's.
-/
namespace Go.Proofs.Ytngglhbcpeigcaa.rat
open Go.ChangeShapes Go.WideShapes Go.ChangeAt Go.RowKit
open Go.Proofs.Ytngglhbcpeigcaa.mem Go.Proofs.Ytngglhbcpeigcaa.ints Go.Proofs.Ytngglhbcpeigcaa.arr Go.Proofs.Ytngglhbcpeigcaa.pm Go.Proofs.Ytngglhbcpeigcaa.permOk Go.Proofs.Ytngglhbcpeigcaa.sf Go.Proofs.Ytngglhbcpeigcaa.gl
set_option linter.unusedVariables false
set_option maxRecDepth 100000

/-- The greatest part of a fraction. -/
abbrev MP : Int := 1000000000000
def gc (n d : Int) : Nat := Nat.gcd n.natAbs d.natAbs
def okR (n d : Int) : Bool := decide (1 ≤ d ∧ d ≤ MP) && (decide (-MP ≤ n ∧ n ≤ MP) && (gc n d == 1))
/-- A fraction in its lowest terms. -/
def nrm (n d : Int) : Int × Int := (n.tdiv (gc n d : Int), d.tdiv (gc n d : Int))
def ofB (n d : Int) : Bool := decide (-MP ≤ n ∧ n ≤ MP) && decide (1 ≤ d ∧ d ≤ MP)
def ofF (n d : Int) : Int × Int := if ofB n d then nrm n d else (0, 0)
def rv (q : Int × Int) : Value := .agg #[.int .i64 q.1, .int .i64 q.2]
theorem infoR : (Try.prog.info? 24).map (·.size) = some 2 := by kernel_rfl
theorem sizeR (a b : Value) : (Try.prog.info? 24).map (·.size) = some (#[a, b] : Array Value).size := by rw [infoR]; rfl
theorem sizeRL (a b : Value) : (Try.prog.info? 24).map (·.size) = some [a, b].length := by rw [infoR]; rfl
theorem builtR (a b : Int) : Try.prog.built 24 [(0, .int .i64 a), (1, .int .i64 b)] = some #[.int .i64 a, .int .i64 b] := by kernel_rfl
theorem builtR0 : Try.prog.built 24 [] = some #[.int .i64 0, .int .i64 0] := by kernel_rfl
set_option maxHeartbeats 1000000 in
theorem gcd_spec (a b : Nat) (w : World) (ha : a ≤ 4611686018427387904) (hb : b ≤ 4611686018427387904) :
    Calls Try.prog 39 #[.int .i64 a, .int .i64 b] w fun e w' => e = .returned (.int .i64 (Nat.gcd a b : Nat)) ∧ Drawn w w' := by
  go_enter Try.func39, Try.ntmps39
  go_wp2
  go_loopw [0, 1] (fun av bv wr => ∃ x y : Nat, x ≤ 4611686018427387904 ∧ y ≤ 4611686018427387904 ∧ av = .int .i64 x ∧ bv = .int .i64 y ∧ Drawn w wr ∧ Hid (Nat.gcd x y = Nat.gcd a b)) (fun _ bv _ => (intOf bv).toNat)
  case atStart => exact ⟨a, b, ha, hb, rfl, rfl, ⟨0, rfl⟩, Lib.hid rfl⟩
  case round =>
    obtain ⟨x, y, hx, hy, rfl, rfl, hdr, HG⟩ := hrel
    have HD := Lib.hid hdr; clear hdr
    by_cases h0 : y = 0
    · subst h0
      have HE : Hid (x = Nat.gcd a b) := Lib.hid (by rw [← HG.out, Nat.gcd_zero_right])
      go_wp2
      go_ret
      exact ⟨ret_int (by rw [← HE.out]), HD.out⟩
    · have hb0 : ((y : Int) != 0) = true := by simp; omega
      have hm : x % y < y := Nat.mod_lt _ (by omega)
      have e1 : (x : Int).tmod y = ((x % y : Nat) : Int) := by rw [← Int.ofNat_tmod]
      have NG : Hid (Nat.gcd y (x % y) = Nat.gcd a b) := Lib.hid (by rw [← HG.out, Nat.gcd_comm x y, Nat.gcd_rec y x, Nat.gcd_comm])
      generalize hz : x % y = z at *
      have hw := IntWalk.i64_in (z : Int) (by omega)
      go_wp2
      go_roundw
      case rel => exact ⟨y, z, by omega, by omega, rfl, by first | rfl | (congr 1), by first | exact HD.out | exact HD.out.more 1 | exact (HD.out.more 1).more 1, NG⟩
      case measure => simp [intOf]; omega
theorem gcd_to (a b g : Nat) (w : World) (hg : g = Nat.gcd a b) (ha : a ≤ 4611686018427387904) (hb : b ≤ 4611686018427387904) :
    Calls Try.prog 39 #[.int .i64 a, .int .i64 b] w fun e w' => e = .returned (.int .i64 (g : Nat)) ∧ Drawn w w' := by rw [hg]; exact gcd_spec a b w ha hb
theorem drawn_below {w w' : World} (h : Drawn w w') : Below w.heap.size w w' := by
  obtain ⟨m, rfl⟩ := h
  exact ⟨rfl, rfl, rfl, Nat.le_refl _, fun _ _ => rfl⟩
theorem in_b (x a b : Int) (w : World) : Calls Try.prog 38 #[.int .i64 x, .int .i64 a, .int .i64 b] w fun e w' => e = .returned (.bool (decide (a ≤ x ∧ x ≤ b))) ∧ w = w' := by
  by_cases h : a ≤ x ∧ x ≤ b
  · rw [decide_eq_true h]; exact in_yes x a b w h.1 h.2
  · rw [decide_eq_false h]; exact in_no x a b w (by omega)
theorem gc_nat (n : Int) (m : Nat) : gc n (m : Int) = Nat.gcd n.natAbs m := by simp [gc]
theorem abs_max (n : Int) : (if n < -n then -n else n) = (n.natAbs : Int) := by split <;> omega
theorem okR_1 {n d : Int} (h : ¬ (1 ≤ d ∧ d ≤ MP)) : okR n d = false := by simp only [okR, decide_eq_false h, Bool.false_and]
theorem okR_2 {n d : Int} (h : ¬ (-MP ≤ n ∧ n ≤ MP)) : okR n d = false := by simp only [okR, decide_eq_false h, Bool.false_and, Bool.and_false]
theorem okR_3 {n d : Int} (h1 : 1 ≤ d ∧ d ≤ MP) (h2 : -MP ≤ n ∧ n ≤ MP) : okR n d = (gc n d == 1) := by simp only [okR, decide_eq_true h1, decide_eq_true h2, Bool.true_and]
set_option maxHeartbeats 1000000 in
theorem rok_spec (n d : Int) (w : World) (n1 : -9223372036854775808 ≤ n) (n2 : n ≤ 9223372036854775807) (d1 : -9223372036854775808 ≤ d) (d2 : d ≤ 9223372036854775807) :
    Calls Try.prog 15 #[.agg #[.int .i64 n, .int .i64 d]] w fun e w' => e = .returned (.bool (okR n d)) ∧ Below w.heap.size w w' := by
  go_enter Try.func15, Try.ntmps15
  have A0 : Hid (Arr (w.alloc (.cells #[.int .i64 n, .int .i64 d] 24)) w.heap.size [.int .i64 n, .int .i64 d] 24) := Lib.hid (Arr.new w _ _ rfl)
  have B1 : Hid (Below w.heap.size w (w.alloc (.cells #[.int .i64 n, .int .i64 d] 24))) := Lib.hid ((Below.refl _ _).alloc (Nat.le_refl _) _)
  have c0 := A0.out.cell (k := 0) rfl
  have c1 := A0.out.cell (k := 1) rfl
  generalize hw1 : w.alloc (.cells #[.int .i64 n, .int .i64 d] 24) = w1 at *
  go_wp2_with fail
  clear hw1
  refine (in_b d 1 1000000000000 _).mono ?_
  rintro e w2 ⟨rfl, rfl⟩
  by_cases h1 : 1 ≤ d ∧ d ≤ MP
  · rw [decide_eq_true h1]
    go_wp2_with fail
    refine (in_b n (-1000000000000) 1000000000000 _).mono ?_
    rintro e w2 ⟨rfl, rfl⟩
    by_cases h2 : -MP ≤ n ∧ n ≤ MP
    · rw [decide_eq_true h2]
      have HF := Lib.hid (okR_3 h1 h2)
      obtain ⟨a, ha⟩ : ∃ a : Nat, n.natAbs = a := ⟨_, rfl⟩
      obtain ⟨b, rfl⟩ : ∃ b : Nat, d = (b : Int) := ⟨d.toNat, by omega⟩
      have hneg : IntKind.i64.wrap (-n) = -n := IntWalk.i64_in _ (by simp only [MP] at h2; omega)
      have hmx : (if -n > n then -n else n) = (a : Int) := by split <;> omega
      rw [gc_nat, ha] at HF
      have hal : a ≤ 1000000000000 := by simp only [MP] at h2; omega
      have hbl : b ≤ 1000000000000 := by simp only [MP] at h1; omega
      clear h1 h2 ha
      go_wp2_with fail
      obtain ⟨gg, hgg⟩ : ∃ gg, gg = Nat.gcd a b := ⟨_, rfl⟩
      refine (gcd_to a b gg _ hgg (by omega) (by omega)).mono ?_
      rintro e w3 ⟨rfl, hdr⟩
      have B3 := Lib.hid (B1.out.trans ((drawn_below hdr).mono B1.out.size)); clear hdr
      rw [← hgg] at HF
      have hde : ((gg : Int) == (1 : Int)) = (gg == 1) := by
        by_cases q : gg = 1
        · simp [q]
        · rw [beq_eq_false_iff_ne.2 q]; simpa using (by omega : ¬ (gg : Int) = 1)
      clear hgg
      obtain ⟨bb, hbb⟩ : ∃ bb, bb = (gg == 1) := ⟨_, rfl⟩
      rw [← hbb] at HF hde
      clear hbb
      go_wp2_with fail
      go_ret
      exact ⟨ret_bool HF.out.symm, B3.out⟩
    · rw [decide_eq_false h2]
      have HF := Lib.hid (okR_2 (d := d) h2)
      clear h1 h2
      go_wp2_with fail
      go_ret
      exact ⟨ret_bool HF.out.symm, B1.out⟩
  · rw [decide_eq_false h1]
    have HF := Lib.hid (okR_1 (n := n) h1)
    clear h1
    go_wp2_with fail
    go_ret
    exact ⟨ret_bool HF.out.symm, B1.out⟩
theorem ofF_no {n d : Int} (h : ofB n d = false) : ofF n d = (0, 0) := by simp [ofF, h]
theorem ofF_yes {n d : Int} (h : ofB n d = true) : ofF n d = nrm n d := by simp [ofF, h]
theorem gc_pos {n d : Int} (h : 1 ≤ d) : 0 < gc n d := Nat.gcd_pos_of_pos_right _ (by omega)
/-- A quotient by a divisor that is at least 1 is not greater. -/
theorem tdiv_fit {n : Int} {g : Nat} (hg : 0 < g) : -(n.natAbs : Int) ≤ n.tdiv (g : Int) ∧ n.tdiv (g : Int) ≤ (n.natAbs : Int) := by
  have h := Int.natAbs_tdiv n (g : Int)
  have h2 : n.natAbs / g ≤ n.natAbs := Nat.div_le_self _ _
  have h3 : ((g : Int)).natAbs = g := Int.natAbs_natCast g
  rw [h3] at h
  have h4 : (n.tdiv (g : Int)).natAbs ≤ n.natAbs := by rw [h]; exact h2
  omega
set_option maxHeartbeats 4000000 in
theorem rof_spec (n d : Int) (w : World) (n1 : -9223372036854775808 ≤ n) (n2 : n ≤ 9223372036854775807) (d1 : -9223372036854775808 ≤ d) (d2 : d ≤ 9223372036854775807) :
    Calls Try.prog 17 #[.int .i64 n, .int .i64 d] w fun e w' => e = .returned (rv (ofF n d)) ∧ Below w.heap.size w w' := by
  go_enter Try.func17, Try.ntmps17
  go_wp2_with fail
  have A0 : Hid (Arr (w.alloc (.cells #[.int .i64 0, .int .i64 0] 24)) w.heap.size [.int .i64 0, .int .i64 0] 24) := Lib.hid (Arr.new w _ _ rfl)
  have B1 : Hid (Below w.heap.size w (w.alloc (.cells #[.int .i64 0, .int .i64 0] 24))) := Lib.hid ((Below.refl _ _).alloc (Nat.le_refl _) _)
  generalize w.alloc (.cells #[.int .i64 0, .int .i64 0] 24) = w1 at *
  refine (in_b n (-1000000000000) 1000000000000 _).mono ?_
  rintro e w2 ⟨rfl, rfl⟩
  have NO : ofB n d = false → Hid (ofF n d = (0, 0)) := fun h => Lib.hid (ofF_no h)
  by_cases h1 : -MP ≤ n ∧ n ≤ MP
  · rw [decide_eq_true h1]
    go_wp2_with fail
    refine (in_b d 1 1000000000000 _).mono ?_
    rintro e w2 ⟨rfl, rfl⟩
    by_cases h2 : 1 ≤ d ∧ d ≤ MP
    · rw [decide_eq_true h2]
      have HF := Lib.hid (ofF_yes (n := n) (d := d) (by simp only [ofB, decide_eq_true h1, decide_eq_true h2, Bool.true_and]))
      obtain ⟨a, ha⟩ : ∃ a : Nat, n.natAbs = a := ⟨_, rfl⟩
      obtain ⟨b, rfl⟩ : ∃ b : Nat, d = (b : Int) := ⟨d.toNat, by omega⟩
      have hneg : IntKind.i64.wrap (-n) = -n := IntWalk.i64_in _ (by simp only [MP] at h1; omega)
      have hmx : (if -n > n then -n else n) = (a : Int) := by split <;> omega
      have hal : a ≤ 1000000000000 := by simp only [MP] at h1; omega
      have hbl : b ≤ 1000000000000 := by simp only [MP] at h2; omega
      have hg : gc n (b : Int) = Nat.gcd a b := by rw [gc_nat, ha]
      have hgp : 0 < Nat.gcd a b := Nat.gcd_pos_of_pos_right _ (by omega)
      have hq : nrm n (b : Int) = (n.tdiv (Nat.gcd a b : Nat), (b : Int).tdiv (Nat.gcd a b : Nat)) := by unfold nrm; rw [hg]
      rw [hq] at HF
      have f1 := tdiv_fit (n := n) hgp
      have f2 := tdiv_fit (n := (b : Int)) hgp
      rw [ha] at f1
      rw [Int.natAbs_natCast] at f2
      clear h1 h2 ha NO hq hg
      go_wp2_with fail
      obtain ⟨g, hgg⟩ : ∃ g, g = Nat.gcd a b := ⟨_, rfl⟩
      refine (gcd_to a b g _ hgg (by omega) (by omega)).mono ?_
      rintro e w3 ⟨rfl, hdr⟩
      rw [← hgg] at HF f1 f2 hgp
      have b3 := drawn_below hdr
      replace A0 := Lib.hid (A0.out.keep b3 A0.out.lt)
      have B3 := Lib.hid (B1.out.trans (b3.mono B1.out.size)); clear hdr b3
      clear hgg
      have hg0 : ¬ ((g : Int) = 0) := by omega
      generalize hx : n.tdiv (g : Int) = x at *
      generalize hy : (b : Int).tdiv (g : Int) = y at *
      have wx : IntKind.i64.wrap x = x := IntWalk.i64_in _ (by omega)
      have wy : IntKind.i64.wrap y = y := IntWalk.i64_in _ (by omega)
      go_wp2_with fail
      refine wp_region_held_drew (S := Hld w.heap.size w3.heap.size w3 []) (by kernel_rfl) ⟨fun p hp => by simp at hp, ⟨rfl, rfl, rfl, Nat.le_refl _, fun _ _ => rfl⟩, Nat.le_refl _⟩ (fun hHeld => ?_)
      have b1 : Below w3.heap.size w3 w3.drew := ⟨rfl, rfl, rfl, Nat.le_refl _, fun _ _ => rfl⟩
      generalize w3.drew = w4 at *
      have s4 := b1.size
      replace A0 := Lib.hid (A0.out.keep b1 A0.out.lt)
      have B4 := Lib.hid (B3.out.trans (b1.mono B3.out.size)); clear b1
      refine wpAnyH_take (i := 0) (v := .int .i64 n) rfl (by kernel_rfl) (by kernel_rfl) (by kernel_rfl) (fun _ _ _ h => h) (Or.inl ⟨by rfl, fun w hSw => by go_simp⟩) hHeld ?_
      refine wpAnyH_take (i := 1) (v := .int .i64 (g : Int)) rfl (by kernel_rfl) (by kernel_rfl) (by kernel_rfl) (fun _ _ _ h => h) (Or.inl ⟨by rfl, fun w hSw => by go_simp⟩) hHeld ?_
      refine wpAnyH_take (i := 3) (v := .int .i64 (b : Int)) rfl (by kernel_rfl) (by kernel_rfl) (by kernel_rfl) (fun _ _ _ h => h) (Or.inl ⟨by rfl, fun w hSw => by go_simp⟩) hHeld ?_
      refine wpAnyH_take (i := 4) (v := .int .i64 (g : Int)) rfl (by kernel_rfl) (by kernel_rfl) (by kernel_rfl) (fun _ _ _ h => h) (Or.inl ⟨by rfl, fun w hSw => by go_simp⟩) hHeld ?_
      refine wpAnyH_take (i := 2) (v := .int .i64 x) rfl (by kernel_rfl) (by kernel_rfl) (by kernel_rfl) (fun _ _ _ h => h) (Or.inl ⟨by rfl, fun w hSw => by go_simp; omega⟩) hHeld ?_
      refine wpAnyH_take (i := 5) (v := .int .i64 y) rfl (by kernel_rfl) (by kernel_rfl) (by kernel_rfl) (fun _ _ _ h => h) (Or.inl ⟨by rfl, fun w hSw => by go_simp; omega⟩) hHeld ?_
      dsimp only [List.getElem_toArray, List.getElem_cons_zero, List.getElem_cons_succ]
      simp only [Act.put, List.setIfInBounds_toArray, List.set_cons_zero, List.set_cons_succ]
      refine wpAnyH_ready (rs := [6]) (by kernel_rfl) (by simp) (AllReadyH.cons rfl (fun K hK => ?_) AllReadyH.nil)
      refine step_build rfl 24 _ rfl [(0, .int .i64 x), (1, .int .i64 y)] rfl #[.int .i64 x, .int .i64 y] (builtR x y) ?_
      refine hK.out _ _ hHeld (fun hHeld2 => ?_)
      clear hK K hHeld2
      refine wpAnyH_ready (rs := [7]) (by kernel_rfl) (by simp) (AllReadyH.cons rfl (fun K hK => ?_) AllReadyH.nil)
      refine permOf.step_store_row rfl 24 _ _ rfl w.heap.size #[.int .i64 x, .int .i64 y] rfl rfl 24 #[.int .i64 0, .int .i64 0] A0.out (sizeR (.int .i64 x) (.int .i64 y)) rfl (by simp [Value.oneCell']) ?_
      refine hK.out _ _ (hHeld.other (by omega) (by simp) _) (fun hHeld2 => ?_)
      clear hK K hHeld2
      refine wpAnyH_done (by kernel_rfl) ?_ _
      go_wp2_with fail
      exact bodyPost_ret (v := .agg #[.int .i64 x, .int .i64 y]) (results_cell_row rfl _ _ w.heap.size 24 #[.int .i64 x, .int .i64 y] (0, 0) _ rfl A0.out.row Try.underlying24 rfl (sizeR _ _)) rfl ⟨by rw [HF.out]; rfl, below_setRow B4.out (by omega) _⟩
    · rw [decide_eq_false h2]
      have HF := NO (by simp only [ofB, decide_eq_false h2, Bool.and_false])
      clear h1 h2 NO
      go_wp2_with (first | (refine wpList_build rfl 24 _ rfl [] rfl #[.int .i64 0, .int .i64 0] builtR0 ?_) | (refine wpList_store_row rfl 24 _ _ rfl w.heap.size #[.int .i64 0, .int .i64 0] rfl rfl 24 #[.int .i64 0, .int .i64 0] A0.out (sizeR _ _) rfl (by simp [Value.oneCell']) ?_) | fail)
      exact bodyPost_ret (v := .agg #[.int .i64 0, .int .i64 0]) (results_cell_row rfl _ _ w.heap.size 24 #[.int .i64 0, .int .i64 0] (0, 0) _ rfl A0.out.row Try.underlying24 rfl (sizeR _ _)) rfl ⟨by rw [HF.out]; rfl, below_setRow B1.out (by omega) _⟩
  · rw [decide_eq_false h1]
    have HF := NO (by simp only [ofB, decide_eq_false h1, Bool.false_and])
    clear h1 NO
    go_wp2_with (first | (refine wpList_build rfl 24 _ rfl [] rfl #[.int .i64 0, .int .i64 0] builtR0 ?_) | (refine wpList_store_row rfl 24 _ _ rfl w.heap.size #[.int .i64 0, .int .i64 0] rfl rfl 24 #[.int .i64 0, .int .i64 0] A0.out (sizeR _ _) rfl (by simp [Value.oneCell']) ?_) | fail)
    exact bodyPost_ret (v := .agg #[.int .i64 0, .int .i64 0]) (results_cell_row rfl _ _ w.heap.size 24 #[.int .i64 0, .int .i64 0] (0, 0) _ rfl A0.out.row Try.underlying24 rfl (sizeR _ _)) rfl ⟨by rw [HF.out]; rfl, below_setRow B1.out (by omega) _⟩
end Go.Proofs.Ytngglhbcpeigcaa.rat

/-
  Fractions in the laws: as they come in, toRatio, eqRatio.
-/
namespace Go.Proofs.Ytngglhbcpeigcaa.rat
open Go.ChangeShapes Go.WideShapes Go.ChangeAt Go.RowKit
open Go.Proofs.Ytngglhbcpeigcaa.mem Go.Proofs.Ytngglhbcpeigcaa.ints Go.Proofs.Ytngglhbcpeigcaa.arr Go.Proofs.Ytngglhbcpeigcaa.pm Go.Proofs.Ytngglhbcpeigcaa.permOk Go.Proofs.Ytngglhbcpeigcaa.sf Go.Proofs.Ytngglhbcpeigcaa.gl
set_option linter.unusedVariables false
set_option maxRecDepth 100000
set_option linter.unusedSimpArgs false

def i64 (n : Int) : Prop := -9223372036854775808 ≤ n ∧ n ≤ 9223372036854775807
theorem fit1 {a : Int} (h : (Lit.int .i64 a).wf = true) : i64 a := by simpa [i64, Lit.wf, IntKind.min, IntKind.max, IntKind.signed, IntKind.bits] using h
open Go.Joins Go.Deep in
theorem open_R {H : Type} {enc : TypeId × Value → H} {P : Program} {W : World} {r : Reach} {b0 : Nat} {t : TypeId} {f0 f1 : Field} {v : Value} {d : DataW H} {p : List MemPlace} (hs : P.underlying t = some (.struct #[f0, f1])) (hone : oneCellFields P #[f0, f1] = true) (hC : P.cellsOf t = 2)
    (t0 : P.underlying f0.type = some (.int .i64)) (t1 : P.underlying f1.type = some (.int .i64))
    (hv : Value.okWide P W r b0 t v) (h : DataW.Trod enc P W 0 (fun _ => true) true t v d p) : ∃ n d : Int, v = .agg #[.int .i64 n, .int .i64 d] ∧ (i64 n ∧ i64 d) := by
  obtain ⟨v0, v1, y0, y1, n, rfl, _, _, h0, h1⟩ := open_agg2 hs hone hC hv h
  obtain ⟨a, e0, _, wa⟩ := DataW.trod_int t0 h0
  obtain ⟨b, e1, _, wb⟩ := DataW.trod_int t1 h1
  simp at e0 e1
  subst e0 e1
  exact ⟨a, b, rfl, fit1 wa, fit1 wb⟩
theorem eqd_self (n d : Int) : decide (n = n ∧ d = d) = true := by simp
set_option maxHeartbeats 1000000 in
theorem toR_any (n d : Int) (w : World) :
    Calls Try.prog 16 #[.agg #[.int .i64 n, .int .i64 d]] w fun e w' => e = .returned (.agg #[.int .i64 n, .int .i64 d]) ∧ Below w.heap.size w w' := by
  have A1 : Hid (∀ (x v : Obj), Arr (((w.alloc x).alloc (.cells #[.int .i64 n, .int .i64 d] 24)).alloc v) (w.heap.size + 1) [.int .i64 n, .int .i64 d] 24) := Lib.hid (fun x v => (Arr.new (w.alloc x) _ _ (by simp)).alloc _)
  go_enter Try.func16, Try.ntmps16
  go_wp2_with fail
  exact bodyPost_ret (v := .agg #[.int .i64 n, .int .i64 d]) (results_cell_row rfl _ _ (w.heap.size + 1) 24 #[.int .i64 n, .int .i64 d] (0, 0) _ rfl (A1.out _ _) Try.underlying24 rfl rfl) rfl ⟨rfl, (((Below.refl _ _).alloc (Nat.le_refl _) _).alloc (by simp) _).alloc (by simp; omega) _⟩
set_option maxHeartbeats 1000000 in
theorem eqR_any (n d n' d' : Int) (w : World) :
    Calls Try.prog 18 #[.agg #[.int .i64 n, .int .i64 d], .agg #[.int .i64 n', .int .i64 d']] w fun e w' => e = .returned (.bool (decide (n = n' ∧ d = d'))) ∧ Below w.heap.size w w' := by
  have A0 : Hid (∀ (w : World) (v : Obj), Arr ((w.alloc (.cells #[.int .i64 n, .int .i64 d] 24)).alloc v) w.heap.size [.int .i64 n, .int .i64 d] 24) := Lib.hid (fun w v => (Arr.new w _ _ rfl).alloc _)
  go_enter Try.func18, Try.ntmps18
  by_cases h1 : n = n'
  · by_cases h2 : d = d'
    · have h1' : (n != n') = false := by simp [h1]
      have h2' : (d != d') = false := by simp [h2]
      go_wp2_with fail
      go_ret
      exact ⟨by simp [h1, h2], ((Below.refl _ _).alloc (Nat.le_refl _) _).alloc (by simp) _⟩
    · have h1' : (n != n') = false := by simp [h1]
      have h2' : (d != d') = true := by simp [h2]
      go_wp2_with fail
      go_ret
      exact ⟨by simp [h2], ((Below.refl _ _).alloc (Nat.le_refl _) _).alloc (by simp) _⟩
  · have h1' : (n != n') = true := by simp [h1]
    go_wp2_with fail
    go_ret
    exact ⟨by simp [h1], ((Below.refl _ _).alloc (Nat.le_refl _) _).alloc (by simp) _⟩
end Go.Proofs.Ytngglhbcpeigcaa.rat

/-
  An exchange of two elements changes the number of cycles by one; so its parity is that of a product: plain mathematics.
-/
namespace Go.Proofs.Ytngglhbcpeigcaa.pm
open Go.Proofs.Ytngglhbcpeigcaa.arr Go.Proofs.Ytngglhbcpeigcaa.inv Go.Proofs.Ytngglhbcpeigcaa.permOf
set_option linter.unusedVariables false
set_option maxRecDepth 100000

section
variable {n : Nat} {ps : List Int} (hb : Bij n ps)
include hb
theorem cyc_self {f : Int} (f0 : 0 ≤ f) (f1 : f < n) : f ∈ cyc ps n f := by
  have hw := cyc_way hb f0 f1
  have := getD_mem (l := cyc ps n f) (i := 0) hw.pos
  rw [hw.head] at this; exact this
theorem cyc_next {f x : Int} (f0 : 0 ≤ f) (f1 : f < n) (hx : x ∈ cyc ps n f) : ps.getD x.toNat 0 ∈ cyc ps n f := by
  have hw := cyc_way hb f0 f1
  obtain ⟨i, hi, e⟩ := mem_getD hx
  by_cases h : i + 1 < (cyc ps n f).length
  · rw [← e, ← hw.step i h]; exact getD_mem h
  · have : i = (cyc ps n f).length - 1 := by omega
    subst this
    rw [← e, ← hw.last]
    exact cyc_self hb f0 f1
theorem mem_cyc {f y : Int} (f0 : 0 ≤ f) (f1 : f < n) : y ∈ cyc ps n f ↔ ∃ m, it ps f m = y := by
  have hw := cyc_way hb f0 f1
  constructor
  · intro h
    obtain ⟨i, hi, e⟩ := mem_getD h
    exact ⟨i, by rw [← way_it hw i hi, e]⟩
  · rintro ⟨m, rfl⟩
    induction m with
    | zero => exact cyc_self hb f0 f1
    | succ m ih => exact cyc_next hb f0 f1 ih
theorem cyc_trans {f x y : Int} (f0 : 0 ≤ f) (f1 : f < n) (hx : x ∈ cyc ps n f) (hy : y ∈ cyc ps n x) : y ∈ cyc ps n f := by
  have hw := cyc_way hb f0 f1
  obtain ⟨a, ea⟩ := (mem_cyc hb f0 f1).1 hx
  obtain ⟨b, eb⟩ := (mem_cyc hb (hw.inn.lo x hx) (hw.inn.hi x hx)).1 hy
  exact (mem_cyc hb f0 f1).2 ⟨a + b, by rw [← it_add, ea, eb]⟩
theorem cyc_symm {f x : Int} (f0 : 0 ≤ f) (f1 : f < n) (hx : x ∈ cyc ps n f) : f ∈ cyc ps n x := by
  have hw := cyc_way hb f0 f1
  obtain ⟨j, hj, e⟩ := mem_getD hx
  rw [way_it hw j hj] at e
  refine (mem_cyc hb (hw.inn.lo x hx) (hw.inn.hi x hx)).2 ⟨(cyc ps n f).length - j, ?_⟩
  have ej : j + ((cyc ps n f).length - j) = (cyc ps n f).length := by omega
  rw [← e, it_add, ej, ← way_last hw]
theorem cyc_iff {f x y : Int} (f0 : 0 ≤ f) (f1 : f < n) (hx : x ∈ cyc ps n f) : y ∈ cyc ps n x ↔ y ∈ cyc ps n f := by
  have hw := cyc_way hb f0 f1
  constructor
  · exact cyc_trans hb f0 f1 hx
  · exact cyc_trans hb (hw.inn.lo x hx) (hw.inn.hi x hx) (cyc_symm hb f0 f1 hx)
end
/-- x is the least of its cycle. -/
def mn (ps : List Int) (n : Nat) (x : Int) : Bool := decide (∀ y ∈ cyc ps n x, x ≤ y)
theorem mem_cso {n : Nat} {ps : List Int} (hb : Bij n ps) (k : Nat) (hk : k ≤ n) (x : Int) : x ∈ (cso ps n k).flatten ↔ ∃ j : Nat, j < k ∧ x ∈ cyc ps n (j : Int) := by
  induction k with
  | zero => simp [cso]
  | succ k ih =>
    have ih := ih (by omega)
    rw [cso]
    by_cases h : (k : Int) ∈ (cso ps n k).flatten
    · rw [if_pos h, ih]
      constructor
      · rintro ⟨j, hj, q⟩; exact ⟨j, by omega, q⟩
      · rintro ⟨j, hj, q⟩
        by_cases e : j = k
        · subst e
          have hc := cso_cs hb j (by omega)
          -- j lies in an earlier cycle
          obtain ⟨c, hc1, hc2⟩ := List.mem_flatten.1 h
          have : x ∈ (cso ps n j).flatten := by
            have hcyc : ∀ m (hm : m ≤ n) (c : List Int), c ∈ cso ps n m → ∃ i : Nat, i < m ∧ c = cyc ps n (i : Int) := by
              intro m
              induction m with
              | zero => intro _ c hc; simp [cso] at hc
              | succ m ihm =>
                intro hm c hc
                rw [cso] at hc
                split at hc
                · obtain ⟨i, hi, e⟩ := ihm (by omega) c hc; exact ⟨i, by omega, e⟩
                · rcases List.mem_append.1 hc with hc | hc
                  · obtain ⟨i, hi, e⟩ := ihm (by omega) c hc; exact ⟨i, by omega, e⟩
                  · simp at hc; exact ⟨m, by omega, hc⟩
            obtain ⟨i, hi, e⟩ := hcyc j (by omega) c hc1
            subst e
            exact List.mem_flatten.2 ⟨_, hc1, cyc_trans hb (by omega) (by omega) hc2 q⟩
          exact (ih.1 this)
        · exact ⟨j, by omega, q⟩
    · rw [if_neg h]
      simp only [List.flatten_append, List.flatten_cons, List.flatten_nil, List.append_nil, List.mem_append, ih]
      constructor
      · rintro (⟨j, hj, q⟩ | q)
        · exact ⟨j, by omega, q⟩
        · exact ⟨k, by omega, q⟩
      · rintro ⟨j, hj, q⟩
        by_cases e : j = k
        · subst e; exact .inr q
        · exact .inl ⟨j, by omega, q⟩
theorem cso_count {n : Nat} {ps : List Int} (hb : Bij n ps) (k : Nat) (hk : k ≤ n) : (cso ps n k).length = (rng k).countP (mn ps n) := by
  induction k with
  | zero => rfl
  | succ k ih =>
    have e : rng (k + 1) = rng k ++ [(k : Int)] := by unfold rng; rw [List.range_succ, List.map_append]; rfl
    rw [e, List.countP_append, ← ih (by omega), cso]
    have key : (k : Int) ∈ (cso ps n k).flatten ↔ mn ps n (k : Int) = false := by
      rw [mem_cso hb k (by omega)]
      unfold mn
      rw [decide_eq_false_iff_not]
      constructor
      · rintro ⟨j, hj, q⟩ h
        have := h _ (cyc_symm hb (by omega) (by omega) q)
        omega
      · intro h
        have : ∃ y, y ∈ cyc ps n (k : Int) ∧ y < (k : Int) := by
          rcases Classical.em (∃ y, y ∈ cyc ps n (k : Int) ∧ y < (k : Int)) with q | q
          · exact q
          · exact absurd (fun y hy => Int.not_lt.1 (fun hlt => q ⟨y, hy, hlt⟩)) h
        obtain ⟨y, hy, hlt⟩ := this
        have hw := cyc_way (f := (k : Int)) hb (by omega) (by omega)
        have y0 := hw.inn.lo y hy
        exact ⟨y.toNat, by omega, by rw [Int.toNat_of_nonneg y0]; exact cyc_symm hb (by omega) (by omega) hy⟩
    by_cases h : (k : Int) ∈ (cso ps n k).flatten
    · rw [if_pos h]; simp [key.1 h]
    · rw [if_neg h]
      have : mn ps n (k : Int) = true := by
        cases q : mn ps n (k : Int) with
        | true => rfl
        | false => exact absurd (key.2 q) h
      simp [this]
theorem countP_one {l : List Int} {q : Int → Bool} (hl : l.Nodup) {x : Int} (hx : x ∈ l) (hq : q x = true) (hu : ∀ y ∈ l, q y = true → y = x) : l.countP q = 1 := by
  rw [List.countP_eq_length_filter]
  have hm : x ∈ l.filter q := List.mem_filter.2 ⟨hx, hq⟩
  have h1 := nodup_le_one (l.filter q) x (List.Pairwise.filter _ hl) (fun y hy => hu y (List.mem_filter.1 hy).1 (List.mem_filter.1 hy).2)
  have := List.length_pos_of_mem hm
  omega
where
  nodup_le_one (l : List Int) (x : Int) (hl : l.Nodup) (h : ∀ y ∈ l, y = x) : l.length ≤ 1 := by
    match l, hl, h with
    | [], _, _ => simp
    | [a], _, _ => simp
    | a :: b :: t, hl, h =>
      have ha := h a (by simp); have hb := h b (by simp)
      subst ha
      exact absurd hb.symm (fun e => (List.nodup_cons.1 hl).1 (by rw [e]; simp))
theorem countP_part {l : List Int} (q c : Int → Bool) : l.countP q = l.countP (fun x => q x && c x) + l.countP (fun x => q x && !c x) := by
  induction l with
  | nil => rfl
  | cons a t ih =>
    simp only [List.countP_cons, ih]
    cases q a <;> cases c a <;> simp <;> omega
theorem least_of (l : List Int) (h : l ≠ []) : ∃ x ∈ l, ∀ y ∈ l, x ≤ y := by
  induction l with
  | nil => exact absurd rfl h
  | cons a t ih =>
    by_cases ht : t = []
    · subst ht; exact ⟨a, by simp, by simp⟩
    · obtain ⟨x, hx, hm⟩ := ih ht
      by_cases e : a ≤ x
      · refine ⟨a, by simp, fun y hy => ?_⟩
        rcases List.mem_cons.1 hy with rfl | hy
        · exact Int.le_refl _
        · have := hm y hy; omega
      · refine ⟨x, by simp [hx], fun y hy => ?_⟩
        rcases List.mem_cons.1 hy with rfl | hy
        · omega
        · exact hm y hy
/-- One element of a cycle is its least. -/
theorem one_least {n : Nat} {ps : List Int} (hb : Bij n ps) {a : Int} (a0 : 0 ≤ a) (a1 : a < n) : (rng n).countP (fun x => mn ps n x && decide (x ∈ cyc ps n a)) = 1 := by
  have hw := cyc_way hb a0 a1
  obtain ⟨x, hx, hm⟩ := least_of (cyc ps n a) (fun e => by have := hw.pos; rw [e] at this; simp at this)
  refine countP_one (rng_nodup n) (x := x) (mem_rng.2 ⟨hw.inn.lo x hx, hw.inn.hi x hx⟩) ?_ ?_
  · simp only [Bool.and_eq_true, decide_eq_true_eq, mn]
    exact ⟨fun y hy => hm y ((cyc_iff hb a0 a1 hx).1 hy), hx⟩
  · intro y hy q
    simp only [Bool.and_eq_true, decide_eq_true_eq, mn] at q
    have h1 := q.1 x ((cyc_iff hb a0 a1 q.2).2 hx)
    have h2 := hm y q.2
    omega
/-- ps' is ps behind an exchange of a and b. -/
structure Xch (n : Nat) (ps ps' : List Int) (a b : Nat) : Prop where
  p : Bij n ps
  p' : Bij n ps'
  ha : a < n
  hb : b < n
  ne : a ≠ b
  ea : ps'.getD a 0 = ps.getD b 0
  eb : ps'.getD b 0 = ps.getD a 0
  eo : ∀ i, i < n → i ≠ a → i ≠ b → ps'.getD i 0 = ps.getD i 0
theorem Xch.symm {n a b : Nat} {ps ps' : List Int} (h : Xch n ps ps' a b) : Xch n ps' ps a b := ⟨h.p', h.p, h.ha, h.hb, h.ne, h.eb.symm, h.ea.symm, fun i hi q r => (h.eo i hi q r).symm⟩
theorem Xch.other {n a b : Nat} {ps ps' : List Int} (h : Xch n ps ps' a b) {x : Int} (x0 : 0 ≤ x) (x1 : x < n) (q : x ≠ a) (r : x ≠ b) : ps'.getD x.toNat 0 = ps.getD x.toNat 0 := h.eo _ (by omega) (by omega) (by omega)
/-- Where a and b lie in different cycles, their union becomes one. -/
theorem Xch.merge {n a b : Nat} {ps ps' : List Int} (h : Xch n ps ps' a b) (hd : ¬ (b : Int) ∈ cyc ps n a) (x : Int) : x ∈ cyc ps' n a ↔ x ∈ cyc ps n a ∨ x ∈ cyc ps n b := by
  have a1 : (a : Int) < n := by have := h.ha; omega
  have b1 : (b : Int) < n := by have := h.hb; omega
  have hd' : ¬ (a : Int) ∈ cyc ps n b := fun q => hd (cyc_symm h.p (by omega) b1 q)
  have wa := cyc_way (f := (a : Int)) h.p (by omega) a1
  have wb := cyc_way (f := (b : Int)) h.p (by omega) b1
  have na := cyc_next h.p (f := (a : Int)) (by omega) a1 (cyc_self h.p (by omega) a1)
  have nb := cyc_next h.p (f := (b : Int)) (by omega) b1 (cyc_self h.p (by omega) b1)
  rw [Int.toNat_natCast] at na nb
  constructor
  · intro hx
    obtain ⟨m, rfl⟩ := (mem_cyc h.p' (by omega) a1).1 hx
    clear hx
    induction m with
    | zero => exact .inl (cyc_self h.p (by omega) a1)
    | succ m ih =>
      have mm := it_in h.p' (f := (a : Int)) (by omega) a1 m
      show ps'.getD (it ps' a m).toNat 0 ∈ _ ∨ ps'.getD (it ps' a m).toNat 0 ∈ _
      generalize it ps' (a : Int) m = z at *
      by_cases e1 : z = a
      · subst e1; rw [Int.toNat_natCast, h.ea]; exact .inr nb
      · by_cases e2 : z = b
        · subst e2; rw [Int.toNat_natCast, h.eb]; exact .inl na
        · rw [h.other mm.1 mm.2 e1 e2]
          rcases ih with q | q
          · exact .inl (cyc_next h.p (by omega) a1 q)
          · exact .inr (cyc_next h.p (by omega) b1 q)
  · have na' := cyc_next h.p' (f := (a : Int)) (by omega) a1 (cyc_self h.p' (by omega) a1)
    rw [Int.toNat_natCast, h.ea] at na'
    have B : ∀ m, it ps (b : Int) (m + 1) ∈ cyc ps' n a := by
      intro m
      induction m with
      | zero => show ps.getD (b : Int).toNat 0 ∈ _; rw [Int.toNat_natCast]; exact na'
      | succ m ih =>
        have mm := it_in h.p (f := (b : Int)) (by omega) b1 (m + 1)
        have mc := (mem_cyc h.p (f := (b : Int)) (by omega) b1).2 ⟨m + 1, rfl⟩
        show ps.getD (it ps b (m + 1)).toNat 0 ∈ _
        generalize it ps (b : Int) (m + 1) = z at *
        by_cases e2 : z = b
        · subst e2; rw [Int.toNat_natCast]; exact na'
        · rw [← h.other mm.1 mm.2 (fun e => hd' (e ▸ mc)) e2]
          exact cyc_next h.p' (by omega) a1 ih
    have bin : (b : Int) ∈ cyc ps' n a := by
      have e := way_last wb
      have hp := wb.pos
      obtain ⟨k, hk⟩ : ∃ k, (cyc ps n (b : Int)).length = k + 1 := ⟨(cyc ps n (b : Int)).length - 1, by omega⟩
      rw [hk] at e
      rw [e]; exact B k
    have nb' := cyc_next h.p' (by omega) a1 bin
    rw [Int.toNat_natCast, h.eb] at nb'
    have A : ∀ m, it ps (a : Int) m ∈ cyc ps' n a := by
      intro m
      induction m with
      | zero => exact cyc_self h.p' (by omega) a1
      | succ m ih =>
        have mm := it_in h.p (f := (a : Int)) (by omega) a1 m
        have mc := (mem_cyc h.p (f := (a : Int)) (by omega) a1).2 ⟨m, rfl⟩
        show ps.getD (it ps a m).toNat 0 ∈ _
        generalize it ps (a : Int) m = z at *
        by_cases e1 : z = a
        · subst e1; rw [Int.toNat_natCast]; exact nb'
        · rw [← h.other mm.1 mm.2 e1 (fun e => hd (e ▸ mc))]
          exact cyc_next h.p' (by omega) a1 ih
    rintro (q | q)
    · obtain ⟨m, rfl⟩ := (mem_cyc h.p (by omega) a1).1 q; exact A m
    · obtain ⟨m, rfl⟩ := (mem_cyc h.p (by omega) b1).1 q
      cases m with
      | zero => exact bin
      | succ m => exact B m
/-- Elsewhere cycles stay. -/
theorem Xch.away {n a b : Nat} {ps ps' : List Int} (h : Xch n ps ps' a b) {f : Int} (f0 : 0 ≤ f) (f1 : f < n) (ha : ¬ f ∈ cyc ps n a) (hb : ¬ f ∈ cyc ps n b) (x : Int) : x ∈ cyc ps' n f ↔ x ∈ cyc ps n f := by
  have a1 : (a : Int) < n := by have := h.ha; omega
  have b1 : (b : Int) < n := by have := h.hb; omega
  have e : ∀ m, it ps' f m = it ps f m := by
    intro m
    induction m with
    | zero => rfl
    | succ m ih =>
      have mm := it_in h.p f0 f1 m
      have mc := (mem_cyc h.p f0 f1).2 ⟨m, rfl⟩
      show ps'.getD (it ps' f m).toNat 0 = ps.getD (it ps f m).toNat 0
      rw [ih]
      generalize it ps f m = z at *
      refine h.other mm.1 mm.2 (fun e => ha ?_) (fun e => hb ?_)
      · subst e; exact cyc_symm h.p f0 f1 mc
      · subst e; exact cyc_symm h.p f0 f1 mc
  rw [mem_cyc h.p' f0 f1, mem_cyc h.p f0 f1]
  simp only [e]
/-- Two elements of one cycle come into different ones. -/
theorem Xch.split {n a b : Nat} {ps ps' : List Int} (h : Xch n ps ps' a b) (hd : (b : Int) ∈ cyc ps n a) : ¬ (b : Int) ∈ cyc ps' n a := by
  have a1 : (a : Int) < n := by have := h.ha; omega
  have wa := cyc_way (f := (a : Int)) h.p (by omega) a1
  obtain ⟨k, hk, ek⟩ := mem_getD hd
  have ek' := way_it wa k hk
  rw [ek] at ek'
  have lst := way_last wa
  have k0 : 0 < k := by
    rcases Nat.eq_zero_or_pos k with e | e
    · subst e; rw [wa.head] at ek; exact absurd (by omega) h.ne
    · exact e
  have key : ∀ m, ∃ j, k < j ∧ j ≤ (cyc ps n (a : Int)).length ∧ it ps' a m = it ps a j := by
    intro m
    induction m with
    | zero => exact ⟨_, hk, Nat.le_refl _, lst⟩
    | succ m ih =>
      obtain ⟨j, j1, j2, e⟩ := ih
      by_cases jl : j = (cyc ps n (a : Int)).length
      · refine ⟨k + 1, by omega, by omega, ?_⟩
        show ps'.getD (it ps' a m).toNat 0 = ps.getD (it ps a k).toNat 0
        rw [e, jl, ← lst, ← ek', Int.toNat_natCast, Int.toNat_natCast, h.ea]
      · refine ⟨j + 1, by omega, by omega, ?_⟩
        show ps'.getD (it ps' a m).toNat 0 = ps.getD (it ps a j).toNat 0
        rw [e]
        have mm := it_in h.p (f := (a : Int)) (by omega) a1 j
        have gj := way_it wa j (by omega)
        refine h.other mm.1 mm.2 (fun q => ?_) (fun q => ?_)
        · have := nodup_getD wa.inn.nd (i := j) (j := 0) (by omega) (by omega) (by rw [gj, q, wa.head]); omega
        · have := nodup_getD wa.inn.nd (i := j) (j := k) (by omega) hk (by rw [gj, q, ek]); omega
  intro q
  obtain ⟨m, e⟩ := (mem_cyc h.p' (by omega) a1).1 q
  obtain ⟨j, j1, j2, e2⟩ := key m
  rw [e] at e2
  by_cases jl : j = (cyc ps n (a : Int)).length
  · rw [jl, ← lst] at e2; exact h.ne (by omega)
  · have gj := way_it wa j (by omega)
    have := nodup_getD wa.inn.nd (i := j) (j := k) (by omega) hk (by rw [gj, ← e2, ek]); omega
def cnum (ps : List Int) (n : Nat) : Nat := (cso ps n n).length
theorem Xch.plus {n a b : Nat} {ps ps' : List Int} (h : Xch n ps ps' a b) (hd : ¬ (b : Int) ∈ cyc ps n a) : cnum ps n = cnum ps' n + 1 := by
  have a1 : (a : Int) < n := by have := h.ha; omega
  have b1 : (b : Int) < n := by have := h.hb; omega
  have dis : ∀ x, x ∈ cyc ps n (a : Int) → ¬ x ∈ cyc ps n (b : Int) := fun x qa qb => hd (cyc_trans h.p (by omega) a1 qa (cyc_symm h.p (by omega) b1 qb))
  unfold cnum
  rw [cso_count h.p n (Nat.le_refl _), cso_count h.p' n (Nat.le_refl _)]
  rw [countP_part (mn ps n) (fun x => decide (x ∈ cyc ps n a)), one_least h.p (by omega) a1]
  rw [countP_part (fun x => mn ps n x && !decide (x ∈ cyc ps n (a : Int))) (fun x => decide (x ∈ cyc ps n b))]
  rw [countP_part (mn ps' n) (fun x => decide (x ∈ cyc ps' n a)), one_least h.p' (by omega) a1]
  have e1 : (rng n).countP (fun x => (mn ps n x && !decide (x ∈ cyc ps n (a : Int))) && decide (x ∈ cyc ps n (b : Int))) = 1 := by
    rw [← one_least h.p (a := (b : Int)) (by omega) b1]
    refine List.countP_congr fun x _ => ?_
    simp only [Bool.and_eq_true, Bool.not_eq_true', decide_eq_true_eq, decide_eq_false_iff_not]
    exact ⟨fun q => ⟨q.1.1, q.2⟩, fun q => ⟨⟨q.1, fun r => dis x r q.2⟩, q.2⟩⟩
  have e2 : (rng n).countP (fun x => (mn ps n x && !decide (x ∈ cyc ps n (a : Int))) && !decide (x ∈ cyc ps n (b : Int))) = (rng n).countP (fun x => mn ps' n x && !decide (x ∈ cyc ps' n (a : Int))) := by
    refine List.countP_congr fun x hx => ?_
    rw [mem_rng] at hx
    simp only [Bool.and_eq_true, Bool.not_eq_true', decide_eq_true_eq, decide_eq_false_iff_not, h.merge hd x, mn]
    constructor
    · rintro ⟨⟨q1, q2⟩, q3⟩
      exact ⟨fun y hy => q1 y ((h.away hx.1 hx.2 q2 q3 y).1 hy), fun r => r.elim q2 q3⟩
    · rintro ⟨q1, q2⟩
      have n1 : ¬ x ∈ cyc ps n (a : Int) := fun r => q2 (.inl r)
      have n2 : ¬ x ∈ cyc ps n (b : Int) := fun r => q2 (.inr r)
      exact ⟨⟨fun y hy => q1 y ((h.away hx.1 hx.2 n1 n2 y).2 hy), n1⟩, n2⟩
  rw [e1, e2]
  omega
/-- The number of cycles changes its parity. -/
theorem Xch.parity {n a b : Nat} {ps ps' : List Int} (h : Xch n ps ps' a b) : (cnum ps n + cnum ps' n) % 2 = 1 := by
  by_cases hd : (b : Int) ∈ cyc ps n a
  · have := h.symm.plus (h.split hd); omega
  · have := h.plus hd; omega
end Go.Proofs.Ytngglhbcpeigcaa.pm
