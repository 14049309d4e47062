import Derived.Test.YtkkklpchkkdhfaaY15
import Derived.Test.YtkkklpchkkdhfaaY12
import Derived.Laws.CopyOwn
import Derived.Laws.IdiomStrings
import Derived.Test.YtkkklpchkkdhfaaY14
/-
  How many steps of each kind a word has; SlopeFrom of the program.
-/
namespace Go.Proofs.Ytkkklpchkkdhfaa.pth
open Go.ChangeShapes Go.WideShapes Go.ChangeAt Go.RowKit
open Go.Proofs.Ytkkklpchkkdhfaa.mem Go.Proofs.Ytkkklpchkkdhfaa.ints Go.Proofs.Ytkkklpchkkdhfaa.arr Go.Proofs.Ytkkklpchkkdhfaa.pm Go.Proofs.Ytkkklpchkkdhfaa.dr
set_option linter.unusedVariables false
set_option maxRecDepth 100000
set_option linter.unusedSimpArgs false
theorem ru_cnt : ∀ L : List UInt8, L.count 114 + L.count 117 ≤ L.length ∧ ((L.all fun c => c == 114 || c == 117) = true ↔ L.count 114 + L.count 117 = L.length)
  | [] => by simp
  | c :: L => by
    obtain ⟨h1, h2⟩ := ru_cnt L
    rw [List.all_cons, List.count_cons, List.count_cons, List.length_cons, Bool.and_eq_true, h2]
    by_cases a : c = 114
    · subst a
      have e : ((114 : UInt8) == 117) = false := by decide
      simp [e]; omega
    · by_cases b : c = 117
      · subst b
        have e : ((117 : UInt8) == 114) = false := by decide
        simp [e]; omega
      · have e1 : (c == 114) = false := by simpa using a
        have e2 : (c == 117) = false := by simpa using b
        simp [e1, e2]; omega
def cR (s : ByteArray) : Nat := s.data.toList.count 114
def cU (s : ByteArray) : Nat := s.data.toList.count 117
theorem len_list (s : ByteArray) : s.data.toList.length = s.size := Array.length_toList
theorem c_le (s : ByteArray) : cR s + cU s ≤ s.size := by
  have := (ru_cnt s.data.toList).1
  rw [len_list] at this
  exact this
theorem c_ru (s : ByteArray) : ruB s = true ↔ cR s + cU s = s.size := by
  have := (ru_cnt s.data.toList).2
  rw [len_list] at this
  exact this
theorem sfP_c (s : ByteArray) : sfP s = cR s := by
  unfold sfP cnR cR
  rw [List.take_of_length_le (by rw [len_list]; exact Nat.le_refl _), List.count_eq_countP, List.countP_eq_length_filter]
theorem sw_ru {p q : Int} : ruB (swF p q) = true := by
  cases h : slB p q
  · rw [swF_no h]; rfl
  · obtain ⟨a, b, rfl, rfl, _⟩ := sl_nat h
    rw [swF_yes h]
    unfold ruB
    have e : (wd (swL a b)).data.toList = swL a b := by simp [wd]
    rw [e, List.all_eq_true]
    intro c hc
    rcases swL_or hc with rfl | rfl <;> rfl
theorem sw_size {p q : Int} (h : slB p q = true) : (swF p q).size = p.toNat + q.toNat := by
  obtain ⟨a, b, rfl, rfl, _⟩ := sl_nat h
  rw [swF_yes h, wd_size, swL_len, Int.toNat_natCast, Int.toNat_natCast]
theorem sf_no0 {s : ByteArray} (h : s.size = 0) : sfB s = false := by
  cases e : sfB s
  · rfl
  · unfold sfB at e
    rw [Bool.and_eq_true] at e
    obtain ⟨a, b, e1, e2, _, h1, _⟩ := sl_nat e.1
    have hp : sfP s ≤ s.size := cnR_le s s.size
    omega
theorem sf_is {s : ByteArray} (h : s.size ≠ 0) : sfB s = decide (swF (cR s : Int) (cU s : Int) = s) := by
  have hle := c_le s
  by_cases e : swF (cR s : Int) (cU s : Int) = s
  · rw [decide_eq_true e]
    have hr : ruB s = true := by rw [← e]; exact sw_ru
    have hc := (c_ru s).1 hr
    have hs : slB (cR s : Int) (cU s : Int) = true := by
      cases q : slB (cR s : Int) (cU s : Int)
      · rw [swF_no q] at e
        have : s.size = 0 := by rw [← e]; rfl
        exact absurd this h
      · rfl
    unfold sfB
    rw [sfP_c, show s.size - cR s = cU s by omega, hs, e]
    simp
  · rw [decide_eq_false e]
    cases q : sfB s
    · rfl
    · unfold sfB at q
      rw [Bool.and_eq_true, decide_eq_true_eq] at q
      have hr : ruB s = true := by rw [← q.2]; exact sw_ru
      have hc := (c_ru s).1 hr
      have hq := q.2
      rw [sfP_c, show s.size - cR s = cU s by omega] at hq
      exact absurd hq e
set_option maxHeartbeats 1000000 in
theorem cs_any (s : ByteArray) (w : World) :
    Calls Try.prog 39 #[.string s] w fun e w' => e = .returned (.tuple #[.int .i64 (cR s), .int .i64 (cU s)]) ∧ w' = w := by
  go_enter Try.func39, Try.ntmps39
  go_wp2_with fail
  refine (Try.strings_Count_one s 114 _).mono ?_
  rintro e w1 ⟨rfl, rfl⟩
  go_wp2_with fail
  refine (Try.strings_Count_one s 117 _).mono ?_
  rintro e w2 ⟨rfl, rfl⟩
  go_wp2_with fail
  go_ret2
  exact ⟨rfl, rfl⟩
set_option maxHeartbeats 2000000 in
theorem sf_impl (s : ByteArray) (w : World) (hs : s.size ≤ 1048576) :
    Calls Try.prog 13 #[.string s] w fun e w' => e = .returned (.tuple #[.int .i64 (sfX s), .int .i64 (sfY s), .bool (sfB s)]) ∧ Below w.heap.size w w' := by
  go_enter Try.func13, Try.ntmps13
  go_wp2_with fail
  refine (cs_any s _).mono ?_
  rintro e w1 ⟨rfl, rfl⟩
  have hle := c_le s
  by_cases h0 : s.size = 0
  · have HB := Lib.hid (sf_no0 h0)
    have HX : Hid (sfX s = 0) := Lib.hid (by unfold sfX; rw [HB.out]; rfl)
    have HY : Hid (sfY s = 0) := Lib.hid (by unfold sfY; rw [HB.out]; rfl)
    have he : s = ⟨#[]⟩ := by apply ByteArray.ext; exact Array.eq_empty_of_size_eq_zero h0
    subst he
    go_wp2_with fail
    go_ret3
    exact ⟨by rw [HX.out, HY.out, HB.out]; rfl, Below.refl _ _⟩
  have hne0 : (s.toList == []) = false := by
    rw [beq_eq_false_iff_ne]
    intro e
    rw [ByteArray.toList_eq] at e
    have := len_list s
    rw [e] at this
    exact h0 this.symm
  have hse : ¬ s = ⟨#[]⟩ := fun e => h0 (by rw [e]; rfl)
  have IS := Lib.hid (sf_is h0)
  have XE : Hid (sfB s = true → sfX s = (cR s : Int)) := Lib.hid (fun h => by unfold sfX; rw [if_pos h, sfP_c])
  have YE : Hid (sfB s = true → sfY s = (cU s : Int)) := Lib.hid (fun h => by
    unfold sfY
    rw [if_pos h, sfP_c]
    have h2 := h
    rw [IS.out, decide_eq_true_eq] at h2
    have hr : ruB s = true := by rw [← h2]; exact sw_ru
    have := (c_ru s).1 hr
    omega)
  generalize cR s = a at *
  generalize cU s = b at *
  go_wp2_with fail
  refine (sw_impl (a : Int) (b : Int) _ (by omega) (by omega) (by omega) (by omega)).mono ?_
  rintro e w2 ⟨rfl, b1⟩
  have B1 := Lib.hid b1; clear b1
  obtain ⟨W, hW⟩ : ∃ W, swF (a : Int) (b : Int) = W := ⟨_, rfl⟩
  rw [hW] at IS ⊢
  clear hW
  by_cases he : W = s
  · have HB : Hid (sfB s = true) := Lib.hid (by rw [IS.out, decide_eq_true he])
    have HX : Hid (sfX s = (a : Int)) := Lib.hid (XE.out HB.out)
    have HY : Hid (sfY s = (b : Int)) := Lib.hid (YE.out HB.out)
    clear IS XE YE
    subst he
    go_wp2_with fail
    go_ret3
    exact ⟨by rw [HX.out, HY.out, HB.out]; rfl, B1.out⟩
  · have HB : Hid (sfB s = false) := Lib.hid (by rw [IS.out, decide_eq_false he])
    have HX : Hid (sfX s = 0) := Lib.hid (by unfold sfX; rw [HB.out]; rfl)
    have HY : Hid (sfY s = 0) := Lib.hid (by unfold sfY; rw [HB.out]; rfl)
    have hne : (W.toList == s.toList) = false := by
      rw [beq_eq_false_iff_ne]
      intro e
      rw [ByteArray.toList_eq, ByteArray.toList_eq] at e
      exact he (bytes_inj e)
    clear IS XE YE
    go_wp2_with fail
    go_ret3
    exact ⟨by rw [HX.out, HY.out, HB.out]; rfl, B1.out⟩
end Go.Proofs.Ytkkklpchkkdhfaa.pth

/-
  Windows of a word, by how much they differ; IsBalanced of the program.
-/
namespace Go.Proofs.Ytkkklpchkkdhfaa.pth
open Go.ChangeShapes Go.WideShapes Go.ChangeAt Go.RowKit
open Go.Proofs.Ytkkklpchkkdhfaa.mem Go.Proofs.Ytkkklpchkkdhfaa.ints Go.Proofs.Ytkkklpchkkdhfaa.arr Go.Proofs.Ytkkklpchkkdhfaa.pm Go.Proofs.Ytkkklpchkkdhfaa.dr
set_option linter.unusedVariables false
set_option maxRecDepth 100000
set_option linter.unusedSimpArgs false
/-- The letters of a window. -/
def winL (L : List UInt8) (f c : Nat) : List UInt8 := (List.range c).map fun k => L.getD ((f + k) % L.length) 0
theorem winL_len (L : List UInt8) (f c : Nat) : (winL L f c).length = c := by simp [winL]
theorem win_two {L : List UInt8} {f c b : Nat} (hf : f < L.length) (hc : c ≤ L.length) (hb : b = min c (L.length - f)) : (L.drop f).take b ++ L.take (c - b) = winL L f c := by
  unfold winL
  apply List.ext_getElem
  · simp; omega
  · intro k h1 h2
    have h2' : k < c := by simpa using h2
    rw [List.getElem_map, List.getElem_range]
    by_cases hk : k < b
    · rw [List.getElem_append_left (by simp; omega), List.getElem_take, List.getElem_drop, Nat.mod_eq_of_lt (by omega), List.getD_eq_getElem?_getD, List.getElem?_eq_getElem (by omega)]
      rfl
    · have e : ((L.drop f).take b).length = b := by simp; omega
      rw [List.getElem_append_right (by omega), List.getElem_take]
      simp only [e]
      have hm : (f + k) % L.length = k - b := by
        rw [show f + k = (k - b) + L.length by omega, Nat.add_mod_right, Nat.mod_eq_of_lt (by omega)]
      rw [hm, List.getD_eq_getElem?_getD, List.getElem?_eq_getElem (by omega)]
      rfl
theorem win_ct (s : ByteArray) (f : Nat) : ∀ c, (winL s.data.toList f c).count 114 = ctW s f c
  | 0 => rfl
  | c + 1 => by
    have e : winL s.data.toList f (c + 1) = winL s.data.toList f c ++ [atW s (f + c)] := by
      unfold winL atW
      rw [List.range_succ, List.map_append, len_list]
      rfl
    rw [e, List.count_append, win_ct s f c, ctW]
    by_cases h : atW s (f + c) = 114
    · rw [if_pos h, h]; rfl
    · rw [if_neg h, List.count_eq_zero.2 (by simpa using fun q => h q.symm)]
theorem bytes_back (L : List UInt8) : Lib.bytesOf (L.map fun c => (c.toNat : Int)) = L := by
  unfold Lib.bytesOf
  rw [List.map_map]
  conv => rhs; rw [← List.map_id L]
  refine List.map_congr_left fun c _ => ?_
  simp
/-- The least and the greatest number in the first windows. -/
structure Sp (s : ByteArray) (c k lo hi : Nat) : Prop where
  le : lo ≤ c ∧ hi ≤ c
  all : ∀ x, x < k → lo ≤ ctW s x c ∧ ctW s x c ≤ hi
  nil : k = 0 → lo = c ∧ hi = 0
  some : 0 < k → (∃ x, x < k ∧ ctW s x c = lo) ∧ ∃ x, x < k ∧ ctW s x c = hi
theorem Sp.start (s : ByteArray) (c : Nat) : Sp s c 0 c 0 := ⟨by omega, fun x h => by omega, fun _ => ⟨rfl, rfl⟩, fun h => by omega⟩
theorem Sp.next {s : ByteArray} {c k lo hi : Nat} (h : Sp s c k lo hi) : Sp s c (k + 1) (min lo (ctW s k c)) (max hi (ctW s k c)) := by
  have hc := ctW_le s k c
  obtain ⟨l1, l2⟩ := h.le
  refine ⟨by omega, fun x hx => ?_, fun q => by omega, fun _ => ?_⟩
  · by_cases e : x = k
    · subst e; omega
    · have := h.all x (by omega); omega
  · rcases Nat.eq_zero_or_pos k with rfl | hk
    · obtain ⟨rfl, rfl⟩ := h.nil rfl
      exact ⟨⟨0, by omega, by omega⟩, ⟨0, by omega, by omega⟩⟩
    · obtain ⟨⟨x, hx, ex⟩, ⟨y, hy, ey⟩⟩ := h.some hk
      constructor
      · by_cases q : lo ≤ ctW s k c
        · exact ⟨x, by omega, by omega⟩
        · exact ⟨k, by omega, by omega⟩
      · by_cases q : ctW s k c ≤ hi
        · exact ⟨y, by omega, by omega⟩
        · exact ⟨k, by omega, by omega⟩
theorem Sp.ok {s : ByteArray} {c lo hi : Nat} (h : Sp s c s.size lo hi) (h0 : 0 < s.size) : okC s c ↔ (hi : Int) - (lo : Int) ≤ 1 := by
  obtain ⟨⟨x, hx, ex⟩, ⟨y, hy, ey⟩⟩ := h.some h0
  constructor
  · intro q
    have := q y hy x hx
    omega
  · intro q f hf g hg
    have a := h.all f hf; have b := h.all g hg
    omega
theorem splice_two {α : Type} (Z X1 X2 : List α) {b c : Nat} (hz : Z.length = c) (h1 : X1.length = b) (h2 : X2.length = c - b) (hb : b ≤ c) : splice (splice Z 0 X1) b X2 = X1 ++ X2 := by
  have e1 : splice Z 0 X1 = X1 ++ Z.drop b := by simp [splice, h1]
  have e2 : (X1 ++ Z.drop b).length = c := by simp; omega
  rw [e1]
  unfold splice
  have e3 : (X1 ++ Z.drop b).drop c = [] := List.drop_of_length_le (by omega)
  have e4 : (X1 ++ Z.drop b).take b = X1 := by rw [List.take_append_of_le_length (by omega), List.take_of_length_le (by omega)]
  rw [h2, show b + (c - b) = c by omega, e3, e4, List.append_nil]
theorem BV_app (A B : List UInt8) : BV A ++ BV B = BV (A ++ B) := by simp [BV]
theorem BV_len (L : List UInt8) : (BV L).length = L.length := by simp [BV]
theorem BV_at {L : List UInt8} {j : Nat} {v : Value} (h : (BV L)[j]? = some v) : ∃ hj : j < L.length, v = .int .u8 (L[j].toNat : Int) := by
  unfold BV at h
  rw [List.getElem?_map] at h
  cases e : L[j]? with
  | none => rw [e] at h; cases h
  | some c =>
    obtain ⟨hj, q⟩ := List.getElem?_eq_some_iff.1 e
    rw [e] at h
    exact ⟨hj, by rw [q]; exact (Option.some.inj h).symm⟩

/-- A slice expression whose value is known, ahead of the walk's own way of parting at its bounds. -/
theorem wpList_slice_val {P : Program} {ops : Array Oper} {rest : List Oper} {o : Oper} {a : Act} {w : World} {Q : Exit → Act → World → Prop} (hgd : o.guard = none) (t : TypeId) (x : Operand) (lo hi mx : Option Operand) (ho : o.op = .slice t x lo hi mx)
    (v : Value) (hr : (Instr.sliceAt t (a.eval x) (lo.map a.eval) (hi.map a.eval) (mx.map a.eval)).run P w = .ok v w) (h : wpList P ops Q rest (a.put o.dst v) w) : wpList P ops Q (o :: rest) a w := by
  refine wpList_plain hgd fun K hK => ?_
  unfold Oper.wp execOp
  simp only [ho, Sem.run_bind, hr, Result.andThen_ok]
  exact hK _ _ h

set_option maxHeartbeats 4000000 in
theorem win_any (L : List UInt8) (g f c cap : Nat) (w : World) (hg : g < w.heap.size) (hL : ∀ (j : Nat) (h : j < L.length), w.cell? ⟨g, j, none⟩ = some (.int .u8 (L[j].toNat : Int))) (h40 : L.length ≤ 40) (hcap : L.length ≤ cap) (hf : f < L.length) (hc : c ≤ L.length) :
    Calls Try.prog 60 #[.slice (some ⟨g, 0, none⟩) L.length cap, .int .i64 f, .int .i64 c] w fun e w' => e = .returned (.slice (some ⟨w.heap.size, 0, none⟩) c c) ∧ w'.heap[w.heap.size]? = some (.cells (BV (winL L f c)).toArray 5 (0, 0)) ∧ Below w.heap.size w w' := by
  obtain ⟨i0, hi0, hz0, hz1, hz2⟩ := info_parts infoU8
  have HZ2 := Lib.hid hz2; clear hz2
  have HL := Lib.hid hL; clear hL
  obtain ⟨N, hN⟩ : ∃ N, N = L.length := ⟨_, rfl⟩
  obtain ⟨E, hE⟩ : ∃ E, E = min (f + c) N := ⟨_, rfl⟩
  obtain ⟨b, hb⟩ : ∃ b, b = min c (N - f) := ⟨_, rfl⟩
  have W2 := Lib.hid (win_two (L := L) (f := f) (c := c) (b := b) hf hc (by rw [hb, hN]))
  rw [← hN] at h40 hcap hf hc ⊢
  have HN := Lib.hid hN; clear hN
  have m1 : min ((f : Int) + (c : Int)) (N : Int) = (E : Int) := by rw [hE]; omega
  have hw : IntKind.i64.wrap ((f : Int) + (c : Int)) = (f : Int) + (c : Int) := IntWalk.i64_in _ (by omega)
  have hEb : E = f + b := by omega
  have hbc : b ≤ c := by omega
  have hbN : f + b ≤ N := by omega
  clear hE hb
  go_enter Try.func60, Try.ntmps60
  go_wp2_with (at_make; refine wpList_make_full _ rfl _ _ 22 rfl w.heap.size 5 i0 _ 1 Try.underlying22 hi0 hz0 hz1 _ _ _ _ c rfl rfl rfl rfl ?b2 ?b3 (Nat.le_refl _) ?_)
  case b2 => rw [HZ2.out]; omega
  case b3 => unfold maxLen; omega
  intro w1 hown hgr
  have b1 : Below w.heap.size w w1 := (Below.refl _ _).grown hgr (Nat.le_refl _) (by simp)
  have A1 : Hid (Arr w1 w.heap.size (List.replicate c (.int .u8 0)) 5) := Lib.hid (by have := fns.own_arr hown; simpa [toList_madeCells_one] using this)
  have HS : ∃ SA : Option Addr, Hid (0 < b → SA = some ⟨g, f, none⟩) ∧ ∀ w, (Instr.sliceAt 22 (.slice (some ⟨g, 0, none⟩) N cap) (some (.int .i64 (f : Int))) (some (.int .i64 (E : Int))) (some (.int .i64 (E : Int)))).run Try.prog w = .ok (.slice SA b b) w := by
    refine ⟨if E = f then some ⟨g, 0, none⟩ else some ⟨g, f, none⟩, Lib.hid (fun h => by rw [if_neg (by omega)]), fun w => ?_⟩
    rw [run_sliceAt_slice w 22 _ _ _ _ Try.underlying22, run_slice_lhm w 22 (some ⟨g, 0, none⟩) N cap Try.underlying22 .i64 .i64 .i64 (f : Int) (E : Int) (E : Int) (by omega) (by omega) (by omega) (by omega)]
    have hz : (sizeOf (Try.prog.elem 22)).run Try.prog w = .ok 1 w := by kernel_rfl
    rw [hz, Int.toNat_natCast, Int.toNat_natCast]
    simp only [Result.andThen_ok, sliced]
    have e1 : E - f = b := by omega
    rw [e1]
    by_cases q : E = f
    · rw [if_pos q, if_pos q]
    · rw [if_neg q, if_neg q]; simp only [Option.map_some, Addr.add, Nat.mul_one, Nat.zero_add]; split <;> simp_all
  obtain ⟨SA, HSA, hsl⟩ := HS
  have HS2 : ∃ SB : Option Addr, Hid (b < c → SB = some ⟨w.heap.size, b, none⟩) ∧ ∀ wx, (Instr.sliceAt 22 (.slice (some ⟨w.heap.size, 0, none⟩) c c) (some (.int .i64 (b : Int))) none none).run Try.prog wx = .ok (.slice SB (c - b) (c - b)) wx := by
    refine ⟨if c = b then some ⟨w.heap.size, 0, none⟩ else some ⟨w.heap.size, b, none⟩, Lib.hid (fun h => by rw [if_neg (by omega)]), fun wx => ?_⟩
    rw [run_sliceAt_slice wx 22 _ _ _ _ Try.underlying22, run_slice_l wx 22 (some ⟨w.heap.size, 0, none⟩) c c Try.underlying22 .i64 (b : Int) (by omega) (by omega)]
    have hz : (sizeOf (Try.prog.elem 22)).run Try.prog wx = .ok 1 wx := by kernel_rfl
    rw [hz, Int.toNat_natCast]
    simp only [Result.andThen_ok, sliced]
    by_cases q : c = b
    · rw [if_pos q, if_pos q]
    · rw [if_neg q, if_neg q]; simp only [Option.map_some, Addr.add, Nat.mul_one, Nat.zero_add]; split <;> simp_all
  obtain ⟨SB, HSB, hsl2⟩ := HS2
  have hsz : (Try.prog.info? 5).map (·.size) = some 1 := by kernel_rfl
  obtain ⟨X1, hX1⟩ : ∃ X1, X1 = BV ((L.drop f).take b) := ⟨_, rfl⟩
  obtain ⟨X2, hX2⟩ : ∃ X2, X2 = BV (L.take (c - b)) := ⟨_, rfl⟩
  have l1 : X1.length = b := by rw [hX1, BV_len, List.length_take, List.length_drop, ← HN.out]; omega
  have l2 : X2.length = c - b := by rw [hX2, BV_len, List.length_take, ← HN.out]; omega
  have HX1 := Lib.hid hX1; have HX2 := Lib.hid hX2; clear hX1 hX2
  have O1 : Hid (∀ v ∈ X1, v.oneCell' = true) := Lib.hid (by rw [HX1.out]; intro v hv; unfold BV at hv; rw [List.mem_map] at hv; obtain ⟨c, _, rfl⟩ := hv; rfl)
  have O2 : Hid (∀ v ∈ X2, v.oneCell' = true) := Lib.hid (by rw [HX2.out]; intro v hv; unfold BV at hv; rw [List.mem_map] at hv; obtain ⟨c, _, rfl⟩ := hv; rfl)
  have B1 := Lib.hid b1
  have P1 : Hid (∀ wx, Below w.heap.size w wx → 0 < X1.length → SA = some ⟨g, f, none⟩ ∧ ∀ (j : Nat) v, X1[j]? = some v → wx.cell? ((⟨g, f, none⟩ : Addr).add j) = some v) := Lib.hid (fun wx hb h => ⟨HSA.out (by omega), fun j v hv => by
    rw [HX1.out] at hv
    obtain ⟨hj, rfl⟩ := BV_at hv
    have e : (⟨g, f, none⟩ : Addr).add j = ⟨g, f + j, none⟩ := by unfold Addr.add; split <;> simp_all
    rw [e, hb.cell (show g < _ by omega)]
    rw [List.length_take, List.length_drop] at hj
    rw [HL.out (f + j) (by omega), List.getElem_take, List.getElem_drop]⟩)
  have P2 : Hid (∀ wx, Below w.heap.size w wx → 0 < X2.length → SB = some ⟨w.heap.size, b, none⟩ ∧ ∀ (j : Nat) v, X2[j]? = some v → wx.cell? ((⟨g, 0, none⟩ : Addr).add j) = some v) := Lib.hid (fun wx hb h => ⟨HSB.out (by omega), fun j v hv => by
    rw [HX2.out] at hv
    obtain ⟨hj, rfl⟩ := BV_at hv
    have e : (⟨g, 0, none⟩ : Addr).add j = ⟨g, j, none⟩ := by unfold Addr.add; split <;> simp_all
    rw [e, hb.cell (show g < _ by omega)]
    rw [List.length_take] at hj
    rw [HL.out j (by omega), List.getElem_take]⟩)
  clear hown hgr b1
  have HSL := Lib.hid hsl; have HSL2 := Lib.hid hsl2
  clear hsl hsl2 hEb
  go_wp2_with (first | (refine wpList_slice_val rfl 22 (.tmp 19) (some (.tmp 20)) (some (.tmp 21)) (some (.tmp 22)) rfl (.slice SA b b) (HSL.out _) ?_) | (refine wpList_copy_splice rfl (.tmp 18) (.tmp 23) 22 22 rfl 5 Try.underlying22 hsz _ _ _ _ _ _ rfl rfl w.heap.size 0 (List.replicate c (.int .u8 0)) 5 A1.out X1 (by rw [l1]; exact (Nat.min_eq_left hbc).symm) (fun h => ⟨rfl, _, (P1.out _ B1.out h).1, (P1.out _ B1.out h).2⟩) (by rw [l1, List.length_replicate]; omega) O1.out w.heap.size w B1.out (Nat.le_refl _) ?_))
  intro w2 A2 b2
  replace B1 := Lib.hid b2; clear b2 A1
  go_wp2_with (first | (refine wpList_slice_val rfl 22 (.tmp 25) (some (.tmp 26)) none none rfl (.slice SB (c - b) (c - b)) (HSL2.out _) ?_) | (refine wpList_copy_splice rfl (.tmp 27) (.tmp 28) 22 22 rfl 5 Try.underlying22 hsz _ _ _ _ _ _ rfl rfl w.heap.size b (splice (List.replicate c (.int .u8 0)) 0 X1) 5 A2.out X2 (by rw [l2]; exact (Nat.min_eq_right (by omega)).symm) (fun h => ⟨(P2.out _ B1.out h).1, _, rfl, (P2.out _ B1.out h).2⟩) (by rw [l2, length_splice _ _ _ (by rw [l1, List.length_replicate]; omega), List.length_replicate]; omega) O2.out w.heap.size w B1.out (Nat.le_refl _) ?_))
  intro w3 A3 b3
  have A4 : Hid (w3.heap[w.heap.size]? = some (.cells (BV (winL L f c)).toArray 5 (0, 0))) := Lib.hid (by
    have h := A3.out
    rw [splice_two _ X1 X2 List.length_replicate l1 l2 hbc, HX1.out, HX2.out, BV_app, W2.out] at h
    exact h)
  replace B1 := Lib.hid b3; clear b3 A3 A2
  go_wp2_with fail
  go_ret
  exact ⟨rfl, A4.out, B1.out⟩

set_option maxHeartbeats 4000000 in
theorem spread_any (s : ByteArray) (g c cap : Nat) (w : World) (hg : g < w.heap.size) (hL : ∀ (j : Nat) (h : j < s.data.toList.length), w.cell? ⟨g, j, none⟩ = some (.int .u8 (s.data.toList[j].toNat : Int))) (h40 : s.size ≤ 40) (hcap : s.size ≤ cap) (h0 : 0 < s.size) (hc : c ≤ s.size) :
    Calls Try.prog 40 #[.slice (some ⟨g, 0, none⟩) s.size cap, .int .i64 c] w fun e w' => (∃ d : Int, e = .returned (.int .i64 d) ∧ -100 ≤ d ∧ d ≤ 100 ∧ (okC s c ↔ d ≤ 1)) ∧ Below w.heap.size w w' := by
  have HL := Lib.hid hL; clear hL
  have LL := len_list s
  go_enter Try.func40, Try.ntmps40
  go_wp2_with fail
  go_loopw [5, 6, 12] (fun lv hv kv wr => ∃ k lo hi : Nat, k ≤ s.size ∧ lv = .int .i64 lo ∧ hv = .int .i64 hi ∧ kv = .int .i64 k ∧ Hid (Sp s c k lo hi) ∧ Hid (Below w.heap.size w wr)) (fun _ _ kv _ => s.size - (intOf kv).toNat)
  case atStart => exact ⟨0, c, 0, Nat.zero_le _, rfl, rfl, rfl, Lib.hid (Sp.start s c), Lib.hid (Below.refl _ _)⟩
  case round =>
    obtain ⟨k, lo, hi, hk, rfl, rfl, rfl, HS, HB⟩ := hrel
    obtain ⟨l1, l2⟩ := HS.out.le
    by_cases hlt : k < s.size
    · go_wp2_with fail
      have e5 : s.size = s.data.toList.length := LL.symm
      have WA := win_any s.data.toList g k c cap wr (by have := HB.out.size; omega) (fun j h => by rw [HB.out.cell (show g < _ by omega)]; exact HL.out j h) (by omega) (by omega) (by omega) (by omega)
      rw [LL] at WA
      refine WA.mono ?_
      rintro e w1 ⟨rfl, a1, b1⟩
      have A1 := Lib.hid a1
      have B1 := Lib.hid (HB.out.trans (b1.mono HB.out.size))
      have s1 : wr.heap.size < w1.heap.size := (Array.getElem?_eq_some_iff.1 a1).1
      clear b1 a1 WA e5
      have CT : Hid (Lib.countByte (Lib.bytesOf ((winL s.data.toList k c).map fun c => (c.toNat : Int))) (114 : Int).toNat.toUInt8 = ctW s k c) := Lib.hid (by rw [bytes_back, ← win_ct]; rfl)
      have XL : Hid (((winL s.data.toList k c).map fun c => (c.toNat : Int)).length = c) := Lib.hid (by rw [List.length_map, winL_len])
      have XC : Hid (∀ j, j < c → w1.cell? ⟨wr.heap.size, 0 + j, none⟩ = some (.int .u8 (((winL s.data.toList k c).map fun c => (c.toNat : Int)).getD j 0))) := Lib.hid (fun j hj => by
        rw [Nat.zero_add]
        have h := Arr.cell (show Arr w1 wr.heap.size (BV (winL s.data.toList k c)) 5 from A1.out) (k := j) (v := .int .u8 (((winL s.data.toList k c).map fun c => (c.toNat : Int)).getD j 0)) (by
          unfold BV
          rw [List.getD_eq_getElem?_getD, List.getElem?_map, List.getElem?_map, List.getElem?_eq_getElem (by rw [winL_len]; exact hj)]
          rfl)
        exact h)
      have cl := ctW_le s k c
      generalize ((winL s.data.toList k c).map fun c => (c.toNat : Int)) = xs at *
      clear A1
      go_wp2_with fail
      refine (Try.bytes_Count_one wr.heap.size 0 c c w1.heap.size 0 1 xs 114 _ XL.out (fun j hj => by rw [← XC.out j hj]; exact ((Below.refl w1.heap.size w1).alloc (Nat.le_refl _) _).cell (by exact s1)) (by simp)).mono ?_
      rintro e w2 ⟨rfl, rfl⟩
      rw [CT.out]
      have B2 := Lib.hid (B1.out.alloc B1.out.size (.cells #[.int .u8 114] 5))
      have NX := Lib.hid (HS.out.next)
      generalize ctW s k c = y at *
      have m1 : min (lo : Int) (y : Int) = ((min lo y : Nat) : Int) := by omega
      have m2 : max (hi : Int) (y : Int) = ((max hi y : Nat) : Int) := by omega
      clear CT XL XC HS HB B1
      go_wp2_with fail
      go_roundw
      case rel => exact ⟨k + 1, min lo y, max hi y, by omega, by rw [← m1], by rw [← m2], by go_num, NX, B2⟩
      case measure => first | (simp [intOf]; done) | (simp [intOf]; omega)
    · obtain rfl : k = s.size := by omega
      have OK := Lib.hid (HS.out.ok h0)
      have hw2 : IntKind.i64.wrap ((hi : Int) - (lo : Int)) = (hi : Int) - (lo : Int) := IntWalk.i64_in _ (by omega)
      go_wp2_with fail
      go_ret
      exact ⟨⟨_, rfl, by omega, by omega, OK.out⟩, HB.out⟩

set_option maxHeartbeats 4000000 in
theorem ba_impl (s : ByteArray) (w : World) (hs : s.size ≤ 1048576) :
    Calls Try.prog 14 #[.string s] w fun e w' => e = .returned (.bool (baF s)) ∧ Below w.heap.size w w' := by
  have LL := len_list s
  go_enter Try.func14, Try.ntmps14
  by_cases h40 : 40 < s.size
  · have HF := Lib.hid (ba_1 (s := s) (by omega))
    go_wp2_with fail
    go_ret
    exact ⟨by rw [HF.out]; rfl, Below.refl _ _⟩
  go_wp2_with fail
  refine (cs_any s _).mono ?_
  rintro e w1 ⟨rfl, rfl⟩
  have hle := c_le s
  by_cases hru : cR s + cU s = s.size
  · have HR := Lib.hid (ruB_iff.1 ((c_ru s).2 hru))
    generalize cR s = a at *
    generalize cU s = b at *
    have hsum : IntKind.i64.wrap ((a : Int) + (b : Int)) = (s.size : Int) := by rw [IntWalk.i64_in _ (by omega)]; omega
    have hsum2 : (a : Int) + (b : Int) = (s.size : Int) := by omega
    clear hle
    have hcv := Lib.hid (fun w => run_bytes_of_string (P := Try.prog) w 9 22 5 s Try.underlying9 Try.underlying22 Try.underlying5)
    go_wp2_with fail
    rw [hcv.out w1]
    simp only [Result.andThen]
    rw [Oper.upon_value]
    have hcap : s.size ≤ grownCap w1 s.size 0 5 := grownCap_ge _ _ _ _
    clear hcv
    generalize grownCap w1 s.size 0 5 = cap at *
    have HC : Hid (∀ (j : Nat) (h : j < s.data.toList.length), (w1.drew.alloc (.cells (bytesRow s cap) 5 ((bytesRow s cap).size, (bytesRow s cap).size + 1))).cell? ⟨w1.heap.size, j, none⟩ = some (.int .u8 (s.data.toList[j].toNat : Int))) := Lib.hid (fun j h => by
      have h' : j < s.data.size := by simpa using h
      have e := bytesRow_at s cap j h'
      have hb : (w1.drew.alloc (.cells (bytesRow s cap) 5 ((bytesRow s cap).size, (bytesRow s cap).size + 1))).heap[w1.heap.size]? = some (.cells (bytesRow s cap) 5 ((bytesRow s cap).size, (bytesRow s cap).size + 1)) := by
        show (w1.heap.push _)[w1.heap.size]? = _
        simp
      unfold World.cell?
      rw [hb]
      exact e)
    have b1 : Below w1.heap.size w1 (w1.drew.alloc (.cells (bytesRow s cap) 5 ((bytesRow s cap).size, (bytesRow s cap).size + 1))) := (show Below w1.heap.size w1 w1.drew from ⟨rfl, rfl, rfl, Nat.le_refl _, fun _ _ => rfl⟩).alloc (Nat.le_refl _) _
    have s1 : w1.heap.size < (w1.drew.alloc (.cells (bytesRow s cap) 5 ((bytesRow s cap).size, (bytesRow s cap).size + 1))).heap.size := by simp
    generalize w1.drew.alloc (.cells (bytesRow s cap) 5 ((bytesRow s cap).size, (bytesRow s cap).size + 1)) = w2 at *
    have B1 := Lib.hid b1; clear b1
    go_wp2_with fail
    go_loopw [25] (fun kv wr => ∃ k : Nat, k ≤ s.size ∧ kv = .int .i64 k ∧ Hid (∀ x, x < k → okC s x) ∧ Hid (Below w2.heap.size w2 wr)) (fun kv _ => s.size - (intOf kv).toNat)
    case atStart => exact ⟨0, Nat.zero_le _, rfl, Lib.hid (fun x hx => by omega), Lib.hid (Below.refl _ _)⟩
    case round =>
      obtain ⟨k, hk, rfl, HK, HB⟩ := hrel
      by_cases hlt : k < s.size
      · go_wp2_with fail
        refine (spread_any s w1.heap.size k cap wr (by have := HB.out.size; omega) (fun j h => by rw [HB.out.cell (show w1.heap.size < _ from s1)]; exact HC.out j h) (by omega) hcap (by omega) hk).mono ?_
        rintro e w3 ⟨⟨dd, rfl, d1, d2, hd⟩, b3⟩
        have HD := Lib.hid hd; clear hd
        have B3 := Lib.hid (HB.out.trans (b3.mono HB.out.size)); clear b3 HB
        by_cases hdd : dd ≤ 1
        · have NX : Hid (∀ x, x < k + 1 → okC s x) := Lib.hid (fun x hx => by
            by_cases e : x = k
            · subst e; exact HD.out.2 hdd
            · exact HK.out x (by omega))
          have d0 : decide ((1 : Int) < dd) = false := decide_eq_false (by omega)
          clear HK HD
          go_wp2_with fail
          go_roundw
          case rel => exact ⟨k + 1, by omega, by go_num, NX, B3⟩
          case measure => first | (simp [intOf]; done) | (simp [intOf]; omega)
        · have HF := Lib.hid (ba_3 hlt (fun q => hdd (HD.out.1 q)))
          have d0 : decide ((1 : Int) < dd) = true := decide_eq_true (by omega)
          have BF := Lib.hid (B1.out.trans (B3.out.mono B1.out.size))
          clear HK HD
          go_wp2_with fail
          go_ret
          exact ⟨by rw [HF.out]; rfl, BF.out⟩
      · have HF : Hid (baF s = true) := Lib.hid (ba_4 (by omega) HR.out (fun x hx => HK.out x (by omega)))
        have BF := Lib.hid (B1.out.trans (HB.out.mono B1.out.size))
        clear HK HR
        go_wp2_with fail
        go_ret
        exact ⟨by rw [HF.out]; rfl, BF.out⟩
  · have HF : Hid (baF s = false) := Lib.hid (by
      have h : ruB s = false := by
        cases q : ruB s
        · rfl
        · exact absurd ((c_ru s).1 q) hru
      unfold baF; rw [h]; simp)
    generalize cR s = a at *
    generalize cU s = b at *
    have hw9 : IntKind.i64.wrap ((a : Int) + (b : Int)) = (a : Int) + (b : Int) := IntWalk.i64_in _ (by omega)
    have hne : ((a : Int) + (b : Int) != (s.size : Int)) = true := by simp; omega
    go_wp2_with fail
    go_ret
    exact ⟨by rw [HF.out]; rfl, Below.refl _ _⟩
end Go.Proofs.Ytkkklpchkkdhfaa.pth

/-
  The program's paths: all contracts.
-/
