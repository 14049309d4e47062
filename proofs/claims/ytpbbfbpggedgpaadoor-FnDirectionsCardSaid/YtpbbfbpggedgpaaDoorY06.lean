import Derived.Test.YtpbbfbpggedgpaaDoorY03
import Derived.Laws.OwnMore
import Derived.Test.YtpbbfbpggedgpaaDoorY04
import Derived.Test.YtpbbfbpggedgpaaDoorY05
import Derived.RegionTactic
import Derived.BigRegion
/-
  Contracts of PermOk, InversePerm, ThenPerm, IdentityPerm, of the model and of the program.
-/
namespace Go.Proofs.YtpbbfbpggedgpaaDoor.fns
open Go.ChangeShapes Go.WideShapes Go.ChangeAt Go.RowKit
open Go.Proofs.YtpbbfbpggedgpaaDoor.mem Go.Proofs.YtpbbfbpggedgpaaDoor.ints Go.Proofs.YtpbbfbpggedgpaaDoor.arr Go.Proofs.YtpbbfbpggedgpaaDoor.pm Go.Proofs.YtpbbfbpggedgpaaDoor.permOk Go.Proofs.YtpbbfbpggedgpaaDoor.permOf Go.Proofs.YtpbbfbpggedgpaaDoor.inv
set_option linter.unusedVariables false
set_option maxRecDepth 100000

theorem below_same {w w' : World} (h : w = w') : Below w.heap.size w w' := h ▸ Below.refl _ _
theorem ok_spec (A : Option Addr) (n c : Nat) (xs : List Int) (hi : Nat) (w : World) (hx : Rd w hi A n (V xs)) (hn : n ≤ 1048576) (hc : n ≤ c) :
    Calls Tryd.prog 60 #[.slice A n c] w fun e w' => e = .returned (.bool (okB xs)) ∧ Below w.heap.size w w' :=
  (permOk.spec_any A n c xs hi w hx hn hc).mono fun _ _ ⟨he, hw⟩ => ⟨he, below_same hw⟩

def Owns (w : World) (v : Value) (w' : World) (r : List Int) : Prop := w'.ownsRow w.heap.size 3 1 v r.length (V r)
def Gives (r : List Int) (w : World) (e : Ending) (w' : World) : Prop := ∃ v, e = .returned v ∧ w'.ownsRow w.heap.size 3 1 v r.length (V r) ∧ Below w.heap.size w w'
theorem gives_nil {w w' : World} (h : Below w.heap.size w w') : Gives [] w (.returned (.slice none 0 0)) w' :=
  ⟨_, rfl, ⟨rfl, .inl ⟨rfl, rfl⟩⟩, h⟩
theorem gives_later {w w1 w' : World} {r : List Int} {e : Ending} (hb : Below w.heap.size w w1) (h : Gives r w1 e w') : Gives r w e w' := by
  obtain ⟨v, he, ho, hb'⟩ := h
  refine ⟨v, he, ⟨ho.1, ?_⟩, hb.trans (hb'.mono hb.size)⟩
  rcases ho.2 with h0 | ⟨g, cap, cur, h1, h2, h3⟩
  · exact .inl h0
  · exact .inr ⟨g, cap, cur, h1, Nat.le_trans hb.size h2, h3⟩

set_option maxHeartbeats 400000 in
theorem list_gives (qs : List Int) (n : Nat) (w : World) (hl : qs.length = 24) (hn : n ≤ 24) :
    Calls Tryd.prog 33 #[.agg (V qs).toArray, .int .i64 n] w (Gives (qs.take n) w) :=
  list_any qs n w hl hn

end Go.Proofs.YtpbbfbpggedgpaaDoor.fns

/-
  Contracts of the model's InversePerm, ThenPerm, IdentityPerm; the program's ThenPerm, IdentityPerm.
-/
namespace Go.Proofs.YtpbbfbpggedgpaaDoor.fns
open Go.ChangeShapes Go.WideShapes Go.ChangeAt Go.RowKit
open Go.Proofs.YtpbbfbpggedgpaaDoor.mem Go.Proofs.YtpbbfbpggedgpaaDoor.ints Go.Proofs.YtpbbfbpggedgpaaDoor.arr Go.Proofs.YtpbbfbpggedgpaaDoor.pm Go.Proofs.YtpbbfbpggedgpaaDoor.permOk Go.Proofs.YtpbbfbpggedgpaaDoor.permOf Go.Proofs.YtpbbfbpggedgpaaDoor.inv
set_option linter.unusedVariables false
set_option maxRecDepth 100000

theorem Ok.nat {xs : List Int} (h : Ok xs) {k : Nat} (hk : k < xs.length) : ∃ z : Nat, z < xs.length ∧ xs[k]? = some (z : Int) ∧ xs.getD k 0 = (z : Int) := by
  have h1 := h.lo k hk; have h2 := h.hi k hk
  have e : xs[k]? = some (xs.getD k 0) := by rw [List.getD, List.getElem?_eq_getElem hk]; rfl
  exact ⟨(xs.getD k 0).toNat, by omega, by rw [e]; congr 1; omega, by omega⟩
/-- A made row at block w.heap.size holds l. -/
def Made (n : Nat) (w wr : World) (l : List Int) : Prop := wr.ownsRow w.heap.size 3 1 (.slice (some ⟨w.heap.size, 0, none⟩) n n) n (V l) ∧ Below w.heap.size w wr
theorem Made.cell {n : Nat} {w wr : World} {l : List Int} (h : Made n w wr l) {k : Nat} (hk : k < n) : wr.cell? ⟨w.heap.size, k, none⟩ = some (.int .i64 (l.getD k 0)) := by
  have hl : l.length = n := by simpa [V] using h.1.1
  rw [h.1.cellAt k (by omega)]
  exact V_getD (by omega)
theorem Made.set_ {n : Nat} {w wr : World} {l : List Int} (h : Made n w wr l) (k : Nat) (z : Int) : Made n w (wr.setCell ⟨w.heap.size, k, none⟩ (.int .i64 z)) (l.set k z) := by
  have := (h.1.stored k (.int .i64 z)).1
  rw [V_set] at this
  exact ⟨this, h.2.setCell (Nat.le_refl _) _⟩

set_option maxHeartbeats 1000000 in
theorem l02inv_any (A : Option Addr) (n c : Nat) (xs : List Int) (hi : Nat) (w : World) (hx : Rd w hi A n (V xs)) (ok : Ok xs) :
    Calls Tryd.prog 41 #[.slice A n c] w (Gives (invTo n xs n) w) := by
  obtain ⟨i0, hi0, hz0, hz1, hz2⟩ := info_parts infoI
  have lx : xs.length = n := by simpa [V] using hx.1
  have hn : n ≤ 24 := by have := ok.len; omega
  have LX := Lib.hid lx; clear lx
  have OK := Lib.hid ok; clear ok
  have HX := Lib.hid hx; clear hx
  have HZ2 := Lib.hid hz2; clear hz2
  go_enter Tryd.func41, Tryd.ntmps41
  go_wp2_with (at_make; refine wpList_make_full _ rfl _ _ 23 rfl w.heap.size 3 i0 _ 1 Tryd.underlying23 hi0 hz0 hz1 _ _ _ _ n rfl rfl rfl rfl ?b2 ?b3 (Nat.le_refl _) ?_)
  case b2 => rw [HZ2.out]; omega
  case b3 => unfold maxLen; omega
  intro w1 hown hg
  have hb1 : Below w.heap.size w w1 := (Below.refl _ _).grown hg (Nat.le_refl _) (by simp)
  have HM : Hid (Made n w w1 (invTo n xs 0)) := Lib.hid ⟨by simpa [invTo, V, toList_madeCells_one] using hown, hb1⟩
  clear hown hg hb1
  go_wp2
  go_loopw [11] (fun i wr => ∃ k : Nat, k ≤ n ∧ i = .int .i64 k ∧ Made n w wr (invTo n xs k)) (fun i _ => n - (intOf i).toNat)
  case atStart => exact ⟨0, Nat.zero_le _, rfl, HM.out⟩
  case round =>
    obtain ⟨k, hk, rfl, hm⟩ := hrel
    have HR := Lib.hid hm; clear hm HM
    by_cases hlt : k < n
    · obtain ⟨g, off, u, rfl, hgl, hxu, hcx⟩ := HX.out.at_ hlt
      obtain ⟨s, hxs, rfl⟩ := V_at hxu
      obtain ⟨z, hz, hqz, hqd⟩ := Ok.nat OK.out (k := k) (by rw [LX.out]; exact hlt)
      rw [hqz] at hxs
      obtain rfl := Option.some.inj hxs
      rw [LX.out] at hz
      have hgw : g < w.heap.size := Nat.lt_of_lt_of_le hgl HX.out.2.1
      rw [← HR.out.2.cell (p := ⟨g, off + k, none⟩) hgw] at hcx
      have hc := HR.out.cell hz
      have hf := HR.out.1.frozenAt z
      have HD := Lib.hid hqd; clear hqd hqz hxs hxu
      go_wp2
      go_roundw
      case rel =>
        refine ⟨k + 1, by omega, by go_num, ?_⟩
        have e : invTo n xs (k + 1) = (invTo n xs k).set z (k : Int) := by rw [invTo, HD.out]; rfl
        rw [e]
        exact HR.out.set_ z _
      case measure => simp [intOf]; omega
    · obtain rfl : k = n := by omega
      go_wp2
      go_ret
      exact ⟨_, rfl, by rw [invTo_len]; exact HR.out.1, HR.out.2⟩

end Go.Proofs.YtpbbfbpggedgpaaDoor.fns

/-
  Contracts of ThenPerm and IdentityPerm, of the model and of the program.
-/
namespace Go.Proofs.YtpbbfbpggedgpaaDoor.fns
open Go.ChangeShapes Go.WideShapes Go.ChangeAt Go.RowKit
open Go.Proofs.YtpbbfbpggedgpaaDoor.mem Go.Proofs.YtpbbfbpggedgpaaDoor.ints Go.Proofs.YtpbbfbpggedgpaaDoor.arr Go.Proofs.YtpbbfbpggedgpaaDoor.pm Go.Proofs.YtpbbfbpggedgpaaDoor.permOk Go.Proofs.YtpbbfbpggedgpaaDoor.permOf Go.Proofs.YtpbbfbpggedgpaaDoor.inv
set_option linter.unusedVariables false
set_option maxRecDepth 100000

/-- A row that grows: v holds l. -/
structure Grows (w wr : World) (v : Value) (l : List Int) : Prop where
  own : wr.ownsRow w.heap.size 3 1 v l.length (V l)
  below : Below w.heap.size w wr
theorem Grows.empty (w : World) : Grows w (w.alloc (.cells #[] 3)) (.slice (some ⟨w.heap.size, 0, none⟩) 0 0) [] :=
  ⟨⟨rfl, .inr ⟨w.heap.size, 0, #[], rfl, Nat.le_refl _, heap_alloc_last w _, Nat.le_refl _, by simp, rfl, rfl⟩⟩, (Below.refl _ _).alloc (Nat.le_refl _) _⟩
theorem Grows.one (w : World) (z : Int) : Grows w (w.alloc (.cells #[.int .i64 z] 3)) (.slice (some ⟨w.heap.size, 0, none⟩) 1 1) [z] :=
  ⟨⟨rfl, .inr ⟨w.heap.size, 1, #[.int .i64 z], rfl, Nat.le_refl _, heap_alloc_last w _, Nat.le_refl _, by unfold maxLen; omega, rfl, rfl⟩⟩, (Below.refl _ _).alloc (Nat.le_refl _) _⟩
theorem Grows.next {w wr w' : World} {v v' : Value} {l : List Int} {z : Int} {n : Nat} (h : Grows w wr v l) (ho : w'.ownsRow w.heap.size 3 1 v' (n + 1) (V l ++ [.int .i64 z])) (hn : n = l.length) (hg : wr.grownBy w' v.ownBlock) : Grows w w' v' (l ++ [z]) := by
  subst hn
  refine ⟨?_, h.below.trans (own_below h.own hg (Nat.le_refl _) h.below.size)⟩
  have e : V (l ++ [z]) = V l ++ [.int .i64 z] := by simp [V]
  rw [e]
  simpa using ho
theorem Grows.gives {w wr : World} {v : Value} {l : List Int} (h : Grows w wr v l) : Gives l w (.returned v) wr := ⟨v, rfl, h.own, h.below⟩
theorem thn_snoc (xs ys : List Int) {k z : Nat} (h : xs[k]? = some (z : Int)) : thn (xs.take (k + 1)) ys = thn (xs.take k) ys ++ [ys.getD z 0] := by
  rw [List.take_add_one, h]; simp [thn]

set_option maxHeartbeats 1000000 in
theorem l02then_any (A : Option Addr) (n c : Nat) (B : Option Addr) (m d : Nat) (xs ys : List Int) (h1 h2 : Nat) (w : World) (hx : Rd w h1 A n (V xs)) (hy : Rd w h2 B m (V ys)) (ok : Ok xs) (hnm : n = m) :
    Calls Tryd.prog 40 #[.slice A n c, .slice B m d] w (Gives (thn xs ys) w) := by
  subst hnm
  obtain ⟨i0, hi0, hz0, hz1, hz2⟩ := info_parts infoI
  have lx : xs.length = n := by simpa [V] using hx.1
  have ly : ys.length = n := by simpa [V] using hy.1
  have hn : n ≤ 24 := by have := ok.len; omega
  have LX := Lib.hid lx; have LY := Lib.hid ly; clear lx ly
  have OK := Lib.hid ok; clear ok
  have HX := Lib.hid hx; have HY := Lib.hid hy; clear hx hy
  go_enter Tryd.func40, Tryd.ntmps40
  go_wp2
  go_loopw [5, 11] (fun v i wr => ∃ k : Nat, k ≤ n ∧ i = .int .i64 k ∧ Grows w wr v (thn (xs.take k) ys)) (fun _ i _ => n - (intOf i).toNat)
  case atStart => exact ⟨0, Nat.zero_le _, rfl, Grows.empty w⟩
  case round =>
    obtain ⟨k, hk, rfl, hm⟩ := hrel
    have HR := Lib.hid hm; clear hm
    by_cases hlt : k < n
    · obtain ⟨g, off, u, rfl, hgl, hxu, hcx⟩ := HX.out.at_ hlt
      obtain ⟨s, hxs, rfl⟩ := V_at hxu
      obtain ⟨z, hz, hqz, hqd⟩ := Ok.nat OK.out (k := k) (by rw [LX.out]; exact hlt)
      rw [hqz] at hxs
      obtain rfl := Option.some.inj hxs
      rw [LX.out] at hz
      obtain ⟨g', off', u', rfl, hgl', hyu, hcy⟩ := HY.out.at_ hz
      obtain ⟨t, hyt, rfl⟩ := V_at hyu
      have hgw : g < w.heap.size := Nat.lt_of_lt_of_le hgl HX.out.2.1
      have hgw' : g' < w.heap.size := Nat.lt_of_lt_of_le hgl' HY.out.2.1
      rw [← HR.out.below.cell (p := ⟨g, off + k, none⟩) hgw] at hcx
      rw [← HR.out.below.cell (p := ⟨g', off' + z, none⟩) hgw'] at hcy
      have HQ := Lib.hid hqz; have HT := Lib.hid (permOk.getD_of hyt)
      have hsz := HR.out.below.size
      have HLN : Hid ((thn (xs.take k) ys).length = k) := Lib.hid (by have := LX.out; simp [thn]; omega)
      clear hqz hqd hxs hxu hyu hyt
      go_wp2_with (at_builtin; refine wpList_append_one wr _ _ rfl _ _ 23 rfl w.heap.size 3 i0 _ 8 Tryd.underlying23 hi0 hz0 hz1 hz2 rfl _ _ _ rfl HR.out.own rfl rfl ?c4 (by decide) hsz ?_)
      case c4 => rw [HLN.out]; omega
      intro v' w' ho hg
      have HN : Hid (Grows w w' v' (thn (xs.take (k + 1)) ys)) := Lib.hid (by
        rw [thn_snoc xs ys HQ.out, HT.out]
        exact HR.out.next ho rfl hg)
      clear ho hg HR hcx hcy
      go_wp2
      go_roundw
      case rel => exact ⟨k + 1, by omega, by go_num, HN.out⟩
      case measure => simp [intOf]; omega
    · obtain rfl : k = n := by omega
      go_wp2
      go_ret
      have := HR.out
      rw [List.take_of_length_le (by rw [LX.out]; exact Nat.le_refl _)] at this
      exact this.gives

set_option maxHeartbeats 1000000 in
theorem l02id_any (n : Nat) (w : World) (hn : n ≤ 24) :
    Calls Tryd.prog 42 #[.int .i64 n] w (Gives ((List.range n).map (fun (i : Nat) => (i : Int))) w) := by
  obtain ⟨i0, hi0, hz0, hz1, hz2⟩ := info_parts infoI
  go_enter Tryd.func42, Tryd.ntmps42
  go_wp2
  go_loopw [3, 4] (fun v i wr => ∃ k : Nat, k ≤ n ∧ i = .int .i64 k ∧ Grows w wr v ((List.range k).map (fun (i : Nat) => (i : Int)))) (fun _ i _ => n - (intOf i).toNat)
  case atStart => exact ⟨0, Nat.zero_le _, rfl, Grows.empty w⟩
  case round =>
    obtain ⟨k, hk, rfl, hm⟩ := hrel
    have HR := Lib.hid hm; clear hm
    by_cases hlt : k < n
    · have hsz := HR.out.below.size
      go_wp2_with (at_builtin; refine wpList_append_one wr _ _ rfl _ _ 23 rfl w.heap.size 3 i0 _ 8 Tryd.underlying23 hi0 hz0 hz1 hz2 rfl _ _ _ rfl HR.out.own rfl rfl ?c4 (by decide) hsz ?_)
      case c4 => simp; omega
      intro v' w' ho hg
      have HN : Hid (Grows w w' v' ((List.range (k + 1)).map (fun (i : Nat) => (i : Int)))) := Lib.hid (by
        rw [List.range_succ, List.map_append]
        exact HR.out.next ho (by simp) hg)
      clear ho hg HR
      go_wp2
      go_roundw
      case rel => exact ⟨k + 1, by omega, by go_num, HN.out⟩
      case measure => simp [intOf]; omega
    · obtain rfl : k = n := by omega
      go_wp2
      go_ret
      exact HR.out.gives

end Go.Proofs.YtpbbfbpggedgpaaDoor.fns

/-
  Contract of the program's ThenPerm.
-/
namespace Go.Proofs.YtpbbfbpggedgpaaDoor.fns
open Go.ChangeShapes Go.WideShapes Go.ChangeAt Go.RowKit
open Go.Proofs.YtpbbfbpggedgpaaDoor.mem Go.Proofs.YtpbbfbpggedgpaaDoor.ints Go.Proofs.YtpbbfbpggedgpaaDoor.arr Go.Proofs.YtpbbfbpggedgpaaDoor.pm Go.Proofs.YtpbbfbpggedgpaaDoor.permOk Go.Proofs.YtpbbfbpggedgpaaDoor.permOf Go.Proofs.YtpbbfbpggedgpaaDoor.inv
set_option linter.unusedVariables false
set_option maxRecDepth 100000

end Go.Proofs.YtpbbfbpggedgpaaDoor.fns

/-
  Contract of spec.l02Reach.
-/
namespace Go.Proofs.YtpbbfbpggedgpaaDoor.fns
open Go.ChangeShapes Go.WideShapes Go.ChangeAt Go.RowKit
open Go.Proofs.YtpbbfbpggedgpaaDoor.mem Go.Proofs.YtpbbfbpggedgpaaDoor.ints Go.Proofs.YtpbbfbpggedgpaaDoor.arr Go.Proofs.YtpbbfbpggedgpaaDoor.pm Go.Proofs.YtpbbfbpggedgpaaDoor.permOk Go.Proofs.YtpbbfbpggedgpaaDoor.permOf Go.Proofs.YtpbbfbpggedgpaaDoor.inv
set_option linter.unusedVariables false
set_option maxRecDepth 100000

theorem Grows.drew {w wr : World} {v : Value} {l : List Int} (h : Grows w wr v l) (n : Nat) : Grows w (wr.drewN n) v l := ⟨h.own, below_drewN h.below n⟩
theorem Grows.alloc {w wr : World} {v : Value} {l : List Int} (h : Grows w wr v l) (o : Obj) : Grows w (wr.alloc o) v l := ⟨h.own.alloc _, h.below.alloc h.below.size _⟩
theorem Grows.form {w wr : World} {v : Value} {l : List Int} (h : Grows w wr v l) : ∃ A c, v = .slice A l.length c := own_form h.own
/-- As Grows; the pair a, b lies in block T, which is not the row's. -/
structure Mid (w wr : World) (v : Value) (l : List Int) (T : Nat) (a b : Int) : Prop where
  g : Grows w wr v l
  t : Arr wr T (V [a, b]) 3
  ne : v.ownBlock ≠ some T
  T0 : w.heap.size ≤ T
theorem Mid.next {w wr w' : World} {v v' : Value} {l : List Int} {T : Nat} {a b z : Int} {n : Nat} (h : Mid w wr v l T a b) (ho : w'.ownsRow w.heap.size 3 1 v' (n + 1) (V l ++ [.int .i64 z])) (hn : n = l.length) (hg : wr.grownBy w' v.ownBlock)
    (hb : v'.ownBlock = v.ownBlock ∨ ∃ k, v'.ownBlock = some k ∧ wr.heap.size + 1 ≤ k) : Mid w w' v' (l ++ [z]) T a b := by
  have hT := h.t.lt
  refine ⟨h.g.next ho hn hg, (hg.block T hT (fun e => h.ne e.symm)).trans h.t, ?_, h.T0⟩
  rcases hb with e | ⟨k, e, hk⟩
  · rw [e]; exact h.ne
  · rw [e]; intro e2; injection e2 with e2; omega
def mid (l : List Int) (a b : Int) : Nat → List Int
  | 0 => l
  | 1 => add1 l a
  | _ => add1 (add1 l a) b
theorem mid_step (l : List Int) (a b : Int) {j : Nat} (hj : j < 2) {x : Int} (hx : [a, b].getD j 0 = x) : mid l a b (j + 1) = add1 (mid l a b j) x := by
  match j, hj with
  | 0, _ => simp at hx; subst hx; rfl
  | 1, _ => simp at hx; subst hx; rfl
theorem mid_in {n : Nat} {l : List Int} (h : In n l) {a b : Int} (a0 : 0 ≤ a) (a1 : a < n) (b0 : 0 ≤ b) (b1 : b < n) (j : Nat) : In n (mid l a b j) := by
  match j with
  | 0 => exact h
  | 1 => exact h.add a0 a1
  | j + 2 => exact (h.add a0 a1).add b0 b1

set_option maxHeartbeats 2000000 in
theorem reach_any (A : Option Addr) (n c : Nat) (B : Option Addr) (m d : Nat) (xs ys : List Int) (f : Int) (h1 h2 : Nat) (w : World) (hx : Rd w h1 A n (V xs)) (hy : Rd w h2 B m (V ys)) (ok : Ok xs) (oky : Ok ys) (hnm : n = m) (f0 : 0 ≤ f) (f1 : f < n) :
    Calls Tryd.prog 61 #[.slice A n c, .slice B m d, .int .i64 f] w (Gives (reach xs ys f) w) := by
  subst hnm
  obtain ⟨i0, hi0, hz0, hz1, hz2⟩ := info_parts infoI
  have lx : xs.length = n := by simpa [V] using hx.1
  have ly : ys.length = n := by simpa [V] using hy.1
  have hn : n ≤ 24 := by have := ok.len; omega
  have MX : Hid (Maps n xs) := Lib.hid (by have := ok.maps; rw [lx] at this; exact this)
  have MY : Hid (Maps n ys) := Lib.hid (by have := oky.maps; rw [ly] at this; exact this)
  have LX := Lib.hid lx; have LY := Lib.hid ly; clear lx ly ok oky
  have HX := Lib.hid hx; have HY := Lib.hid hy; clear hx hy
  go_enter Tryd.func61, Tryd.ntmps61
  go_wp2
  go_loopw [7, 8] (fun v i wr => ∃ k : Nat, k ≤ n ∧ i = .int .i64 k ∧ Grows w wr v (rs xs ys f k) ∧ k ≤ (rs xs ys f k).length) (fun _ i _ => n - (intOf i).toNat)
  case atStart => exact ⟨0, Nat.zero_le _, rfl, Grows.one w f, Nat.zero_le _⟩
  case round =>
    obtain ⟨k, hk, rfl, hm, hle⟩ := hrel
    obtain ⟨wo, rfl⟩ : ∃ wo : World, wo = wr := ⟨_, rfl⟩
    have IN := Lib.hid (rs_in MX.out MY.out f0 f1 k)
    have hln : (rs xs ys f k).length ≤ n := IN.out.len
    obtain ⟨C, cc, rfl⟩ := hm.form
    have HR := Lib.hid hm; clear hm
    by_cases hlt : k < (rs xs ys f k).length
    · obtain ⟨z, hz, hzs, hzd⟩ := IN.out.at_ hlt
      obtain ⟨g, off, u, rfl, hgl, hxu, hcx⟩ := HX.out.at_ hz
      obtain ⟨a, hxs, rfl⟩ := V_at hxu
      obtain ⟨g', off', u', rfl, hgl', hyu, hcy⟩ := HY.out.at_ hz
      obtain ⟨b, hyt, rfl⟩ := V_at hyu
      have RO := Row.of_own HR.out.own
      obtain ⟨go, oo, uo, rfl, hgo, hgo2, huo, hco, hfo⟩ := RO.at_ hlt
      rw [V_get hzs] at huo
      obtain rfl := Option.some.inj huo
      have hgw : g < w.heap.size := Nat.lt_of_lt_of_le hgl HX.out.2.1
      have hgw' : g' < w.heap.size := Nat.lt_of_lt_of_le hgl' HY.out.2.1
      rw [← HR.out.below.cell (p := ⟨g, off + z, none⟩) hgw] at hcx
      rw [← HR.out.below.cell (p := ⟨g', off' + z, none⟩) hgw'] at hcy
      have ea := permOk.getD_of hxs; have eb := permOk.getD_of hyt
      have a01 := MX.out z hz; have b01 := MY.out z hz
      rw [ea] at a01; rw [eb] at b01
      obtain ⟨a0, a1⟩ := a01; obtain ⟨b0, b1⟩ := b01
      have STEP : Hid (rs xs ys f (k + 1) = mid (rs xs ys f k) a b 2) := Lib.hid (by rw [rs_step xs ys f hlt hzd, ea, eb]; rfl)
      have LE : Hid (k + 1 ≤ (rs xs ys f (k + 1)).length) := Lib.hid (rs_le xs ys f hlt)
      have MI : Hid (∀ j, In n (mid (rs xs ys f k) a b j)) := Lib.hid (mid_in IN.out a0 a1 b0 b1)
      clear hzs hzd ea eb hxs hyt hxu hyu huo RO hfo
      go_wp2
      go_region
      go_wp2
      have hso := HR.out.below.size
      go_loopw [7, 35] (fun v i wr => ∃ j : Nat, j ≤ 2 ∧ i = .int .i64 j ∧ Mid w wr v (mid (rs xs ys f k) a b j) wo.heap.size a b) (fun _ i _ => 2 - (intOf i).toNat)
      case atStart => exact ⟨0, Nat.zero_le _, rfl, (HR.out.alloc _).drew 1, (Arr.new _ (V [a, b]) _ rfl).drew 1, by intro e; simp [Value.ownBlock] at e; omega, hso⟩
      case round =>
        obtain ⟨j, hj, rfl, hmid⟩ := hrel
        have hln2 : (mid (rs xs ys f k) a b j).length ≤ n := (MI.out j).len
        obtain ⟨C2, cc2, rfl⟩ := hmid.g.form
        have HMI := Lib.hid hmid; clear hmid
        by_cases hj2 : j < 2
        · have hcj := HMI.out.t.cell (V_getD (l := [a, b]) (k := j) (by simp; exact hj2))
          generalize hq : [a, b].getD j 0 = x at hcj
          have MS := Lib.hid (mid_step (rs xs ys f k) a b hj2 hq)
          clear hq
          have hsz := HMI.out.g.below.size
          by_cases hh : hasB (mid (rs xs ys f k) a b j) x = true
          · have HH := Lib.hid hh; have EQ : Hid (mid (rs xs ys f k) a b (j + 1) = mid (rs xs ys f k) a b j) := Lib.hid (by rw [MS.out]; unfold add1; rw [if_pos (by simpa [hasB] using hh)])
            clear hh
            go_wp2_with fail
            refine (has_any _ _ _ (mid (rs xs ys f k) a b j) _ x _ (Row.of_own HMI.out.g.own).rd (by omega)).mono ?_
            rintro e w' ⟨rfl, rfl⟩
            rw [HH.out]
            go_wp2
            go_roundw
            case rel => exact ⟨j + 1, by omega, by go_num, by rw [EQ.out]; exact HMI.out⟩
            case measure => simp [intOf]; omega
          · have hh' : hasB (mid (rs xs ys f k) a b j) x = false := by simpa using hh
            have HH := Lib.hid hh'; have EQ : Hid (mid (rs xs ys f k) a b (j + 1) = mid (rs xs ys f k) a b j ++ [x]) := Lib.hid (by rw [MS.out]; unfold add1; rw [if_neg (by simpa [hasB] using hh')])
            clear hh hh'
            go_wp2_with fail
            refine (has_any _ _ _ (mid (rs xs ys f k) a b j) _ x _ (Row.of_own HMI.out.g.own).rd (by omega)).mono ?_
            rintro e w' ⟨rfl, rfl⟩
            rw [HH.out]
            go_wp2_with (at_builtin; refine wpList_append_one2 wr _ _ rfl _ _ 23 rfl w.heap.size 3 i0 _ 8 1 Tryd.underlying23 hi0 hz0 hz1 rfl hz2 rfl _ _ _ rfl HMI.out.g.own rfl rfl ?c4 (by decide) hsz ?_)
            case c4 => omega
            intro v' w' ho hg hb
            have HN : Hid (Mid w w' v' (mid (rs xs ys f k) a b (j + 1)) wo.heap.size a b) := Lib.hid (by rw [EQ.out]; exact HMI.out.next ho rfl hg hb)
            clear ho hg hb HMI hcj
            go_wp2
            go_roundw
            case rel => exact ⟨j + 1, by omega, by go_num, HN.out⟩
            case measure => simp [intOf]; omega
        · obtain rfl : j = 2 := by omega
          have HN : Hid (Grows w wr (.slice C2 (mid (rs xs ys f k) a b 2).length cc2) (rs xs ys f (k + 1))) := Lib.hid (by rw [STEP.out]; exact HMI.out.g)
          go_wp2
          go_roundw
          case rel => exact ⟨k + 1, by omega, by go_num, HN.out, LE.out⟩
          case measure => simp [intOf]; omega
    · have e : k = (rs xs ys f k).length := by omega
      have R : Hid (rs xs ys f k = reach xs ys f) := Lib.hid (reach_of LX.out hk (by omega))
      have hd : decide (k < (rs xs ys f k).length) = false := by simp; omega
      clear e
      go_wp2
      go_ret
      have := HR.out
      rw [R.out] at this ⊢
      exact this.gives
end Go.Proofs.YtpbbfbpggedgpaaDoor.fns

/-
  Contract of the program's countReached; of IsTransitive, of the model and of the program.
-/
namespace Go.Proofs.YtpbbfbpggedgpaaDoor.fns
open Go.ChangeShapes Go.WideShapes Go.ChangeAt Go.RowKit
open Go.Proofs.YtpbbfbpggedgpaaDoor.mem Go.Proofs.YtpbbfbpggedgpaaDoor.ints Go.Proofs.YtpbbfbpggedgpaaDoor.arr Go.Proofs.YtpbbfbpggedgpaaDoor.pm Go.Proofs.YtpbbfbpggedgpaaDoor.permOk Go.Proofs.YtpbbfbpggedgpaaDoor.permOf Go.Proofs.YtpbbfbpggedgpaaDoor.inv
set_option linter.unusedVariables false
set_option maxRecDepth 100000

/-- Two boxed permutations, the flags of l, and the row l that grows. -/
structure Cr (w wr : World) (ps qs : List Int) (v : Value) (l : List Int) : Prop where
  own : wr.ownsRow (w.heap.size + 3) 3 1 v l.length (V l)
  p : Arr wr w.heap.size (V ps) 67
  q : Arr wr (w.heap.size + 1) (V qs) 67
  met : Arr wr (w.heap.size + 2) (VB (flagsOf l)) 95
  below : Below w.heap.size w wr
theorem Cr.drew {w wr : World} {ps qs l : List Int} {v : Value} (h : Cr w wr ps qs v l) (n : Nat) : Cr w (wr.drewN n) ps qs v l := ⟨h.own, h.p, h.q, h.met, below_drewN h.below n⟩
theorem Cr.ne {w wr : World} {ps qs l : List Int} {v : Value} (h : Cr w wr ps qs v l) {k : Nat} (hk : k < w.heap.size + 3) : some k ≠ v.ownBlock := fun e => by
  have := (h.own.lt k e.symm).1; omega
theorem Cr.next {w wr w1 w' : World} {ps qs l : List Int} {v v' : Value} {z n : Nat} (h : Cr w wr ps qs v l) (hw1 : w1 = wr.setCell ⟨w.heap.size + 2, z, none⟩ (.bool true))
    (ho : w'.ownsRow (w.heap.size + 3) 3 1 v' (n + 1) (V l ++ [.int .i64 (z : Int)])) (hn : n = l.length) (hg : w1.grownBy w' v.ownBlock) (hz : ¬ (z : Int) ∈ l) : Cr w w' ps qs v' (add1 l (z : Int)) := by
  subst hn
  have e : V (add1 l (z : Int)) = V l ++ [.int .i64 (z : Int)] := by unfold add1; rw [if_neg hz]; simp [V]
  have el : (add1 l (z : Int)).length = l.length + 1 := by unfold add1; rw [if_neg hz]; simp
  have hp := h.p.lt; have hq := h.q.lt; have hm := h.met.lt
  have s1 : w1.heap.size = wr.heap.size := by rw [hw1]; simp [World.setCell]
  refine ⟨by rw [e, el]; exact ho, ?_, ?_, ?_, ?_⟩
  · exact (hg.block _ (by omega) (h.ne (by omega))).trans (by rw [hw1]; exact h.p.other (by omega) _)
  · exact (hg.block _ (by omega) (h.ne (by omega))).trans (by rw [hw1]; exact h.q.other (by omega) _)
  · refine (hg.block _ (by omega) (h.ne (by omega))).trans ?_
    have hh := h.met.set_ z (.bool true)
    rw [VB_set, flagsOf_add hz, ← hw1] at hh
    exact hh
  · refine Below.trans (b := w1) (by rw [hw1]; exact h.below.setCell (by simp) _) ?_
    exact (Below.refl _ _).grown hg (by have := h.below.size; omega) (fun k hk => by have := (h.own.lt k hk).1; omega)
theorem index_pair (a b : Int) (j : Nat) (hj : j < 2) (x : Int) (hx : [a, b].getD j 0 = x) (w : World) :
    (Instr.index 112 (.agg #[.int .i64 a, .int .i64 b]) (.int .i64 (j : Int))).run Tryd.prog w = .ok (.int .i64 x) w := by
  have hs : (sizeOf 3).run Tryd.prog w = .ok 1 w := by kernel_rfl
  have h2 : (V [a, b])[j]? = some (.int .i64 x) := by subst hx; exact V_getD (by simpa using hj)
  have h3 : (#[Value.int .i64 a, Value.int .i64 b] : Array Value) = (V [a, b]).toArray := rfl
  rw [h3]
  simp [Instr.index, asIntOf, run_underlying Tryd.underlying112, hj, hs, part, h2]
theorem pair_in {n : Nat} {a b x : Int} {j : Nat} (hj : j < 2) (hx : [a, b].getD j 0 = x) (a0 : 0 ≤ a) (a1 : a < n) (b0 : 0 ≤ b) (b1 : b < n) : ∃ z : Nat, x = (z : Int) ∧ z < n := by
  subst hx
  match j, hj with
  | 0, _ => exact ⟨a.toNat, by simp; omega, by omega⟩
  | 1, _ => exact ⟨b.toNat, by simp; omega, by omega⟩

set_option maxHeartbeats 2000000 in
theorem count_any (ps qs : List Int) (w : World) (hp : Sq ps) (hq : Sq qs) :
    Calls Tryd.prog 70 #[.agg (V ps).toArray, .agg (V qs).toArray] w fun e w' => e = .returned (.int .i64 (reach ps qs 0).length) ∧ Below w.heap.size w w' := by
  obtain ⟨i0, hi0, hz0, hz1, hz2⟩ := info_parts infoI
  have MX := Lib.hid (Sq.maps hp); have MY := Lib.hid (Sq.maps hq)
  have LX := Lib.hid hp.len; have LY := Lib.hid hq.len
  clear hp hq
  go_enter Tryd.func70, Tryd.ntmps70
  go_wp2
  go_loopw [6, 7] (fun v i wr => ∃ k : Nat, k ≤ 24 ∧ i = .int .i64 k ∧ Cr w wr ps qs v (rs ps qs 0 k) ∧ k ≤ (rs ps qs 0 k).length) (fun _ i _ => 24 - (intOf i).toNat)
  case atStart =>
    refine ⟨0, Nat.zero_le _, rfl, ⟨?_, ?_, ?_, ?_, ?_⟩, Nat.zero_le _⟩
    · exact ⟨rfl, .inr ⟨w.heap.size + 3, 1, #[.int .i64 0], rfl, Nat.le_refl _, Arr.new _ (V [0]) _ (by simp), Nat.le_refl _, by unfold maxLen; omega, rfl, rfl⟩⟩
    · exact (((Arr.new w (V ps) _ rfl).alloc _).alloc _).alloc _
    · exact ((Arr.new _ (V qs) _ (by simp)).alloc _).alloc _
    · exact (Arr.new _ (VB (flagsOf [0])) _ (by simp)).alloc _
    · exact ((((Below.refl _ _).alloc (Nat.le_refl _) _).alloc (by simp) _).alloc (by simp; omega) _).alloc (by simp; omega) _
  case round =>
    obtain ⟨k, hk, rfl, hm, hle⟩ := hrel
    obtain ⟨wo, rfl⟩ : ∃ wo : World, wo = wr := ⟨_, rfl⟩
    have IN := Lib.hid (rs_in MX.out MY.out (f := 0) (by omega) (by omega) k)
    have hln : (rs ps qs 0 k).length ≤ 24 := IN.out.len
    obtain ⟨C, cc, rfl⟩ := own_form hm.own
    have HR := Lib.hid hm; clear hm
    by_cases hlt : k < (rs ps qs 0 k).length
    · obtain ⟨z, hz, hzs, hzd⟩ := IN.out.at_ hlt
      have RO := Row.of_own HR.out.own
      obtain ⟨go, oo, uo, rfl, hgo, hgo2, huo, hco, hfo⟩ := RO.at_ hlt
      rw [V_get hzs] at huo
      obtain rfl := Option.some.inj huo
      have hcp := HR.out.p.cell (V_getD (l := ps) (k := z) (by rw [LX.out]; exact hz))
      have hcq := HR.out.q.cell (V_getD (l := qs) (k := z) (by rw [LY.out]; exact hz))
      have a01 := MX.out z hz; have b01 := MY.out z hz
      have STEP : Hid (rs ps qs 0 (k + 1) = mid (rs ps qs 0 k) (ps.getD z 0) (qs.getD z 0) 2) := Lib.hid (by rw [rs_step ps qs 0 hlt hzd]; rfl)
      generalize ps.getD z 0 = a at *
      generalize qs.getD z 0 = b at *
      obtain ⟨a0, a1⟩ := a01; obtain ⟨b0, b1⟩ := b01
      have LE : Hid (k + 1 ≤ (rs ps qs 0 (k + 1)).length) := Lib.hid (rs_le ps qs 0 hlt)
      have MI : Hid (∀ j, In 24 (mid (rs ps qs 0 k) a b j)) := Lib.hid (mid_in IN.out a0 a1 b0 b1)
      clear hzs hzd huo RO hfo
      go_wp2
      go_region
      go_wp2
      go_loopw [6, 30] (fun v i wr => ∃ j : Nat, j ≤ 2 ∧ i = .int .i64 j ∧ Cr w wr ps qs v (mid (rs ps qs 0 k) a b j)) (fun _ i _ => 2 - (intOf i).toNat)
      case atStart => exact ⟨0, Nat.zero_le _, rfl, HR.out.drew 1⟩
      case round =>
        obtain ⟨j, hj, rfl, hmid⟩ := hrel
        have hln2 : (mid (rs ps qs 0 k) a b j).length ≤ 24 := (MI.out j).len
        obtain ⟨C2, cc2, rfl⟩ := own_form hmid.own
        have HMI := Lib.hid hmid; clear hmid
        by_cases hj2 : j < 2
        · generalize hq : [a, b].getD j 0 = x
          have MS := Lib.hid (mid_step (rs ps qs 0 k) a b hj2 hq)
          have hix := index_pair a b j hj2 x hq
          obtain ⟨y, rfl, hy⟩ := pair_in hj2 hq a0 a1 b0 b1
          clear hq
          have hsz : w.heap.size + 3 ≤ wr.heap.size := HMI.out.met.lt
          by_cases hh : (y : Int) ∈ mid (rs ps qs 0 k) a b j
          · have hfl : wr.cell? ⟨w.heap.size + 2, y, none⟩ = some (.bool true) := flags_cell HMI.out.met hy (by simpa using hh)
            have EQ : Hid (mid (rs ps qs 0 k) a b (j + 1) = mid (rs ps qs 0 k) a b j) := Lib.hid (by rw [MS.out]; unfold add1; rw [if_pos hh])
            clear hh
            go_wp2
            go_roundw
            case rel => exact ⟨j + 1, by omega, by go_num, by rw [EQ.out]; exact HMI.out⟩
            case measure => simp [intOf]; omega
          · have hfl : wr.cell? ⟨w.heap.size + 2, y, none⟩ = some (.bool false) := flags_cell HMI.out.met hy (by simpa using hh)
            have hff := HMI.out.met.frozen y
            have HH := Lib.hid hh
            have OW : Hid ((wr.setCell ⟨w.heap.size + 2, y, none⟩ (.bool true)).ownsRow (w.heap.size + 3) 3 1 (.slice C2 (mid (rs ps qs 0 k) a b j).length cc2) (mid (rs ps qs 0 k) a b j).length (V (mid (rs ps qs 0 k) a b j))) := Lib.hid (by
              refine HMI.out.own.kept (row := some (w.heap.size + 2)) ⟨rfl, rfl, rfl, by simp [World.setCell], fun i hi hne => heap_setCell_other _ _ _ _ (fun e => hne (by rw [e]))⟩ (.inr (fun e => HMI.out.ne (k := w.heap.size + 2) (by omega) e.symm)))
            clear hh
            generalize hw1 : wr.setCell ⟨w.heap.size + 2, y, none⟩ (.bool true) = w1 at OW
            have HW1 := Lib.hid hw1
            have hsz1 : w.heap.size + 3 ≤ w1.heap.size := by rw [← hw1]; simpa [World.setCell] using hsz
            go_wp2_with (at_builtin; refine wpList_append_one w1 _ _ rfl _ _ 23 rfl (w.heap.size + 3) 3 i0 _ 8 Tryd.underlying23 hi0 hz0 hz1 hz2 rfl _ _ _ rfl OW.out rfl rfl ?c4 (by decide) hsz1 ?_)
            case c4 => omega
            intro v' w' ho hg
            have HN : Hid (Cr w w' ps qs v' (mid (rs ps qs 0 k) a b (j + 1))) := Lib.hid (by rw [MS.out]; exact HMI.out.next HW1.out.symm ho rfl hg HH.out)
            clear ho hg HMI hw1 hfl hff
            go_wp2
            go_roundw
            case rel => exact ⟨j + 1, by omega, by go_num, HN.out⟩
            case measure => simp [intOf]; omega
        · obtain rfl : j = 2 := by omega
          have HN : Hid (Cr w wr ps qs (.slice C2 (mid (rs ps qs 0 k) a b 2).length cc2) (rs ps qs 0 (k + 1))) := Lib.hid (by rw [STEP.out]; exact HMI.out)
          go_wp2
          go_roundw
          case rel => exact ⟨k + 1, by omega, by go_num, HN.out, LE.out⟩
          case measure => simp [intOf]; omega
    · have e : k = (rs ps qs 0 k).length := by omega
      have R : Hid (rs ps qs 0 k = reach ps qs 0) := Lib.hid (reach_of LX.out hk (by omega))
      have hd : decide (k < (rs ps qs 0 k).length) = false := by simp; omega
      clear e
      go_wp2
      go_ret
      exact ⟨by rw [R.out]; rfl, HR.out.below⟩
end Go.Proofs.YtpbbfbpggedgpaaDoor.fns
