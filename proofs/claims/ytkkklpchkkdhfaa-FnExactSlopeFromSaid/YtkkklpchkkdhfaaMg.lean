/-
  A slice of slices that grows; contract of the program's cycleFrom.
-/
import Derived.Test.YtkkklpchkkdhfaaMat
import Derived.Test.YtkkklpchkkdhfaaMA
import Derived.Test.YtkkklpchkkdhfaaCount
namespace Go.Proofs.Ytkkklpchkkdhfaa.fns
open Go.ChangeShapes Go.WideShapes Go.ChangeAt Go.RowKit
open Go.Proofs.Ytkkklpchkkdhfaa.mem Go.Proofs.Ytkkklpchkkdhfaa.ints Go.Proofs.Ytkkklpchkkdhfaa.arr Go.Proofs.Ytkkklpchkkdhfaa.pm Go.Proofs.Ytkkklpchkkdhfaa.permOk Go.Proofs.Ytkkklpchkkdhfaa.permOf Go.Proofs.Ytkkklpchkkdhfaa.inv Go.Proofs.Ytkkklpchkkdhfaa.mat
set_option linter.unusedVariables false
set_option maxRecDepth 100000

def lenV : Value → Nat
  | .slice _ n _ => n
  | _ => 0
theorem own_base {w : World} {base base' : Nat} {e : TypeId} {v : Value} {n : Nat} {xs : List Value} (h : w.ownsRow base e 1 v n xs) (hb : base' ≤ base) : w.ownsRow base' e 1 v n xs := by
  refine ⟨h.1, ?_⟩
  rcases h.2 with h0 | ⟨g, cap, cur, h1, h2, h3⟩
  · exact .inl h0
  · exact .inr ⟨g, cap, cur, h1, Nat.le_trans hb h2, h3⟩
theorem own_arr {w : World} {base g n : Nat} {e : TypeId} {xs : List Value} (h : w.ownsRow base e 1 (.slice (some ⟨g, 0, none⟩) n n) n xs) : Arr w g xs e := by
  rcases h.2 with ⟨h0, _⟩ | ⟨g', cap, cur, h1, h2, h3, h4, h5, h6, h7⟩
  · cases h0
  · injection h1 with e1 e2 e3
    injection e1 with e1
    injection e1 with e1
    subst e1; subst e3
    unfold Arr
    rw [h3, ← h7, List.take_of_length_le (by simp; omega)]
/-- The block of a row that is not empty. -/
theorem own_row {w : World} {base : Nat} {e : TypeId} {A : Option Addr} {c : Nat} {xs : List Value} (h : w.ownsRow base e 1 (.slice A xs.length c) xs.length xs) (h0 : 0 < xs.length) : ∃ g, base ≤ g ∧ Row w g (g + 1) A xs.length xs := by
  have hr := Row.of_own h
  obtain ⟨g, off, e1, h1, h2, h3⟩ := hr.2.2 h0
  exact ⟨g, h1, hr.1, by omega, fun _ => ⟨g, off, e1, Nat.le_refl _, by omega, h3⟩⟩

/-- v owns the headers of the rows xss, from block bs on; the rows lie from lo on, none in v's block; v's block is not s. -/
def Mg (w : World) (bs lo s : Nat) (v : Value) (xss : List (List Int)) : Prop :=
  ∃ hs bl, w.ownsRow bs 30 1 v xss.length hs ∧ Hs w lo w.heap.size (fun b => v.ownBlock = some b) bl hs xss ∧ v.ownBlock ≠ some s
theorem Mg.keep {w w' : World} {bs lo s : Nat} {v : Value} {xss : List (List Int)} (h : Mg w bs lo s v xss) (hz : w.heap.size ≤ w'.heap.size) (h1 : bs ≤ lo) (h2 : s < lo)
    (hk : ∀ b, bs ≤ b → b < w.heap.size → b ≠ s → w'.heap[b]? = w.heap[b]?) : Mg w' bs lo s v xss := by
  obtain ⟨hs, bl, own, hh, ne⟩ := h
  refine ⟨hs, bl, ⟨own.1, ?_⟩, (hh.keep hz (fun b q1 q2 _ => hk b (by omega) q2 (by omega))).wider (Nat.le_refl _) hz (Nat.le_refl _), ne⟩
  rcases own.2 with h0 | ⟨g, cap, cur, q1, q2, q3, q4⟩
  · exact .inl h0
  · refine .inr ⟨g, cap, cur, q1, q2, ?_, q4⟩
    rw [hk g q2 (Array.getElem?_eq_some_iff.1 q3).1 (fun e => ne (by rw [q1, ← e]; rfl))]
    exact q3
theorem Mg.nil (w : World) (bs lo s : Nat) : Mg w bs lo s (.slice none 0 0) [] := ⟨[], fun _ => 0, ⟨rfl, .inl ⟨rfl, rfl⟩⟩, Hs.nil _ _ _ _ _ (Nat.le_refl _), by simp [Value.ownBlock]⟩
theorem Mg.empty {w : World} {bs lo s g : Nat} (h : w.heap[g]? = some (.cells #[] 30 (0, 0))) (h1 : bs ≤ g) (h2 : g ≠ s) : Mg w bs lo s (.slice (some ⟨g, 0, none⟩) 0 0) [] :=
  ⟨[], fun _ => 0, ⟨rfl, .inr ⟨g, 0, #[], rfl, h1, h, Nat.le_refl _, by simp, rfl, rfl⟩⟩, Hs.nil _ _ _ _ _ (Nat.le_refl _), by intro e; simp [Value.ownBlock] at e; exact h2 e⟩
theorem Mg.form {w : World} {bs lo s : Nat} {v : Value} {xss : List (List Int)} (h : Mg w bs lo s v xss) : ∃ A c, v = .slice A xss.length c := by
  obtain ⟨hs, bl, own, _⟩ := h
  exact own_form own
theorem Mg.push {w0 W w' : World} {bs lo s g c n : Nat} {v v' : Value} {xss : List (List Int)} {hs : List Value} {bl : Nat → Nat} {A : Option Addr} {xs : List Int}
    (hh : Hs w0 lo w0.heap.size (fun b => v.ownBlock = some b) bl hs xss) (ne : v.ownBlock ≠ some s) (hz : w0.heap.size ≤ W.heap.size) (hk : ∀ b, lo ≤ b → b < w0.heap.size → W.heap[b]? = w0.heap[b]?)
    (hlo : lo ≤ w0.heap.size) (hs0 : s < lo) (hr : Row W g (g + 1) A xs.length (V xs)) (hg0 : w0.heap.size ≤ g) (hv : ∀ b, v.ownBlock = some b → b < w0.heap.size)
    (hn : n = xss.length) (ho : w'.ownsRow bs 30 1 v' (n + 1) (hs ++ [.slice A xs.length c])) (hg : W.grownBy w' v.ownBlock) (hb : v'.ownBlock = v.ownBlock ∨ ∃ k, v'.ownBlock = some k ∧ W.heap.size + 1 ≤ k) : Mg w' bs lo s v' (xss ++ [xs]) := by
  subst hn
  have gl : g < W.heap.size := hr.2.1
  have H1 : Hs W lo w0.heap.size (fun b => v.ownBlock = some b) bl hs xss := hh.keep hz (fun b q1 q2 _ => hk b q1 q2)
  have H2 := H1.snoc (g := g) (c := c) (A := A) (xs := xs) hg0 hlo (fun e => by have := hv g e; omega) hr
  have H3 := H2.keep (w' := w') hg.size (fun b q1 q2 q3 => hg.block b (by omega) (fun e => q3 e.symm))
  refine ⟨_, _, by simpa using ho, (H3.exs ?_).wider (Nat.le_refl _) (by have := hg.size; omega) (Nat.le_refl _), ?_⟩
  · intro b q1 q2 q3 e
    rcases hb with q | ⟨k, q, hk⟩
    · exact q3 (by rw [← q]; exact e)
    · rw [q] at e; injection e with e; omega
  · rcases hb with q | ⟨k, q, hk⟩
    · rw [q]; exact ne
    · rw [q]; intro e; injection e with e; omega
theorem Mg.mat {w : World} {bs lo s : Nat} {A : Option Addr} {c : Nat} {xss : List (List Int)} (h : Mg w bs lo s (.slice A xss.length c) xss) {B : Nat} (h1 : B ≤ bs) (h2 : B ≤ lo) : Mat w B w.heap.size A xss.length xss := by
  obtain ⟨hs, bl, own, hh, ne⟩ := h
  refine ⟨rfl, Nat.le_refl _, ?_⟩
  rcases Nat.eq_zero_or_pos xss.length with h0 | h0
  · obtain rfl := List.eq_nil_of_length_eq_zero h0
    exact ⟨[], fun _ => 0, 0, Hs.nil _ _ _ _ _ (Nat.le_refl _), fun q => by simp at q⟩
  · have hl : hs.length = xss.length := by simpa using own.1
    rw [← hl] at own h0
    obtain ⟨g, hg, hr⟩ := own_row own h0
    obtain ⟨g', off, e, q1, q2, _⟩ := hr.2.2 h0
    obtain rfl : g' = g := by omega
    subst e
    have gl : g' < w.heap.size := hr.2.1
    refine ⟨hs, bl, g', (hh.exs (fun b _ _ q e => q (by rw [e]; rfl))).wider h2 (Nat.le_refl _) (Nat.le_refl _), fun _ => ⟨by omega, gl, ?_⟩⟩
    rw [hl] at hr
    exact hr

/-- A boxed permutation in the first block, and the row l that grows. -/
structure Cf (w wr : World) (ps : List Int) (v : Value) (l : List Int) : Prop where
  own : wr.ownsRow (w.heap.size + 1) 3 1 v l.length (V l)
  p : Arr wr w.heap.size (V ps) 62
  below : Below w.heap.size w wr
theorem Cf.next {w wr w' : World} {ps l : List Int} {v v' : Value} {z : Int} {n : Nat} (h : Cf w wr ps v l)
    (ho : w'.ownsRow (w.heap.size + 1) 3 1 v' (n + 1) (V l ++ [.int .i64 z])) (hn : n = l.length) (hg : wr.grownBy w' v.ownBlock) : Cf w w' ps v' (l ++ [z]) := by
  subst hn
  have e : V (l ++ [z]) = V l ++ [.int .i64 z] := by simp [V]
  refine ⟨by rw [e]; simpa using ho, ?_, ?_⟩
  · exact (hg.block _ h.p.lt (fun e => by have := (h.own.lt _ e.symm).1; omega)).trans h.p
  · exact h.below.trans ((Below.refl _ _).grown hg h.below.size (fun k hk => by have := (h.own.lt k hk).1; omega))

set_option maxHeartbeats 1000000 in
theorem cycleFrom_any (ps : List Int) (n : Nat) (f : Nat) (w : World) (hl : ps.length = 24) (hb : Bij n ps) (hn : n ≤ 24) (hf : f < n) :
    Calls Try.prog 69 #[.agg (V ps).toArray, .int .i64 f] w (Gives (cyc ps n f) w) := by
  obtain ⟨i0, hi0, hz0, hz1, hz2⟩ := info_parts infoI
  have HL := Lib.hid hl; have HB := Lib.hid hb; clear hl hb
  have hcf := ((Arr.new w (V ps) 62 rfl).alloc (.cells #[.int .i64 f] 3)).cell (V_getD (l := ps) (k := f) (by rw [HL.out]; omega))
  have CW := Lib.hid (Cw.start (ps := ps) (f := (f : Int)) (n := n) (by omega) (by omega))
  rw [Int.toNat_natCast] at CW
  have m0 := HB.out.maps f hf
  generalize ps.getD f 0 = x0 at *
  go_enter Try.func69, Try.ntmps69
  go_wp2
  go_loopw [5, 6] (fun v x wr => ∃ (z : Int) (acc : List Int) (m : Nat), x = .int .i64 z ∧ Cf w wr ps v acc ∧ Cw n ps f z acc m) (fun v _ _ => n + 1 - lenV v)
  case atStart =>
    refine ⟨x0, [(f : Int)], n, rfl, ⟨?_, (Arr.new w (V ps) _ rfl).alloc _, ((Below.refl _ _).alloc (Nat.le_refl _) _).alloc (by simp) _⟩, CW.out⟩
    exact ⟨rfl, .inr ⟨w.heap.size + 1, 1, #[.int .i64 f], rfl, Nat.le_refl _, Arr.new _ (V [(f : Int)]) _ (by simp), Nat.le_refl _, by unfold maxLen; omega, rfl, rfl⟩⟩
  case round =>
    obtain ⟨z, acc, m, rfl, hcf', hcw⟩ := hrel
    obtain ⟨C, cc, rfl⟩ := own_form hcf'.own
    have CF := Lib.hid hcf'; have CWW := Lib.hid hcw; clear hcf' hcw
    have hal : acc.length ≤ n := CWW.out.way.inn.len
    have zi := CWW.out.way.x_in HB.out
    obtain ⟨y, rfl⟩ := Int.eq_ofNat_of_zero_le zi.1
    have hy : y < n := by omega
    clear zi
    by_cases e : y = f
    · subst e
      have D := Lib.hid CWW.out.done
      go_wp2
      go_ret
      refine ⟨_, rfl, ?_, CF.out.below⟩
      have := own_base CF.out.own (base' := w.heap.size) (by omega)
      rw [D.out] at this
      rw [D.out]
      exact this
    · have hne : ((y : Int) != (f : Int)) = true := by simp; omega
      have NX : Hid (Cw n ps f (ps.getD y 0) (acc ++ [(y : Int)]) (m - 1)) := Lib.hid (by have := CWW.out.next HB.out (by omega); rw [Int.toNat_natCast] at this; exact this)
      have hsz : w.heap.size + 1 ≤ wr.heap.size := CF.out.p.lt
      clear e
      go_wp2_with (at_builtin; refine wpList_append_one wr _ _ rfl _ _ 30 rfl (w.heap.size + 1) 3 i0 _ 8 Try.underlying30 hi0 hz0 hz1 hz2 rfl _ _ _ rfl CF.out.own rfl rfl ?c4 (by decide) hsz ?_)
      case c4 => omega
      intro v' w' ho hg
      have HN := Lib.hid (CF.out.next ho rfl hg)
      clear ho hg CF
      obtain ⟨C', cc', rfl⟩ := own_form HN.out.own
      have hcy := HN.out.p.cell (V_getD (l := ps) (k := y) (by rw [HL.out]; omega))
      go_wp2
      go_roundw
      case rel => exact ⟨_, _, _, rfl, HN.out, NX.out⟩
      case measure => simp [lenV]; omega
end Go.Proofs.Ytkkklpchkkdhfaa.fns
