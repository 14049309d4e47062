import Derived.Test.YtpmojmhamgcfmaaGreatY16
import Derived.Test.YtpmojmhamgcfmaaGreatY03
import Derived.Test.YtpmojmhamgcfmaaGreatY08
import Derived.Test.YtpmojmhamgcfmaaGreatY06
import Derived.Test.YtpmojmhamgcfmaaGreatY01
import Derived.Deep.DeepAppendWide
import Derived.OwnWalk
import Derived.Test.YtpmojmhamgcfmaaGreatY17
/-
  A slice of slices that grows; contract of the program's cycleFrom.
-/
namespace Go.Proofs.YtpmojmhamgcfmaaGreat.fns
open Go.ChangeShapes Go.WideShapes Go.ChangeAt Go.RowKit
open Go.Proofs.YtpmojmhamgcfmaaGreat.mem Go.Proofs.YtpmojmhamgcfmaaGreat.ints Go.Proofs.YtpmojmhamgcfmaaGreat.arr Go.Proofs.YtpmojmhamgcfmaaGreat.pm Go.Proofs.YtpmojmhamgcfmaaGreat.permOk Go.Proofs.YtpmojmhamgcfmaaGreat.permOf Go.Proofs.YtpmojmhamgcfmaaGreat.inv Go.Proofs.YtpmojmhamgcfmaaGreat.mat
set_option linter.unusedVariables false
set_option maxRecDepth 100000

def lenV : Value → Nat
  | .slice _ n _ => n
  | _ => 0
theorem own_base {w : World} {base base' : Nat} {e : TypeId} {v : Value} {n : Nat} {xs : List Value} (h : w.ownsRow base e 1 v n xs) (hb : base' ≤ base) : w.ownsRow base' e 1 v n xs := by
  refine ⟨h.1, ?_⟩
  rcases h.2 with h0 | ⟨g, cap, cur, h1, h2, h3⟩
  · exact .inl h0
  · exact .inr ⟨g, cap, cur, h1, Nat.le_trans hb h2, h3⟩
theorem own_arr {w : World} {base g n : Nat} {e : TypeId} {xs : List Value} (h : w.ownsRow base e 1 (.slice (some ⟨g, 0, none⟩) n n) n xs) : Arr w g xs e := by
  rcases h.2 with ⟨h0, _⟩ | ⟨g', cap, cur, h1, h2, h3, h4, h5, h6, h7⟩
  · cases h0
  · injection h1 with e1 e2 e3
    injection e1 with e1
    injection e1 with e1
    subst e1; subst e3
    unfold Arr
    rw [h3, ← h7, List.take_of_length_le (by simp; omega)]
/-- The block of a row that is not empty. -/
theorem own_row {w : World} {base : Nat} {e : TypeId} {A : Option Addr} {c : Nat} {xs : List Value} (h : w.ownsRow base e 1 (.slice A xs.length c) xs.length xs) (h0 : 0 < xs.length) : ∃ g, base ≤ g ∧ Row w g (g + 1) A xs.length xs := by
  have hr := Row.of_own h
  obtain ⟨g, off, e1, h1, h2, h3⟩ := hr.2.2 h0
  exact ⟨g, h1, hr.1, by omega, fun _ => ⟨g, off, e1, Nat.le_refl _, by omega, h3⟩⟩

/-- v owns the headers of the rows xss, from block bs on; the rows lie from lo on, none in v's block; v's block is not s. -/
def Mg (w : World) (bs lo s : Nat) (v : Value) (xss : List (List Int)) : Prop :=
  ∃ hs bl, w.ownsRow bs 29 1 v xss.length hs ∧ Hs w lo w.heap.size (fun b => v.ownBlock = some b) bl hs xss ∧ v.ownBlock ≠ some s
theorem Mg.keep {w w' : World} {bs lo s : Nat} {v : Value} {xss : List (List Int)} (h : Mg w bs lo s v xss) (hz : w.heap.size ≤ w'.heap.size) (h1 : bs ≤ lo) (h2 : s < lo)
    (hk : ∀ b, bs ≤ b → b < w.heap.size → b ≠ s → w'.heap[b]? = w.heap[b]?) : Mg w' bs lo s v xss := by
  obtain ⟨hs, bl, own, hh, ne⟩ := h
  refine ⟨hs, bl, ⟨own.1, ?_⟩, (hh.keep hz (fun b q1 q2 _ => hk b (by omega) q2 (by omega))).wider (Nat.le_refl _) hz (Nat.le_refl _), ne⟩
  rcases own.2 with h0 | ⟨g, cap, cur, q1, q2, q3, q4⟩
  · exact .inl h0
  · refine .inr ⟨g, cap, cur, q1, q2, ?_, q4⟩
    rw [hk g q2 (Array.getElem?_eq_some_iff.1 q3).1 (fun e => ne (by rw [q1, ← e]; rfl))]
    exact q3
theorem Mg.nil (w : World) (bs lo s : Nat) : Mg w bs lo s (.slice none 0 0) [] := ⟨[], fun _ => 0, ⟨rfl, .inl ⟨rfl, rfl⟩⟩, Hs.nil _ _ _ _ _ (Nat.le_refl _), by simp [Value.ownBlock]⟩
theorem Mg.empty {w : World} {bs lo s g : Nat} (h : w.heap[g]? = some (.cells #[] 29 (0, 0))) (h1 : bs ≤ g) (h2 : g ≠ s) : Mg w bs lo s (.slice (some ⟨g, 0, none⟩) 0 0) [] :=
  ⟨[], fun _ => 0, ⟨rfl, .inr ⟨g, 0, #[], rfl, h1, h, Nat.le_refl _, by simp, rfl, rfl⟩⟩, Hs.nil _ _ _ _ _ (Nat.le_refl _), by intro e; simp [Value.ownBlock] at e; exact h2 e⟩
theorem Mg.form {w : World} {bs lo s : Nat} {v : Value} {xss : List (List Int)} (h : Mg w bs lo s v xss) : ∃ A c, v = .slice A xss.length c := by
  obtain ⟨hs, bl, own, _⟩ := h
  exact own_form own
theorem Mg.push {w0 W w' : World} {bs lo s g c n : Nat} {v v' : Value} {xss : List (List Int)} {hs : List Value} {bl : Nat → Nat} {A : Option Addr} {xs : List Int}
    (hh : Hs w0 lo w0.heap.size (fun b => v.ownBlock = some b) bl hs xss) (ne : v.ownBlock ≠ some s) (hz : w0.heap.size ≤ W.heap.size) (hk : ∀ b, lo ≤ b → b < w0.heap.size → W.heap[b]? = w0.heap[b]?)
    (hlo : lo ≤ w0.heap.size) (hs0 : s < lo) (hr : Row W g (g + 1) A xs.length (V xs)) (hg0 : w0.heap.size ≤ g) (hv : ∀ b, v.ownBlock = some b → b < w0.heap.size)
    (hn : n = xss.length) (ho : w'.ownsRow bs 29 1 v' (n + 1) (hs ++ [.slice A xs.length c])) (hg : W.grownBy w' v.ownBlock) (hb : v'.ownBlock = v.ownBlock ∨ ∃ k, v'.ownBlock = some k ∧ W.heap.size + 1 ≤ k) : Mg w' bs lo s v' (xss ++ [xs]) := by
  subst hn
  have gl : g < W.heap.size := hr.2.1
  have H1 : Hs W lo w0.heap.size (fun b => v.ownBlock = some b) bl hs xss := hh.keep hz (fun b q1 q2 _ => hk b q1 q2)
  have H2 := H1.snoc (g := g) (c := c) (A := A) (xs := xs) hg0 hlo (fun e => by have := hv g e; omega) hr
  have H3 := H2.keep (w' := w') hg.size (fun b q1 q2 q3 => hg.block b (by omega) (fun e => q3 e.symm))
  refine ⟨_, _, by simpa using ho, (H3.exs ?_).wider (Nat.le_refl _) (by have := hg.size; omega) (Nat.le_refl _), ?_⟩
  · intro b q1 q2 q3 e
    rcases hb with q | ⟨k, q, hk⟩
    · exact q3 (by rw [← q]; exact e)
    · rw [q] at e; injection e with e; omega
  · rcases hb with q | ⟨k, q, hk⟩
    · rw [q]; exact ne
    · rw [q]; intro e; injection e with e; omega
theorem Mg.mat {w : World} {bs lo s : Nat} {A : Option Addr} {c : Nat} {xss : List (List Int)} (h : Mg w bs lo s (.slice A xss.length c) xss) {B : Nat} (h1 : B ≤ bs) (h2 : B ≤ lo) : Mat w B w.heap.size A xss.length xss := by
  obtain ⟨hs, bl, own, hh, ne⟩ := h
  refine ⟨rfl, Nat.le_refl _, ?_⟩
  rcases Nat.eq_zero_or_pos xss.length with h0 | h0
  · obtain rfl := List.eq_nil_of_length_eq_zero h0
    exact ⟨[], fun _ => 0, 0, Hs.nil _ _ _ _ _ (Nat.le_refl _), fun q => by simp at q⟩
  · have hl : hs.length = xss.length := by simpa using own.1
    rw [← hl] at own h0
    obtain ⟨g, hg, hr⟩ := own_row own h0
    obtain ⟨g', off, e, q1, q2, _⟩ := hr.2.2 h0
    obtain rfl : g' = g := by omega
    subst e
    have gl : g' < w.heap.size := hr.2.1
    refine ⟨hs, bl, g', (hh.exs (fun b _ _ q e => q (by rw [e]; rfl))).wider h2 (Nat.le_refl _) (Nat.le_refl _), fun _ => ⟨by omega, gl, ?_⟩⟩
    rw [hl] at hr
    exact hr

/-- A boxed permutation in the first block, and the row l that grows. -/
structure Cf (w wr : World) (ps : List Int) (v : Value) (l : List Int) : Prop where
  own : wr.ownsRow (w.heap.size + 1) 3 1 v l.length (V l)
  p : Arr wr w.heap.size (V ps) 60
  below : Below w.heap.size w wr
theorem Cf.next {w wr w' : World} {ps l : List Int} {v v' : Value} {z : Int} {n : Nat} (h : Cf w wr ps v l)
    (ho : w'.ownsRow (w.heap.size + 1) 3 1 v' (n + 1) (V l ++ [.int .i64 z])) (hn : n = l.length) (hg : wr.grownBy w' v.ownBlock) : Cf w w' ps v' (l ++ [z]) := by
  subst hn
  have e : V (l ++ [z]) = V l ++ [.int .i64 z] := by simp [V]
  refine ⟨by rw [e]; simpa using ho, ?_, ?_⟩
  · exact (hg.block _ h.p.lt (fun e => by have := (h.own.lt _ e.symm).1; omega)).trans h.p
  · exact h.below.trans ((Below.refl _ _).grown hg h.below.size (fun k hk => by have := (h.own.lt k hk).1; omega))

set_option maxHeartbeats 1000000 in
theorem cycleFrom_any (ps : List Int) (n : Nat) (f : Nat) (w : World) (hl : ps.length = 24) (hb : Bij n ps) (hn : n ≤ 24) (hf : f < n) :
    Calls Tryz.prog 85 #[.agg (V ps).toArray, .int .i64 f] w (Gives (cyc ps n f) w) := by
  obtain ⟨i0, hi0, hz0, hz1, hz2⟩ := info_parts infoI
  have HL := Lib.hid hl; have HB := Lib.hid hb; clear hl hb
  have hcf := ((Arr.new w (V ps) 60 rfl).alloc (.cells #[.int .i64 f] 3)).cell (V_getD (l := ps) (k := f) (by rw [HL.out]; omega))
  have CW := Lib.hid (Cw.start (ps := ps) (f := (f : Int)) (n := n) (by omega) (by omega))
  rw [Int.toNat_natCast] at CW
  have m0 := HB.out.maps f hf
  generalize ps.getD f 0 = x0 at *
  go_enter Tryz.func85, Tryz.ntmps85
  go_wp2
  go_loopw [5, 6] (fun v x wr => ∃ (z : Int) (acc : List Int) (m : Nat), x = .int .i64 z ∧ Cf w wr ps v acc ∧ Cw n ps f z acc m) (fun v _ _ => n + 1 - lenV v)
  case atStart =>
    refine ⟨x0, [(f : Int)], n, rfl, ⟨?_, (Arr.new w (V ps) _ rfl).alloc _, ((Below.refl _ _).alloc (Nat.le_refl _) _).alloc (by simp) _⟩, CW.out⟩
    exact ⟨rfl, .inr ⟨w.heap.size + 1, 1, #[.int .i64 f], rfl, Nat.le_refl _, Arr.new _ (V [(f : Int)]) _ (by simp), Nat.le_refl _, by unfold maxLen; omega, rfl, rfl⟩⟩
  case round =>
    obtain ⟨z, acc, m, rfl, hcf', hcw⟩ := hrel
    obtain ⟨C, cc, rfl⟩ := own_form hcf'.own
    have CF := Lib.hid hcf'; have CWW := Lib.hid hcw; clear hcf' hcw
    have hal : acc.length ≤ n := CWW.out.way.inn.len
    have zi := CWW.out.way.x_in HB.out
    obtain ⟨y, rfl⟩ := Int.eq_ofNat_of_zero_le zi.1
    have hy : y < n := by omega
    clear zi
    by_cases e : y = f
    · subst e
      have D := Lib.hid CWW.out.done
      go_wp2
      go_ret
      refine ⟨_, rfl, ?_, CF.out.below⟩
      have := own_base CF.out.own (base' := w.heap.size) (by omega)
      rw [D.out] at this
      rw [D.out]
      exact this
    · have hne : ((y : Int) != (f : Int)) = true := by simp; omega
      have NX : Hid (Cw n ps f (ps.getD y 0) (acc ++ [(y : Int)]) (m - 1)) := Lib.hid (by have := CWW.out.next HB.out (by omega); rw [Int.toNat_natCast] at this; exact this)
      have hsz : w.heap.size + 1 ≤ wr.heap.size := CF.out.p.lt
      clear e
      go_wp2_with (at_builtin; refine wpList_append_one wr _ _ rfl _ _ 29 rfl (w.heap.size + 1) 3 i0 _ 8 Tryz.underlying29 hi0 hz0 hz1 hz2 rfl _ _ _ rfl CF.out.own rfl rfl ?c4 (by decide) hsz ?_)
      case c4 => omega
      intro v' w' ho hg
      have HN := Lib.hid (CF.out.next ho rfl hg)
      clear ho hg CF
      obtain ⟨C', cc', rfl⟩ := own_form HN.out.own
      have hcy := HN.out.p.cell (V_getD (l := ps) (k := y) (by rw [HL.out]; omega))
      go_wp2
      go_roundw
      case rel => exact ⟨_, _, _, rfl, HN.out, NX.out⟩
      case measure => simp [lenV]; omega
end Go.Proofs.YtpmojmhamgcfmaaGreat.fns

/-
  l10Perms of the model: all permutations in order.
-/
namespace Go.Proofs.YtpmojmhamgcfmaaGreat.lst
open Go.ChangeShapes Go.WideShapes Go.ChangeAt Go.RowKit
open Go.Proofs.YtpmojmhamgcfmaaGreat.mem Go.Proofs.YtpmojmhamgcfmaaGreat.ints Go.Proofs.YtpmojmhamgcfmaaGreat.arr Go.Proofs.YtpmojmhamgcfmaaGreat.pm Go.Proofs.YtpmojmhamgcfmaaGreat.mat
set_option linter.unusedVariables false
set_option maxRecDepth 100000

/-- What the elements below j add behind p. -/
def extP (n : Nat) (p : List Int) (j : Nat) : List (List Int) := (((rng n).take j).filter fun x => !decide (x ∈ p)).map fun x => p ++ [x]
theorem rng_at {n j : Nat} (h : j < n) : (rng n)[j]? = some (j : Int) := by simp [rng, h]
theorem extP_next {n j : Nat} {p : List Int} (h : j < n) : extP n p (j + 1) = if (j : Int) ∈ p then extP n p j else extP n p j ++ [p ++ [(j : Int)]] := by
  unfold extP
  rw [List.take_add_one, rng_at h]
  by_cases q : (j : Int) ∈ p
  · rw [if_pos q]; simp [q]
  · rw [if_neg q]; simp [q]
theorem extP_all (n : Nat) (p : List Int) : extP n p n = ((rng n).filter fun x => !decide (x ∈ p)).map fun x => p ++ [x] := by
  unfold extP
  rw [List.take_of_length_le (by simp [rng])]
theorem extP_len (n : Nat) (p : List Int) (j : Nat) : (extP n p j).length ≤ j := by
  unfold extP
  rw [List.length_map]
  refine Nat.le_trans (List.length_filter_le _ _) ?_
  rw [List.length_take]; omega
theorem prmNext_take {n a : Nat} {L : List (List Int)} {p : List Int} (h : L[a]? = some p) : prmNext n (L.take (a + 1)) = prmNext n (L.take a) ++ extP n p n := by
  rw [List.take_add_one, h, extP_all]
  unfold prmNext
  simp
theorem prmNext_len (n : Nat) : ∀ L : List (List Int), (prmNext n L).length ≤ n * L.length
  | [] => by simp [prmNext]
  | p :: t => by
    have ih := prmNext_len n t
    unfold prmNext at ih ⊢
    rw [List.flatMap_cons, List.length_append]
    have h1 := extP_len n p n
    rw [extP_all] at h1
    rw [List.length_cons, Nat.mul_succ]
    omega
theorem prm_few : ∀ n : Fin 5, ∀ i : Fin 5, (prmS n.val i.val).length ≤ 24 ∧ ((prmS n.val i.val).all fun p => decide (p.length = i.val)) = true := by decide +kernel
theorem prm_ok {n i : Nat} (hn : n ≤ 4) (hi : i ≤ 4) : (prmS n i).length ≤ 24 ∧ ∀ p ∈ prmS n i, p.length = i := by
  obtain ⟨a, b⟩ := prm_few ⟨n, by omega⟩ ⟨i, by omega⟩
  exact ⟨a, fun p hp => by simpa using List.all_eq_true.1 b p hp⟩
/-- A list of rows that reads as L. -/
def Rl (w : World) (B : Nat) (A : Option Addr) (L : List (List Int)) : Prop :=
  B ≤ w.heap.size ∧ ∀ (a : Nat) (p : List Int), L[a]? = some p → ∃ G off g o c, A = some ⟨G, off, none⟩ ∧ G < B ∧ w.cell? ⟨G, off + a, none⟩ = some (.slice (some ⟨g, o, none⟩) p.length c) ∧ p.length ≤ c ∧ Rd w B (some ⟨g, o, none⟩) p.length (V p)
theorem Rl.keep {w w' : World} {B : Nat} {A : Option Addr} {L : List (List Int)} (h : Rl w B A L) (hb : Below B w w') : Rl w' B A L := by
  refine ⟨Nat.le_trans h.1 hb.size, fun a p hp => ?_⟩
  obtain ⟨G, off, g, o, c, e, hG, hc, hl, r⟩ := h.2 a p hp
  exact ⟨G, off, g, o, c, e, hG, by rw [hb.cell (p := ⟨G, off + a, none⟩) hG]; exact hc, hl, r.keep hb (Nat.le_refl _)⟩
/-- A list of rows that grows in memory from base on. -/
structure Gq (wr : World) (base : Nat) (vo : Value) (L : List (List Int)) : Prop where
  ex : ∃ hs, wr.ownsRow base 29 1 vo L.length hs ∧ ∀ (a : Nat) (p : List Int), L[a]? = some p → ∃ g o c, hs[a]? = some (.slice (some ⟨g, o, none⟩) p.length c) ∧ p.length ≤ c ∧ Rd wr wr.heap.size (some ⟨g, o, none⟩) p.length (V p) ∧ ¬ vo.ownBlock = some g ∧ g < wr.heap.size
theorem rd_far {w w' : World} {g o n : Nat} {xs : List Value} (h : Rd w w.heap.size (some ⟨g, o, none⟩) n xs) (hz : w.heap.size ≤ w'.heap.size) (hb : w'.heap[g]? = w.heap[g]?) : Rd w' w'.heap.size (some ⟨g, o, none⟩) n xs := by
  refine ⟨h.1, Nat.le_refl _, fun hn => ?_⟩
  obtain ⟨g', off, e, hlt, hc⟩ := h.2.2 hn
  injection e with e; injection e with e1 e2
  subst e1; subst e2
  exact ⟨g, o, rfl, by omega, fun j hj => by rw [World.cell?_of_block (w := w) (a := ⟨g, o + j, none⟩) hb]; exact hc j hj⟩
theorem Gq.own_block_keep0 {w w' : World} {base : Nat} {e : TypeId} {size n : Nat} {v : Value} {xs : List Value} (h : w.ownsRow base e size v n xs) (hb : ∀ b, v.ownBlock = some b → w'.heap[b]? = w.heap[b]?) : w'.ownsRow base e size v n xs := by
  refine ⟨h.1, ?_⟩
  rcases h.2 with h0 | ⟨g, cap, cur, h1, h2, h3, h4⟩
  · exact .inl h0
  · refine .inr ⟨g, cap, cur, h1, h2, ?_, h4⟩
    rw [hb g (by subst h1; rfl)]
    exact h3
theorem Gq.keep {wr w' : World} {base : Nat} {vo : Value} {L : List (List Int)} (h : Gq wr base vo L) (hb : Below wr.heap.size wr w') : Gq w' base vo L := by
  obtain ⟨hs, own, rows⟩ := h.ex
  refine ⟨hs, Gq.own_block_keep0 own (fun b e => hb.block b (own.lt b e).2), fun a p hp => ?_⟩
  obtain ⟨g, o, c, e1, e2, e3, e4, e5⟩ := rows a p hp
  exact ⟨g, o, c, e1, e2, rd_far e3 hb.size (hb.block g e5), e4, Nat.lt_of_lt_of_le e5 hb.size⟩
theorem Gq.push {wr w4 w6 : World} {base g o c n : Nat} {vo v6 : Value} {L : List (List Int)} {p : List Int} {hs : List Value} (hs0 : wr.ownsRow base 29 1 vo L.length hs)
    (rows : ∀ (a : Nat) (p : List Int), L[a]? = some p → ∃ g o c, hs[a]? = some (.slice (some ⟨g, o, none⟩) p.length c) ∧ p.length ≤ c ∧ Rd wr wr.heap.size (some ⟨g, o, none⟩) p.length (V p) ∧ ¬ vo.ownBlock = some g ∧ g < wr.heap.size)
    (hW : Below wr.heap.size wr w4) (hp : Rd w4 w4.heap.size (some ⟨g, o, none⟩) p.length (V p)) (hc : p.length ≤ c) (hg1 : wr.heap.size ≤ g) (hg2 : g < w4.heap.size) (hn : n = L.length)
    (ho : w6.ownsRow base 29 1 v6 (n + 1) (hs ++ [.slice (some ⟨g, o, none⟩) p.length c])) (hg : w4.grownBy w6 vo.ownBlock) (hb : v6.ownBlock = vo.ownBlock ∨ ∃ k, v6.ownBlock = some k ∧ w4.heap.size + 1 ≤ k) : Gq w6 base v6 (L ++ [p]) := by
  subst hn
  have hl : hs.length = L.length := by simpa using hs0.1
  have z1 := hW.size; have z2 := hg.size
  have hne : ∀ b, b < w4.heap.size → ¬ vo.ownBlock = some b → ¬ v6.ownBlock = some b := fun b b1 b2 e => by
    rcases hb with q | ⟨k, q1, q2⟩
    · exact b2 (by rw [← q, e])
    · rw [q1] at e; injection e with e; omega
  have hvo : ¬ vo.ownBlock = some g := fun e => by have := (hs0.lt g e).2; omega
  refine ⟨_, by simpa using ho, fun a q hq => ?_⟩
  by_cases ha : a < L.length
  · rw [List.getElem?_append_left ha] at hq
    obtain ⟨g', o', c', e1, e2, e3, e4, e5⟩ := rows a q hq
    have h1 := rd_far e3 z1 (hW.block g' e5)
    exact ⟨g', o', c', by rw [List.getElem?_append_left (by omega)]; exact e1, e2, rd_far h1 z2 (hg.block g' (by omega) (fun e => e4 e.symm)), hne g' (by omega) e4, by omega⟩
  · have e0 : a = L.length := by
      have := (List.getElem?_eq_some_iff.1 hq).1
      simp at this; omega
    subst e0
    simp at hq
    subst hq
    exact ⟨g, o, c, by rw [← hl]; simp, hc, rd_far hp z2 (hg.block g hg2 (fun e => hvo e.symm)), hne g hg2 hvo, by omega⟩
theorem Gq.rl {wr : World} {base : Nat} {A : Option Addr} {c : Nat} {L : List (List Int)} (h : Gq wr base (.slice A L.length c) L) : Rl wr wr.heap.size A L := by
  obtain ⟨hs, own, rows⟩ := h.ex
  have rw_ := Row.of_own own
  refine ⟨Nat.le_refl _, fun a p hp => ?_⟩
  obtain ⟨g, o, c', e1, e2, e3, e4, e5⟩ := rows a p hp
  have ha := (List.getElem?_eq_some_iff.1 hp).1
  obtain ⟨G, off, u, eA, _, h2, h3, h4, _⟩ := rw_.at_ ha
  rw [e1] at h3
  obtain rfl := Option.some.inj h3
  exact ⟨G, off, g, o, c', eA, h2, h4, e2, e3⟩
end Go.Proofs.YtpmojmhamgcfmaaGreat.lst

/-
  The model's list of all surfaces with few squares, while it is made.
-/
namespace Go.Proofs.YtpmojmhamgcfmaaGreat.lst
open Go.ChangeShapes Go.WideShapes Go.ChangeAt Go.RowKit
open Go.Proofs.YtpmojmhamgcfmaaGreat.mem Go.Proofs.YtpmojmhamgcfmaaGreat.ints Go.Proofs.YtpmojmhamgcfmaaGreat.arr Go.Proofs.YtpmojmhamgcfmaaGreat.pm Go.Proofs.YtpmojmhamgcfmaaGreat.sf Go.Proofs.YtpmojmhamgcfmaaGreat.orb
set_option linter.unusedVariables false
set_option maxRecDepth 100000

theorem insL_mem : ∀ (L : List Sur) (s : Sur) (d : Bool) (y : Sur), y ∈ insL L s d → y ∈ L ∨ y = s
  | [], s, d, y, h => by
    cases d
    · exact .inr (by simpa [insL] using h)
    · simp [insL] at h
  | x :: t, s, d, y, h => by
    rw [insL] at h
    split at h
    · rcases List.mem_cons.1 h with q | q
      · exact .inr q
      rcases List.mem_cons.1 q with q | q
      · exact .inl (q ▸ List.mem_cons_self ..)
      · rcases insL_mem t s _ y q with q | q
        · exact .inl (List.mem_cons_of_mem _ q)
        · exact .inr q
    · rcases List.mem_cons.1 h with q | q
      · exact .inl (q ▸ List.mem_cons_self ..)
      · rcases insL_mem t s _ y q with q | q
        · exact .inl (List.mem_cons_of_mem _ q)
        · exact .inr q
theorem insL_len : ∀ (L : List Sur) (s : Sur) (d : Bool), (insL L s d).length ≤ L.length + (if d then 0 else 1)
  | [], s, d => by cases d <;> simp [insL]
  | x :: t, s, d => by
    rw [insL]
    split
    · rename_i h
      have hd : d = false := by cases d <;> simp_all
      subst hd
      have := insL_len t s true
      simp at this ⊢
      omega
    · have := insL_len t s (d || decide (x = s))
      cases d
      · simp at this ⊢
        split at this <;> omega
      · simp at this ⊢
        omega
theorem putP_len (n : Nat) (acc : List Sur) (r u : List Int) : (putP n acc r u).length ≤ acc.length + 1 := by
  unfold putP
  split
  · have := insL_len acc (can r u n) false
    simpa using this
  · omega
theorem putP_sf {n : Nat} {acc : List Sur} {r u : List Int} (hr : r.length = n) (h : ∀ y ∈ acc, Sf n y.1 y.2) : ∀ y ∈ putP n acc r u, Sf n y.1 y.2 := by
  unfold putP
  split
  · rename_i ht
    have s := transB_iff.1 ht
    rw [hr] at s
    obtain ⟨_, _, q⟩ := s.can_iso
    intro y hy
    rcases insL_mem _ _ _ _ hy with e | rfl
    · exact h y e
    · exact q
  · exact h
theorem rowP_take {n a : Nat} {acc : List Sur} {r u : List Int} {U : List (List Int)} (h : U[a]? = some u) : rowP n acc r (U.take (a + 1)) = putP n (rowP n acc r (U.take a)) r u := by
  rw [List.take_add_one, h]
  simp [rowP]
theorem allP_take {n a : Nat} {acc : List Sur} {r : List Int} {R U : List (List Int)} (h : R[a]? = some r) : allP n acc (R.take (a + 1)) U = rowP n (allP n acc (R.take a) U) r U := by
  rw [List.take_add_one, h]
  simp [allP]
/-- The list so far: its items lie from base on. -/
structure Sx (w wr : World) (vo : Value) (n : Nat) (acc : List Sur) : Prop where
  ex : ∃ Z : List Item, Z.map sOf = acc ∧ wr.ownsRow w.heap.size 31 2 vo Z.length (hsOf Z) ∧ Pk wr w.heap.size wr.heap.size (fun b => vo.ownBlock = some b) Z
  sf : ∀ y ∈ acc, Sf n y.1 y.2
  bel : Below w.heap.size w wr
theorem Sx.keep {w wr w' : World} {vo : Value} {n : Nat} {acc : List Sur} (h : Sx w wr vo n acc) (hb : Below wr.heap.size wr w') : Sx w w' vo n acc := by
  obtain ⟨Z, e, o, p⟩ := h.ex
  exact ⟨⟨Z, e, own_block_keep o (fun b q => hb.block b (o.lt b q).2), (p.keep hb.size (fun b _ q _ => hb.block b q)).to (Nat.le_refl _) hb.size (Nat.le_refl _) (fun _ _ _ q => q)⟩, h.sf, h.bel.trans (hb.mono h.bel.size)⟩
theorem Sx.form {w wr : World} {vo : Value} {n : Nat} {acc : List Sur} (h : Sx w wr vo n acc) : ∃ A c, vo = .slice A acc.length c := by
  obtain ⟨Z, e, o, p⟩ := h.ex
  obtain ⟨A, c, q⟩ := mem.own_form o
  exact ⟨A, c, by rw [q, ← e, List.length_map]⟩
theorem Sx.lo {w wr : World} {vo : Value} {n : Nat} {acc : List Sur} (h : Sx w wr vo n acc) : Lo wr w.heap.size wr.heap.size vo acc := by
  obtain ⟨Z, e, o, p⟩ := h.ex
  subst e
  exact ⟨hsOf Z, blk0 Z, by rw [List.length_map]; exact o, p.ls, fun b q => (o.lt b q).2⟩
theorem Svl.formN {w : World} {lo hi N : Nat} {v : Value} {r u : List Int} (h : Svl w lo hi v r u) (e1 : r.length = N) (e2 : u.length = N) : ∃ P c Q d, v = .agg #[.slice P N c, .slice Q N d] := by
  obtain ⟨P, n, c, Q, m, d, l1, h1, l2, h2, e, a, b, _⟩ := h
  have q1 : r.length = n := by simpa [V] using a.1
  have q2 : u.length = m := by simpa [V] using b.1
  subst e1
  subst q1
  have q3 : m = r.length := by omega
  subst q3
  exact ⟨P, c, Q, d, e⟩
theorem Sx.base {w0 w wr : World} {vo : Value} {n : Nat} {acc : List Sur} (h : Sx w wr vo n acc) (hb : Below w0.heap.size w0 w) : Sx w0 wr vo n acc := by
  obtain ⟨Z, e, o, p⟩ := h.ex
  have s0 := hb.size
  refine ⟨⟨Z, e, ⟨o.1, o.2.imp id (fun ⟨g, cap, cur, q1, q2, q3⟩ => ⟨g, cap, cur, q1, Nat.le_trans s0 q2, q3⟩)⟩, p.to s0 (Nat.le_refl _) (Nat.le_refl _) (fun _ _ _ q => q)⟩, h.sf, hb.trans (h.bel.mono s0)⟩
/-- A fresh form beside the list. -/
theorem Sx.join {w wr w2 w3 : World} {vo : Value} {n c d : Nat} {acc : List Sur} {P Q : Option Addr} {s : Sur} (h : Sx w wr vo n acc) (b2 : Below wr.heap.size wr w2) (b3 : Below w2.heap.size w2 w3)
    (hx : Svl w3 w2.heap.size w3.heap.size (.agg #[.slice P n c, .slice Q n d]) s.1 s.2) (hn : 0 < n) :
    ∃ (Z : List Item) (zb : Nat × Nat), Z.map sOf = acc ∧ Z.length = acc.length ∧ w3.ownsRow w.heap.size 31 2 vo acc.length (hsOf Z) ∧ Pk w3 w.heap.size w3.heap.size (fun b => vo.ownBlock = some b) ((zb, (.slice P n c, .slice Q n d), s) :: Z) ∧ ∀ y ∈ Z, Sf n (sOf y).1 (sOf y).2 := by
  obtain ⟨Z, e, o, p⟩ := h.ex
  have s2 := b2.size; have s3 := b3.size; have s0 := h.bel.size
  have b13 : Below wr.heap.size wr w3 := b2.trans (b3.mono s2)
  have p3 : Pk w3 w.heap.size w2.heap.size (fun b => vo.ownBlock = some b) Z := (p.keep (by omega) (fun b _ q _ => b13.block b q)).to (Nat.le_refl _) s2 s3 (fun _ _ _ q => q)
  obtain ⟨zb, pz⟩ := p3.cons (lo := w.heap.size) (hi' := w3.heap.size) hx hn hn (by omega) s3 (Nat.le_refl _) (fun b q _ e => by have := (o.lt b e).2; omega)
  have el : Z.length = acc.length := by rw [← e, List.length_map]
  refine ⟨Z, zb, e, el, ?_, pz, fun y hy => h.sf _ (by rw [← e]; exact List.mem_map_of_mem hy)⟩
  rw [← el]
  exact own_block_keep o (fun b q => b13.block b (o.lt b q).2)
/-- It is put at its place: what l10Insert gives. -/
theorem Sx.put {w wr w1 w2 : World} {vo v : Value} {n : Nat} {acc : List Sur} {hd : Value × Value} {r u : List Int} (h : Sx w wr vo n acc) (hb : Below wr.heap.size wr w1)
    (ht : transB r u = true) (hr : r.length = n) {Z : List Item} (hZ : Z.map sOf = acc) {zb : Nat × Nat} (hp : Pk w1 w.heap.size w1.heap.size (fun b => vo.ownBlock = some b) ((zb, hd, can r u n) :: Z))
    (io : Io w1 w2 v (insZ (zb, hd, can r u n) Z)) : Sx w w2 v n (putP n acc r u) := by
  have e1 : putP n acc r u = insL acc (can r u n) false := by unfold putP; rw [if_pos ht]
  have ho : w.heap.size ≤ w1.heap.size := Nat.le_trans h.bel.size hb.size
  have b2 : Below w.heap.size w w2 := (h.bel.trans (hb.mono h.bel.size)).trans (io.bel.mono ho)
  refine ⟨⟨insZ (zb, hd, can r u n) Z, by rw [insZ_map, e1, hZ]; rfl, ?_, ?_⟩, putP_sf hr h.sf, b2⟩
  · have := io.own
    refine ⟨this.1, ?_⟩
    rcases this.2 with q | ⟨g, cap, cur, q1, q2, q3⟩
    · exact .inl q
    · exact .inr ⟨g, cap, cur, q1, Nat.le_trans ho q2, q3⟩
  · have p1 := (hp.keep io.bel.size (fun b _ q _ => io.bel.block b q)).ins
    exact p1.to (Nat.le_refl _) io.bel.size (Nat.le_refl _) (fun b _ q _ e => by have := (io.own.lt b e).1; omega)
theorem Sx.start (w : World) (n : Nat) : Sx w (w.alloc (.cells #[] 31)) (.slice (some ⟨w.heap.size, 0, none⟩) 0 0) n [] := by
  refine ⟨⟨[], rfl, ⟨rfl, .inr ⟨w.heap.size, 0, #[], rfl, Nat.le_refl _, heap_alloc_last w _, Nat.le_refl _, by unfold maxLen; omega, rfl, rfl⟩⟩, Pk.nil _ _ _ _ (Nat.le_refl _)⟩, fun y hy => by simp at hy, (Below.refl _ _).alloc (Nat.le_refl _) _⟩
/-- Rows to be read, by their places. -/
theorem Rl.at_ {w : World} {B : Nat} {A : Option Addr} {L : List (List Int)} (h : Rl w B A L) (hl : 0 < L.length) :
    ∃ G off, A = some ⟨G, off, none⟩ ∧ G < B ∧ ∀ (a : Nat) (p : List Int), L[a]? = some p → ∃ g o c, w.cell? ⟨G, off + a, none⟩ = some (.slice (some ⟨g, o, none⟩) p.length c) ∧ p.length ≤ c ∧ Rd w B (some ⟨g, o, none⟩) p.length (V p) := by
  obtain ⟨G, off, g, o, c, e, hG, _⟩ := h.2 0 _ (List.getElem?_eq_getElem hl)
  refine ⟨G, off, e, hG, fun a p hp => ?_⟩
  obtain ⟨G', off', g', o', c', e', _, h1, h2, h3⟩ := h.2 a p hp
  rw [e] at e'
  injection e' with e'
  injection e' with q1 q2
  subst q1; subst q2
  exact ⟨g', o', c', h1, h2, h3⟩
/-- What both programs' SurfacesWith give. -/
def SWPost (n : Int) (L : List Sur) (w : World) (e : Ending) (w' : World) : Prop := ∃ v, e = .returned v ∧ Sx w w' v n.toNat L
theorem Sx.nil {w w' : World} (n : Nat) (hb : Below w.heap.size w w') : Sx w w' (.slice none 0 0) n [] :=
  ⟨⟨[], rfl, ⟨rfl, .inl ⟨rfl, rfl⟩⟩, Pk.nil _ _ _ _ (Nat.le_refl _)⟩, fun y hy => by simp at hy, hb⟩
theorem swF_no {n : Int} (h : ¬ (1 ≤ n ∧ n ≤ 4)) : swF n = [] := if_neg h
theorem swF_yes {n : Nat} (h1 : 1 ≤ n) (h2 : n ≤ 4) : swF (n : Int) = allP n [] (prmS n n) (prmS n n) := by
  unfold swF swL
  rw [if_pos (by omega)]
  rfl
theorem sx_post {w wr : World} {vo : Value} {n : Nat} {acc L : List Sur} (h : Sx w wr vo n acc) (e : acc = L) : SWPost (n : Int) L w (.returned vo) wr := by
  subst e
  exact ⟨vo, rfl, h⟩
theorem sw_none {n : Int} {L : List Sur} {w w' : World} (h : L = []) (hb : Below w.heap.size w w') : SWPost n L w (.returned (.slice none 0 0)) w' := by
  subst h
  exact ⟨_, rfl, Sx.nil _ hb⟩
/-- A fresh surface behind the others: an append. -/
theorem Sx.push {w wr w1 w6 : World} {vo : Value} {n c d g cap : Nat} {acc : List Sur} {P Q : Option Addr} {s : Sur} {Z : List Item} {zb : Nat × Nat} (h : Sx w wr vo n acc) (hb : Below wr.heap.size wr w1) (hs : Sf n s.1 s.2) (hZ : Z.map sOf = acc) (hl : Z.length = acc.length)
    (hp : Pk w1 w.heap.size w1.heap.size (fun b => vo.ownBlock = some b) ((zb, (.slice P n c, .slice Q n d), s) :: Z))
    (ho : w6.ownsRow w.heap.size 31 2 (.slice (some ⟨g, 0, none⟩) (acc.length + 1) cap) (acc.length + 1) (hsOf Z ++ [.slice P n c, .slice Q n d])) (hg : (w1.alloc (.cells #[.slice P n c, .slice Q n d] 31)).grownBy w6 vo.ownBlock)
    (hv : ∀ b, vo.ownBlock = some b → b < wr.heap.size) (hbg : vo.ownBlock = some g ∨ g = w1.heap.size + 1) : Sx w w6 (.slice (some ⟨g, 0, none⟩) (acc.length + 1) cap) n (acc ++ [s]) := by
  have s0 := h.bel.size; have s1 := hb.size
  have bA : Below w1.heap.size w1 (w1.alloc (.cells #[.slice P n c, .slice Q n d] 31)) := (Below.refl _ _).alloc (Nat.le_refl _) _
  have sA := bA.size; have s6 := hg.size
  have hk : ∀ b, w.heap.size ≤ b → b < w1.heap.size → ¬ vo.ownBlock = some b → w6.heap[b]? = w1.heap[b]? := fun b _ q e => (hg.block b (by omega) (fun x => e x.symm)).trans (bA.block b q)
  have p6 := (hp.keep (by omega) hk).perm (show ((zb, (Value.slice P n c, Value.slice Q n d), s) :: Z).Perm (Z ++ [(zb, (Value.slice P n c, Value.slice Q n d), s)]) from List.perm_append_comm (l₁ := [(zb, (Value.slice P n c, Value.slice Q n d), s)]) (l₂ := Z))
  refine ⟨⟨Z ++ [(zb, (.slice P n c, .slice Q n d), s)], by rw [List.map_append, hZ]; rfl, ?_, ?_⟩, fun y hy => ?_, ?_⟩
  · rw [hs_app, List.length_append, List.length_singleton, hl]
    exact ho
  · refine p6.to (Nat.le_refl _) (by omega) (Nat.le_refl _) (fun b b1 b2 e e' => ?_)
    have e2 : g = b := by simpa [Value.ownBlock] using e'
    rcases hbg with q | q
    · exact e (by rw [q, e2])
    · omega
  · rcases List.mem_append.1 hy with q | q
    · exact h.sf y q
    · obtain rfl : y = s := by simpa using q
      exact hs
  · have b1 := h.bel.trans (hb.mono s0)
    have b2 := b1.trans (bA.mono (by omega))
    exact b2.trans ⟨hg.os, hg.tape, hg.output, hg.size, fun k hk' => hg.block k (by omega) (fun e => by have := hv k e.symm; obtain ⟨Z', _, o, _⟩ := h.ex; have := (o.lt k e.symm).1; omega)⟩
end Go.Proofs.YtpmojmhamgcfmaaGreat.lst
