import Derived.Test.YtkkklpchkkdhfaaY11
import Derived.Test.YtkkklpchkkdhfaaY04
import Derived.Test.YtkkklpchkkdhfaaY08
import Derived.Shelf.Strings.Repeat
import Derived.Shelf.Strings.Count
import Derived.Shelf.Bytes.SlCountOne
import Derived.Test.YtkkklpchkkdhfaaProg
/-
  A slice of slices that grows; contract of the program's cycleFrom.
-/
namespace Go.Proofs.Ytkkklpchkkdhfaa.fns
open Go.ChangeShapes Go.WideShapes Go.ChangeAt Go.RowKit
open Go.Proofs.Ytkkklpchkkdhfaa.mem Go.Proofs.Ytkkklpchkkdhfaa.ints Go.Proofs.Ytkkklpchkkdhfaa.arr Go.Proofs.Ytkkklpchkkdhfaa.pm Go.Proofs.Ytkkklpchkkdhfaa.permOk Go.Proofs.Ytkkklpchkkdhfaa.permOf Go.Proofs.Ytkkklpchkkdhfaa.inv Go.Proofs.Ytkkklpchkkdhfaa.mat
set_option linter.unusedVariables false
set_option maxRecDepth 100000

def lenV : Value → Nat
  | .slice _ n _ => n
  | _ => 0
theorem own_base {w : World} {base base' : Nat} {e : TypeId} {v : Value} {n : Nat} {xs : List Value} (h : w.ownsRow base e 1 v n xs) (hb : base' ≤ base) : w.ownsRow base' e 1 v n xs := by
  refine ⟨h.1, ?_⟩
  rcases h.2 with h0 | ⟨g, cap, cur, h1, h2, h3⟩
  · exact .inl h0
  · exact .inr ⟨g, cap, cur, h1, Nat.le_trans hb h2, h3⟩
theorem own_arr {w : World} {base g n : Nat} {e : TypeId} {xs : List Value} (h : w.ownsRow base e 1 (.slice (some ⟨g, 0, none⟩) n n) n xs) : Arr w g xs e := by
  rcases h.2 with ⟨h0, _⟩ | ⟨g', cap, cur, h1, h2, h3, h4, h5, h6, h7⟩
  · cases h0
  · injection h1 with e1 e2 e3
    injection e1 with e1
    injection e1 with e1
    subst e1; subst e3
    unfold Arr
    rw [h3, ← h7, List.take_of_length_le (by simp; omega)]
/-- The block of a row that is not empty. -/
theorem own_row {w : World} {base : Nat} {e : TypeId} {A : Option Addr} {c : Nat} {xs : List Value} (h : w.ownsRow base e 1 (.slice A xs.length c) xs.length xs) (h0 : 0 < xs.length) : ∃ g, base ≤ g ∧ Row w g (g + 1) A xs.length xs := by
  have hr := Row.of_own h
  obtain ⟨g, off, e1, h1, h2, h3⟩ := hr.2.2 h0
  exact ⟨g, h1, hr.1, by omega, fun _ => ⟨g, off, e1, Nat.le_refl _, by omega, h3⟩⟩

/-- v owns the headers of the rows xss, from block bs on; the rows lie from lo on, none in v's block; v's block is not s. -/
def Mg (w : World) (bs lo s : Nat) (v : Value) (xss : List (List Int)) : Prop :=
  ∃ hs bl, w.ownsRow bs 30 1 v xss.length hs ∧ Hs w lo w.heap.size (fun b => v.ownBlock = some b) bl hs xss ∧ v.ownBlock ≠ some s
theorem Mg.keep {w w' : World} {bs lo s : Nat} {v : Value} {xss : List (List Int)} (h : Mg w bs lo s v xss) (hz : w.heap.size ≤ w'.heap.size) (h1 : bs ≤ lo) (h2 : s < lo)
    (hk : ∀ b, bs ≤ b → b < w.heap.size → b ≠ s → w'.heap[b]? = w.heap[b]?) : Mg w' bs lo s v xss := by
  obtain ⟨hs, bl, own, hh, ne⟩ := h
  refine ⟨hs, bl, ⟨own.1, ?_⟩, (hh.keep hz (fun b q1 q2 _ => hk b (by omega) q2 (by omega))).wider (Nat.le_refl _) hz (Nat.le_refl _), ne⟩
  rcases own.2 with h0 | ⟨g, cap, cur, q1, q2, q3, q4⟩
  · exact .inl h0
  · refine .inr ⟨g, cap, cur, q1, q2, ?_, q4⟩
    rw [hk g q2 (Array.getElem?_eq_some_iff.1 q3).1 (fun e => ne (by rw [q1, ← e]; rfl))]
    exact q3
theorem Mg.nil (w : World) (bs lo s : Nat) : Mg w bs lo s (.slice none 0 0) [] := ⟨[], fun _ => 0, ⟨rfl, .inl ⟨rfl, rfl⟩⟩, Hs.nil _ _ _ _ _ (Nat.le_refl _), by simp [Value.ownBlock]⟩
theorem Mg.empty {w : World} {bs lo s g : Nat} (h : w.heap[g]? = some (.cells #[] 30 (0, 0))) (h1 : bs ≤ g) (h2 : g ≠ s) : Mg w bs lo s (.slice (some ⟨g, 0, none⟩) 0 0) [] :=
  ⟨[], fun _ => 0, ⟨rfl, .inr ⟨g, 0, #[], rfl, h1, h, Nat.le_refl _, by simp, rfl, rfl⟩⟩, Hs.nil _ _ _ _ _ (Nat.le_refl _), by intro e; simp [Value.ownBlock] at e; exact h2 e⟩
theorem Mg.form {w : World} {bs lo s : Nat} {v : Value} {xss : List (List Int)} (h : Mg w bs lo s v xss) : ∃ A c, v = .slice A xss.length c := by
  obtain ⟨hs, bl, own, _⟩ := h
  exact own_form own
theorem Mg.push {w0 W w' : World} {bs lo s g c n : Nat} {v v' : Value} {xss : List (List Int)} {hs : List Value} {bl : Nat → Nat} {A : Option Addr} {xs : List Int}
    (hh : Hs w0 lo w0.heap.size (fun b => v.ownBlock = some b) bl hs xss) (ne : v.ownBlock ≠ some s) (hz : w0.heap.size ≤ W.heap.size) (hk : ∀ b, lo ≤ b → b < w0.heap.size → W.heap[b]? = w0.heap[b]?)
    (hlo : lo ≤ w0.heap.size) (hs0 : s < lo) (hr : Row W g (g + 1) A xs.length (V xs)) (hg0 : w0.heap.size ≤ g) (hv : ∀ b, v.ownBlock = some b → b < w0.heap.size)
    (hn : n = xss.length) (ho : w'.ownsRow bs 30 1 v' (n + 1) (hs ++ [.slice A xs.length c])) (hg : W.grownBy w' v.ownBlock) (hb : v'.ownBlock = v.ownBlock ∨ ∃ k, v'.ownBlock = some k ∧ W.heap.size + 1 ≤ k) : Mg w' bs lo s v' (xss ++ [xs]) := by
  subst hn
  have gl : g < W.heap.size := hr.2.1
  have H1 : Hs W lo w0.heap.size (fun b => v.ownBlock = some b) bl hs xss := hh.keep hz (fun b q1 q2 _ => hk b q1 q2)
  have H2 := H1.snoc (g := g) (c := c) (A := A) (xs := xs) hg0 hlo (fun e => by have := hv g e; omega) hr
  have H3 := H2.keep (w' := w') hg.size (fun b q1 q2 q3 => hg.block b (by omega) (fun e => q3 e.symm))
  refine ⟨_, _, by simpa using ho, (H3.exs ?_).wider (Nat.le_refl _) (by have := hg.size; omega) (Nat.le_refl _), ?_⟩
  · intro b q1 q2 q3 e
    rcases hb with q | ⟨k, q, hk⟩
    · exact q3 (by rw [← q]; exact e)
    · rw [q] at e; injection e with e; omega
  · rcases hb with q | ⟨k, q, hk⟩
    · rw [q]; exact ne
    · rw [q]; intro e; injection e with e; omega
theorem Mg.mat {w : World} {bs lo s : Nat} {A : Option Addr} {c : Nat} {xss : List (List Int)} (h : Mg w bs lo s (.slice A xss.length c) xss) {B : Nat} (h1 : B ≤ bs) (h2 : B ≤ lo) : Mat w B w.heap.size A xss.length xss := by
  obtain ⟨hs, bl, own, hh, ne⟩ := h
  refine ⟨rfl, Nat.le_refl _, ?_⟩
  rcases Nat.eq_zero_or_pos xss.length with h0 | h0
  · obtain rfl := List.eq_nil_of_length_eq_zero h0
    exact ⟨[], fun _ => 0, 0, Hs.nil _ _ _ _ _ (Nat.le_refl _), fun q => by simp at q⟩
  · have hl : hs.length = xss.length := by simpa using own.1
    rw [← hl] at own h0
    obtain ⟨g, hg, hr⟩ := own_row own h0
    obtain ⟨g', off, e, q1, q2, _⟩ := hr.2.2 h0
    obtain rfl : g' = g := by omega
    subst e
    have gl : g' < w.heap.size := hr.2.1
    refine ⟨hs, bl, g', (hh.exs (fun b _ _ q e => q (by rw [e]; rfl))).wider h2 (Nat.le_refl _) (Nat.le_refl _), fun _ => ⟨by omega, gl, ?_⟩⟩
    rw [hl] at hr
    exact hr

/-- A boxed permutation in the first block, and the row l that grows. -/
structure Cf (w wr : World) (ps : List Int) (v : Value) (l : List Int) : Prop where
  own : wr.ownsRow (w.heap.size + 1) 3 1 v l.length (V l)
  p : Arr wr w.heap.size (V ps) 62
  below : Below w.heap.size w wr
theorem Cf.next {w wr w' : World} {ps l : List Int} {v v' : Value} {z : Int} {n : Nat} (h : Cf w wr ps v l)
    (ho : w'.ownsRow (w.heap.size + 1) 3 1 v' (n + 1) (V l ++ [.int .i64 z])) (hn : n = l.length) (hg : wr.grownBy w' v.ownBlock) : Cf w w' ps v' (l ++ [z]) := by
  subst hn
  have e : V (l ++ [z]) = V l ++ [.int .i64 z] := by simp [V]
  refine ⟨by rw [e]; simpa using ho, ?_, ?_⟩
  · exact (hg.block _ h.p.lt (fun e => by have := (h.own.lt _ e.symm).1; omega)).trans h.p
  · exact h.below.trans ((Below.refl _ _).grown hg h.below.size (fun k hk => by have := (h.own.lt k hk).1; omega))

set_option maxHeartbeats 1000000 in
theorem cycleFrom_any (ps : List Int) (n : Nat) (f : Nat) (w : World) (hl : ps.length = 24) (hb : Bij n ps) (hn : n ≤ 24) (hf : f < n) :
    Calls Try.prog 69 #[.agg (V ps).toArray, .int .i64 f] w (Gives (cyc ps n f) w) := by
  obtain ⟨i0, hi0, hz0, hz1, hz2⟩ := info_parts infoI
  have HL := Lib.hid hl; have HB := Lib.hid hb; clear hl hb
  have hcf := ((Arr.new w (V ps) 62 rfl).alloc (.cells #[.int .i64 f] 3)).cell (V_getD (l := ps) (k := f) (by rw [HL.out]; omega))
  have CW := Lib.hid (Cw.start (ps := ps) (f := (f : Int)) (n := n) (by omega) (by omega))
  rw [Int.toNat_natCast] at CW
  have m0 := HB.out.maps f hf
  generalize ps.getD f 0 = x0 at *
  go_enter Try.func69, Try.ntmps69
  go_wp2
  go_loopw [5, 6] (fun v x wr => ∃ (z : Int) (acc : List Int) (m : Nat), x = .int .i64 z ∧ Cf w wr ps v acc ∧ Cw n ps f z acc m) (fun v _ _ => n + 1 - lenV v)
  case atStart =>
    refine ⟨x0, [(f : Int)], n, rfl, ⟨?_, (Arr.new w (V ps) _ rfl).alloc _, ((Below.refl _ _).alloc (Nat.le_refl _) _).alloc (by simp) _⟩, CW.out⟩
    exact ⟨rfl, .inr ⟨w.heap.size + 1, 1, #[.int .i64 f], rfl, Nat.le_refl _, Arr.new _ (V [(f : Int)]) _ (by simp), Nat.le_refl _, by unfold maxLen; omega, rfl, rfl⟩⟩
  case round =>
    obtain ⟨z, acc, m, rfl, hcf', hcw⟩ := hrel
    obtain ⟨C, cc, rfl⟩ := own_form hcf'.own
    have CF := Lib.hid hcf'; have CWW := Lib.hid hcw; clear hcf' hcw
    have hal : acc.length ≤ n := CWW.out.way.inn.len
    have zi := CWW.out.way.x_in HB.out
    obtain ⟨y, rfl⟩ := Int.eq_ofNat_of_zero_le zi.1
    have hy : y < n := by omega
    clear zi
    by_cases e : y = f
    · subst e
      have D := Lib.hid CWW.out.done
      go_wp2
      go_ret
      refine ⟨_, rfl, ?_, CF.out.below⟩
      have := own_base CF.out.own (base' := w.heap.size) (by omega)
      rw [D.out] at this
      rw [D.out]
      exact this
    · have hne : ((y : Int) != (f : Int)) = true := by simp; omega
      have NX : Hid (Cw n ps f (ps.getD y 0) (acc ++ [(y : Int)]) (m - 1)) := Lib.hid (by have := CWW.out.next HB.out (by omega); rw [Int.toNat_natCast] at this; exact this)
      have hsz : w.heap.size + 1 ≤ wr.heap.size := CF.out.p.lt
      clear e
      go_wp2_with (at_builtin; refine wpList_append_one wr _ _ rfl _ _ 30 rfl (w.heap.size + 1) 3 i0 _ 8 Try.underlying30 hi0 hz0 hz1 hz2 rfl _ _ _ rfl CF.out.own rfl rfl ?c4 (by decide) hsz ?_)
      case c4 => omega
      intro v' w' ho hg
      have HN := Lib.hid (CF.out.next ho rfl hg)
      clear ho hg CF
      obtain ⟨C', cc', rfl⟩ := own_form HN.out.own
      have hcy := HN.out.p.cell (V_getD (l := ps) (k := y) (by rw [HL.out]; omega))
      go_wp2
      go_roundw
      case rel => exact ⟨_, _, _, rfl, HN.out, NX.out⟩
      case measure => simp [lenV]; omega
end Go.Proofs.Ytkkklpchkkdhfaa.fns

/-
  A path as the program holds it: a gluing, a word, the squares in which the rounds begin; pathOf, PathRounds.
-/
namespace Go.Proofs.Ytkkklpchkkdhfaa.pth
open Go.ChangeShapes Go.WideShapes Go.ChangeAt Go.RowKit
open Go.Proofs.Ytkkklpchkkdhfaa.mem Go.Proofs.Ytkkklpchkkdhfaa.ints Go.Proofs.Ytkkklpchkkdhfaa.arr Go.Proofs.Ytkkklpchkkdhfaa.pm Go.Proofs.Ytkkklpchkkdhfaa.permOk Go.Proofs.Ytkkklpchkkdhfaa.permOf Go.Proofs.Ytkkklpchkkdhfaa.inv Go.Proofs.Ytkkklpchkkdhfaa.fns Go.Proofs.Ytkkklpchkkdhfaa.sf Go.Proofs.Ytkkklpchkkdhfaa.gl Go.Proofs.Ytkkklpchkkdhfaa.dr
set_option linter.unusedVariables false
set_option maxRecDepth 100000
set_option linter.unusedSimpArgs false

/-- The cells of a path. -/
def pL (G : List Int) (W : ByteArray) (B : Value) : List Value := V G ++ [.string W, B]
theorem pL_len {G : List Int} (h : G.length = 49) (W : ByteArray) (B : Value) : (pL G W B).length = 51 := by simp [pL, V_len, h]
theorem infoP : (Try.prog.info? 66).map (·.size) = some 51 := by kernel_rfl
theorem sizeP {G : List Int} (h : G.length = 49) (W : ByteArray) (B : Value) : (Try.prog.info? 66).map (·.size) = some (pL G W B).toArray.size := by rw [infoP, List.size_toArray, pL_len h]
theorem hiP {G : List Int} (h : G.length = 49) (W : ByteArray) (B : Value) : (Try.prog.info? 66).map (·.size) = some (pL G W B).length := by rw [infoP, pL_len h]
theorem oneP (G : List Int) (W : ByteArray) (A : Option Addr) (n c : Nat) : (pL G W (.slice A n c)).toArray.all (·.oneCell') = true := by simp [pL, V, Value.oneCell']
theorem built_p {p q : List Int} (hp : p.length = 24) (hq : q.length = 24) (n : Nat) (W : ByteArray) (A : Option Addr) (k c : Nat) :
    Try.prog.built 66 [(0, .agg (V (gl p q n)).toArray), (1, .string W), (2, .slice A k c)] = some (pL (gl p q n) W (.slice A k c)).toArray := by
  obtain ⟨a0, a1, a2, a3, a4, a5, a6, a7, a8, a9, b0, b1, b2, b3, b4, b5, b6, b7, b8, b9, c0, c1, c2, c3, rfl⟩ := list24 hp
  obtain ⟨a0', a1', a2', a3', a4', a5', a6', a7', a8', a9', b0', b1', b2', b3', b4', b5', b6', b7', b8', b9', c0', c1', c2', c3', rfl⟩ := list24 hq
  kernel_rfl
theorem built_pz : Try.prog.built 66 [] = some (pL zero49 (wd []) (.slice none 0 0)).toArray := by kernel_rfl
theorem pL_on {w : World} {b : Nat} {G : List Int} {W : ByteArray} {B : Value} {t : TypeId} (h : Arr w b (pL G W B) t) : w.rangeAt b 0 (V G) := fun j v hv => by
  rw [Nat.zero_add]
  refine h.cell ?_
  rw [← hv]
  unfold pL
  rw [List.getElem?_append_left (List.getElem?_eq_some_iff.1 hv).1]
theorem pL_word {w : World} {b : Nat} {G : List Int} {W : ByteArray} {B : Value} {t : TypeId} (hG : G.length = 49) (h : Arr w b (pL G W B) t) : w.cell? ⟨b, 49, none⟩ = some (.string W) := by
  refine h.cell ?_
  unfold pL
  rw [List.getElem?_append_right (by rw [V_len, hG]; omega), V_len, hG]
  rfl
theorem pL_begins {w : World} {b : Nat} {G : List Int} {W : ByteArray} {B : Value} {t : TypeId} (hG : G.length = 49) (h : Arr w b (pL G W B) t) : w.cell? ⟨b, 50, none⟩ = some B := by
  refine h.cell ?_
  unfold pL
  rw [List.getElem?_append_right (by rw [V_len, hG]; omega), V_len, hG]
  rfl
theorem yP {P : Program} {ops : Array Oper} {S : World → Prop} {op : Oper} {a : Act} (hw : Region.wanted op (yielded ops a.tmps) = true) (t : TypeId) (parts : Array (Nat × Operand)) (ho : op.op = .build t parts)
    (l : List (Nat × Value)) (hl : (parts.toList.map fun p => (p.1, a.eval p.2)) = l) (cells : Array Value) (hb : P.built t l = some cells) : YieldsIf P ops S op (.agg cells) a :=
  .inl ⟨hw, fun w _ => by
    have hb' : P.built t (parts.map fun (i, x) => (i, a.eval x)).toList = some cells := by rw [Array.toList_map]; subst hl; exact hb
    unfold execOp
    simp only [ho, Sem.run_bind, run_build w t _ cells hb', Result.andThen_ok]
    rfl⟩
def bgF (r u : List Int) (i p q : Int) : List Int := if okQ r u i p q then cyc (peF r u p q) r.length i else []
def bwL (r u : List Int) (i p q : Int) : List UInt8 := if okQ r u i p q then swL p.toNat q.toNat else []
theorem bg_len (r u : List Int) (i p q : Int) : (bgF r u i p q).length = rdF r u i p q := by unfold bgF rdF; split <;> rfl
theorem pt_bw (r u : List Int) (i p q : Int) : ptF r u i p q = wd (rpL (bwL r u i p q) (rdF r u i p q)) := by
  unfold ptF bwL
  cases h : okQ r u i p q
  · simp [rd_no h, rpL]
  · simp
/-- What pathOf gives. -/
def PaPost (r u : List Int) (i p q : Int) (w : World) (e : Ending) (w' : World) : Prop :=
  ∃ (G : List Int) (A : Option Addr) (c : Nat), G.length = 49 ∧ (okQ r u i p q = true → G = gl (ext r) (ext u) r.length) ∧
    e = .returned (.tuple #[.agg (pL G (wd (bwL r u i p q)) (.slice A (bgF r u i p q).length c)).toArray, .bool (okQ r u i p q)]) ∧
    w'.ownsRow w.heap.size 3 1 (.slice A (bgF r u i p q).length c) (bgF r u i p q).length (V (bgF r u i p q)) ∧ Below w.heap.size w w'
theorem pa_no {r u : List Int} {i p q : Int} {w w' : World} (h : okQ r u i p q = false) (hb : Below w.heap.size w w') : PaPost r u i p q w (.returned (.tuple #[.agg (pL zero49 (wd []) (.slice none 0 0)).toArray, .bool false])) w' := by
  have e1 : bgF r u i p q = [] := by simp [bgF, h]
  have e2 : bwL r u i p q = [] := by simp [bwL, h]
  refine ⟨zero49, none, 0, zero49_len, fun q => absurd (h.symm.trans q) (by simp), by rw [e1, e2, h]; rfl, ?_, hb⟩
  rw [e1]
  exact ⟨rfl, .inl ⟨rfl, rfl⟩⟩
theorem okQ_not {r u : List Int} {i p q : Int} (h : ¬ (transB r u = true ∧ 0 ≤ i ∧ i < r.length ∧ slB p q = true)) : okQ r u i p q = false := by
  cases e : okQ r u i p q
  · rfl
  · obtain ⟨s, ⟨a, b⟩, c⟩ := okQ_facts e
    exact absurd ⟨transB_iff.2 s, a, b, c⟩ h
theorem cyc_ext {n : Nat} {E : List Int} (hE : Ok E) (hl : E.length = n) (hn : n ≤ 24) {f : Nat} (hf : f < n) : Bij n (ext E) ∧ cyc (ext E) n (f : Int) = cyc E n (f : Int) := by
  have hb := hE.bij
  rw [hl] at hb
  have hx := hE.bijExt
  rw [hl] at hx
  refine ⟨hx, cyc_congr hb (fun i hi => ?_) (by omega) (by omega)⟩
  have := ext_at (xs := E) (i := i) (by omega)
  rw [this, if_pos (by omega)]

set_option maxHeartbeats 8000000 in
theorem pa_impl (v : Value) (r u : List Int) (i p q : Int) (hi : Nat) (w : World) (hx : Srd w hi v r u) (hn : r.length ≤ 1048576) (hm : u.length ≤ 1048576) (i0 : -9223372036854775808 ≤ i) (i1 : i ≤ 9223372036854775807) (p0 : -9223372036854775808 ≤ p) (p1 : p ≤ 9223372036854775807) (q0 : -9223372036854775808 ≤ q) (q1' : q ≤ 9223372036854775807) :
    Calls Try.prog 47 #[v, .int .i64 i, .int .i64 p, .int .i64 q] w (PaPost r u i p q w) := by
  have HX := Lib.hid hx; clear hx
  obtain ⟨P, n, c, Q, m, d, rfl, q1, q2, e1, e2, ht, HR⟩ := HX.out.open
  have L1 := Lib.hid q1
  have N0 := Lib.hid (fun o => Arr.new (w.alloc o) (pL zero49 (wd []) (.slice none 0 0)) 66 (g := w.heap.size + 1) (by simp))
  have B0 : Hid (∀ a b, Below w.heap.size w ((w.alloc a).alloc b)) := Lib.hid (fun a b => ((Below.refl _ _).alloc (Nat.le_refl _) _).alloc (by simp) _)
  clear HR q1 q2
  go_enter Try.func47, Try.ntmps47
  go_wp2_with fail
  refine (gluingOf_any _ r u hi _ (HX.out.keep (((Below.refl hi w).alloc ht _).alloc (by simp; omega) _) (Nat.le_refl _)) hn hm).mono ?_
  rintro e w1 ⟨rfl, b1⟩
  have hs1 : w.heap.size + 2 ≤ w1.heap.size := by have := b1.size; simpa using this
  have AP := Lib.hid ((N0.out _).keep b1 (by simp))
  have B1 : Hid (Below w.heap.size w w1) := Lib.hid ((B0.out _ _).trans (b1.mono (by simp <;> omega)))
  clear b1 N0 B0
  cases hq : transB r u
  · have HF : Hid (okQ r u i p q = false) := Lib.hid (okQ_not (by rw [hq]; simp)); clear hq
    go_wp2_with (first | (refine wpList_store_row rfl 64 _ _ rfl w1.heap.size (V (glv r u)).toArray rfl rfl 64 (V zero49).toArray (Arr.new w1 (V zero49) _ rfl) (size49 (glv_len _ _)) (by simp [V_len, glv_len, zero49]) (one_V _) ?_; generalize hw_ : (w1.alloc (.cells #[.int .i64 0, .int .i64 0, .int .i64 0, .int .i64 0, .int .i64 0, .int .i64 0, .int .i64 0, .int .i64 0, .int .i64 0, .int .i64 0, .int .i64 0, .int .i64 0, .int .i64 0, .int .i64 0, .int .i64 0, .int .i64 0, .int .i64 0, .int .i64 0, .int .i64 0, .int .i64 0, .int .i64 0, .int .i64 0, .int .i64 0, .int .i64 0, .int .i64 0, .int .i64 0, .int .i64 0, .int .i64 0, .int .i64 0, .int .i64 0, .int .i64 0, .int .i64 0, .int .i64 0, .int .i64 0, .int .i64 0, .int .i64 0, .int .i64 0, .int .i64 0, .int .i64 0, .int .i64 0, .int .i64 0, .int .i64 0, .int .i64 0, .int .i64 0, .int .i64 0, .int .i64 0, .int .i64 0, .int .i64 0, .int .i64 0] 64)).setRow w1.heap.size (V (glv r u)).toArray = w2; have A2 : Hid (Arr w2 w1.heap.size (V (glv r u)) 64) := Lib.hid (by rw [← hw_]; exact (Arr.new w1 (V zero49) _ rfl).row); have b2 : Below w1.heap.size w1 w2 := (by rw [← hw_]; exact arr.below_setRow ((Below.refl _ _).alloc (Nat.le_refl _) _) (Nat.le_refl _) _); have t_ : w1.heap.size + 1 ≤ w2.heap.size := (by rw [← hw_]; simp); clear hw_; replace AP := Lib.hid (AP.out.keep b2 AP.out.lt); replace B1 := Lib.hid (B1.out.trans (b2.mono B1.out.size)); clear b2) | (refine gl.wpList_build rfl 66 _ rfl [] rfl (pL zero49 (wd []) (.slice none 0 0)).toArray built_pz ?_) | (refine wpList_store_row rfl 66 _ _ rfl (w.heap.size + 1) (pL zero49 (wd []) (.slice none 0 0)).toArray rfl rfl 66 (pL zero49 (wd []) (.slice none 0 0)).toArray AP.out (sizeP zero49_len _ _) rfl (oneP _ _ _ _ _) ?_))
    exact bodyPost_ret (v := .tuple #[.agg (pL zero49 (wd []) (.slice none 0 0)).toArray, .bool false]) (permOf.results_cell_tmp rfl _ _ (w.heap.size + 1) 66 (pL zero49 (wd []) (.slice none 0 0)).toArray (0, 0) _ _ rfl rfl AP.out.row Try.underlying66 rfl (sizeP zero49_len _ _)) rfl (pa_no HF.out (below_setRow B1.out (by omega) _))
  · have HT := Lib.hid hq
    have HS : Hid (Sf n r u) := Lib.hid (by have := transB_iff.1 HT.out; rwa [L1.out] at this)
    have HG : Hid (glv r u = gl (ext r) (ext u) n) := Lib.hid (by rw [glv_yes hq, L1.out])
    have hn24 : n ≤ 24 := HS.out.small
    clear hq
    rw [HG.out]
    have ON := Lib.hid (okQ_not (r := r) (u := u) (i := i) (p := p) (q := q))
    by_cases hi0 : i < 0
    · have HF : Hid (okQ r u i p q = false) := Lib.hid (ON.out (by omega))
      go_wp2_with (first | (refine wpList_store_row rfl 64 _ _ rfl w1.heap.size (V (gl (ext r) (ext u) n)).toArray rfl rfl 64 (V zero49).toArray (Arr.new w1 (V zero49) _ rfl) (size49 (gl_len (ext_len _) (ext_len _) n)) (by simp [V_len, gl_len, ext_len, zero49]) (one_V _) ?_; generalize hw_ : (w1.alloc (.cells #[.int .i64 0, .int .i64 0, .int .i64 0, .int .i64 0, .int .i64 0, .int .i64 0, .int .i64 0, .int .i64 0, .int .i64 0, .int .i64 0, .int .i64 0, .int .i64 0, .int .i64 0, .int .i64 0, .int .i64 0, .int .i64 0, .int .i64 0, .int .i64 0, .int .i64 0, .int .i64 0, .int .i64 0, .int .i64 0, .int .i64 0, .int .i64 0, .int .i64 0, .int .i64 0, .int .i64 0, .int .i64 0, .int .i64 0, .int .i64 0, .int .i64 0, .int .i64 0, .int .i64 0, .int .i64 0, .int .i64 0, .int .i64 0, .int .i64 0, .int .i64 0, .int .i64 0, .int .i64 0, .int .i64 0, .int .i64 0, .int .i64 0, .int .i64 0, .int .i64 0, .int .i64 0, .int .i64 0, .int .i64 0, .int .i64 0] 64)).setRow w1.heap.size (V (gl (ext r) (ext u) n)).toArray = w2; have A2 : Hid (Arr w2 w1.heap.size (V (gl (ext r) (ext u) n)) 64) := Lib.hid (by rw [← hw_]; exact (Arr.new w1 (V zero49) _ rfl).row); have b2 : Below w1.heap.size w1 w2 := (by rw [← hw_]; exact arr.below_setRow ((Below.refl _ _).alloc (Nat.le_refl _) _) (Nat.le_refl _) _); have t_ : w1.heap.size + 1 ≤ w2.heap.size := (by rw [← hw_]; simp); clear hw_; replace AP := Lib.hid (AP.out.keep b2 AP.out.lt); replace B1 := Lib.hid (B1.out.trans (b2.mono B1.out.size)); clear b2; have c48 := gl_count (ext_len r) (ext_len u) A2.out) | (refine gl.wpList_build rfl 66 _ rfl [] rfl (pL zero49 (wd []) (.slice none 0 0)).toArray built_pz ?_) | (refine wpList_store_row rfl 66 _ _ rfl (w.heap.size + 1) (pL zero49 (wd []) (.slice none 0 0)).toArray rfl rfl 66 (pL zero49 (wd []) (.slice none 0 0)).toArray AP.out (sizeP zero49_len _ _) rfl (oneP _ _ _ _ _) ?_))
      exact bodyPost_ret (v := .tuple #[.agg (pL zero49 (wd []) (.slice none 0 0)).toArray, .bool false]) (permOf.results_cell_tmp rfl _ _ (w.heap.size + 1) 66 (pL zero49 (wd []) (.slice none 0 0)).toArray (0, 0) _ _ rfl rfl AP.out.row Try.underlying66 rfl (sizeP zero49_len _ _)) rfl (pa_no HF.out (below_setRow B1.out (by omega) _))
    obtain ⟨x, rfl⟩ := Int.eq_ofNat_of_zero_le (show 0 ≤ i by omega)
    clear hi0
    by_cases hxn : n ≤ x
    · have HF : Hid (okQ r u (x : Int) p q = false) := Lib.hid (ON.out (by rw [L1.out]; omega))
      have dx : decide ((n : Int) ≤ (x : Int)) = true := decide_eq_true (by omega)
      go_wp2_with (first | (refine wpList_store_row rfl 64 _ _ rfl w1.heap.size (V (gl (ext r) (ext u) n)).toArray rfl rfl 64 (V zero49).toArray (Arr.new w1 (V zero49) _ rfl) (size49 (gl_len (ext_len _) (ext_len _) n)) (by simp [V_len, gl_len, ext_len, zero49]) (one_V _) ?_; generalize hw_ : (w1.alloc (.cells #[.int .i64 0, .int .i64 0, .int .i64 0, .int .i64 0, .int .i64 0, .int .i64 0, .int .i64 0, .int .i64 0, .int .i64 0, .int .i64 0, .int .i64 0, .int .i64 0, .int .i64 0, .int .i64 0, .int .i64 0, .int .i64 0, .int .i64 0, .int .i64 0, .int .i64 0, .int .i64 0, .int .i64 0, .int .i64 0, .int .i64 0, .int .i64 0, .int .i64 0, .int .i64 0, .int .i64 0, .int .i64 0, .int .i64 0, .int .i64 0, .int .i64 0, .int .i64 0, .int .i64 0, .int .i64 0, .int .i64 0, .int .i64 0, .int .i64 0, .int .i64 0, .int .i64 0, .int .i64 0, .int .i64 0, .int .i64 0, .int .i64 0, .int .i64 0, .int .i64 0, .int .i64 0, .int .i64 0, .int .i64 0, .int .i64 0] 64)).setRow w1.heap.size (V (gl (ext r) (ext u) n)).toArray = w2; have A2 : Hid (Arr w2 w1.heap.size (V (gl (ext r) (ext u) n)) 64) := Lib.hid (by rw [← hw_]; exact (Arr.new w1 (V zero49) _ rfl).row); have b2 : Below w1.heap.size w1 w2 := (by rw [← hw_]; exact arr.below_setRow ((Below.refl _ _).alloc (Nat.le_refl _) _) (Nat.le_refl _) _); have t_ : w1.heap.size + 1 ≤ w2.heap.size := (by rw [← hw_]; simp); clear hw_; replace AP := Lib.hid (AP.out.keep b2 AP.out.lt); replace B1 := Lib.hid (B1.out.trans (b2.mono B1.out.size)); clear b2; have c48 := gl_count (ext_len r) (ext_len u) A2.out) | (refine gl.wpList_build rfl 66 _ rfl [] rfl (pL zero49 (wd []) (.slice none 0 0)).toArray built_pz ?_) | (refine wpList_store_row rfl 66 _ _ rfl (w.heap.size + 1) (pL zero49 (wd []) (.slice none 0 0)).toArray rfl rfl 66 (pL zero49 (wd []) (.slice none 0 0)).toArray AP.out (sizeP zero49_len _ _) rfl (oneP _ _ _ _ _) ?_))
      exact bodyPost_ret (v := .tuple #[.agg (pL zero49 (wd []) (.slice none 0 0)).toArray, .bool false]) (permOf.results_cell_tmp rfl _ _ (w.heap.size + 1) 66 (pL zero49 (wd []) (.slice none 0 0)).toArray (0, 0) _ _ rfl rfl AP.out.row Try.underlying66 rfl (sizeP zero49_len _ _)) rfl (pa_no HF.out (below_setRow B1.out (by omega) _))
    have hxn' : x < n := by omega
    go_wp2_with (refine wpList_store_row rfl 64 _ _ rfl w1.heap.size (V (gl (ext r) (ext u) n)).toArray rfl rfl 64 (V zero49).toArray (Arr.new w1 (V zero49) _ rfl) (size49 (gl_len (ext_len _) (ext_len _) n)) (by simp [V_len, gl_len, ext_len, zero49]) (one_V _) ?_; generalize hw_ : (w1.alloc (.cells #[.int .i64 0, .int .i64 0, .int .i64 0, .int .i64 0, .int .i64 0, .int .i64 0, .int .i64 0, .int .i64 0, .int .i64 0, .int .i64 0, .int .i64 0, .int .i64 0, .int .i64 0, .int .i64 0, .int .i64 0, .int .i64 0, .int .i64 0, .int .i64 0, .int .i64 0, .int .i64 0, .int .i64 0, .int .i64 0, .int .i64 0, .int .i64 0, .int .i64 0, .int .i64 0, .int .i64 0, .int .i64 0, .int .i64 0, .int .i64 0, .int .i64 0, .int .i64 0, .int .i64 0, .int .i64 0, .int .i64 0, .int .i64 0, .int .i64 0, .int .i64 0, .int .i64 0, .int .i64 0, .int .i64 0, .int .i64 0, .int .i64 0, .int .i64 0, .int .i64 0, .int .i64 0, .int .i64 0, .int .i64 0, .int .i64 0] 64)).setRow w1.heap.size (V (gl (ext r) (ext u) n)).toArray = w2; have A2 : Hid (Arr w2 w1.heap.size (V (gl (ext r) (ext u) n)) 64) := Lib.hid (by rw [← hw_]; exact (Arr.new w1 (V zero49) _ rfl).row); have b2 : Below w1.heap.size w1 w2 := (by rw [← hw_]; exact arr.below_setRow ((Below.refl _ _).alloc (Nat.le_refl _) _) (Nat.le_refl _) _); have t_ : w1.heap.size + 1 ≤ w2.heap.size := (by rw [← hw_]; simp); clear hw_; replace AP := Lib.hid (AP.out.keep b2 AP.out.lt); replace B1 := Lib.hid (B1.out.trans (b2.mono B1.out.size)); clear b2; have c48 := gl_count (ext_len r) (ext_len u) A2.out)
    refine (so_impl p q _ p0 p1 q0 q1').mono ?_
    rintro e w3 ⟨rfl, b1⟩
    clear c48
    replace AP := Lib.hid (AP.out.keep b1 AP.out.lt)
    replace A2 := Lib.hid (A2.out.keep b1 A2.out.lt)
    replace B1 := Lib.hid (B1.out.trans (b1.mono B1.out.size))
    have hs3 := b1.size
    clear b1
    cases hq : slB p q
    · have HF : Hid (okQ r u (x : Int) p q = false) := Lib.hid (ON.out (by rw [hq]; simp)); clear hq
      go_wp2_with (first | (refine gl.wpList_build rfl 66 _ rfl [] rfl (pL zero49 (wd []) (.slice none 0 0)).toArray built_pz ?_) | (refine wpList_store_row rfl 66 _ _ rfl (w.heap.size + 1) (pL zero49 (wd []) (.slice none 0 0)).toArray rfl rfl 66 (pL zero49 (wd []) (.slice none 0 0)).toArray AP.out (sizeP zero49_len _ _) rfl (oneP _ _ _ _ _) ?_))
      exact bodyPost_ret (v := .tuple #[.agg (pL zero49 (wd []) (.slice none 0 0)).toArray, .bool false]) (permOf.results_cell_tmp rfl _ _ (w.heap.size + 1) 66 (pL zero49 (wd []) (.slice none 0 0)).toArray (0, 0) _ _ rfl rfl AP.out.row Try.underlying66 rfl (sizeP zero49_len _ _)) rfl (pa_no HF.out (below_setRow B1.out (by omega) _))
    · obtain ⟨a, b, rfl, rfl, hab, hg, h1⟩ := slB_nat hq
      have HO : Hid (okQ r u (x : Int) (a : Int) (b : Int) = true) := Lib.hid (by simp only [okQ, Bool.and_eq_true, decide_eq_true_eq]; exact ⟨HT.out, by omega, by rw [L1.out]; omega, hq⟩)
      have HW := Lib.hid (swF_yes hq)
      have EO := Lib.hid (ev_ok HS.out (swL a b))
      have HPE : Hid (peF r u (a : Int) (b : Int) = ev n r u (swL a b)) := Lib.hid (by unfold peF; rw [L1.out, Int.toNat_natCast, Int.toNat_natCast])
      have HBW : Hid (bwL r u (x : Int) (a : Int) (b : Int) = swL a b) := Lib.hid (by unfold bwL; rw [if_pos HO.out, Int.toNat_natCast, Int.toNat_natCast])
      have CX := Lib.hid (cyc_ext EO.out.1 EO.out.2 hn24 hxn')
      have HBG : Hid (bgF r u (x : Int) (a : Int) (b : Int) = cyc (ext (ev n r u (swL a b))) n (x : Int)) := Lib.hid (by unfold bgF; rw [if_pos HO.out, HPE.out, L1.out, CX.out.2])
      clear hq hg ON
      go_wp2_with fail
      refine (sw_impl a b _ (by omega) (by omega) (by omega) (by omega)).mono ?_
      rintro e w4 ⟨rfl, b1⟩
      rw [HW.out]
      replace AP := Lib.hid (AP.out.keep b1 AP.out.lt)
      replace A2 := Lib.hid (A2.out.keep b1 A2.out.lt)
      replace B1 := Lib.hid (B1.out.trans (b1.mono B1.out.size))
      have hs4 := b1.size
      clear b1
      obtain ⟨L, hL⟩ : ∃ L, L = swL a b := ⟨_, rfl⟩
      have l12 : L.length ≤ 12 := by rw [hL, swL_len]; exact hab
      have HLr : Hid (∀ c ∈ L, c = 114 ∨ c = 117) := Lib.hid (by rw [hL]; exact fun _ h => swL_or h)
      rw [← hL] at EO HPE HBW CX HBG ⊢
      clear hL HW HPE
      go_wp2_with fail
      refine wp_region_held_drew (S := Hld (w.heap.size + 1) w4.heap.size w4 [(w1.heap.size, V (gl (ext r) (ext u) n))]) (by kernel_rfl) ((Hld.start1 A2.out).lower (by omega)) (fun hHeld => ?_)
      have b1 : Below w4.heap.size w4 w4.drew := ⟨rfl, rfl, rfl, Nat.le_refl _, fun _ _ => rfl⟩
      generalize w4.drew = w5 at *
      replace AP := Lib.hid (AP.out.keep b1 AP.out.lt)
      replace B1 := Lib.hid (B1.out.trans (b1.mono B1.out.size))
      have hs5 := b1.size
      clear b1 A2
      refine wpAnyH_take (i := 0) (v := .agg (V (gl (ext r) (ext u) n)).toArray) rfl (by kernel_rfl) (by kernel_rfl) (by kernel_rfl) (fun _ _ _ h => h) (yieldsIf_load_mid (by rfl) _ _ rfl (w1.heap.size) 0 rfl (V (gl (ext r) (ext u) n)) _ (fun w h => h.fst) Try.underlying64 rfl (hi49 (gl_len (ext_len _) (ext_len _) _))) hHeld ?_
      refine wpAnyH_take (i := 1) (v := .string (wd L)) rfl (by kernel_rfl) (by kernel_rfl) (by kernel_rfl) (fun _ _ _ h => h) (Or.inl ⟨by rfl, fun w hSw => by go_simp⟩) hHeld ?_
      refine wpAnyH_take (i := 2) (v := .agg (V (gl (ext r) (ext u) n)).toArray) rfl (by kernel_rfl) (by kernel_rfl) (by kernel_rfl) (fun _ _ _ h => h) (yieldsIf_load_mid (by rfl) _ _ rfl (w1.heap.size) 0 rfl (V (gl (ext r) (ext u) n)) _ (fun w h => h.fst) Try.underlying64 rfl (hi49 (gl_len (ext_len _) (ext_len _) _))) hHeld ?_
      refine wpAnyH_take (i := 3) (v := .string (wd L)) rfl (by kernel_rfl) (by kernel_rfl) (by kernel_rfl) (fun _ _ _ h => h) (Or.inl ⟨by rfl, fun w hSw => by go_simp⟩) hHeld ?_
      refine wpAnyH_take (i := 5) (v := .int .i64 (x : Int)) rfl (by kernel_rfl) (by kernel_rfl) (by kernel_rfl) (fun _ _ _ h => h) (Or.inl ⟨by rfl, fun w hSw => by go_simp⟩) hHeld ?_
      refine wpAnyH_ready (rs := [4]) (by kernel_rfl) (by simp) (AllReadyH.cons rfl (fun K hK => ?_) AllReadyH.nil)
      go_simp
      refine (along_any r u n L _ HS.out l12 HLr.out).mono ?_
      rintro e w6 ⟨rfl, b1⟩
      replace AP := Lib.hid (AP.out.keep b1 AP.out.lt)
      replace B1 := Lib.hid (B1.out.trans (b1.mono B1.out.size))
      have hs6 := b1.size
      go_wp2_with fail
      have hHeld2 := hHeld.later b1 (by omega); clear b1 hHeld
      refine hK.out _ _ hHeld2 (fun hHeld => ?_)
      clear hK K hHeld2
      refine wpAnyH_ready (rs := [6]) (by kernel_rfl) (by simp) (AllReadyH.cons rfl (fun K hK => ?_) AllReadyH.nil)
      go_simp
      refine (cycleFrom_any (ext (ev n r u L)) n x _ (ext_len _) CX.out.1 hn24 hxn').mono ?_
      rintro e w7 ⟨v7, rfl, o7, b1⟩
      rw [← HBG.out] at o7
      obtain ⟨P7, c7, rfl⟩ := own_form o7
      have O7 : Hid (w7.ownsRow w.heap.size 3 1 (.slice P7 (bgF r u (x : Int) (a : Int) (b : Int)).length c7) (bgF r u (x : Int) (a : Int) (b : Int)).length (V (bgF r u (x : Int) (a : Int) (b : Int)))) := Lib.hid (own_low o7 (by omega))
      have O7b : Hid (∀ g, (Value.slice P7 (bgF r u (x : Int) (a : Int) (b : Int)).length c7).ownBlock = some g → w6.heap.size ≤ g) := Lib.hid (fun g hg => (o7.lt g hg).1)
      clear o7
      replace AP := Lib.hid (AP.out.keep b1 AP.out.lt)
      replace B1 := Lib.hid (B1.out.trans (b1.mono B1.out.size))
      have hs7 := b1.size
      have BP := Lib.hid (built_p (ext_len r) (ext_len u) n (wd L) P7 (bgF r u (x : Int) (a : Int) (b : Int)).length c7)
      have PG : Hid ((gl (ext r) (ext u) n).length = 49) := Lib.hid (gl_len (ext_len _) (ext_len _) n)
      have GE : Hid (gl (ext r) (ext u) n = gl (ext r) (ext u) r.length) := Lib.hid (by rw [L1.out])
      have PAY : Hid (∀ (w8 : World) (h : w8.ownsRow w.heap.size 3 1 (.slice P7 (bgF r u (x : Int) (a : Int) (b : Int)).length c7) (bgF r u (x : Int) (a : Int) (b : Int)).length (V (bgF r u (x : Int) (a : Int) (b : Int)))) (hb : Below w.heap.size w w8), PaPost r u (x : Int) (a : Int) (b : Int) w (.returned (.tuple #[.agg (pL (gl (ext r) (ext u) n) (wd L) (.slice P7 (bgF r u (x : Int) (a : Int) (b : Int)).length c7)).toArray, .bool true])) w8) := Lib.hid (fun w8 h hb => ⟨_, P7, c7, PG.out, fun _ => GE.out, by rw [HBW.out, HO.out], h, hb⟩)
      clear GE HBW HBG CX HO
      generalize bgF r u (x : Int) (a : Int) (b : Int) = BG at *
      go_wp2_with fail
      have hHeld2 := hHeld.later b1 (by omega); clear b1 hHeld
      refine hK.out _ _ hHeld2 (fun hHeld => ?_)
      clear hK K hHeld2
      refine wpAnyH_take (i := 7) (v := .agg (pL (gl (ext r) (ext u) n) (wd L) (.slice P7 BG.length c7)).toArray) rfl (by kernel_rfl) (by kernel_rfl) (by kernel_rfl) (fun _ _ _ h => h) (yP (by rfl) 66 _ rfl [(0, .agg (V (gl (ext r) (ext u) n)).toArray), (1, .string (wd L)), (2, .slice P7 BG.length c7)] rfl _ BP.out) hHeld ?_
      refine wpAnyH_ready (rs := [8]) (by kernel_rfl) (by simp) (AllReadyH.cons rfl (fun K hK => ?_) AllReadyH.nil)
      refine step_store_row rfl 66 _ _ rfl (w.heap.size + 1) (pL (gl (ext r) (ext u) n) (wd L) (.slice P7 BG.length c7)).toArray rfl rfl 66 (pL zero49 (wd []) (.slice none 0 0)).toArray AP.out (sizeP PG.out _ _) (by rw [List.size_toArray, List.size_toArray, pL_len PG.out, pL_len zero49_len]) (oneP _ _ _ _ _) ?_
      have AF : Hid (Arr (w7.setRow (w.heap.size + 1) (pL (gl (ext r) (ext u) n) (wd L) (.slice P7 BG.length c7)).toArray) (w.heap.size + 1) (pL (gl (ext r) (ext u) n) (wd L) (.slice P7 BG.length c7)) 66) := Lib.hid AP.out.row
      have OF : Hid ((w7.setRow (w.heap.size + 1) (pL (gl (ext r) (ext u) n) (wd L) (.slice P7 BG.length c7)).toArray).ownsRow w.heap.size 3 1 (.slice P7 BG.length c7) BG.length (V BG)) := Lib.hid (ownk O7.out (fun g hg => setRow_other _ _ _ _ (by have := O7b.out g hg; omega)))
      have BF := Lib.hid (below_setRow B1.out (show w.heap.size ≤ w.heap.size + 1 by omega) (pL (gl (ext r) (ext u) n) (wd L) (.slice P7 BG.length c7)).toArray)
      have hH2 := hHeld.other (g := w.heap.size + 1) (Nat.le_refl _) (by simp; omega) (pL (gl (ext r) (ext u) n) (wd L) (.slice P7 BG.length c7)).toArray
      refine hK.out _ _ hH2 (fun hHeld2 => ?_)
      clear hK K hHeld hH2
      generalize w7.setRow (w.heap.size + 1) (pL (gl (ext r) (ext u) n) (wd L) (.slice P7 BG.length c7)).toArray = w8 at *
      refine wpAnyH_take (i := 9) (v := .bool true) rfl (by kernel_rfl) (by kernel_rfl) (by kernel_rfl) (fun _ _ _ h => h) (Or.inl ⟨by rfl, fun w hSw => by go_simp⟩) hHeld2 ?_
      refine wpAnyH_done (by kernel_rfl) ?_ _
      go_wp2_with fail
      refine bodyPost_ret (v := .tuple #[.agg (pL (gl (ext r) (ext u) n) (wd L) (.slice P7 BG.length c7)).toArray, .bool true]) (permOf.results_cell_tmp rfl _ _ (w.heap.size + 1) 66 (pL (gl (ext r) (ext u) n) (wd L) (.slice P7 BG.length c7)).toArray (0, 0) _ _ rfl rfl AF.out Try.underlying66 rfl (sizeP PG.out _ _)) rfl ?_
      exact PAY.out _ OF.out BF.out
end Go.Proofs.Ytkkklpchkkdhfaa.pth

/-
  Contracts of functions of Go's library at this program: the library's theorems, applied to the numbers that the functions have here.
-/
namespace Go.Proofs
open Go.Shelf
def Try.lays138_ren : Go.Shelf.Ren := ⟨fun | 138 => 58 | 195 => 76 | 218 => 77 | 143 => 78 | 219 => 92 | 217 => 104 | 225 => 105 | 224 => 96 | 267 => 106 | 266 => 111 | 314 => 112 | n => n, fun | 9 => 9 | 3 => 3 | 4 => 4 | 5 => 5 | 0 => 0 | 46 => 85 | 146 => 111 | 51 => 110 | n => n, fun | 1 => 0 | n => n⟩
theorem Try.lays138 : Go.Proofs.Lays.n138 Try.prog Try.lays138_ren := {
  mixed := by kernel_rfl
  f138 := Try.func58.trans (congrArg some (by kernel_rfl))
  f143 := Try.func78.trans (congrArg some (by kernel_rfl))
  f195 := Try.func76.trans (congrArg some (by kernel_rfl))
  f217 := Try.func104.trans (congrArg some (by kernel_rfl))
  f218 := Try.func77.trans (congrArg some (by kernel_rfl))
  f219 := Try.func92.trans (congrArg some (by kernel_rfl))
  f224 := Try.func96.trans (congrArg some (by kernel_rfl))
  f225 := Try.func105.trans (congrArg some (by kernel_rfl))
  f266 := Try.func111.trans (congrArg some (by kernel_rfl))
  f267 := Try.func106.trans (congrArg some (by kernel_rfl))
  f314 := Try.func112.trans (congrArg some (by kernel_rfl))
  t0 := Try.underlying0
  a0 := Try.isAgg0
  z0 := Try.sizeOf0
  v0 := Try.zeroValue0
  t3 := Try.underlying3
  a3 := Try.isAgg3
  z3 := Try.sizeOf3
  v3 := Try.zeroValue3
  t4 := Try.underlying4
  a4 := Try.isAgg4
  z4 := Try.sizeOf4
  v4 := Try.zeroValue4
  t5 := Try.underlying5
  a5 := Try.isAgg5
  z5 := Try.sizeOf5
  v5 := Try.zeroValue5
  t9 := Try.underlying9
  a9 := Try.isAgg9
  z9 := Try.sizeOf9
  v9 := Try.zeroValue9
  t46 := Try.underlying85
  a46 := Try.isAgg85
  z46 := Try.sizeOf85
  v46 := Try.zeroValue85
  t51 := Try.underlying110
  a51 := Try.isAgg110
  z51 := Try.sizeOf110
  v51 := Try.zeroValue110
  t146 := Try.underlying111
  a146 := Try.isAgg111
  z146 := Try.sizeOf111
  v146 := Try.zeroValue111
  g1 := by kernel_rfl }
open Go.RowKit Go.Lib in
theorem Try.strings_Count_one (s : ByteArray) (c : UInt8) (w : World) :
    Calls Try.prog 58 #[.string s, .string ⟨#[c]⟩] w fun e w' => e = .returned (.int .i64 (Lib.countByte s.data.toList c)) ∧ w' = w := Any.strings_Count_one Try.lays138 s c w
def Try.lays105_ren : Go.Shelf.Ren := ⟨fun | 105 => 49 | 212 => 70 | 99 => 71 | 165 => 72 | 166 => 73 | 170 => 74 | 169 => 75 | 263 => 87 | 264 => 88 | 206 => 89 | 240 => 90 | 241 => 91 | 276 => 102 | 277 => 103 | n => n, fun | 9 => 9 | 3 => 3 | 4 => 4 | 20 => 20 | 0 => 0 | 46 => 85 | 109 => 89 | 5 => 5 | 72 => 94 | 76 => 98 | 51 => 110 | 146 => 111 | 53 => 113 | 148 => 114 | 70 => 92 | 37 => 22 | 75 => 97 | 127 => 116 | 164 => 123 | 80 => 101 | n => n, fun | n => n⟩
theorem Try.lays105 : Go.Proofs.Lays.n105 Try.prog Try.lays105_ren := {
  mixed := by kernel_rfl
  f99 := Try.func71.trans (congrArg some (by kernel_rfl))
  f105 := Try.func49.trans (congrArg some (by kernel_rfl))
  f165 := Try.func72.trans (congrArg some (by kernel_rfl))
  f166 := Try.func73.trans (congrArg some (by kernel_rfl))
  f169 := Try.func75.trans (congrArg some (by kernel_rfl))
  f170 := Try.func74.trans (congrArg some (by kernel_rfl))
  f206 := Try.func89.trans (congrArg some (by kernel_rfl))
  f212 := Try.func70.trans (congrArg some (by kernel_rfl))
  f240 := Try.func90.trans (congrArg some (by kernel_rfl))
  f241 := Try.func91.trans (congrArg some (by kernel_rfl))
  f263 := Try.func87.trans (congrArg some (by kernel_rfl))
  f264 := Try.func88.trans (congrArg some (by kernel_rfl))
  f276 := Try.func102.trans (congrArg some (by kernel_rfl))
  f277 := Try.func103.trans (congrArg some (by kernel_rfl))
  t0 := Try.underlying0
  a0 := Try.isAgg0
  z0 := Try.sizeOf0
  v0 := Try.zeroValue0
  t3 := Try.underlying3
  a3 := Try.isAgg3
  z3 := Try.sizeOf3
  v3 := Try.zeroValue3
  t4 := Try.underlying4
  a4 := Try.isAgg4
  z4 := Try.sizeOf4
  v4 := Try.zeroValue4
  t5 := Try.underlying5
  a5 := Try.isAgg5
  z5 := Try.sizeOf5
  v5 := Try.zeroValue5
  t9 := Try.underlying9
  a9 := Try.isAgg9
  z9 := Try.sizeOf9
  v9 := Try.zeroValue9
  t20 := Try.underlying20
  a20 := Try.isAgg20
  z20 := Try.sizeOf20
  v20 := Try.zeroValue20
  t37 := Try.underlying22
  a37 := Try.isAgg22
  z37 := Try.sizeOf22
  v37 := Try.zeroValue22
  t46 := Try.underlying85
  a46 := Try.isAgg85
  z46 := Try.sizeOf85
  v46 := Try.zeroValue85
  t51 := Try.underlying110
  a51 := Try.isAgg110
  z51 := Try.sizeOf110
  v51 := Try.zeroValue110
  t53 := Try.underlying113
  a53 := Try.isAgg113
  z53 := Try.sizeOf113
  v53 := Try.zeroValue113
  t70 := Try.underlying92
  a70 := Try.isAgg92
  z70 := Try.sizeOf92
  v70 := Try.zeroValue92
  t72 := Try.underlying94
  a72 := Try.isAgg94
  z72 := Try.sizeOf94
  v72 := Try.zeroValue94
  t75 := Try.underlying97
  a75 := Try.isAgg97
  z75 := Try.sizeOf97
  v75 := Try.zeroValue97
  t76 := Try.underlying98
  a76 := Try.isAgg98
  z76 := Try.sizeOf98
  v76 := Try.zeroValue98
  t109 := Try.underlying89
  a109 := Try.isAgg89
  z109 := Try.sizeOf89
  v109 := Try.zeroValue89
  t127 := Try.underlying116
  a127 := Try.isAgg116
  z127 := Try.sizeOf116
  v127 := Try.zeroValue116
  t146 := Try.underlying111
  a146 := Try.isAgg111
  z146 := Try.sizeOf111
  v146 := Try.zeroValue111
  t148 := Try.underlying114
  a148 := Try.isAgg114
  z148 := Try.sizeOf114
  v148 := Try.zeroValue114
  t164 := Try.underlying123
  a164 := Try.isAgg123
  z164 := Try.sizeOf123
  v164 := Try.zeroValue123 }
theorem Try.Builder_Extra_105 : Builder.Extra Try.prog Try.lays105_ren := {
  sizeBuilder := by kernel_rfl
  liesBuilder := by kernel_rfl
  t5 := Try.underlying5
  a5 := Try.isAgg5
  z5 := Try.sizeOf5
  v5 := Try.zeroValue5
  infoByte := by kernel_rfl
  cellsByte := by kernel_rfl
  sizeByte := by kernel_rfl
  neB5 := by decide }
open Go.RowKit Go.Lib in
theorem Try.strings_Repeat (s : ByteArray) (c : Nat) (w : World) (hc : c ≤ 9223372036854775807) (hlen : s.size * c ≤ 140737488355328) :
    Calls Try.prog 49 #[.string s, .int .i64 c] w fun e w' => e = .returned (.string ⟨(Lib.repeatL s.data.toList c).toArray⟩) ∧ Below w.heap.size w w' := Any.strings_Repeat Try.lays105 Try.Builder_Extra_105 s c w hc hlen
def Try.laysSlB13_ren : Go.Shelf.Ren := ⟨fun | 13 => 59 | 24 => 79 | 25 => 80 | 12 => 81 | 31 => 76 | 19 => 93 | 20 => 94 | 21 => 95 | 22 => 96 | 23 => 97 | 29 => 107 | 30 => 108 | n => n, fun | 22 => 22 | 3 => 3 | 4 => 4 | 0 => 0 | 5 => 5 | 9 => 9 | 33 => 85 | 40 => 111 | 39 => 110 | n => n, fun | 0 => 0 | n => n⟩
theorem Try.laysSlB13 : Go.Proofs.SlLaysB.n13 Try.prog Try.laysSlB13_ren := {
  mixed := by kernel_rfl
  f13 := Try.func59.trans (congrArg some (by kernel_rfl))
  f25 := Try.func80.trans (congrArg some (by kernel_rfl))
  t0 := Try.underlying0
  a0 := Try.isAgg0
  z0 := Try.sizeOf0
  v0 := Try.zeroValue0
  t3 := Try.underlying3
  a3 := Try.isAgg3
  z3 := Try.sizeOf3
  v3 := Try.zeroValue3
  t4 := Try.underlying4
  a4 := Try.isAgg4
  z4 := Try.sizeOf4
  v4 := Try.zeroValue4
  t5 := Try.underlying5
  a5 := Try.isAgg5
  z5 := Try.sizeOf5
  v5 := Try.zeroValue5
  t22 := Try.underlying22
  a22 := Try.isAgg22
  z22 := Try.sizeOf22
  v22 := Try.zeroValue22 }
open Go.RowKit Go.Lib in
theorem Try.bytes_Count_one (b o n c b2 o2 d : Nat) (xs : List Int) (cv : Int) (w : World) (hx : xs.length = n) (hc : ∀ i, i < n → w.cell? ⟨b, o + i, none⟩ = some (.int .u8 (xs.getD i 0))) (hc2 : w.cell? ⟨b2, o2, none⟩ = some (.int .u8 cv)) :
    Calls Try.prog 59 #[.slice (some ⟨b, o, none⟩) n c, .slice (some ⟨b2, o2, none⟩) 1 d] w fun e w' => e = .returned (.int .i64 (Lib.countByte (Lib.bytesOf xs) cv.toNat.toUInt8)) ∧ w' = w := Any.bytes_Count_one Try.laysSlB13 b o n c b2 o2 d xs cv w hx hc hc2
open Go.RowKit Go.Lib in
theorem Try.bytes_Count_one_at (a : Addr) (n c b2 o2 d : Nat) (xs : List Int) (cv : Int) (w : World) (hx : xs.length = n) (hc : ∀ i, i < n → w.cell? (a.add i) = some (.int .u8 (xs.getD i 0))) (hc2 : w.cell? ⟨b2, o2, none⟩ = some (.int .u8 cv)) :
    Calls Try.prog 59 #[.slice (some a) n c, .slice (some ⟨b2, o2, none⟩) 1 d] w fun e w' => e = .returned (.int .i64 (Lib.countByte (Lib.bytesOf xs) cv.toNat.toUInt8)) ∧ w' = w := Any.bytes_Count_one_at Try.laysSlB13 a n c b2 o2 d xs cv w hx hc hc2
end Go.Proofs
