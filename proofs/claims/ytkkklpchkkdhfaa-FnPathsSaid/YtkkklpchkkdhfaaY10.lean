import Derived.Test.YtkkklpchkkdhfaaY06
import Derived.Test.YtkkklpchkkdhfaaY09
import Derived.Test.YtkkklpchkkdhfaaY08
import Derived.Test.YtkkklpchkkdhfaaY07
import Derived.Test.YtkkklpchkkdhfaaY04
/-
  PathPerm of the specification and of the program.
-/
namespace Go.Proofs.Ytkkklpchkkdhfaa.dr
open Go.ChangeShapes Go.WideShapes Go.ChangeAt Go.RowKit
open Go.Proofs.Ytkkklpchkkdhfaa.mem Go.Proofs.Ytkkklpchkkdhfaa.ints Go.Proofs.Ytkkklpchkkdhfaa.arr Go.Proofs.Ytkkklpchkkdhfaa.pm Go.Proofs.Ytkkklpchkkdhfaa.permOk Go.Proofs.Ytkkklpchkkdhfaa.permOf Go.Proofs.Ytkkklpchkkdhfaa.inv Go.Proofs.Ytkkklpchkkdhfaa.fns Go.Proofs.Ytkkklpchkkdhfaa.sf Go.Proofs.Ytkkklpchkkdhfaa.gl
set_option linter.unusedVariables false
set_option maxRecDepth 100000

/-- What PathPerm gives. -/
def ppB (r u : List Int) (p q : Int) : Bool := transB r u && slB p q
def ppF (r u : List Int) (p q : Int) : List Int := if ppB r u p q then ev r.length r u (swL p.toNat q.toNat) else []
theorem ppB_1 {r u : List Int} {p q : Int} (h : transB r u = false) : ppB r u p q = false := by simp [ppB, h]
theorem ppB_2 {r u : List Int} {p q : Int} (h : slB p q = false) : ppB r u p q = false := by simp [ppB, h]
theorem ppF_no {r u : List Int} {p q : Int} (h : ppB r u p q = false) : ppF r u p q = [] := by simp [ppF, h]
theorem ppB_yes {r u : List Int} {p q : Int} (h : transB r u = true) (h2 : slB p q = true) : ppB r u p q = true := by simp [ppB, h, h2]
theorem ppF_yes {r u : List Int} {a b : Nat} (h : transB r u = true) (h2 : slB a b = true) : ppF r u a b = ev r.length r u (swL a b) := by simp [ppF, ppB_yes h h2]
theorem ppF_24 (r u : List Int) (p q : Int) : (ppF r u p q).length ≤ 24 := by
  unfold ppF
  split
  · rename_i h
    have s := transB_iff.1 (by unfold ppB at h; rw [Bool.and_eq_true] at h; exact h.1)
    rw [(ev_ok s _).2]; exact s.small
  · simp
theorem ppF_len (r u : List Int) (p q : Int) : (ppF r u p q).length ≤ 1048576 := by have := ppF_24 r u p q; omega
def PPost (r u : List Int) (p q : Int) (w : World) (e : Ending) (w' : World) : Prop :=
  ∃ A c, e = .returned (.tuple #[.slice A (ppF r u p q).length c, .bool (ppB r u p q)]) ∧ Row w' w.heap.size w'.heap.size A (ppF r u p q).length (V (ppF r u p q)) ∧ (ppF r u p q).length ≤ c ∧ Below w.heap.size w w'
theorem pp_no {r u : List Int} {p q : Int} {w w' : World} (h : ppB r u p q = false) (hb : Below w.heap.size w w') : PPost r u p q w (.returned (.tuple #[.slice none 0 0, .bool false])) w' := by
  have e := ppF_no h
  refine ⟨none, 0, by rw [e, h]; rfl, ?_, by rw [e]; simp, hb⟩
  rw [e]
  exact ⟨rfl, Nat.le_refl _, fun q => absurd q (by simp)⟩
theorem pp_yes {r u : List Int} {p q : Int} {w w' : World} {A : Option Addr} {l c : Nat} {E : List Int} (hF : ppF r u p q = E) (hB : ppB r u p q = true) (ho : w'.ownsRow w.heap.size 3 1 (.slice A l c) E.length (V E)) (hc : l ≤ c) (hb : Below w.heap.size w w') :
    PPost r u p q w (.returned (.tuple #[.slice A l c, .bool true])) w' := by
  subst hF
  have hl : l = (ppF r u p q).length := by
    rcases ho.2 with ⟨h0, h1⟩ | ⟨g, cap, cur, h1, h2, h3⟩
    · injection h0 with _ h0 _; omega
    · injection h1 with _ h1 _
  subst hl
  refine ⟨A, c, by rw [hB], Row.of_own ho, hc, hb⟩
theorem ix_at {P : Program} {L : List UInt8} {k : Nat} {c : UInt8} (h : L[k]? = some c) (t : TypeId) (ht : P.underlying t = some .string) (w : World) : (Instr.index t (.string (wd L)) (.int .i64 (k : Int))).run P w = .ok (.int .u8 (c.toNat : Int)) w := by
  have hk : k < L.length := (List.getElem?_eq_some_iff.1 h).1
  have hks : k < (wd L).size := by rw [wd_size]; exact hk
  rw [run_index_string _ _ _ _ _ ht, dif_pos (by omega)]
  have : (wd L)[((k : Int)).toNat]'(by omega) = c := by
    have e : (wd L)[k]'hks = c := by rw [wd_at hk]; rw [List.getElem?_eq_getElem hk] at h; exact Option.some.inj h
    simpa using e
  rw [this]
theorem ev_step {n : Nat} {R U : List Int} {L : List UInt8} {k : Nat} {c : UInt8} (h : L[k]? = some c) : ev n R U (L.take (k + 1)) = thn (ev n R U (L.take k)) (stP R U c) := by
  rw [List.take_add_one, h]
  exact ev_snoc n R U (L.take k) c
theorem own_low {w : World} {base base' : Nat} {e : TypeId} {size n : Nat} {v : Value} {xs : List Value} (h : w.ownsRow base e size v n xs) (hb : base' ≤ base) : w.ownsRow base' e size v n xs := by
  refine ⟨h.1, ?_⟩
  rcases h.2 with h0 | ⟨g, cap, cur, h1, h2, h3⟩
  · exact .inl h0
  · exact .inr ⟨g, cap, cur, h1, Nat.le_trans hb h2, h3⟩
/-- Amid the specification's way. -/
structure Pq (r u : List Int) (n : Nat) (L : List UInt8) (w wr : World) (P Q : Option Addr) (c d : Nat) (v : Value) (k : Nat) : Prop where
  own : wr.ownsRow w.heap.size 3 1 v (ev n r u (L.take k)).length (V (ev n r u (L.take k)))
  bel : Below w.heap.size w wr
  box : Arr wr w.heap.size [.slice P n c, .slice Q n d] 32

set_option maxHeartbeats 2000000 in
theorem path_spec (v : Value) (r u : List Int) (n hi : Nat) (L : List UInt8) (w : World) (hx : Srd w hi v r u) (hs : Sf n r u) (hl : L.length ≤ 12) (hc : ∀ c ∈ L, c = 114 ∨ c = 117) :
    Calls Try.prog 54 #[v, .string (wd L)] w (Gives (ev n r u L) w) := by
  have HX := Lib.hid hx; have HS := Lib.hid hs; have HC := Lib.hid hc; clear hx hc
  obtain ⟨P, n', c, Q, m', d, rfl, q1, q2, e1, e2, ht, HR⟩ := HX.out.open
  obtain rfl : n' = n := by rw [← q1]; exact hs.lr
  obtain rfl : m' = n' := by rw [← q2]; exact hs.lu
  have n24 := hs.small
  have hsz := wd_size L
  clear hs q1 q2
  go_enter Try.func54, Try.ntmps54
  go_wp2_with fail
  refine (l02id_any m' _ n24).mono ?_
  rintro e w1 ⟨v1, rfl, o1, b1⟩
  have A0 := Lib.hid ((Arr.new w [.slice P m' c, .slice Q m' d] 32 rfl).keep b1 (by simp))
  have B1 := Lib.hid (below1 _ _ b1)
  have hs1 : w.heap.size + 1 ≤ w1.heap.size := by have := b1.size; simpa using this
  have O1 : Hid (w1.ownsRow (w.heap.size + 1) 3 1 v1 (rng m').length (V (rng m'))) := Lib.hid (by have := o1; simp at this; rw [rng_len]; exact this)
  clear o1 b1
  go_wp2
  go_loopw [5, 6] (fun v i wr => ∃ k : Nat, k ≤ L.length ∧ i = .int .i64 k ∧ Pq r u m' L w wr P Q c d v k) (fun _ i _ => L.length - (intOf i).toNat)
  case atStart => exact ⟨0, Nat.zero_le _, rfl, own_low O1.out (by omega), B1.out, A0.out⟩
  case round =>
    obtain ⟨k, hk, rfl, hp⟩ := hrel
    have HP := Lib.hid hp; clear hp
    by_cases hlt : k < L.length
    · obtain ⟨ch, hLc⟩ : ∃ ch, L[k]? = some ch := ⟨L[k], List.getElem?_eq_getElem hlt⟩
      have hcc := HC.out ch (List.mem_of_getElem? hLc)
      have hix := fun w => ix_at (P := Try.prog) hLc 9 Try.underlying9 w
      have EV := Lib.hid (ev_step (n := m') (R := r) (U := u) hLc)
      have OE := Lib.hid (ev_ok HS.out (L.take k))
      obtain ⟨P5, c5, e5⟩ := own_form HP.out.own
      subst e5
      have R5 := Lib.hid (Row.of_own HP.out.own)
      have BX := Lib.hid HP.out.box
      have BB := Lib.hid HP.out.bel
      have cc0 := BX.out.cell (k := 0) rfl
      have cc1 := BX.out.cell (k := 1) rfl
      have hsz5 := BB.out.size
      have RX : Hid (Rd wr hi P m' (V r) ∧ Rd wr hi Q m' (V u)) := Lib.hid ⟨Srd.fst (HX.out.keep (BB.out.mono ht) (Nat.le_refl _)), Srd.snd (HX.out.keep (BB.out.mono ht) (Nat.le_refl _))⟩
      clear HP hLc
      generalize ev m' r u (L.take k) = E at *
      rcases hcc with hcc | hcc
      · subst hcc
        rw [show stP r u 114 = r from rfl] at EV
        go_wp2_with fail
        refine (l02then_any P5 _ c5 P m' c E r _ _ _ R5.out.rd RX.out.1 OE.out.1 OE.out.2).mono ?_
        rintro e w2 hg
        have KB : Hid (Arr w2 w.heap.size [.slice P m' c, .slice Q m' d] 32) := Lib.hid (by obtain ⟨_, _, _, hb⟩ := hg; exact BX.out.keep hb BX.out.lt)
        obtain ⟨v', rfl, o', b'⟩ := gives_later BB.out hg
        have OO := Lib.hid o'; have BN := Lib.hid b'; clear o' b' hg
        go_wp2
        go_roundw
        case rel => exact ⟨k + 1, by omega, by first | rfl | go_num, by rw [EV.out]; exact OO.out, BN.out, KB.out⟩
        case measure => simp [intOf]; omega
      · subst hcc
        rw [show stP r u 117 = u from rfl] at EV
        go_wp2_with fail
        refine (l02then_any P5 _ c5 Q m' d E u _ _ _ R5.out.rd RX.out.2 OE.out.1 OE.out.2).mono ?_
        rintro e w2 hg
        have KB : Hid (Arr w2 w.heap.size [.slice P m' c, .slice Q m' d] 32) := Lib.hid (by obtain ⟨_, _, _, hb⟩ := hg; exact BX.out.keep hb BX.out.lt)
        obtain ⟨v', rfl, o', b'⟩ := gives_later BB.out hg
        have OO := Lib.hid o'; have BN := Lib.hid b'; clear o' b' hg
        go_wp2
        go_roundw
        case rel => exact ⟨k + 1, by omega, by first | rfl | go_num, by rw [EV.out]; exact OO.out, BN.out, KB.out⟩
        case measure => simp [intOf]; omega
    · have HE : Hid (L.take k = L) := Lib.hid (List.take_of_length_le (by omega))
      go_wp2
      go_ret
      exact ⟨_, rfl, by have := HP.out.own; rwa [HE.out] at this, HP.out.bel⟩

end Go.Proofs.Ytkkklpchkkdhfaa.dr

/-
  Straight paths, mathematics: the squares of a path, its rounds, its text, its visits.
-/
namespace Go.Proofs.Ytkkklpchkkdhfaa.pth
open Go.Proofs.Ytkkklpchkkdhfaa.mem Go.Proofs.Ytkkklpchkkdhfaa.ints Go.Proofs.Ytkkklpchkkdhfaa.arr Go.Proofs.Ytkkklpchkkdhfaa.pm Go.Proofs.Ytkkklpchkkdhfaa.permOf Go.Proofs.Ytkkklpchkkdhfaa.inv Go.Proofs.Ytkkklpchkkdhfaa.permOk Go.Proofs.Ytkkklpchkkdhfaa.dr
set_option linter.unusedVariables false
set_option maxRecDepth 100000

/-- A path can begin there. -/
def okQ (r u : List Int) (i p q : Int) : Bool := transB r u && (decide (0 ≤ i) && (decide (i < r.length) && slB p q))
/-- One step. -/
def stW (r u : List Int) (c : UInt8) (x : Int) : Int := if c = 114 then r.getD x.toNat 0 else u.getD x.toNat 0
/-- The squares ahead of the letters of a word; where it leads. -/
def sqW (r u : List Int) : List UInt8 → Int → List Int
  | [], _ => []
  | c :: L, x => x :: sqW r u L (stW r u c x)
def enW (r u : List Int) (L : List UInt8) (x : Int) : Int := L.foldl (fun x c => stW r u c x) x
theorem sqW_len (r u : List Int) : ∀ (L : List UInt8) (x : Int), (sqW r u L x).length = L.length
  | [], _ => rfl
  | c :: L, x => by simp [sqW, sqW_len r u L]
theorem sqW_snoc (r u : List Int) : ∀ (L : List UInt8) (c : UInt8) (x : Int), sqW r u (L ++ [c]) x = sqW r u L x ++ [enW r u L x]
  | [], _, _ => rfl
  | d :: L, c, x => by
    have := sqW_snoc r u L c (stW r u d x)
    simp only [List.cons_append, sqW, this, enW, List.foldl_cons]
theorem enW_snoc (r u : List Int) (L : List UInt8) (c : UInt8) (x : Int) : enW r u (L ++ [c]) x = stW r u c (enW r u L x) := by simp [enW]
section
variable {n : Nat} {r u : List Int} (s : Sf n r u)
include s
theorem stW_in (c : UInt8) {x : Int} (h0 : 0 ≤ x) (h1 : x < n) : 0 ≤ stW r u c x ∧ stW r u c x < n := by
  unfold stW
  split
  · have a := s.r.lo x.toNat (by rw [s.lr]; omega); have b := s.r.hi x.toNat (by rw [s.lr]; omega)
    rw [s.lr] at b; exact ⟨a, b⟩
  · have a := s.u.lo x.toNat (by rw [s.lu]; omega); have b := s.u.hi x.toNat (by rw [s.lu]; omega)
    rw [s.lu] at b; exact ⟨a, b⟩
theorem enW_in : ∀ (L : List UInt8) {x : Int}, 0 ≤ x → x < n → 0 ≤ enW r u L x ∧ enW r u L x < n
  | [], x, h0, h1 => ⟨h0, h1⟩
  | c :: L, x, h0, h1 => by
    obtain ⟨a, b⟩ := stW_in s c h0 h1
    exact enW_in L a b
theorem sqW_in : ∀ (L : List UInt8) {x : Int}, 0 ≤ x → x < n → ∀ y ∈ sqW r u L x, 0 ≤ y ∧ y < n
  | [], x, _, _, y, hy => by simp [sqW] at hy
  | c :: L, x, h0, h1, y, hy => by
    obtain ⟨a, b⟩ := stW_in s c h0 h1
    simp only [sqW, List.mem_cons] at hy
    rcases hy with rfl | hy
    · exact ⟨h0, h1⟩
    · exact sqW_in L a b y hy
/-- The permutation of a word leads each square along it. -/
theorem ev_en : ∀ (L : List UInt8) {x : Int}, 0 ≤ x → x < n → (ev n r u L).getD x.toNat 0 = enW r u L x
  | [], x, h0, h1 => by
    show (rng n).getD x.toNat 0 = x
    rw [rng_at (by omega)]; omega
  | c :: L, x, h0, h1 => by
    have e : ev n r u (c :: L) = thn (stP r u c) (ev n r u L) := by
      have := ev_app s [c] L
      rw [ev_one s] at this
      exact this
    have hl := (stP_ok s c).2
    rw [e, thn_at (by rw [hl]; omega)]
    obtain ⟨a, b⟩ := stW_in s c h0 h1
    have hs : (stP r u c).getD x.toNat 0 = stW r u c x := by unfold stP stW; split <;> rfl
    rw [hs]
    have := ev_en L a b
    simpa [enW] using this
end
/-- The permutation of a slope's word. -/
def peF (r u : List Int) (p q : Int) : List Int := ev r.length r u (swL p.toNat q.toNat)
def rdF (r u : List Int) (i p q : Int) : Nat := if okQ r u i p q then (cyc (peF r u p q) r.length i).length else 0
/-- The squares of the first rounds. -/
def psK (r u : List Int) (L : List UInt8) (E : List Int) (i : Int) : Nat → List Int
  | 0 => []
  | k + 1 => psK r u L E i k ++ sqW r u L (it E i k)
def psF (r u : List Int) (i p q : Int) : List Int := if okQ r u i p q then psK r u (swL p.toNat q.toNat) (peF r u p q) i (rdF r u i p q) else []
def rpL (L : List UInt8) : Nat → List UInt8
  | 0 => []
  | k + 1 => rpL L k ++ L
def ptF (r u : List Int) (i p q : Int) : ByteArray := if okQ r u i p q then wd (rpL (swL p.toNat q.toNat) (rdF r u i p q)) else wd []
/-- How often each square is met. -/
def vsK (n : Nat) (l : List Int) : List Int := l.foldl (fun v x => v.set x.toNat (v.getD x.toNat 0 + 1)) (List.replicate n 0)
def viF (r u : List Int) (i p q : Int) : List Int := if okQ r u i p q then vsK r.length (psF r u i p q) else []
theorem okQ_facts {r u : List Int} {i p q : Int} (h : okQ r u i p q = true) : Sf r.length r u ∧ (0 ≤ i ∧ i < r.length) ∧ slB p q = true := by
  simp only [okQ, Bool.and_eq_true, decide_eq_true_eq] at h
  exact ⟨transB_iff.1 h.1, ⟨h.2.1, h.2.2.1⟩, h.2.2.2⟩
theorem sl_nat {p q : Int} (h : slB p q = true) : ∃ a b : Nat, p = a ∧ q = b ∧ a + b ≤ 12 ∧ 1 ≤ a + b ∧ Nat.gcd a b = 1 := by
  simp only [slB, Bool.and_eq_true, decide_eq_true_eq] at h
  obtain ⟨⟨⟨h1, h2⟩, h3⟩, h4⟩ := h
  refine ⟨p.toNat, q.toNat, by omega, by omega, by omega, ?_, h4⟩
  rcases Nat.eq_zero_or_pos (p.toNat + q.toNat) with z | z
  · have a : p.toNat = 0 := by omega
    have b : q.toNat = 0 := by omega
    rw [a, b] at h4; cases h4
  · exact z
theorem swL_len (a b : Nat) : (swL a b).length = a + b := by simp [swL]
theorem pe_ok {r u : List Int} {i p q : Int} (h : okQ r u i p q = true) : Ok (peF r u p q) ∧ (peF r u p q).length = r.length := ev_ok (okQ_facts h).1 _
theorem pe_bij {r u : List Int} {i p q : Int} (h : okQ r u i p q = true) : Bij r.length (peF r u p q) := by
  have := (pe_ok h).1.bij
  rwa [(pe_ok h).2] at this
theorem rd_pos {r u : List Int} {i p q : Int} (h : okQ r u i p q = true) : 1 ≤ rdF r u i p q ∧ rdF r u i p q ≤ 24 := by
  obtain ⟨s, ⟨i0, i1⟩, _⟩ := okQ_facts h
  have hw := cyc_way (pe_bij h) i0 i1
  have h1 := List.length_pos_of_mem (cyc_self (pe_bij h) i0 i1)
  have h24 := s.small
  have hle : (cyc (peF r u p q) r.length i).length ≤ r.length := hw.inn.len
  unfold rdF
  rw [if_pos h]
  omega
theorem psK_len (r u : List Int) (L : List UInt8) (E : List Int) (i : Int) : ∀ k, (psK r u L E i k).length = k * L.length
  | 0 => by simp [psK]
  | k + 1 => by rw [psK, List.length_append, psK_len r u L E i k, sqW_len, Nat.add_mul, Nat.one_mul]
theorem rpL_len (L : List UInt8) : ∀ k, (rpL L k).length = k * L.length
  | 0 => by simp [rpL]
  | k + 1 => by rw [rpL, List.length_append, rpL_len L k, Nat.add_mul, Nat.one_mul]
end Go.Proofs.Ytkkklpchkkdhfaa.pth

/-
  The specification's paths: whether one can begin, and its rounds.
-/
namespace Go.Proofs.Ytkkklpchkkdhfaa.pth
open Go.ChangeShapes Go.WideShapes Go.ChangeAt Go.RowKit
open Go.Proofs.Ytkkklpchkkdhfaa.mem Go.Proofs.Ytkkklpchkkdhfaa.ints Go.Proofs.Ytkkklpchkkdhfaa.arr Go.Proofs.Ytkkklpchkkdhfaa.pm Go.Proofs.Ytkkklpchkkdhfaa.permOk Go.Proofs.Ytkkklpchkkdhfaa.permOf Go.Proofs.Ytkkklpchkkdhfaa.inv Go.Proofs.Ytkkklpchkkdhfaa.fns Go.Proofs.Ytkkklpchkkdhfaa.sf Go.Proofs.Ytkkklpchkkdhfaa.gl Go.Proofs.Ytkkklpchkkdhfaa.dr
set_option linter.unusedVariables false
set_option maxRecDepth 100000
set_option linter.unusedSimpArgs false

theorem okQ_1 {r u : List Int} {i p q : Int} (h : transB r u = false) : okQ r u i p q = false := by simp [okQ, h]
theorem okQ_2 {r u : List Int} {i p q : Int} (h : ¬ 0 ≤ i) : okQ r u i p q = false := by simp [okQ, h]
theorem okQ_3 {r u : List Int} {i p q : Int} (h : ¬ i < r.length) : okQ r u i p q = false := by simp [okQ, h]
theorem okQ_4 {r u : List Int} {i p q : Int} (h1 : transB r u = true) (h2 : 0 ≤ i) (h3 : i < r.length) : okQ r u i p q = slB p q := by simp [okQ, h1, h2, h3]
set_option maxHeartbeats 1000000 in
theorem ok13 (v : Value) (r u : List Int) (i p q : Int) (hi : Nat) (w : World) (hx : Srd w hi v r u) (hn : r.length ≤ 1048576) (hm : u.length ≤ 1048576) (i0 : -9223372036854775808 ≤ i) (i1 : i ≤ 9223372036854775807) (p0 : -9223372036854775808 ≤ p) (p1 : p ≤ 9223372036854775807) (q0 : -9223372036854775808 ≤ q) (q1' : q ≤ 9223372036854775807) :
    Calls Try.prog 51 #[v, .int .i64 i, .int .i64 p, .int .i64 q] w fun e w' => e = .returned (.bool (okQ r u i p q)) ∧ Below w.heap.size w w' := by
  have HX := Lib.hid hx; clear hx
  obtain ⟨P, n, c, Q, m, d, rfl, q1, q2, e1, e2, ht, HR⟩ := HX.out.open
  have L1 := Lib.hid q1
  have hn' : n ≤ 1048576 := by omega
  clear HR q1 q2
  go_enter Try.func51, Try.ntmps51
  go_wp2_with fail
  refine (ok_spec _ r u hi _ (HX.out.keep ((Below.refl hi w).alloc ht _) (Nat.le_refl _)) hn hm).mono ?_
  rintro e w1 ⟨rfl, b1⟩
  have A0 := Lib.hid ((Arr.new w [.slice P n c, .slice Q m d] 32 rfl).keep b1 (by simp))
  have B1 := Lib.hid (below1 _ _ b1)
  clear b1
  have c0 := A0.out.cell (k := 0) rfl
  cases hq : transB r u
  · have HF := Lib.hid (okQ_1 (i := i) (p := p) (q := q) hq); clear hq
    go_wp2_with fail
    go_ret
    exact ⟨ret_bool HF.out.symm, B1.out⟩
  by_cases h0 : 0 ≤ i
  · have d0 : decide (0 ≤ i) = true := decide_eq_true h0
    by_cases h1 : i < (n : Int)
    · have d1 : decide (i < (n : Int)) = true := decide_eq_true h1
      have HF : Hid (okQ r u i p q = slB p q) := Lib.hid (okQ_4 hq h0 (by rw [L1.out]; exact h1))
      clear hq h0 h1
      go_wp2_with fail
      refine (so_spec p q _ p0 p1 q0 q1').mono ?_
      rintro e w2 ⟨rfl, b1⟩
      replace B1 := Lib.hid (B1.out.trans (b1.mono B1.out.size)); clear b1
      generalize slB p q = bb at *
      go_wp2_with fail
      go_ret
      exact ⟨ret_bool HF.out.symm, B1.out⟩
    · have d1 : decide (i < (n : Int)) = false := decide_eq_false h1
      have HF : Hid (okQ r u i p q = false) := Lib.hid (okQ_3 (by rw [L1.out]; exact h1))
      clear hq h0 h1
      go_wp2_with fail
      go_ret
      exact ⟨ret_bool HF.out.symm, B1.out⟩
  · have d0 : decide (0 ≤ i) = false := decide_eq_false h0
    have HF : Hid (okQ r u i p q = false) := Lib.hid (okQ_2 h0)
    clear hq h0
    go_wp2_with fail
    go_ret
    exact ⟨ret_bool HF.out.symm, B1.out⟩
theorem rd_no {r u : List Int} {i p q : Int} (h : okQ r u i p q = false) : rdF r u i p q = 0 := by simp [rdF, h]
theorem rd_yes {r u : List Int} {i p q : Int} (h : okQ r u i p q = true) : rdF r u i p q = (cyc (peF r u p q) r.length i).length := by simp [rdF, h]
set_option maxHeartbeats 2000000 in
theorem pr_spec (v : Value) (r u : List Int) (i p q : Int) (hi : Nat) (w : World) (hx : Srd w hi v r u) (hn : r.length ≤ 1048576) (hm : u.length ≤ 1048576) (i0 : -9223372036854775808 ≤ i) (i1 : i ≤ 9223372036854775807) (p0 : -9223372036854775808 ≤ p) (p1 : p ≤ 9223372036854775807) (q0 : -9223372036854775808 ≤ q) (q1' : q ≤ 9223372036854775807) :
    Calls Try.prog 30 #[v, .int .i64 i, .int .i64 p, .int .i64 q] w fun e w' => e = .returned (.int .i64 (rdF r u i p q)) ∧ Below w.heap.size w w' := by
  have HX := Lib.hid hx; clear hx
  obtain ⟨P, n, c, Q, m, d, rfl, q1, q2, e1, e2, ht, HR⟩ := HX.out.open
  have L1 := Lib.hid q1
  clear HR q1 q2
  go_enter Try.func30, Try.ntmps30
  go_wp2_with fail
  refine (ok13 _ r u i p q hi _ (HX.out.keep ((Below.refl hi w).alloc ht _) (Nat.le_refl _)) hn hm i0 i1 p0 p1 q0 q1').mono ?_
  rintro e w1 ⟨rfl, b1⟩
  have A0 := Lib.hid ((Arr.new w [.slice P n c, .slice Q m d] 32 rfl).keep b1 (by simp))
  have B1 := Lib.hid (below1 _ _ b1)
  have hs1 : w.heap.size + 1 ≤ w1.heap.size := by have := b1.size; simpa using this
  clear b1
  cases hq : okQ r u i p q
  · have HF := Lib.hid (rd_no hq); clear hq
    go_wp2_with fail
    go_ret
    exact ⟨ret_int (by rw [HF.out]; rfl), B1.out⟩
  obtain ⟨HS', ⟨i0', i1''⟩, hsl⟩ := okQ_facts hq
  have HS : Hid (Sf n r u) := Lib.hid (by rw [L1.out] at HS'; exact HS')
  have i1' : i < (n : Int) := by rw [L1.out] at i1''; exact i1''
  have HB : Hid (Bij n (peF r u p q)) := Lib.hid (by have := pe_bij hq; rwa [L1.out] at this)
  have LE : Hid ((peF r u p q).length = n) := Lib.hid (by rw [(pe_ok hq).2, L1.out])
  have HF : Hid (rdF r u i p q = (cyc (peF r u p q) n i).length) := Lib.hid (by rw [rd_yes hq, L1.out])
  have n24 : n ≤ 24 := HS.out.small
  obtain ⟨a, b, rfl, rfl, hab, h1, hg⟩ := sl_nat hsl
  have HW := Lib.hid (swF_yes hsl)
  have PE : Hid (peF r u (a : Int) (b : Int) = ev n r u (swL a b)) := Lib.hid (by unfold peF; rw [L1.out, Int.toNat_natCast, Int.toNat_natCast])
  clear hq HS' i1'' hsl hg
  have X1 : Hid (Srd w1 hi (.agg #[.slice P n c, .slice Q m d]) r u) := Lib.hid (HX.out.keep (B1.out.mono ht) (Nat.le_refl _))
  have ht2 := Nat.le_trans ht B1.out.size
  go_wp2_with fail
  refine wp_region_held_drew (S := Hld w1.heap.size w1.heap.size w1 [(w.heap.size, [.slice P n c, .slice Q m d])]) (by kernel_rfl) (Hld.start1 A0.out) (fun hHeld => ?_)
  have b1 : Below w1.heap.size w1 w1.drew := ⟨rfl, rfl, rfl, Nat.le_refl _, fun _ _ => rfl⟩
  generalize w1.drew = w3 at *
  replace B1 := Lib.hid (B1.out.trans (b1.mono B1.out.size)); replace X1 := Lib.hid (X1.out.keep b1 ht2)
  have hs3 := b1.size
  clear b1
  refine wpAnyH_take (i := 0) (v := .agg #[.slice P n c, .slice Q m d]) rfl (by kernel_rfl) (by kernel_rfl) (by kernel_rfl) (fun _ _ _ h => h) (yieldsIf_load_mid (by kernel_rfl) _ _ rfl (w.heap.size) 0 rfl [.slice P n c, .slice Q m d] _ (fun w h => h.fst) Try.underlying32 rfl (sizeS _ _)) hHeld ?_
  refine wpAnyH_take (i := 1) (v := .int .i64 (a : Int)) rfl (by kernel_rfl) (by kernel_rfl) (by kernel_rfl) (fun _ _ _ h => h) (Or.inl ⟨by first | kernel_rfl | rfl, fun w hSw => by go_simp⟩) hHeld ?_
  refine wpAnyH_take (i := 2) (v := .int .i64 (b : Int)) rfl (by kernel_rfl) (by kernel_rfl) (by kernel_rfl) (fun _ _ _ h => h) (Or.inl ⟨by first | kernel_rfl | rfl, fun w hSw => by go_simp⟩) hHeld ?_
  refine wpAnyH_ready (rs := [3]) (by kernel_rfl) (by simp) (AllReadyH.cons rfl (fun K hK => ?_) AllReadyH.nil)
  go_simp
  refine (sw_spec a b _ (by omega) (by omega) (by omega) (by omega)).mono ?_
  rintro e w4 ⟨rfl, b1⟩
  rw [HW.out]
  replace B1 := Lib.hid (B1.out.trans (b1.mono B1.out.size)); replace X1 := Lib.hid (X1.out.keep b1 (by omega))
  have hs4 := b1.size
  go_wp2_with fail
  have hHeld2 := hHeld.later b1 (by omega); clear b1 hHeld
  refine hK.out _ _ hHeld2 (fun hHeld => ?_)
  clear hK K hHeld2
  refine wpAnyH_ready (rs := [4]) (by kernel_rfl) (by simp) (AllReadyH.cons rfl (fun K hK => ?_) AllReadyH.nil)
  go_simp
  refine (path_spec _ r u n hi (swL a b) _ X1.out HS.out (by rw [swL_len]; exact hab) (fun _ h => swL_or h)).mono ?_
  rintro e w5 ⟨v5, rfl, o5, b1⟩
  rw [← PE.out] at o5
  obtain ⟨P5, c5, rfl, R5, hc5⟩ := gl.gives_rows o5
  have ge := w4.heap.size
  replace B1 := Lib.hid (B1.out.trans (b1.mono B1.out.size))
  have hs5 := b1.size
  rw [LE.out] at R5 hc5 ⊢
  have O5 := Lib.hid R5.rd
  generalize peF r u (a : Int) (b : Int) = E at *
  go_wp2_with fail
  have hHeld2 := hHeld.later b1 (by omega); clear b1 hHeld R5
  refine hK.out _ _ hHeld2 (fun hHeld => ?_)
  clear hK K hHeld2
  refine wpAnyH_take (i := 5) (v := .slice P5 n c5) rfl (by kernel_rfl) (by kernel_rfl) (by kernel_rfl) (fun _ _ _ h => h) (Or.inl ⟨by first | kernel_rfl | rfl, fun w hSw => by go_simp⟩) hHeld ?_
  refine wpAnyH_done (by kernel_rfl) ?_ _
  try dsimp only [List.getElem_toArray, List.getElem_cons_zero, List.getElem_cons_succ]
  try simp only [Act.put, List.setIfInBounds_toArray, List.set_cons_zero, List.set_cons_succ]
  clear hHeld
  have IX : Hid (∀ x : Int, 0 ≤ x → x < n → ∃ g off, P5 = some ⟨g, off, none⟩ ∧ w5.cell? ⟨g, off + x.toNat, none⟩ = some (.int .i64 (E.getD x.toNat 0))) := Lib.hid (fun x h0 h1 => by
    obtain ⟨g, off, uu, e, _, hxu, hcx⟩ := O5.out.at_ (k := x.toNat) (by omega)
    rw [V_getD (by rw [LE.out]; omega)] at hxu
    cases hxu
    exact ⟨g, off, e, hcx⟩)
  obtain ⟨gb, off, rfl, c0⟩ := IX.out i i0' i1'
  obtain ⟨j, rfl⟩ : ∃ j : Nat, i = (j : Int) := ⟨i.toNat, by omega⟩
  rw [Int.toNat_natCast] at c0
  have CS := Lib.hid (Cw.start (ps := E) i0' i1')
  rw [Int.toNat_natCast] at CS
  generalize hy : E.getD j 0 = y at *
  go_wp2_with fail
  go_loopw [10, 11] (fun nv xv wr => ∃ (x : Int) (acc : List Int) (m : Nat), nv = .int .i64 acc.length ∧ xv = .int .i64 x ∧ Hid (Cw n E (j : Int) x acc m) ∧ wr = w5) (fun nv _ _ => n + 1 - (intOf nv).toNat)
  case atStart => exact ⟨y, [(j : Int)], n, rfl, rfl, CS, rfl⟩
  case round =>
    obtain ⟨x, acc, m, rfl, rfl, CW, rfl⟩ := hrel
    have hxin := CW.out.way.x_in HB.out
    have hlen := CW.out.len
    have hmp := CW.out.pos
    obtain ⟨z, rfl⟩ : ∃ z : Nat, x = (z : Int) := ⟨x.toNat, by omega⟩
    by_cases hx : z = j
    · subst hx
      have FIN : Hid (acc = cyc E n (z : Int)) := Lib.hid CW.out.done
      have hne : (((z : Int)) != (z : Int)) = false := by simp
      go_wp2_with fail
      go_ret
      exact ⟨ret_int (by rw [HF.out, ← FIN.out]), B1.out⟩
    · have hne : (((z : Int)) != (j : Int)) = true := by simp; omega
      have NXT := Lib.hid (CW.out.next HB.out (by omega))
      rw [Int.toNat_natCast] at NXT
      obtain ⟨gb2, off2, e2, c1⟩ := IX.out (z : Int) hxin.1 hxin.2
      cases e2
      rw [Int.toNat_natCast] at c1
      generalize hlx : acc.length = ll at *
      have hw : IntKind.i64.wrap ((ll : Int) + 1) = (ll : Int) + 1 := IntWalk.i64_in _ (by omega)
      go_wp2_with fail
      go_roundw
      case rel => exact ⟨_, acc ++ [(z : Int)], m - 1, by simp [hlx], rfl, NXT, by first | rfl | trivial⟩
      case measure => simp [intOf]; omega
end Go.Proofs.Ytkkklpchkkdhfaa.pth

/-
  The round about the corners: of the program's gluing, of the model.
-/
namespace Go.Proofs.Ytkkklpchkkdhfaa.gl
open Go.ChangeShapes Go.WideShapes Go.ChangeAt Go.RowKit
open Go.Proofs.Ytkkklpchkkdhfaa.mem Go.Proofs.Ytkkklpchkkdhfaa.ints Go.Proofs.Ytkkklpchkkdhfaa.arr Go.Proofs.Ytkkklpchkkdhfaa.pm Go.Proofs.Ytkkklpchkkdhfaa.permOk Go.Proofs.Ytkkklpchkkdhfaa.permOf Go.Proofs.Ytkkklpchkkdhfaa.inv Go.Proofs.Ytkkklpchkkdhfaa.fns Go.Proofs.Ytkkklpchkkdhfaa.sf
set_option linter.unusedVariables false
set_option maxRecDepth 100000

theorem l02inv_gives (A : Option Addr) (n c : Nat) (xs : List Int) (hi : Nat) (w : World) (hx : Rd w hi A n (V xs)) (ok : Ok xs) (hn : xs.length = n) :
    Calls Try.prog 63 #[.slice A n c] w (Gives (Inv xs) w) := by
  subst hn; exact l02inv_any A _ c xs hi w hx ok
theorem _root_.Go.Proofs.Ytkkklpchkkdhfaa.sf.Hld.c0 {base top a : Nat} {w W : World} {x y : Value} {l : List (Nat × List Value)} (h : Hld base top w ((a, [x, y]) :: l) W) : W.cell? ⟨a, 0, none⟩ = some x := by simpa using h.fst 0 x rfl
theorem _root_.Go.Proofs.Ytkkklpchkkdhfaa.sf.Hld.c1 {base top a : Nat} {w W : World} {x y : Value} {l : List (Nat × List Value)} (h : Hld base top w ((a, [x, y]) :: l) W) : W.cell? ⟨a, 1, none⟩ = some y := by simpa using h.fst 1 y rfl
end Go.Proofs.Ytkkklpchkkdhfaa.gl
