/-
  PathPerm of the specification and of the program.
-/
import Derived.Test.YtkkklpchkkdhfaaDd
import Derived.Test.YtkkklpchkkdhfaaDe
import Derived.Test.YtkkklpchkkdhfaaSfn
import Derived.Test.YtkkklpchkkdhfaaRg
import Derived.Test.YtkkklpchkkdhfaaNf
namespace Go.Proofs.Ytkkklpchkkdhfaa.dr
open Go.ChangeShapes Go.WideShapes Go.ChangeAt Go.RowKit
open Go.Proofs.Ytkkklpchkkdhfaa.mem Go.Proofs.Ytkkklpchkkdhfaa.ints Go.Proofs.Ytkkklpchkkdhfaa.arr Go.Proofs.Ytkkklpchkkdhfaa.pm Go.Proofs.Ytkkklpchkkdhfaa.permOk Go.Proofs.Ytkkklpchkkdhfaa.permOf Go.Proofs.Ytkkklpchkkdhfaa.inv Go.Proofs.Ytkkklpchkkdhfaa.fns Go.Proofs.Ytkkklpchkkdhfaa.sf Go.Proofs.Ytkkklpchkkdhfaa.gl
set_option linter.unusedVariables false
set_option maxRecDepth 100000

/-- What PathPerm gives. -/
def ppB (r u : List Int) (p q : Int) : Bool := transB r u && slB p q
def ppF (r u : List Int) (p q : Int) : List Int := if ppB r u p q then ev r.length r u (swL p.toNat q.toNat) else []
theorem ppB_1 {r u : List Int} {p q : Int} (h : transB r u = false) : ppB r u p q = false := by simp [ppB, h]
theorem ppB_2 {r u : List Int} {p q : Int} (h : slB p q = false) : ppB r u p q = false := by simp [ppB, h]
theorem ppF_no {r u : List Int} {p q : Int} (h : ppB r u p q = false) : ppF r u p q = [] := by simp [ppF, h]
theorem ppB_yes {r u : List Int} {p q : Int} (h : transB r u = true) (h2 : slB p q = true) : ppB r u p q = true := by simp [ppB, h, h2]
theorem ppF_yes {r u : List Int} {a b : Nat} (h : transB r u = true) (h2 : slB a b = true) : ppF r u a b = ev r.length r u (swL a b) := by simp [ppF, ppB_yes h h2]
theorem ppF_24 (r u : List Int) (p q : Int) : (ppF r u p q).length ≤ 24 := by
  unfold ppF
  split
  · rename_i h
    have s := transB_iff.1 (by unfold ppB at h; rw [Bool.and_eq_true] at h; exact h.1)
    rw [(ev_ok s _).2]; exact s.small
  · simp
theorem ppF_len (r u : List Int) (p q : Int) : (ppF r u p q).length ≤ 1048576 := by have := ppF_24 r u p q; omega
def PPost (r u : List Int) (p q : Int) (w : World) (e : Ending) (w' : World) : Prop :=
  ∃ A c, e = .returned (.tuple #[.slice A (ppF r u p q).length c, .bool (ppB r u p q)]) ∧ Row w' w.heap.size w'.heap.size A (ppF r u p q).length (V (ppF r u p q)) ∧ (ppF r u p q).length ≤ c ∧ Below w.heap.size w w'
theorem pp_no {r u : List Int} {p q : Int} {w w' : World} (h : ppB r u p q = false) (hb : Below w.heap.size w w') : PPost r u p q w (.returned (.tuple #[.slice none 0 0, .bool false])) w' := by
  have e := ppF_no h
  refine ⟨none, 0, by rw [e, h]; rfl, ?_, by rw [e]; simp, hb⟩
  rw [e]
  exact ⟨rfl, Nat.le_refl _, fun q => absurd q (by simp)⟩
theorem pp_yes {r u : List Int} {p q : Int} {w w' : World} {A : Option Addr} {l c : Nat} {E : List Int} (hF : ppF r u p q = E) (hB : ppB r u p q = true) (ho : w'.ownsRow w.heap.size 3 1 (.slice A l c) E.length (V E)) (hc : l ≤ c) (hb : Below w.heap.size w w') :
    PPost r u p q w (.returned (.tuple #[.slice A l c, .bool true])) w' := by
  subst hF
  have hl : l = (ppF r u p q).length := by
    rcases ho.2 with ⟨h0, h1⟩ | ⟨g, cap, cur, h1, h2, h3⟩
    · injection h0 with _ h0 _; omega
    · injection h1 with _ h1 _
  subst hl
  refine ⟨A, c, by rw [hB], Row.of_own ho, hc, hb⟩
theorem ix_at {P : Program} {L : List UInt8} {k : Nat} {c : UInt8} (h : L[k]? = some c) (t : TypeId) (ht : P.underlying t = some .string) (w : World) : (Instr.index t (.string (wd L)) (.int .i64 (k : Int))).run P w = .ok (.int .u8 (c.toNat : Int)) w := by
  have hk : k < L.length := (List.getElem?_eq_some_iff.1 h).1
  have hks : k < (wd L).size := by rw [wd_size]; exact hk
  rw [run_index_string _ _ _ _ _ ht, dif_pos (by omega)]
  have : (wd L)[((k : Int)).toNat]'(by omega) = c := by
    have e : (wd L)[k]'hks = c := by rw [wd_at hk]; rw [List.getElem?_eq_getElem hk] at h; exact Option.some.inj h
    simpa using e
  rw [this]
theorem ev_step {n : Nat} {R U : List Int} {L : List UInt8} {k : Nat} {c : UInt8} (h : L[k]? = some c) : ev n R U (L.take (k + 1)) = thn (ev n R U (L.take k)) (stP R U c) := by
  rw [List.take_add_one, h]
  exact ev_snoc n R U (L.take k) c
theorem own_low {w : World} {base base' : Nat} {e : TypeId} {size n : Nat} {v : Value} {xs : List Value} (h : w.ownsRow base e size v n xs) (hb : base' ≤ base) : w.ownsRow base' e size v n xs := by
  refine ⟨h.1, ?_⟩
  rcases h.2 with h0 | ⟨g, cap, cur, h1, h2, h3⟩
  · exact .inl h0
  · exact .inr ⟨g, cap, cur, h1, Nat.le_trans hb h2, h3⟩
/-- Amid the specification's way. -/
structure Pq (r u : List Int) (n : Nat) (L : List UInt8) (w wr : World) (P Q : Option Addr) (c d : Nat) (v : Value) (k : Nat) : Prop where
  own : wr.ownsRow w.heap.size 3 1 v (ev n r u (L.take k)).length (V (ev n r u (L.take k)))
  bel : Below w.heap.size w wr
  box : Arr wr w.heap.size [.slice P n c, .slice Q n d] 32

set_option maxHeartbeats 2000000 in
theorem path_spec (v : Value) (r u : List Int) (n hi : Nat) (L : List UInt8) (w : World) (hx : Srd w hi v r u) (hs : Sf n r u) (hl : L.length ≤ 12) (hc : ∀ c ∈ L, c = 114 ∨ c = 117) :
    Calls Try.prog 54 #[v, .string (wd L)] w (Gives (ev n r u L) w) := by
  have HX := Lib.hid hx; have HS := Lib.hid hs; have HC := Lib.hid hc; clear hx hc
  obtain ⟨P, n', c, Q, m', d, rfl, q1, q2, e1, e2, ht, HR⟩ := HX.out.open
  obtain rfl : n' = n := by rw [← q1]; exact hs.lr
  obtain rfl : m' = n' := by rw [← q2]; exact hs.lu
  have n24 := hs.small
  have hsz := wd_size L
  clear hs q1 q2
  go_enter Try.func54, Try.ntmps54
  go_wp2_with fail
  refine (l02id_any m' _ n24).mono ?_
  rintro e w1 ⟨v1, rfl, o1, b1⟩
  have A0 := Lib.hid ((Arr.new w [.slice P m' c, .slice Q m' d] 32 rfl).keep b1 (by simp))
  have B1 := Lib.hid (below1 _ _ b1)
  have hs1 : w.heap.size + 1 ≤ w1.heap.size := by have := b1.size; simpa using this
  have O1 : Hid (w1.ownsRow (w.heap.size + 1) 3 1 v1 (rng m').length (V (rng m'))) := Lib.hid (by have := o1; simp at this; rw [rng_len]; exact this)
  clear o1 b1
  go_wp2
  go_loopw [5, 6] (fun v i wr => ∃ k : Nat, k ≤ L.length ∧ i = .int .i64 k ∧ Pq r u m' L w wr P Q c d v k) (fun _ i _ => L.length - (intOf i).toNat)
  case atStart => exact ⟨0, Nat.zero_le _, rfl, own_low O1.out (by omega), B1.out, A0.out⟩
  case round =>
    obtain ⟨k, hk, rfl, hp⟩ := hrel
    have HP := Lib.hid hp; clear hp
    by_cases hlt : k < L.length
    · obtain ⟨ch, hLc⟩ : ∃ ch, L[k]? = some ch := ⟨L[k], List.getElem?_eq_getElem hlt⟩
      have hcc := HC.out ch (List.mem_of_getElem? hLc)
      have hix := fun w => ix_at (P := Try.prog) hLc 9 Try.underlying9 w
      have EV := Lib.hid (ev_step (n := m') (R := r) (U := u) hLc)
      have OE := Lib.hid (ev_ok HS.out (L.take k))
      obtain ⟨P5, c5, e5⟩ := own_form HP.out.own
      subst e5
      have R5 := Lib.hid (Row.of_own HP.out.own)
      have BX := Lib.hid HP.out.box
      have BB := Lib.hid HP.out.bel
      have cc0 := BX.out.cell (k := 0) rfl
      have cc1 := BX.out.cell (k := 1) rfl
      have hsz5 := BB.out.size
      have RX : Hid (Rd wr hi P m' (V r) ∧ Rd wr hi Q m' (V u)) := Lib.hid ⟨Srd.fst (HX.out.keep (BB.out.mono ht) (Nat.le_refl _)), Srd.snd (HX.out.keep (BB.out.mono ht) (Nat.le_refl _))⟩
      clear HP hLc
      generalize ev m' r u (L.take k) = E at *
      rcases hcc with hcc | hcc
      · subst hcc
        rw [show stP r u 114 = r from rfl] at EV
        go_wp2_with fail
        refine (l02then_any P5 _ c5 P m' c E r _ _ _ R5.out.rd RX.out.1 OE.out.1 OE.out.2).mono ?_
        rintro e w2 hg
        have KB : Hid (Arr w2 w.heap.size [.slice P m' c, .slice Q m' d] 32) := Lib.hid (by obtain ⟨_, _, _, hb⟩ := hg; exact BX.out.keep hb BX.out.lt)
        obtain ⟨v', rfl, o', b'⟩ := gives_later BB.out hg
        have OO := Lib.hid o'; have BN := Lib.hid b'; clear o' b' hg
        go_wp2
        go_roundw
        case rel => exact ⟨k + 1, by omega, by first | rfl | go_num, by rw [EV.out]; exact OO.out, BN.out, KB.out⟩
        case measure => simp [intOf]; omega
      · subst hcc
        rw [show stP r u 117 = u from rfl] at EV
        go_wp2_with fail
        refine (l02then_any P5 _ c5 Q m' d E u _ _ _ R5.out.rd RX.out.2 OE.out.1 OE.out.2).mono ?_
        rintro e w2 hg
        have KB : Hid (Arr w2 w.heap.size [.slice P m' c, .slice Q m' d] 32) := Lib.hid (by obtain ⟨_, _, _, hb⟩ := hg; exact BX.out.keep hb BX.out.lt)
        obtain ⟨v', rfl, o', b'⟩ := gives_later BB.out hg
        have OO := Lib.hid o'; have BN := Lib.hid b'; clear o' b' hg
        go_wp2
        go_roundw
        case rel => exact ⟨k + 1, by omega, by first | rfl | go_num, by rw [EV.out]; exact OO.out, BN.out, KB.out⟩
        case measure => simp [intOf]; omega
    · have HE : Hid (L.take k = L) := Lib.hid (List.take_of_length_le (by omega))
      go_wp2
      go_ret
      exact ⟨_, rfl, by have := HP.out.own; rwa [HE.out] at this, HP.out.bel⟩

end Go.Proofs.Ytkkklpchkkdhfaa.dr
