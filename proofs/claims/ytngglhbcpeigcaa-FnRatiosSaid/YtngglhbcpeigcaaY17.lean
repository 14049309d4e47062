import Derived.Test.YtngglhbcpeigcaaY16
import Derived.Test.YtngglhbcpeigcaaY13
import Derived.Test.YtngglhbcpeigcaaY12
/-
  spec.l08Joined, spec.l08Mark.
-/
namespace Go.Proofs.Ytngglhbcpeigcaa.cy
open Go.ChangeShapes Go.WideShapes Go.ChangeAt Go.RowKit
open Go.Proofs.Ytngglhbcpeigcaa.mem Go.Proofs.Ytngglhbcpeigcaa.ints Go.Proofs.Ytngglhbcpeigcaa.arr Go.Proofs.Ytngglhbcpeigcaa.pm Go.Proofs.Ytngglhbcpeigcaa.permOf Go.Proofs.Ytngglhbcpeigcaa.sf Go.Proofs.Ytngglhbcpeigcaa.mat Go.Proofs.Ytngglhbcpeigcaa.gl Go.Proofs.Ytngglhbcpeigcaa.lp
set_option linter.unusedVariables false
set_option maxRecDepth 100000

theorem ab_get {N : Nat} {ab : List Int} (h : Inj N ab) {k : Nat} (hk : k < N) : ab[k]? = some (at_ ab k) := by
  have : k < ab.length := by rw [h.len]; exact hk
  simp [at_, List.getD, List.getElem?_eq_getElem this]
set_option maxHeartbeats 1000000 in
theorem joined_spec (A : Option Addr) (N c k r hi : Nat) (ab : List Int) (w : World) (hx : Rd w hi A N (V ab)) (hi' : Inj N ab) (hN : N ≤ 24) (hk : k < N) (hj : jn ab r (N + 1) (k : Int) = true) :
    Calls Try.prog 76 #[.slice A N c, .int .i64 k, .int .i64 r] w fun e w' => e = .returned (.bool true) ∧ w = w' := by
  have HX := Lib.hid hx; have HI := Lib.hid hi'; have HJ := Lib.hid hj
  clear hx hi' hj
  go_enter Try.func76, Try.ntmps76
  go_wp2
  go_loop [7, 8] (fun kv iv => ∃ (i : Nat) (cur : Int), i ≤ N + 1 ∧ iv = .int .i64 i ∧ kv = .int .i64 cur ∧ -1 ≤ cur ∧ cur < N ∧ Hid (jn ab r (N + 1 - i) cur = true)) (fun _ iv => N + 1 - (intOf iv).toNat)
  case atStart => exact ⟨0, k, Nat.zero_le _, rfl, rfl, by omega, by omega, HJ⟩
  case round =>
    obtain ⟨i, cur, hi1, rfl, rfl, lo, hi2, HR⟩ := hrel
    have HP : Hid (i ≤ N ∧ 0 ≤ cur) := Lib.hid (by
      have h := HR.out
      rcases Nat.eq_zero_or_pos (N + 1 - i) with z | z
      · rw [z] at h; simp [jn] at h
      · obtain ⟨m, hm⟩ : ∃ m, N + 1 - i = m + 1 := ⟨N - i, by omega⟩
        rw [hm, jn] at h
        split at h
        · cases h
        · omega)
    obtain ⟨p1, p2⟩ := HP.out
    obtain ⟨q, rfl⟩ : ∃ q : Nat, cur = q := ⟨cur.toNat, by omega⟩
    have hqN : q < N := by omega
    obtain ⟨g, off, u, rfl, _, hu, hc⟩ := HX.out.at_ hqN
    rw [V_get (ab_get HI.out hqN)] at hu
    obtain rfl := Option.some.inj hu
    by_cases hqr : (q : Int) = r
    · have hb : ((q : Int) == (r : Int)) = true := by simp [hqr]
      clear HR
      go_wp2
      go_ret
      exact ⟨rfl, rfl⟩
    · have hb : ((q : Int) == (r : Int)) = false := by simp; omega
      have NX : Hid (jn ab r (N + 1 - (i + 1)) (at_ ab q) = true) := Lib.hid (by
        have h := HR.out
        rw [show N + 1 - i = (N + 1 - (i + 1)) + 1 by omega, jn, if_neg (by omega), if_neg hqr, Int.toNat_natCast] at h
        exact h)
      have l1 := HI.out.low q hqN
      have l2 := HI.out.rng q hqN
      clear HR hqr
      generalize at_ ab q = nx at *
      go_wp2
      go_round
      case rel => exact ⟨i + 1, nx, by omega, by go_num, rfl, l1, l2, NX⟩
      case measure => simp [intOf]; omega

theorem VB_at {M : List Bool} {k : Nat} {b : Bool} (h : M[k]? = some b) : (VB M)[k]? = some (.bool b) := by simp [VB, h]
theorem VB_set (M : List Bool) (k : Nat) (b : Bool) : (VB M).set k (.bool b) = VB (M.set k b) := by simp [VB, List.map_set]
theorem VB_len (M : List Bool) : (VB M).length = M.length := by simp [VB]
def bN (v : Value) : Nat := match v with | .bool true => 1 | _ => 0

theorem row_cells {w : World} {lo hi N gC oC : Nat} {M : List Bool} (h : Row w lo hi (some ⟨gC, oC, none⟩) N (VB M)) {k : Nat} {b : Bool} (hb : M[k]? = some b) : w.cell? ⟨gC, oC + k, none⟩ = some (.bool b) ∧ w.frozen? ⟨gC, oC + k, none⟩ = false ∧ lo ≤ gC ∧ gC < hi := by
  have hk : k < N := by have := (List.getElem?_eq_some_iff.1 hb).1; have := h.1; rw [VB_len] at this; omega
  obtain ⟨g, off, u, e, h1, h2, h3, h4, h5⟩ := h.at_ hk
  injection e with e; injection e with e1 e2; subst e1; subst e2
  rw [VB_at hb] at h3
  obtain rfl := Option.some.inj h3
  exact ⟨h4, h5, h1, h2⟩
theorem row_mark {w wr : World} {lo hi N gC oC k : Nat} {M : List Bool} (h : Row wr lo hi (some ⟨gC, oC, none⟩) N (VB M)) (ho : Out lo hi w wr) (hk : M[k]? = some false) : Row (wr.setCell ⟨gC, oC + k, none⟩ (.bool true)) lo hi (some ⟨gC, oC, none⟩) N (VB (M.set k true)) ∧ Out lo hi w (wr.setCell ⟨gC, oC + k, none⟩ (.bool true)) := by
  obtain ⟨_, _, l1, l2⟩ := row_cells h hk
  have hkN : k < N := by have := (List.getElem?_eq_some_iff.1 hk).1; have := h.1; rw [VB_len] at this; omega
  refine ⟨by rw [← VB_set]; exact h.set_ hkN _, ho.set_ l1 l2 _⟩

set_option maxHeartbeats 4000000 in
theorem mark_spec (A : Option Addr) (c : Nat) (C : Option Addr) (cc N r hi lo2 hi2 : Nat) (ab : List Int) (S : List Bool) (w : World) (hx : Rd w hi A N (V ab)) (hh : hi ≤ lo2) (hy : Row w lo2 hi2 C N (VB S)) (hi' : Inj N ab) (hN : N ≤ 24) (hS : S.length = N) (hcl : Closed N ab (on S)) (hf : S[r]? = some false) :
    Calls Try.prog 66 #[.slice A N c, .int .i64 r, .slice C N cc] w fun e w' => e = .returned (.int .i64 ((cnt (clos N ab S r) - cnt S : Nat) : Int)) ∧ Row w' lo2 hi2 C N (VB (clos N ab S r)) ∧ Out lo2 hi2 w w' := by
  have hrN : r < N := by have := (List.getElem?_eq_some_iff.1 hf).1; omega
  obtain ⟨gA, oA, _, rfl, hgA, _, _⟩ := hx.at_ hrN
  obtain ⟨gC, oC, _, rfl, _, _, _, _, _⟩ := hy.at_ hrN
  have RA : Hid (∀ W, Out lo2 hi2 w W → ∀ k, k < N → W.cell? ⟨gA, oA + k, none⟩ = some (.int .i64 (at_ ab k))) := Lib.hid (fun W ho k hk => by
    obtain ⟨g, off, u, e, _, hu, hc⟩ := (hx.out ho (.inl hh)).at_ hk
    injection e with e; injection e with e1 e2; subst e1; subst e2
    rw [V_get (ab_get hi' hk)] at hu
    obtain rfl := Option.some.inj hu
    exact hc)
  have RD : Hid (∀ W, Out lo2 hi2 w W → Rd W hi (some ⟨gA, oA, none⟩) N (V ab)) := Lib.hid (fun W ho => hx.out ho (.inl hh))
  have HY := Lib.hid hy; have HI := Lib.hid hi'; have HC := Lib.hid hcl; have HF := Lib.hid hf
  have US := Lib.hid (Up.start hS hrN hcl)
  clear hx hy hi' hcl hf
  go_enter Try.func66, Try.ntmps66
  go_wp2
  go_loopw [7, 8] (fun nv kv wr => ∃ (M : List Bool) (cur : Int) (n : Nat), nv = .int .i64 n ∧ kv = .int .i64 cur ∧ Up N ab S r M cur ∧ n + cnt S = cnt M ∧ (0 < n ∨ cur = r ∧ M = S) ∧ Row wr lo2 hi2 (some ⟨gC, oC, none⟩) N (VB M) ∧ Out lo2 hi2 w wr) (fun nv _ _ => N - (intOf nv).toNat)
  case atStart => exact ⟨S, r, 0, rfl, rfl, US.out, by omega, .inr ⟨rfl, rfl⟩, HY.out, Out.refl _ _ _⟩
  case round =>
    obtain ⟨M, cur, n, rfl, rfl, hup, hn, hz, hrow, hout⟩ := hrel
    have UP := Lib.hid hup; have RW := Lib.hid hrow; have OT := Lib.hid hout
    have hnN : n ≤ N := by have := cnt_le M; have := hup.len; omega
    have curlo := hup.lo; have curhi := hup.hi
    clear hup hrow hout US
    have FIN : Hid ((cur < 0 ∨ ∃ c : Nat, cur = c ∧ on M c) → Sd N ab S r M n) := Lib.hid (fun hd => by
      refine (UP.out.done hd).sd hn ?_
      rcases hz with z | ⟨z1, z2⟩
      · exact z
      · exfalso
        rcases hd with q | ⟨c, q1, q2⟩
        · omega
        · have : c = r := by omega
          subst this
          rw [z2] at q2
          exact on_not HF.out q2)
    clear hz
    by_cases hneg : cur < 0
    · have DN := Lib.hid (FIN.out (.inl hneg))
      clear FIN UP hn
      go_wp2
      go_loopw [7, 9] (fun nv av wr => ∃ (M : List Bool) (n : Nat) (ag : Bool), nv = .int .i64 n ∧ av = .bool ag ∧ Sd N ab S r M n ∧ (ag = false → ∀ k x : Nat, k < N → at_ ab k = x → on M x → on M k) ∧ Row wr lo2 hi2 (some ⟨gC, oC, none⟩) N (VB M) ∧ Out lo2 hi2 w wr) (fun nv av _ => 2 * (N - (intOf nv).toNat) + bN av)
      case atStart => exact ⟨M, n, true, rfl, rfl, DN.out, (fun e => by cases e), RW.out, OT.out⟩
      case round =>
        obtain ⟨M, n, ag, rfl, rfl, hsd, hag, hrow, hout⟩ := hrel
        have SD := Lib.hid hsd; have RW := Lib.hid hrow; have OT := Lib.hid hout; have HAG := Lib.hid hag
        have hnN2 := hsd.le
        clear hsd hrow hout hag DN
        cases ag with
        | false =>
          have HE : Hid (M = clos N ab S r) := Lib.hid (SD.out.done (HAG.out rfl))
          have HH : Hid (n = cnt M - cnt S) := Lib.hid (by have := SD.out.cnt; omega)
          go_wp2
          go_ret
          exact ⟨ret_int (by rw [← HE.out, ← HH.out]), by rw [← HE.out]; exact RW.out, OT.out⟩
        | true =>
          go_wp2
          go_loopw [7, 9, 34] (fun nv av jv wr => ∃ (j : Nat) (M' : List Bool) (n' : Nat) (ag : Bool), j ≤ N ∧ jv = .int .i64 j ∧ nv = .int .i64 n' ∧ av = .bool ag ∧ Sd N ab S r M' n' ∧ (ag = true → n < n') ∧ (ag = false → n' = n ∧ ∀ k x : Nat, k < j → at_ ab k = x → on M' x → on M' k) ∧ Row wr lo2 hi2 (some ⟨gC, oC, none⟩) N (VB M') ∧ Out lo2 hi2 w wr) (fun _ _ jv _ => N - (intOf jv).toNat)
          case atStart => exact ⟨0, M, n, false, Nat.zero_le _, rfl, rfl, rfl, SD.out, (fun e => by cases e), fun _ => ⟨rfl, fun k x hk => by omega⟩, RW.out, OT.out⟩
          case round =>
            obtain ⟨j, M', n', ag, hj, rfl, rfl, rfl, hsd, ha1, ha2, hrow, hout⟩ := hrel
            have SJ := Lib.hid hsd; have RJ := Lib.hid hrow; have OJ := Lib.hid hout; have H1 := Lib.hid ha1; have H2 := Lib.hid ha2
            have hnN3 := hsd.le
            clear hsd hrow hout ha1 ha2 SD RW OT HAG
            by_cases hlt : j < N
            · have la := RA.out _ OJ.out j hlt
              have l1 := HI.out.low j hlt
              have l2 := HI.out.rng j hlt
              have SKIP : Hid ((∀ x : Nat, at_ ab j = x → on M' x → on M' j) → ag = false → n' = n ∧ ∀ k x : Nat, k < j + 1 → at_ ab k = x → on M' x → on M' k) := Lib.hid (fun hs e => ⟨(H2.out e).1, fun k x hk hx hox => by
                by_cases q : k = j
                · subst q; exact hs x hx hox
                · exact (H2.out e).2 k x (by omega) hx hox⟩)
              by_cases hx0 : at_ ab j < 0
              · have SK := Lib.hid (SKIP.out (fun x hx _ => by omega))
                clear SKIP H2
                generalize at_ ab j = z at *
                go_wp2
                go_roundw
                case rel => exact ⟨j + 1, M', n', ag, by omega, by go_num, rfl, rfl, SJ.out, H1.out, SK.out, RJ.out, OJ.out⟩
                case measure => simp [intOf]; omega
              · obtain ⟨x, hx⟩ : ∃ x : Nat, at_ ab j = x := ⟨(at_ ab j).toNat, by omega⟩
                have hxN : x < N := by omega
                have HX := Lib.hid hx
                rw [hx] at la
                clear hx l1 l2 hx0
                cases hMx : M'[x]? with
                | none => have := SJ.out.len; rw [List.getElem?_eq_none_iff] at hMx; omega
                | some bx =>
                  obtain ⟨kx, _, _, _⟩ := row_cells RJ.out hMx
                  cases bx with
                  | false =>
                    have SK := Lib.hid (SKIP.out (fun y hy hoy => by have : y = x := by have := HX.out; omega
                                                                     subst this; exact absurd hoy (on_not hMx)))
                    clear SKIP H2 hMx
                    go_wp2
                    go_roundw
                    case rel => exact ⟨j + 1, M', n', ag, by omega, by go_num, rfl, rfl, SJ.out, H1.out, SK.out, RJ.out, OJ.out⟩
                    case measure => simp [intOf]; omega
                  | true =>
                    cases hMj : M'[j]? with
                    | none => have := SJ.out.len; rw [List.getElem?_eq_none_iff] at hMj; omega
                    | some bj =>
                      obtain ⟨kj, fj, _, _⟩ := row_cells RJ.out hMj
                      cases bj with
                      | true =>
                        have SK := Lib.hid (SKIP.out (fun y hy hoy => hMj))
                        clear SKIP H2 hMx hMj
                        go_wp2
                        go_roundw
                        case rel => exact ⟨j + 1, M', n', ag, by omega, by go_num, rfl, rfl, SJ.out, H1.out, SK.out, RJ.out, OJ.out⟩
                        case measure => simp [intOf]; omega
                      | false =>
                        have JN := Lib.hid (jn_le (SJ.out.join HI.out HC.out hlt HX.out hMx (on_not hMj)) (show n' + 1 ≤ N + 1 by omega))
                        have NS := Lib.hid (SJ.out.step HI.out HC.out hMj HX.out hMx)
                        obtain ⟨m1, m2⟩ := row_mark RJ.out OJ.out hMj
                        have R1 := Lib.hid m1; have O1 := Lib.hid m2
                        have RDJ := Lib.hid (RD.out _ OJ.out)
                        have hnn : n < n' + 1 := by
                          cases ag with
                          | true => have := H1.out rfl; omega
                          | false => have := (H2.out rfl).1; omega
                        have hle := NS.out.le
                        clear SKIP H1 H2 hMx hMj m1 m2 RJ OJ
                        go_wp2_with (first | (go_at_call 76; refine (joined_spec (some ⟨gA, oA, none⟩) N c j r hi ab _ RDJ.out HI.out hN hlt JN.out).mono ?_; rintro e w' ⟨rfl, rfl⟩))
                        go_roundw
                        case rel => exact ⟨j + 1, M'.set j true, n' + 1, true, by omega, by go_num, by go_num, rfl, NS.out, (fun _ => hnn), (fun e => by cases e), R1.out, O1.out⟩
                        case measure => simp [intOf]; omega
            · have HA2 : Hid (ag = false → ∀ k x : Nat, k < N → at_ ab k = x → on M' x → on M' k) := Lib.hid (fun e k x hk => (H2.out e).2 k x (by omega))
              have hms : 2 * (N - n') + bN (.bool ag) < 2 * (N - n) + 1 := by
                cases ag with
                | true => have := H1.out rfl; simp [bN]; omega
                | false => have := (H2.out rfl).1; simp [bN]; omega
              clear H1 H2
              go_wp2
              go_roundw
              case rel => exact ⟨M', n', ag, rfl, rfl, SJ.out, HA2.out, RJ.out, OJ.out⟩
              case measure => simpa [intOf, bN] using hms
    · obtain ⟨k, rfl⟩ : ∃ k : Nat, cur = k := ⟨cur.toNat, by omega⟩
      have hkN : k < N := by omega
      cases hMk : M[k]? with
      | none => have := UP.out.len; rw [List.getElem?_eq_none_iff] at hMk; omega
      | some b =>
        obtain ⟨k3, f3, _, _⟩ := row_cells RW.out hMk
        cases b with
        | true =>
          have DN := Lib.hid (FIN.out (.inr ⟨k, rfl, hMk⟩))
          clear FIN UP hn hMk f3
          go_wp2
          go_loopw [7, 9] (fun nv av wr => ∃ (M : List Bool) (n : Nat) (ag : Bool), nv = .int .i64 n ∧ av = .bool ag ∧ Sd N ab S r M n ∧ (ag = false → ∀ k x : Nat, k < N → at_ ab k = x → on M x → on M k) ∧ Row wr lo2 hi2 (some ⟨gC, oC, none⟩) N (VB M) ∧ Out lo2 hi2 w wr) (fun nv av _ => 2 * (N - (intOf nv).toNat) + bN av)
          case atStart => exact ⟨M, n, true, rfl, rfl, DN.out, (fun e => by cases e), RW.out, OT.out⟩
          case round =>
            obtain ⟨M, n, ag, rfl, rfl, hsd, hag, hrow, hout⟩ := hrel
            have SD := Lib.hid hsd; have RW := Lib.hid hrow; have OT := Lib.hid hout; have HAG := Lib.hid hag
            have hnN2 := hsd.le
            clear hsd hrow hout hag DN
            cases ag with
            | false =>
              have HE : Hid (M = clos N ab S r) := Lib.hid (SD.out.done (HAG.out rfl))
              have HH : Hid (n = cnt M - cnt S) := Lib.hid (by have := SD.out.cnt; omega)
              go_wp2
              go_ret
              exact ⟨ret_int (by rw [← HE.out, ← HH.out]), by rw [← HE.out]; exact RW.out, OT.out⟩
            | true =>
              go_wp2
              go_loopw [7, 9, 34] (fun nv av jv wr => ∃ (j : Nat) (M' : List Bool) (n' : Nat) (ag : Bool), j ≤ N ∧ jv = .int .i64 j ∧ nv = .int .i64 n' ∧ av = .bool ag ∧ Sd N ab S r M' n' ∧ (ag = true → n < n') ∧ (ag = false → n' = n ∧ ∀ k x : Nat, k < j → at_ ab k = x → on M' x → on M' k) ∧ Row wr lo2 hi2 (some ⟨gC, oC, none⟩) N (VB M') ∧ Out lo2 hi2 w wr) (fun _ _ jv _ => N - (intOf jv).toNat)
              case atStart => exact ⟨0, M, n, false, Nat.zero_le _, rfl, rfl, rfl, SD.out, (fun e => by cases e), fun _ => ⟨rfl, fun k x hk => by omega⟩, RW.out, OT.out⟩
              case round =>
                obtain ⟨j, M', n', ag, hj, rfl, rfl, rfl, hsd, ha1, ha2, hrow, hout⟩ := hrel
                have SJ := Lib.hid hsd; have RJ := Lib.hid hrow; have OJ := Lib.hid hout; have H1 := Lib.hid ha1; have H2 := Lib.hid ha2
                have hnN3 := hsd.le
                clear hsd hrow hout ha1 ha2 SD RW OT HAG
                by_cases hlt : j < N
                · have la := RA.out _ OJ.out j hlt
                  have l1 := HI.out.low j hlt
                  have l2 := HI.out.rng j hlt
                  have SKIP : Hid ((∀ x : Nat, at_ ab j = x → on M' x → on M' j) → ag = false → n' = n ∧ ∀ k x : Nat, k < j + 1 → at_ ab k = x → on M' x → on M' k) := Lib.hid (fun hs e => ⟨(H2.out e).1, fun k x hk hx hox => by
                    by_cases q : k = j
                    · subst q; exact hs x hx hox
                    · exact (H2.out e).2 k x (by omega) hx hox⟩)
                  by_cases hx0 : at_ ab j < 0
                  · have SK := Lib.hid (SKIP.out (fun x hx _ => by omega))
                    clear SKIP H2
                    generalize at_ ab j = z at *
                    go_wp2
                    go_roundw
                    case rel => exact ⟨j + 1, M', n', ag, by omega, by go_num, rfl, rfl, SJ.out, H1.out, SK.out, RJ.out, OJ.out⟩
                    case measure => simp [intOf]; omega
                  · obtain ⟨x, hx⟩ : ∃ x : Nat, at_ ab j = x := ⟨(at_ ab j).toNat, by omega⟩
                    have hxN : x < N := by omega
                    have HX := Lib.hid hx
                    rw [hx] at la
                    clear hx l1 l2 hx0
                    cases hMx : M'[x]? with
                    | none => have := SJ.out.len; rw [List.getElem?_eq_none_iff] at hMx; omega
                    | some bx =>
                      obtain ⟨kx, _, _, _⟩ := row_cells RJ.out hMx
                      cases bx with
                      | false =>
                        have SK := Lib.hid (SKIP.out (fun y hy hoy => by have : y = x := by have := HX.out; omega
                                                                         subst this; exact absurd hoy (on_not hMx)))
                        clear SKIP H2 hMx
                        go_wp2
                        go_roundw
                        case rel => exact ⟨j + 1, M', n', ag, by omega, by go_num, rfl, rfl, SJ.out, H1.out, SK.out, RJ.out, OJ.out⟩
                        case measure => simp [intOf]; omega
                      | true =>
                        cases hMj : M'[j]? with
                        | none => have := SJ.out.len; rw [List.getElem?_eq_none_iff] at hMj; omega
                        | some bj =>
                          obtain ⟨kj, fj, _, _⟩ := row_cells RJ.out hMj
                          cases bj with
                          | true =>
                            have SK := Lib.hid (SKIP.out (fun y hy hoy => hMj))
                            clear SKIP H2 hMx hMj
                            go_wp2
                            go_roundw
                            case rel => exact ⟨j + 1, M', n', ag, by omega, by go_num, rfl, rfl, SJ.out, H1.out, SK.out, RJ.out, OJ.out⟩
                            case measure => simp [intOf]; omega
                          | false =>
                            have JN := Lib.hid (jn_le (SJ.out.join HI.out HC.out hlt HX.out hMx (on_not hMj)) (show n' + 1 ≤ N + 1 by omega))
                            have NS := Lib.hid (SJ.out.step HI.out HC.out hMj HX.out hMx)
                            obtain ⟨m1, m2⟩ := row_mark RJ.out OJ.out hMj
                            have R1 := Lib.hid m1; have O1 := Lib.hid m2
                            have RDJ := Lib.hid (RD.out _ OJ.out)
                            have hnn : n < n' + 1 := by
                              cases ag with
                              | true => have := H1.out rfl; omega
                              | false => have := (H2.out rfl).1; omega
                            have hle := NS.out.le
                            clear SKIP H1 H2 hMx hMj m1 m2 RJ OJ
                            go_wp2_with (first | (go_at_call 76; refine (joined_spec (some ⟨gA, oA, none⟩) N c j r hi ab _ RDJ.out HI.out hN hlt JN.out).mono ?_; rintro e w' ⟨rfl, rfl⟩))
                            go_roundw
                            case rel => exact ⟨j + 1, M'.set j true, n' + 1, true, by omega, by go_num, by go_num, rfl, NS.out, (fun _ => hnn), (fun e => by cases e), R1.out, O1.out⟩
                            case measure => simp [intOf]; omega
                · have HA2 : Hid (ag = false → ∀ k x : Nat, k < N → at_ ab k = x → on M' x → on M' k) := Lib.hid (fun e k x hk => (H2.out e).2 k x (by omega))
                  have hms : 2 * (N - n') + bN (.bool ag) < 2 * (N - n) + 1 := by
                    cases ag with
                    | true => have := H1.out rfl; simp [bN]; omega
                    | false => have := (H2.out rfl).1; simp [bN]; omega
                  clear H1 H2
                  go_wp2
                  go_roundw
                  case rel => exact ⟨M', n', ag, rfl, rfl, SJ.out, HA2.out, RJ.out, OJ.out⟩
                  case measure => simpa [intOf, bN] using hms
        | false =>
          obtain ⟨m1, m2⟩ := row_mark RW.out OT.out hMk
          have R1 := Lib.hid m1; have O1 := Lib.hid m2
          have la := RA.out _ m2 k hkN
          have NU := Lib.hid (UP.out.step HI.out hMk)
          have NC : Hid (n + 1 + cnt S = cnt (M.set k true)) := Lib.hid (by rw [cnt_set hMk]; omega)
          have hn1 : n + 1 ≤ N := by have := cnt_le (M.set k true); have := NU.out.len; have := NC.out; omega
          clear hMk m1 m2 FIN UP hn hneg RW OT
          generalize at_ ab k = nx at *
          go_wp2
          go_roundw
          case rel => exact ⟨M.set k true, nx, n + 1, by go_num, rfl, NU.out, NC.out, .inl (by omega), R1.out, O1.out⟩
          case measure => simp [intOf]; omega
end Go.Proofs.Ytngglhbcpeigcaa.cy

/-
  spec.l08Cylinders, spec.CylindersOf.
-/
namespace Go.Proofs.Ytngglhbcpeigcaa.cy
open Go.ChangeShapes Go.WideShapes Go.ChangeAt Go.RowKit
open Go.Proofs.Ytngglhbcpeigcaa.mem Go.Proofs.Ytngglhbcpeigcaa.ints Go.Proofs.Ytngglhbcpeigcaa.arr Go.Proofs.Ytngglhbcpeigcaa.pm Go.Proofs.Ytngglhbcpeigcaa.permOf Go.Proofs.Ytngglhbcpeigcaa.fns Go.Proofs.Ytngglhbcpeigcaa.sf Go.Proofs.Ytngglhbcpeigcaa.mat Go.Proofs.Ytngglhbcpeigcaa.gl Go.Proofs.Ytngglhbcpeigcaa.lp
set_option linter.unusedVariables false
set_option maxRecDepth 100000

/-- Amid the specification's list. -/
structure Cq (w4 wr : World) (lo2 : Nat) (S : Option Addr) (N : Nat) (ab : List Int) (rr : List (List Int)) (v : Value) (k : Nat) : Prop where
  row : Row wr lo2 w4.heap.size S N (VB (cyS ab rr k).1)
  own : wr.ownsRow w4.heap.size 34 2 v (cyS ab rr k).2.length (V (fl (cyS ab rr k).2))
  out : Out lo2 w4.heap.size w4 wr
theorem own_Out {w w' : World} {base n lo hi : Nat} {v : Value} {xs : List Value} {e : TypeId} {size : Nat} (h : w.ownsRow base e size v n xs) (hf : Out lo hi w w') (hb : hi ≤ base) : w'.ownsRow base e size v n xs := by
  refine ⟨h.1, ?_⟩
  rcases h.2 with h0 | ⟨g, cap, cur, h1, h2, h3, h4⟩
  · exact .inl h0
  · refine .inr ⟨g, cap, cur, h1, h2, ?_, h4⟩
    have hlt : g < w.heap.size := by
      rcases Nat.lt_or_ge g w.heap.size with q | q
      · exact q
      · rw [Array.getElem?_eq_none q] at h3; cases h3
    rw [hf.block g hlt (.inr (by omega))]
    exact h3
theorem Out.grown_ {lo hi : Nat} {w W w' : World} {base n : Nat} {v : Value} {xs : List Value} {e : TypeId} {size : Nat} (h : Out lo hi w W) (ho : W.ownsRow base e size v n xs) (hb : w.heap.size ≤ base) (hg : W.grownBy w' v.ownBlock) : Out lo hi w w' :=
  ⟨hg.os.trans h.os, hg.tape.trans h.tape, hg.output.trans h.output, Nat.le_trans h.size hg.size, fun k h1 h2 => (hg.block k (Nat.lt_of_lt_of_le h1 h.size) (fun e => by have := (ho.lt k e.symm).1; omega)).trans (h.block k h1 h2)⟩
theorem Row.grown_ {lo hi N : Nat} {W w' : World} {base n : Nat} {v : Value} {xs ys : List Value} {e : TypeId} {size : Nat} {S : Option Addr} (h : Row W lo hi S N ys) (ho : W.ownsRow base e size v n xs) (hb : hi ≤ base) (hg : W.grownBy w' v.ownBlock) : Row w' lo hi S N ys :=
  Row.mid h hg.size (fun k h1 h2 => hg.block k (by have := h.2.1; omega) (fun e => by have := (ho.lt k e.symm).1; omega))

set_option maxHeartbeats 2000000 in
theorem cys_spec (v : Value) (r u : List Int) (n hi : Nat) (w : World) (hx : Srd w hi v r u) (hs : transB r u = true) (hl : r.length = n) :
    Calls Try.prog 56 #[v] w (CGives (cyL (abF (comm r u) u (cycF r)) (cycF r)) w) := by
  have HX := Lib.hid hx; clear hx
  have SW : Hid (Sw n r u (cycF r)) := Lib.hid (cycF_rows hs hl)
  have hn24 : n ≤ 24 := SW.out.sf.small
  have HL := Lib.hid hl
  clear hs hl
  obtain ⟨P, p, c, Q, q, d, rfl, q1, q2, e1, e2, ht, HR⟩ := HX.out.open
  obtain rfl : n = p := by rw [← q1]; exact HL.out.symm
  clear HR q1 q2
  have A0 := Lib.hid (Arr.new w [.slice P n c, .slice Q q d] 28 rfl)
  have c0 := A0.out.cell (k := 0) rfl
  have X0 := Lib.hid (HX.out.keep ((Below.refl hi w).alloc ht (.cells #[.slice P n c, .slice Q q d] 28)) (Nat.le_refl _))
  have B0 : Hid (Below w.heap.size w (w.alloc (.cells #[.slice P n c, .slice Q q d] 28))) := Lib.hid ((Below.refl _ _).alloc (Nat.le_refl _) _)
  go_enter Try.func56, Try.ntmps56
  go_wp2_with fail
  refine (cyc_spec P n c r hi _ (Srd.fst X0.out) (by omega) e1).mono ?_
  rintro e w2 ⟨P2, c2, rfl, o2, b2⟩
  have O2 := Lib.hid o2
  have s2 := b2.size
  have X2 := Lib.hid (X0.out.keep b2 X0.out.top)
  have A2 := Lib.hid (A0.out.keep b2 A0.out.lt)
  have B2 := Lib.hid (B0.out.trans (b2.mono B0.out.size))
  have d0 := A2.out.cell (k := 0) rfl
  have d1 := A2.out.cell (k := 1) rfl
  clear o2 b2 c0 X0 B0 A0
  generalize hL : cyL (abF (comm r u) u (cycF r)) (cycF r) = L at *
  have HLL := Lib.hid hL; clear hL
  generalize hrr : cycF r = rr at *
  clear hrr
  have LNn : Hid (rr.length ≤ n) := Lib.hid SW.out.rw.len
  have INJ := Lib.hid (ab_inj SW.out.sf SW.out.rw)
  generalize hN : rr.length = N at *
  have LN := Lib.hid hN; clear hN
  have hN24 : N ≤ 24 := by have := LNn.out; omega
  go_wp2_with fail
  refine (above_spec _ r u P2 N c2 n rr hi _ _ _ X2.out O2.out SW.out).mono ?_
  rintro e w3 ⟨v3, rfl, o3, b3⟩
  obtain ⟨P3, c3, rfl⟩ := own_form o3
  have LA : Hid ((abF (comm r u) u rr).length = N) := Lib.hid (by rw [abF_len, LN.out])
  have R3 := Lib.hid (Row.of_own o3)
  rw [LA.out] at R3 ⊢
  have s3 := b3.size
  have O3 := Lib.hid (O2.out.keep b3 O2.out.2.1)
  have B3 := Lib.hid (B2.out.trans (b3.mono B2.out.size))
  have RA3 := Lib.hid (R3.out.rd)
  clear o3 b3 d0 d1 O2 B2 A2 X2 R3
  generalize hab : abF (comm r u) u rr = ab at *
  clear hab
  have OK : Hid (∀ k, k ≤ N → (cyS ab rr k).1.length = N ∧ Closed N ab (on (cyS ab rr k).1) ∧ (cyS ab rr k).2.length ≤ k) := Lib.hid (fun k hk => by have h := cyS_ok (ab := ab) (rr := rr) (by rw [LN.out]; exact INJ.out) k (by rw [LN.out]; exact hk); rwa [LN.out] at h)
  obtain ⟨j0, hj0, hy0, hy1, hy2⟩ := info_parts infoB
  have HY2 := Lib.hid hy2; clear hy2
  go_wp2_with (at_make; refine wpList_make_full _ rfl _ _ 106 rfl w3.heap.size 4 j0 _ 1 Try.underlying106 hj0 hy0 hy1 _ _ _ _ N rfl rfl rfl rfl ?b2 ?b3 (Nat.le_refl _) ?_)
  case b2 => rw [HY2.out]; omega
  case b3 => unfold maxLen; omega
  intro w4 hown hg
  have B4 : Hid (Below w3.heap.size w3 w4) := Lib.hid ((Below.refl _ _).grown hg (Nat.le_refl _) (by simp))
  have s4 := B4.out.size
  have SR : Hid (Row w4 w3.heap.size w4.heap.size (some ⟨w3.heap.size, 0, none⟩) N (VB (List.replicate N false))) := Lib.hid (by
    have h := Row.of_own hown
    have e : (madeCells #[Value.bool false] N).toList = VB (List.replicate N false) := by simp [VB, toList_madeCells_one]
    rwa [e] at h)
  clear hown hg
  have CQ0 : Hid (∀ W, W = w4.alloc (.cells #[] 34) → Cq w4 W w3.heap.size (some ⟨w3.heap.size, 0, none⟩) N ab rr (.slice (some ⟨w4.heap.size, 0, none⟩) 0 0) 0) := Lib.hid (fun W e => by
    subst e
    refine ⟨?_, ⟨rfl, .inr ⟨w4.heap.size, 0, #[], rfl, Nat.le_refl _, heap_alloc_last w4 _, Nat.le_refl _, by simp, rfl, rfl⟩⟩, Out.of_below ((Below.refl _ _).alloc (Nat.le_refl _) _)⟩
    have h := SR.out.keep ((Below.refl w4.heap.size w4).alloc (Nat.le_refl _) (.cells #[] 34)) (Nat.le_refl _)
    rw [cyS, LN.out]; exact h)
  obtain ⟨i0, hi0, hz0, hz1, hz2⟩ := info_parts infoCy
  go_wp2
  generalize hw5 : w4.alloc (.cells #[] 34) = w5 at *
  have CQ1 := Lib.hid (CQ0.out _ rfl)
  clear CQ0 hw5
  go_loopw [6, 21] (fun v i wr => ∃ k : Nat, k ≤ N ∧ i = .int .i64 k ∧ Cq w4 wr w3.heap.size (some ⟨w3.heap.size, 0, none⟩) N ab rr v k) (fun _ i _ => N - (intOf i).toNat)
  case atStart => exact ⟨0, Nat.zero_le _, rfl, CQ1.out⟩
  case round =>
    obtain ⟨k, hk, rfl, hcq⟩ := hrel
    obtain ⟨C, cc, rfl⟩ := own_form hcq.own
    have CQ := Lib.hid hcq; clear hcq CQ1
    have hsz := CQ.out.out.size
    by_cases hlt : k < N
    · obtain ⟨xs, hxk⟩ : ∃ xs, rr[k]? = some xs := ⟨_, List.getElem?_eq_getElem (by rw [LN.out]; exact hlt)⟩
      have OM := Lib.hid ((O3.out.keep B4.out O3.out.2.1).out CQ.out.out (.inl O3.out.2.1))
      obtain ⟨G, off, A1, c1, rfl, hcx, _⟩ := Mat.in_ OM.out hxk
      have xl : xs.length ≤ 24 := by have := (SW.out.rw.way hxk).choose_spec.2.2.inn.len; omega
      have WID : Hid (rr.getD k [] = xs) := Lib.hid (by simp [List.getD, hxk])
      obtain ⟨ok1, ok2, ok3⟩ := OK.out k hk
      have OK2 := Lib.hid ok2
      clear hxk ok2 OM
      cases hMk : (cyS ab rr k).1[k]? with
      | none => rw [List.getElem?_eq_none_iff] at hMk; omega
      | some b =>
        obtain ⟨k3, f3, _, _⟩ := row_cells CQ.out.row hMk
        rw [Nat.zero_add] at k3
        cases b with
        | true =>
          have NX : Hid (Cq w4 wr w3.heap.size (some ⟨w3.heap.size, 0, none⟩) N ab rr (.slice C (cyS ab rr k).2.length cc) (k + 1)) := Lib.hid (by
            have e := cyS_yes hMk
            exact ⟨by rw [e]; exact CQ.out.row, by rw [e]; exact CQ.out.own, CQ.out.out⟩)
          clear hMk OK2 f3
          generalize (cyS ab rr k).2.length = ll at *
          go_wp2
          go_roundw
          case rel => exact ⟨k + 1, by omega, by go_num, NX.out⟩
          case measure => simp [intOf]; omega
        | false =>
          have MK := Lib.hid hMk
          have EQ := Lib.hid (cyS_no hMk)
          rw [LN.out, WID.out] at EQ
          have RWk := Lib.hid CQ.out.row
          have OWk := Lib.hid CQ.out.own
          have OTk := Lib.hid CQ.out.out
          have RDk := Lib.hid ((RA3.out.keep B4.out (Nat.le_refl _)).out CQ.out.out (.inl (Nat.le_refl _)))
          have ok3' : (cyS ab rr k).2.length ≤ 24 := by omega
          clear hMk f3 CQ
          generalize (cyS ab rr k).2 = Lk at *
          generalize (cyS ab rr k).1 = S at *
          go_wp2_with fail
          refine (mark_spec P3 c3 (some ⟨w3.heap.size, 0, none⟩) N N k w3.heap.size w3.heap.size w4.heap.size ab S wr RDk.out (Nat.le_refl _) RWk.out INJ.out hN24 ok1 OK2.out MK.out).mono ?_
          rintro e w6 ⟨rfl, r6, o6⟩
          have R6 := Lib.hid r6
          have OW6 := Lib.hid (own_Out OWk.out o6 (Nat.le_refl _))
          have OT6 := Lib.hid (OTk.out.trans o6)
          have s6 := o6.size
          clear r6 o6 RWk OWk OTk RDk k3 hcx
          generalize hh : ((cnt (clos N ab S k) - cnt S : Nat) : Int) = hgt at *
          have FL : Hid (V (fl (Lk ++ [((xs.length : Int), hgt)])) = V (fl Lk) ++ [.int .i64 xs.length, .int .i64 hgt]) := Lib.hid (by rw [fl_app]; simp [V, fl])
          clear hh
          go_wp2_with (at_builtin; refine wpList_append_lies (w6.alloc (.cells #[.int .i64 xs.length, .int .i64 hgt] 34)) rfl _ _ 30 rfl w4.heap.size 34 i0 _ 2 16 Try.underlying30 hi0 hz0 hz1 hz2 rfl (by decide) _ Lk.length (V (fl Lk)) rfl (OW6.out.alloc _) ⟨w6.heap.size, 0, none⟩ 1 1 [.int .i64 xs.length, .int .i64 hgt] rfl rfl ?hn ?h1 (by decide) ?c4 ?c5 ?c6 _ rfl ?_)
          case hn => exact World.news_of_block (Arr.new w6 _ _ rfl)
          case h1 => intro q hq; simp at hq; rcases hq with rfl | rfl <;> rfl
          case c4 => unfold maxLen; omega
          case c5 => omega
          case c6 => simp; omega
          intro g7 cap7 w7 ho hg hb hlt7
          have OWW := OW6.out.alloc (.cells #[.int .i64 xs.length, .int .i64 hgt] 34)
          have OTW : Out w3.heap.size w4.heap.size w4 (w6.alloc (.cells #[.int .i64 xs.length, .int .i64 hgt] 34)) := OT6.out.trans (Out.of_below ((Below.refl _ _).alloc (Nat.le_refl _) _))
          have R6W := R6.out.keep ((Below.refl w6.heap.size w6).alloc (Nat.le_refl _) (.cells #[.int .i64 xs.length, .int .i64 hgt] 34)) R6.out.2.1
          have NX : Hid (Cq w4 w7 w3.heap.size (some ⟨w3.heap.size, 0, none⟩) N ab rr (.slice (some ⟨g7, 0, none⟩) (Lk.length + 1) cap7) (k + 1)) := Lib.hid ⟨by rw [EQ.out]; exact Row.grown_ R6W OWW (Nat.le_refl _) hg, by rw [EQ.out, FL.out]; simpa using ho, Out.grown_ OTW OWW (Nat.le_refl _) hg⟩
          clear ho hg hb OTW OWW R6W R6 OW6 OT6 EQ
          go_wp2
          go_roundw
          case rel => exact ⟨k + 1, by omega, by go_num, NX.out⟩
          case measure => simp [intOf]; omega
    · obtain rfl : N = k := by omega
      have HE : Hid (L = (cyS ab rr N).2) := Lib.hid (by rw [← HLL.out, cyL, LN.out])
      have OW := Lib.hid CQ.out.own
      have BF : Hid (Below w.heap.size w wr) := Lib.hid ((B3.out.trans (B4.out.mono B3.out.size)).trans (CQ.out.out.below B3.out.size (by have := B3.out.size; omega)))
      have hlw : w.heap.size ≤ w4.heap.size := by have := B3.out.size; omega
      clear CQ HLL OK
      rw [← HE.out] at OW ⊢
      clear HE
      go_wp2
      go_ret
      exact ⟨C, cc, rfl, (Crow.of_own' rfl OW.out).low hlw, BF.out⟩

set_option maxHeartbeats 1000000 in
theorem cyo_spec (v : Value) (r u : List Int) (hi : Nat) (w : World) (hx : Srd w hi v r u) (hn : r.length ≤ 1048576) (hm : u.length ≤ 1048576) :
    Calls Try.prog 41 #[v] w (CYPost r u w) := by
  have HX := Lib.hid hx; clear hx
  obtain ⟨P, n, c, Q, m, d, rfl, q1, q2, e1, e2, ht, HR⟩ := HX.out.open
  have L1 := Lib.hid q1
  clear HR q1 q2
  go_enter Try.func41, Try.ntmps41
  go_wp2_with fail
  refine (ok_spec _ r u hi _ (HX.out.keep ((Below.refl hi w).alloc ht _) (Nat.le_refl _)) hn hm).mono ?_
  rintro e w1 ⟨rfl, b1⟩
  have A0 := Lib.hid ((Arr.new w [.slice P n c, .slice Q m d] 28 rfl).keep b1 (by simp))
  have c0 := A0.out.cell (k := 0) rfl
  have c1 := A0.out.cell (k := 1) rfl
  have B1 := Lib.hid (below1 _ _ b1); clear b1
  have X1 : Hid (Srd w1 hi (.agg #[.slice P n c, .slice Q m d]) r u) := Lib.hid (HX.out.keep (B1.out.mono ht) (Nat.le_refl _))
  cases hq : transB r u
  · have HF := Lib.hid hq; clear hq
    go_wp2_with fail
    go_ret2
    exact cy_no HF.out B1.out
  · have HF : Hid (cyL (abF (comm r u) u (cycF r)) (cycF r) = cyF r u ∧ transB r u = true) := Lib.hid ⟨(cyF_yes hq).symm, hq⟩
    clear hq
    go_wp2_with fail
    refine (cys_spec _ r u n hi _ X1.out HF.out.2 L1.out).mono ?_
    rw [HF.out.1]
    rintro e w4 ⟨C, cc, rfl, o4, b4⟩
    have O4 := Lib.hid (o4.low B1.out.size)
    have B4 := Lib.hid (B1.out.trans (b4.mono B1.out.size))
    have HT := Lib.hid HF.out.2
    clear o4 b4 HF
    generalize hL : cyF r u = L at *
    go_wp2_with fail
    go_ret2
    refine ⟨C, cc, by (rw [HT.out, hL] <;> rfl), ?_, B4.out⟩
    rw [hL]; exact O4.out
end Go.Proofs.Ytngglhbcpeigcaa.cy

/-
  What the cylinders add up to: mathematics alone.
-/
namespace Go.Proofs.Ytngglhbcpeigcaa.cy
open Go.Proofs.Ytngglhbcpeigcaa.pm Go.Proofs.Ytngglhbcpeigcaa.arr
set_option linter.unusedVariables false
set_option maxRecDepth 100000

/-- The lengths of the marked rows, added up. -/
def wsum : List Bool → List (List Int) → Nat
  | b :: M, xs :: R => (if b then xs.length else 0) + wsum M R
  | _, _ => 0
theorem cnt_cons (b : Bool) (M : List Bool) : cnt (b :: M) = (if b then 1 else 0) + cnt M := by
  unfold cnt
  rw [List.count_cons]
  cases b <;> simp <;> omega
theorem wsum_more {l : Nat} : ∀ {M M' : List Bool} {R : List (List Int)}, M.length = R.length → M'.length = R.length → (∀ j, on M j → on M' j) → (∀ (j : Nat) (xs : List Int), R[j]? = some xs → on M' j → ¬ on M j → xs.length = l) →
    wsum M' R + l * cnt M = wsum M R + l * cnt M' ∧ cnt M ≤ cnt M'
  | [], [], [], _, _, _, _ => by simp [wsum]
  | [], _ :: _, [], _, h2, _, _ => by simp at h2
  | _ :: _, _, [], h1, _, _, _ => by simp at h1
  | [], _, _ :: _, h1, _, _, _ => by simp at h1
  | _ :: _, [], _ :: _, _, h2, _, _ => by simp at h2
  | b :: M, b' :: M', xs :: R, h1, h2, h3, h4 => by
    obtain ⟨ih, ih2⟩ := wsum_more (l := l) (M := M) (M' := M') (R := R) (by simpa using h1) (by simpa using h2) (fun j hj => by have := h3 (j + 1); simpa [on] using this (by simpa [on] using hj)) (fun j ys hy a b => h4 (j + 1) ys (by simpa using hy) (by simpa [on] using a) (by simpa [on] using b))
    rw [wsum, wsum, cnt_cons, cnt_cons]
    cases b with
    | true =>
      have : b' = true := by have := h3 0; simpa [on] using this
      subst this
      simp only [if_true]
      refine ⟨?_, by omega⟩
      rw [Nat.mul_add, Nat.mul_add]
      omega
    | false =>
      cases b' with
      | false => simp; exact ⟨ih, ih2⟩
      | true =>
        have := h4 0 xs rfl (by simp [on]) (by simp [on])
        simp only [if_true, Bool.false_eq_true, if_false, Nat.mul_add, Nat.mul_one, Nat.zero_add]
        refine ⟨?_, by omega⟩
        omega
theorem wsum_all : ∀ {M : List Bool} {R : List (List Int)}, M.length = R.length → (∀ j, j < R.length → on M j) → wsum M R = (R.map List.length).sum ∧ cnt M = R.length
  | [], [], _, _ => by simp [wsum, cnt]
  | b :: M, xs :: R, h1, h2 => by
    obtain ⟨a, c⟩ := wsum_all (M := M) (R := R) (by simpa using h1) (fun j hj => by have := h2 (j + 1) (by simp; omega); simpa [on] using this)
    have : b = true := by have := h2 0 (by simp); simpa [on] using this
    subst this
    rw [wsum, cnt_cons]
    simp [a, c]; omega
theorem wsum_none : ∀ (R : List (List Int)), wsum (List.replicate R.length false) R = 0 ∧ cnt (List.replicate R.length false) = 0
  | [] => by simp [wsum, cnt]
  | xs :: R => by
    obtain ⟨a, b⟩ := wsum_none R
    rw [List.length_cons, List.replicate_succ, wsum, cnt_cons]
    simp [a, b]
def aS (L : List (Int × Int)) : Int := (L.map fun x => x.1 * x.2).sum
def hS (L : List (Int × Int)) : Int := (L.map fun x => x.2).sum
theorem aS_app (L : List (Int × Int)) (x : Int × Int) : aS (L ++ [x]) = aS L + x.1 * x.2 := by simp [aS]
theorem hS_app (L : List (Int × Int)) (x : Int × Int) : hS (L ++ [x]) = hS L + x.2 := by simp [hS]
structure Cyl (ab : List Int) (rr : List (List Int)) (i : Nat) : Prop where
  area : aS (cyS ab rr i).2 = wsum (cyS ab rr i).1 rr
  high : hS (cyS ab rr i).2 = cnt (cyS ab rr i).1
  all : ∀ j, j < i → on (cyS ab rr i).1 j
  each : ∀ x ∈ (cyS ab rr i).2, ∃ w h : Nat, x = ((w : Int), (h : Int)) ∧ 1 ≤ w ∧ 1 ≤ h ∧ ∃ (j : Nat) (xs : List Int), rr[j]? = some xs ∧ xs.length = w
theorem cyl_ok {n : Nat} {r u : List Int} (s : Sf n r u) {rr : List (List Int)} (h : Rws n r rr) : ∀ i, i ≤ rr.length → Cyl (abF (comm r u) u rr) rr i
  | 0, _ => by
    obtain ⟨a, b⟩ := wsum_none rr
    exact ⟨by simp [cyS, aS, a], by simp [cyS, hS, b], fun j hj => by omega, fun x hx => by simp [cyS] at hx⟩
  | i + 1, hi => by
    have ih := cyl_ok s h i (by omega)
    have inj := ab_inj s h
    obtain ⟨o1, o2, o3⟩ := cyS_ok inj i (by omega)
    by_cases q : (cyS (abF (comm r u) u rr) rr i).1[i]? = some true
    · have e := cyS_yes q
      refine ⟨by rw [e]; exact ih.area, by rw [e]; exact ih.high, fun j hj => ?_, by rw [e]; exact ih.each⟩
      rw [e]
      by_cases z : j = i
      · subst z; exact q
      · exact ih.all j (by omega)
    · have e := cyS_no (not_on (by omega) q)
      have hx : rr[i]? = some rr[i] := List.getElem?_eq_getElem (by omega)
      have hD : rr.getD i [] = rr[i] := by simp [List.getD, hx]
      rw [hD] at e
      have ia := ih.area; have ib := ih.high; have ic := ih.all; have ie := ih.each
      clear ih
      generalize hM : (cyS (abF (comm r u) u rr) rr i).1 = M at *
      generalize hL : (cyS (abF (comm r u) u rr) rr i).2 = L at *
      have sub : ∀ j, on M j → on (clos rr.length (abF (comm r u) u rr) M i) j := fun j hj => clos_sub o1 hj
      have same : ∀ (j : Nat) (xs : List Int), rr[j]? = some xs → on (clos rr.length (abF (comm r u) u rr) M i) j → ¬ on M j → xs.length = rr[i].length := by
        intro j xs hj hon hno
        have hjl := (List.getElem?_eq_some_iff.1 hj).1
        have hT := (clos_on hjl).1 hon (fun k => on M k ∨ ∃ ys, rr[k]? = some ys ∧ ys.length = rr[i].length) (fun a x ha hax => ?_) (fun k hk => .inl hk) (.inr ⟨_, hx, rfl⟩)
        · rcases hT with z | ⟨ys, z1, z2⟩
          · exact absurd z hno
          · rw [hj] at z1; obtain rfl := Option.some.inj z1; exact z2
        · have hxl : x < rr.length := by have := inj.rng a ha; omega
          have ea := List.getElem?_eq_getElem ha
          have ex := List.getElem?_eq_getElem hxl
          have hlen := ab_len s h ha hax ea ex
          constructor
          · rintro (z | ⟨ys, z1, z2⟩)
            · exact .inl ((o2 a x ha hax).1 z)
            · rw [ea] at z1; obtain rfl := Option.some.inj z1
              exact .inr ⟨_, ex, by omega⟩
          · rintro (z | ⟨ys, z1, z2⟩)
            · exact .inl ((o2 a x ha hax).2 z)
            · rw [ex] at z1; obtain rfl := Option.some.inj z1
              exact .inr ⟨_, ea, by omega⟩
      obtain ⟨w1, w2⟩ := wsum_more (l := rr[i].length) o1 (clos_len _ _ _ _) sub same
      have hnew : cnt M < cnt (clos rr.length (abF (comm r u) u rr) M i) := by
        have hs := clos_self (ab := abF (comm r u) u rr) (M := M) (show i < rr.length by omega)
        have hcm : M[i]? = some false := not_on (by omega) q
        obtain ⟨_, w3⟩ := wsum_more (l := rr[i].length) (M := M.set i true) (M' := clos rr.length (abF (comm r u) u rr) M i) (R := rr) (by rw [List.length_set]; exact o1) (clos_len _ _ _ _) (fun j hj => by
          rcases (on_set (by omega)).1 hj with z | z
          · subst z; exact hs
          · exact sub j z) (fun j xs a b c => same j xs a b (fun z => c ((on_set (by omega)).2 (.inr z))))
        rw [cnt_set hcm] at w3
        omega
      refine ⟨?_, ?_, fun j hj => ?_, fun x hx2 => ?_⟩
      · rw [e]
        show aS (L ++ [_]) = _
        rw [aS_app, ia]
        show (wsum M rr : Int) + (rr[i].length : Int) * ((cnt (clos rr.length (abF (comm r u) u rr) M i) - cnt M : Nat) : Int) = (wsum (clos rr.length (abF (comm r u) u rr) M i) rr : Int)
        have : wsum M rr + rr[i].length * (cnt (clos rr.length (abF (comm r u) u rr) M i) - cnt M) = wsum (clos rr.length (abF (comm r u) u rr) M i) rr := by
          rw [Nat.mul_sub]
          have := Nat.mul_le_mul_left rr[i].length w2
          omega
        rw [← this]; simp
      · rw [e]
        show hS (L ++ [_]) = _
        rw [hS_app, ib]
        show (cnt M : Int) + ((cnt (clos rr.length (abF (comm r u) u rr) M i) - cnt M : Nat) : Int) = (cnt (clos rr.length (abF (comm r u) u rr) M i) : Int)
        omega
      · rw [e]
        by_cases z : j = i
        · subst z; exact clos_self (by omega)
        · exact sub j (ic j (by omega))
      · rw [e] at hx2
        rcases List.mem_append.1 hx2 with z | z
        · exact ie x z
        · obtain rfl : x = _ := by simpa using z
          exact ⟨rr[i].length, _, rfl, (h.head hx).1, by omega, i, _, hx, rfl⟩
end Go.Proofs.Ytngglhbcpeigcaa.cy
