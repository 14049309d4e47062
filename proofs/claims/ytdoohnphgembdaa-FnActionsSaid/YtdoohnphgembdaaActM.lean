/-
  FnActions: what the program's answers are for a valid surface. Plain mathematics.
-/
import Derived.Test.YtdoohnphgembdaaRx
import Derived.Test.YtdoohnphgembdaaIv
import Derived.Test.YtdoohnphgembdaaCanM
namespace Go.Proofs.Ytdoohnphgembdaa.am
open Go.Proofs.Ytdoohnphgembdaa.arr Go.Proofs.Ytdoohnphgembdaa.pm Go.Proofs.Ytdoohnphgembdaa.inv Go.Proofs.Ytdoohnphgembdaa.permOf Go.Proofs.Ytdoohnphgembdaa.fns Go.Proofs.Ytdoohnphgembdaa.sf Go.Proofs.Ytdoohnphgembdaa.gl Go.Proofs.Ytdoohnphgembdaa.cn Go.Proofs.Ytdoohnphgembdaa.lw Go.Proofs.Ytdoohnphgembdaa.rw Go.Proofs.Ytdoohnphgembdaa.wd Go.Proofs.Ytdoohnphgembdaa.iw
set_option linter.unusedVariables false
set_option maxRecDepth 100000
theorem run_yes {N : Nat} {r u : List Int} (s : Sf N r u) {w : ByteArray} (hw : wok w = true) : rwB r u w = true ∧ rwR r u w = (runS w.data.toList (r, u)).1 ∧ rwU r u w = (runS w.data.toList (r, u)).2 := by
  have hb := rwB_yes (s := w) (cn_t s) hw
  exact ⟨hb, rw_yes hb⟩
theorem isL_inL {c : UInt8} (h : isL c = true) : isL (inL c) = true := by
  rcases isL_iff.1 h with e | e | e | e <;> simp [inL, e] <;> rfl
theorem iw_data {w : ByteArray} (hw : wok w = true) : (iwF w).data.toList = invW w.data.toList := by simp [iwF, hw]
theorem iw_ok {w : ByteArray} (hw : wok w = true) : wok (iwF w) = true := by
  have hl : (iwF w).size = w.size := by
    show (iwF w).data.size = w.size
    rw [← Array.length_toList, iw_data hw]; simp [invW]
  unfold wok
  rw [hl, decide_eq_true (wok_len hw), iw_data hw, Bool.true_and]
  rw [List.all_eq_true]
  intro c hc
  unfold invW at hc
  obtain ⟨d, hd, rfl⟩ := List.mem_map.1 (List.mem_reverse.1 hc)
  exact isL_inL (List.all_eq_true.1 (wok_all hw) d hd)
theorem iw_small {w : ByteArray} (hw : wok w = true) : (iwF w).size ≤ 1048576 := by have := wok_len (iw_ok hw); omega
theorem am_x {N : Nat} {r u : List Int} (s : Sf N r u) {w : ByteArray} (hw : wok w = true) :
    ∃ rx ux, Sf N rx ux ∧ rwB r u w = true ∧ rwR r u w = rx ∧ rwU r u w = ux ∧ rwB rx ux (iwF w) = true ∧ rwR rx ux (iwF w) = r ∧ rwU rx ux (iwF w) = u := by
  have sx := runS_sf w.data.toList (r, u) s
  obtain ⟨a, b, c⟩ := run_yes s hw
  obtain ⟨d, e, f⟩ := run_yes sx (iw_ok hw)
  rw [iw_data hw] at e f
  have hi := runS_inv w.data.toList (r, u) (wok_all hw) s
  have hi' : runS (invW w.data.toList) ((runS w.data.toList (r, u)).1, (runS w.data.toList (r, u)).2) = (r, u) := hi
  rw [hi'] at e f
  exact ⟨_, _, sx, a, b, c, d, e, f⟩
def kSSSS : ByteArray := { data := #[83, 83, 83, 83] }
def kSTSTST : ByteArray := { data := #[83, 84, 83, 84, 83, 84] }
def kSS : ByteArray := { data := #[83, 83] }
def kT : ByteArray := { data := #[84] }
theorem l83 (s : Sur) : letS 83 s = turnS s := rfl
theorem l84 (s : Sur) : letS 84 s = shearS s := rfl
theorem am_q {N : Nat} {r u : List Int} (s : Sf N r u) : rwB r u kSSSS = true ∧ rwR r u kSSSS = r ∧ rwU r u kSSSS = u := by
  obtain ⟨a, b, c⟩ := run_yes s (w := kSSSS) (by decide +kernel)
  have e : runS kSSSS.data.toList (r, u) = (r, u) := turn4 s
  rw [e] at b c
  exact ⟨a, b, c⟩
theorem am_ab {N : Nat} {r u : List Int} (s : Sf N r u) : ∃ ra ua rb ub ns, Sf N ra ua ∧ Sf N rb ub ∧ Iso N ra ua rb ub ns ∧ rwB r u kSTSTST = true ∧ rwR r u kSTSTST = ra ∧ rwU r u kSTSTST = ua ∧ rwB r u kSS = true ∧ rwR r u kSS = rb ∧ rwU r u kSS = ub := by
  obtain ⟨a, b, c⟩ := run_yes s (w := kSTSTST) (by decide +kernel)
  obtain ⟨d, e, f⟩ := run_yes s (w := kSS) (by decide +kernel)
  exact ⟨_, _, _, _, _, runS_sf kSTSTST.data.toList (r, u) s, runS_sf kSS.data.toList (r, u) s, sts_iso s, a, b, c, d, e, f⟩
theorem am_t {N : Nat} {r u : List Int} (s : Sf N r u) : ∃ rt ut, Sf N rt ut ∧ shR r u = rt ∧ shU r u = ut ∧ rwB r u kT = true ∧ rwR r u kT = rt ∧ rwU r u kT = ut ∧ usR rt ut = r ∧ usU rt ut = u := by
  obtain ⟨a, b, c⟩ := run_yes s (w := kT) (by decide +kernel)
  obtain ⟨d, e⟩ := ac_yes shearS (cn_t s)
  have st := shear_sf s
  obtain ⟨f, g⟩ := ac_yes unshearS (cn_t st)
  have h := unshear_shear s
  have h' : unshearS ((shearS (r, u)).1, (shearS (r, u)).2) = (r, u) := h
  rw [h'] at f g
  exact ⟨_, _, st, d, e, a, b, c, f, g⟩
theorem am_v {N : Nat} {r u : List Int} (s : Sf N r u) : ∃ rv uv, Sf N rv uv ∧ utR r u = rv ∧ utU r u = uv ∧ tuR rv uv = r ∧ tuU rv uv = u := by
  obtain ⟨d, e⟩ := ac_yes unturnS (cn_t s)
  have st := unturn_sf s
  obtain ⟨f, g⟩ := ac_yes turnS (cn_t st)
  have h := turn_unturn s
  have h' : turnS ((unturnS (r, u)).1, (unturnS (r, u)).2) = (r, u) := h
  rw [h'] at f g
  exact ⟨_, _, st, d, e, f, g⟩
end Go.Proofs.Ytdoohnphgembdaa.am
