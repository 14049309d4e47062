import Derived.Test.YtgcnemkhppkkcaaU04
import Derived.Laws.CopyOwn
namespace Go.Proofs.Ytgcnemkhppkkcaa.sqo
open Go sq
set_option linter.unusedVariables false
set_option maxRecDepth 100000
def lM : List Nat := [3, 4, 5, 6, 7, 8, 9, 10, 11, 12, 13, 14, 15, 16, 17, 18, 19, 20, 21, 22, 23, 24, 25, 26, 27, 28, 29, 30, 31, 32, 33, 34, 35, 36, 37, 38, 39, 40, 41, 42, 43, 44, 45, 46, 47, 48, 49, 50, 51, 52, 53, 54, 55, 56, 57, 58, 59, 60, 61, 62, 63, 64, 65, 67, 68, 69, 70, 71, 72, 73, 74, 75, 76, 77, 78, 79, 80, 81, 82, 83, 84, 85, 86, 87, 88, 89, 90, 91, 92, 93, 95, 96, 97, 98, 99, 100, 101, 102, 103, 104, 105, 106, 107, 108, 109, 110, 111, 112, 113, 114, 115, 116, 117, 118, 119, 120, 121, 122, 123, 124, 125, 126, 127, 128, 129, 130, 131, 132, 133, 134, 135, 136, 137, 138, 139, 140, 141, 142, 143]
def lC : List Nat := [47, 68, 73, 77, 78, 79, 94, 96, 99, 100, 101, 102, 103, 129, 130, 131, 132, 134, 141]
def lA : List Nat := [3, 4, 5, 6, 7, 8, 9, 10, 11, 12, 13, 14, 15, 16, 17, 18, 19, 20, 21, 22, 23, 24, 25, 26, 27, 28, 29, 30, 31, 32, 33, 34, 35, 36, 37, 38, 39, 40, 41, 42, 43, 44, 45, 46, 47, 48, 49, 50, 51, 52, 53, 54, 55, 56, 57, 58, 59, 60, 61, 62, 63, 64, 65, 67, 68, 69, 70, 71, 72, 73, 74, 75, 76, 77, 78, 79, 80, 81, 82, 83, 84, 85, 86, 87, 88, 89, 90, 91, 92, 93, 94, 95, 96, 97, 98, 99, 100, 101, 102, 103, 104, 105, 106, 107, 108, 109, 110, 111, 112, 113, 114, 115, 116, 117, 118, 119, 120, 121, 122, 123, 124, 125, 126, 127, 128, 129, 130, 131, 132, 133, 134, 135, 136, 137, 138, 139, 140, 141, 142, 143]
def lX : List Nat := [66, 3, 4, 5, 6, 7, 8, 9, 10, 11, 12, 13, 14, 15, 16, 17, 18, 19, 20, 21, 22, 23, 24, 25, 26, 27, 28, 29, 30, 31, 32, 33, 34, 35, 36, 37, 38, 39, 40, 41, 42, 43, 44, 45, 46, 47, 48, 49, 50, 51, 52, 53, 54, 55, 56, 57, 58, 59, 60, 61, 62, 63, 64, 65, 67, 68, 69, 70, 71, 72, 73, 74, 75, 76, 77, 78, 79, 80, 81, 82, 83, 84, 85, 86, 87, 88, 89, 90, 91, 92, 93, 94, 95, 96, 97, 98, 99, 100, 101, 102, 103, 104, 105, 106, 107, 108, 109, 110, 111, 112, 113, 114, 115, 116, 117, 118, 119, 120, 121, 122, 123, 124, 125, 126, 127, 128, 129, 130, 131, 132, 133, 134, 135, 136, 137, 138, 139, 140, 141, 142, 143]
def kl : List Nat := [3, 4, 5, 6, 7, 8, 9, 10, 11, 12, 13, 14, 15, 16, 17, 18, 19, 20, 21, 22, 23, 24, 25, 26, 27, 28, 29, 30, 31, 32, 33, 34, 35, 36, 37, 38, 39, 40, 41, 42, 43, 44, 45, 46, 47, 48, 49, 50, 51, 52, 53, 54, 55, 56, 57, 58, 59, 60, 61, 62, 63, 64, 65, 66, 67, 68, 69, 70, 71, 72, 73, 74, 75, 76, 77, 78, 79, 80, 81, 82, 83, 84, 85, 86, 87, 88, 89, 90, 91, 92, 93, 94, 95, 96, 97, 98, 99, 100, 101, 102, 103, 104, 105, 106, 107, 108, 109, 110, 111, 112, 113, 114, 115, 116, 117, 118, 119, 120, 121, 122, 123, 124, 125, 126, 127, 128, 129, 130, 131, 132, 133, 134, 135, 136, 137, 138, 139, 140, 141, 142, 143]
theorem lt_of {l : List Nat} {n : Nat} (h : (l.all fun f => decide (f < n)) = true) {f : Nat} (hf : f ∈ l) : f < n := by
  have := List.all_eq_true.1 h f hf
  simpa using this
theorem sub_of {l k : List Nat} (h : (l.all fun f => k.contains f) = true) {f : Nat} (hf : f ∈ l) : k.contains f = true := List.all_eq_true.1 h f hf
abbrev calM (n : Nat) : Cal := mkCal lM [] n (by decide +kernel) (by decide +kernel)
abbrev calC : Cal := mkCal lC [66] 0 (by decide +kernel) (by decide +kernel)
abbrev calA : Cal := mkCal lA [66] 0 (by decide +kernel) (by decide +kernel)
def X : Cs := ⟨calA, calC⟩
def K (f : FuncId) : Prop := kl.contains f = true
def KT (f : FuncId) : Prop := (163 :: kl).contains f = true
theorem K_lt {f : FuncId} (h : K f) : f < nfn := lt_of (n := nfn) (by decide +kernel : (kl.all fun f => decide (f < nfn)) = true) (by simpa [K] using h)
theorem KT_lt {f : FuncId} (h : KT f) : f < nfn + 2 := lt_of (n := nfn + 2) (by decide +kernel : ((163 :: kl).all fun f => decide (f < nfn + 2)) = true) (by simpa [KT] using h)
theorem cut : Cut Try.prog sqp.prog 6 where
  twin := sqp.twin
  eqg t := (sqp.guard_eq t).symm
  glob := by kernel_rfl
  bad := by kernel_rfl
  size := by kernel_rfl
  funcs := ⟨sqp.fOrb, sqp.fClo, sqp.fSnd, sqp.fGo, by kernel_rfl⟩
  orb := ⟨Try.f37, Try.func37, sqp.func37⟩
  clo := ⟨Try.f94, Try.func94, sqp.func94⟩
theorem ext1 : Extern.findNext Try.f128 = none := by kernel_rfl
theorem ext2 : Extern.find Try.f128 = some Extern.BytealgIndexByte.indexByte := by kernel_rfl
theorem ext : ExtOk Try.prog [128] := by
  intro f hf
  obtain rfl : f = 128 := by simpa using hf
  refine ⟨by decide, by decide, fun F hF => ?_⟩
  rw [Try.func128] at hF
  cases hF
  exact ⟨ext1, ext2⟩
theorem fnA : (lX.all (fnB Try.prog [128])) = true := by kernel_rfl
theorem fnM : (lM.all (fnB Try.prog [128])) = true := by kernel_rfl
theorem fnC : ((66 :: lC).all (fnB Try.prog [128])) = true := by kernel_rfl
theorem codeA : (lX.all (@codeB calA sqp.prog sqp.prog fun o => @spOp calA sqp.prog o.op)) = true := by kernel_rfl
theorem codeM (n : Nat) : ((lM.filter fun f => !(f == orbF || f == clsr)).all (@codeB (calM n) Try.prog sqp.prog fun _ => false)) = true := by kernel_rfl
theorem codeMo (n : Nat) : @codeB (calM n) Try.prog sqp.prog (pM 6) orbF = true := by kernel_rfl
theorem codeC : (((66 :: lC).filter fun f => !(f == orbF || f == clsr)).all (@codeB calC Try.prog sqp.prog fun o => pP o && !(o.op matches .send _ _))) = true := by kernel_rfl
theorem codeCc : @codeB calC Try.prog sqp.prog pP clsr = true := by kernel_rfl
theorem codeCC : ((66 :: lC).all (@codeB calC sqp.prog sqp.prog (@childOp calC))) = true := by kernel_rfl
theorem entM {n : Nat} {f : FuncId} (h : @Ent (calM n) f) : f ∈ lM := by
  rcases h with z | z
  · exact List.contains_iff_mem.1 z
  · cases z
theorem entC {f : FuncId} (h : @Ent calC f) : f ∈ 66 :: lC := by
  rcases h with z | z
  · exact List.mem_cons_of_mem _ (List.contains_iff_mem.1 z)
  · obtain rfl : f = 66 := List.mem_singleton.1 (List.contains_iff_mem.1 z)
    exact List.mem_cons_self
theorem entA {f : FuncId} (h : @Ent calA f) : f ∈ lX := by
  rcases h with z | z
  · exact List.contains_iff_mem.1 (sub_of (by decide +kernel : (lA.all fun f => lX.contains f) = true) (List.contains_iff_mem.1 z))
  · obtain rfl : f = 66 := List.mem_singleton.1 (List.contains_iff_mem.1 z)
    decide +kernel
theorem texM (n : Nat) : @Texts (calM n) K sqp.prog Try.prog SpM := @Cut.texts Try.prog sqp.prog 6 (calM n) K SpM [128] lM (fun _ => false) cut ext (fun f => entM) (fun f => K_lt) (fun f hf => sub_of (by decide +kernel : (lM.all fun f => kl.contains f) = true) hf) fnM (fun o h => by cases h) (codeM n)
  (pM 6) (fun _ => false) (fun _ => ⟨fun o => pM_sp, codeMo n⟩) (fun h => absurd h (by decide +kernel))
theorem texP : @Texts calC K sqp.prog Try.prog SpP := @Cut.texts Try.prog sqp.prog 6 calC K SpP [128] (66 :: lC) (fun o => pP o && !(o.op matches .send _ _)) cut ext (fun f => entC) (fun f => K_lt) (fun f hf => sub_of (by decide +kernel : ((66 :: lC).all fun f => kl.contains f) = true) hf) fnC
  (fun o h => by
    simp only [Bool.and_eq_true] at h
    exact pP_same h.1 fun x y e => by rw [e] at h; simp at h) codeC
  (fun _ => false) pP (fun h => absurd h (by decide +kernel)) (fun _ => ⟨fun o => pP_sp, codeCc⟩)
theorem texC : @Texts calC K sqp.prog sqp.prog (@SpC calC) := @Cut.textsA Try.prog sqp.prog 6 calC K (@SpC calC) [128] (66 :: lC) (@childOp calC) cut ext (fun f => entC) (fun f h => Nat.lt_of_lt_of_le (K_lt h) (by omega)) (fun f hf => sub_of (by decide +kernel : ((66 :: lC).all fun f => kl.contains f) = true) hf)
  (fun f hf => lt_of (by decide +kernel : ((66 :: lC).all fun f => decide (f < nfn)) = true) hf) fnC (fun o h => ⟨rfl, h⟩) codeCC
theorem texA : @Texts calA KT sqp.prog sqp.prog (@SpA calA sqp.prog) := @Cut.textsA Try.prog sqp.prog 6 calA KT (@SpA calA sqp.prog) [128] lX (fun o => @spOp calA sqp.prog o.op) cut ext (fun f => entA) (fun f => KT_lt) (fun f hf => sub_of (by decide +kernel : (lX.all fun f => (163 :: kl).contains f) = true) hf)
  (fun f hf => lt_of (by decide +kernel : (lX.all fun f => decide (f < nfn)) = true) hf) fnA (fun o h => ⟨rfl, h⟩) codeA
noncomputable def bO : Code := sqp.fOrb.body.getD .skip
noncomputable def c5 : Code := sndC (sndC (sndC (sndC bO)))
noncomputable def D : LoopT := loopOf c5 6 19 20 21
noncomputable def id5 : Nat := idC (fstC c5)
theorem bO_eq : bO = .seq (fstC bO) (.seq (fstC (sndC bO)) (.seq (fstC (sndC (sndC bO))) (.seq (fstC (sndC (sndC (sndC bO)))) (.seq (.region id5 D.ops5 false) D.C6)))) := by kernel_rfl
theorem n0 : noG (fstC bO) = true := by kernel_rfl
theorem n1 : noG (fstC (sndC bO)) = true := by kernel_rfl
theorem n2 : noG (fstC (sndC (sndC bO))) = true := by kernel_rfl
theorem n3 : noG (fstC (sndC (sndC (sndC bO)))) = true := by kernel_rfl
theorem spine : Spine D (.region id5 D.ops5 false) bO := by
  rw [bO_eq]
  exact .seq n0 (.seq n1 (.seq n2 (.seq n3 .here)))
theorem o6 : D.ops6.all (calmOp D.tc) = true := by kernel_rfl
theorem o7 : D.ops7 = #[{ dst := some D.tx, op := .move (.tmp D.tc), type := (opN D.ops7 0).type, pos := (opN D.ops7 0).pos, after := (opN D.ops7 0).after, guard := none }] := by kernel_rfl
theorem o8 : D.ops8 = #[{ dst := some D.tv, op := .recv (typeN (opN D.ops8 0)) (.tmp D.tx) true, type := (opN D.ops8 0).type, pos := (opN D.ops8 0).pos, after := (opN D.ops8 0).after, guard := none }, { dst := some D.tb, op := .extract (.tmp D.tv) 1, type := (opN D.ops8 1).type, pos := (opN D.ops8 1).pos, after := (opN D.ops8 1).after, guard := none }] := by kernel_rfl
theorem or : calmC D.tx D.R = true := by kernel_rfl
theorem ok : D.Ok := ⟨o6, ⟨_, _, _, o7⟩, ⟨_, _, _, _, _, _, _, o8⟩, or, by decide +kernel, by decide +kernel⟩
theorem g1 : (D.ops5.all fun o => !isGo o || goArgB D.tc o) = true := by kernel_rfl
theorem g2 : lastG D.ops5 (List.range D.ops5.size) = true := by kernel_rfl
theorem g3 : noG D.C6 = true := by kernel_rfl
theorem goT : GoT D := goT_of g1 g2 g3
theorem noGs : ((lM.filter fun f => !(f == orbF)).all (noGB sqp.prog)) = true := by kernel_rfl
theorem bodyO : sqp.fOrb.body = some bO := by kernel_rfl
theorem txt (n : Nat) : @TextG (calM n) D id5 sqp.prog := @textG_of (calM n) D id5 sqp.prog lM (fun f hf => entM (.inl hf)) noGs (fun F c hF hc => by
  rw [show sqp.prog.funcs[orbF]? = some sqp.fOrb from sqp.func37] at hF
  cases hF
  rw [bodyO] at hc
  cases hc
  exact spine)
theorem noCs : (lC.all (noCB sqp.prog)) = true := by kernel_rfl
theorem calm : @sq.Calm calC sqp.prog := @calm_of calC sqp.prog lC (fun f hf => List.contains_iff_mem.1 hf) noCs
theorem inis : (kl.all fun f => (Try.prog.inits.idxOf? f).isNone) = true := by kernel_rfl
theorem bS : Try.f66.body = some (Try.f66.body.getD .skip) := by kernel_rfl
theorem tS : tailC (Try.f66.body.getD .skip) = true := by kernel_rfl
theorem rS : Try.f66.results = #[] := by kernel_rfl
theorem nS : (Try.f66.name == "runtime.NumGoroutine") = false := by kernel_rfl
theorem iS : Try.f66.body.isNone = false := by kernel_rfl
theorem env (n : Nat) : @Env (calM n) X K sqp.prog Try.prog D id5 :=
  @Env.mk (calM n) X K sqp.prog Try.prog D id5 (texM n) texP texC calm (txt n) goT ok (by decide +kernel) (by show kl.contains _ = true; decide +kernel) ⟨_, _, sqp.func66, bS, tS⟩ ⟨_, Try.func66, rS, iS, nS⟩
    (fun f hf => by
      have := List.all_eq_true.1 inis f (List.contains_iff_mem.1 hf)
      simpa using this) ⟨_, sqp.func163, sqp.results163⟩
theorem sB : sqp.fSnd.body = some (sendC 65 55 65) := by kernel_rfl
theorem gB : sqp.fGo.body = some (goC 62 90 62 103) := by kernel_rfl
noncomputable def uT (t : TypeId) : TypeDesc := (sqp.prog.underlying t).getD (.int .i64)
theorem sendOk : @SendOk calA sqp.prog 65 55 65 :=
  @SendOk.mk calA sqp.prog 65 55 65 ⟨_, sqp.func162, sB, by decide +kernel, sqp.results162, by kernel_rfl, by kernel_rfl⟩ (by kernel_rfl) (by kernel_rfl)
    ⟨10, 51, uT 65, by kernel_rfl, by kernel_rfl, by decide, by kernel_rfl, by kernel_rfl, by kernel_rfl⟩ (by kernel_rfl) (by kernel_rfl) (by kernel_rfl)
theorem goOk : @GoOk calA sqp.prog 62 90 62 103 :=
  @GoOk.mk calA sqp.prog 62 90 62 103 ⟨_, sqp.func163, gB, by decide +kernel, sqp.results163, by kernel_rfl, by kernel_rfl⟩ ⟨_, sqp.func66, iS, nS⟩ (by kernel_rfl) (by kernel_rfl)
    ⟨10, 49, uT 62, by kernel_rfl, by kernel_rfl, by decide, by kernel_rfl, by kernel_rfl, by kernel_rfl⟩ (by kernel_rfl) (by kernel_rfl) (by kernel_rfl) ⟨_, _, sqp.underlying103⟩ (by kernel_rfl) (fun d el h => by
      rw [sqp.underlying103] at h
      cases h
      kernel_rfl)
end Go.Proofs.Ytgcnemkhppkkcaa.sqo

namespace Go.Proofs.Ytgcnemkhppkkcaa.sqw
open Go.ChangeShapes Go.WideShapes Go.ChangeAt Go.RowKit
open Go mem ints sf sq
set_option linter.unusedVariables false
set_option maxRecDepth 100000
theorem slot_of {P : Program} {W : World} {r : Reach} {base : Nat} {t e : TypeId} {A : Option Addr} {n c : Nat} {xs : List Value} (ht : P.underlying t = some (.slice e)) (h : Cell.okWide P W r base t (.slice A n c)) (rd : Rd W W.heap.size A n xs) :
    A = none ∨ ∃ b off c' e fz, A = some ⟨b, off, none⟩ ∧ W.heap[b]? = some (.cells c' e fz) ∧ ∀ (i : Nat) v, xs[i]? = some v → c'[off + i]? = some v := by
  cases A with
  | none => exact .inl rfl
  | some a =>
    right
    obtain ⟨b, off, sp⟩ := a
    obtain ⟨h1, c', e', fz, h2⟩ := cell_block ht h
    simp only at h1 h2
    subst h1
    refine ⟨b, off, c', e', fz, rfl, h2, fun i v hv => ?_⟩
    have hi : i < n := by rw [← rd.1]; exact (List.getElem?_eq_some_iff.1 hv).1
    obtain ⟨g, off', e1, _, h3⟩ := rd.2.2 (by omega)
    simp only [Option.some.injEq, Addr.mk.injEq] at e1
    obtain ⟨rfl, rfl, _⟩ := e1
    have h4 := h3 i hi
    simp only [World.cell?, h2] at h4
    rw [hv] at h4
    simpa using h4
theorem rd_slot {W : World} {ws : Array Wn} {A A' : Option Addr} {n : Nat} {xs : List Value} (h : Slot ws xs A' A) (hn : xs.length = n) (h0 : A = none → n = 0) : Rd (wnW W ws) ws.size A' n xs := by
  refine ⟨hn, by simp [wnW], fun hp => ?_⟩
  rcases h.addr with rfl | ⟨i, rfl, hi⟩
  · cases h
    exact absurd (h0 rfl) (by omega)
  · exact ⟨i, 0, rfl, hi, fun j _ => h.cell j⟩
theorem run {g : FuncId} (hg : (sqo.lM.contains g && sqo.lA.contains g) = true) {args args' : Array Value} {W : World} {ws : Array Wn} (hw : WnOk W ws) (ha : ∀ C : Cal, @AR C (wnB ws) args args') (haA : ∀ C : Cal, @AR C (wnB (wnS ws)) args args)
    (h : ∀ τ, Calls sqp.prog g args (retape τ (wnW W ws)) fun e _ => e = .returned (.bool true)) :
    ∃ M last o w' t', runNT Try.prog (M + 1) (Conc.solo (Conc.G (Frame.enter Try.prog g args' .normal) []) W) #[] = (.ended o w', t') ∧ runN Try.prog M (Conc.solo (Conc.G (Frame.enter Try.prog g args' .normal) []) W) = .next last ∧ step Try.prog last = .ended o w' ∧
      Conc.Good Try.prog (fun v W' => v = .bool true ∧ Below W.heap.size W W') last o w' t' := by
  simp only [Bool.and_eq_true] at hg
  exact @sound (sqo.calM W.heap.size) sqo.X sqo.K sqo.KT sqp.prog Try.prog sqo.D sqo.id5 _ _ _ _ _ _ _ (sqo.env W.heap.size) sqo.texA sqo.sendOk sqo.goOk (by show List.contains _ _ = true; decide +kernel) (by decide +kernel) g args args' W ws hg.1 hg.2 hw (ha _) (haA _) rfl h
end Go.Proofs.Ytgcnemkhppkkcaa.sqw

namespace Go.Proofs.Ytgcnemkhppkkcaa.pm
open arr
set_option linter.unusedVariables false
set_option maxRecDepth 100000
def OkTo (xs : List Int) (k : Nat) : Prop := ∀ i, i < k → 0 ≤ xs.getD i 0 ∧ xs.getD i 0 < xs.length ∧ ∀ j, j < i → xs.getD j 0 ≠ xs.getD i 0
instance (xs : List Int) (k : Nat) : Decidable (OkTo xs k) := by unfold OkTo; exact inferInstance
def okB (xs : List Int) : Bool := decide (xs.length ≤ 24 ∧ OkTo xs xs.length)
structure Ok (xs : List Int) : Prop where
  len : xs.length ≤ 24
  lo : ∀ i, i < xs.length → 0 ≤ xs.getD i 0
  hi : ∀ i, i < xs.length → xs.getD i 0 < xs.length
  inj : ∀ i j, i < xs.length → j < xs.length → xs.getD i 0 = xs.getD j 0 → i = j
theorem Ok.of (xs : List Int) (h : okB xs = true) : Ok xs := by
  unfold okB at h
  rw [decide_eq_true_iff] at h
  refine ⟨h.1, fun i hi => (h.2 i hi).1, fun i hi => (h.2 i hi).2.1, fun i j hi hj e => ?_⟩
  rcases Nat.lt_trichotomy i j with hl | hl | hl
  · exact absurd e ((h.2 j hj).2.2 i hl)
  · exact hl
  · exact absurd e.symm ((h.2 i hi).2.2 j hl)
theorem Ok.b {xs : List Int} (h : Ok xs) : okB xs = true := by
  unfold okB
  rw [decide_eq_true_iff]
  exact ⟨h.len, fun i hi => ⟨h.lo i hi, h.hi i hi, fun j hj e => by have := h.inj j i (by omega) hi e; omega⟩⟩
theorem okB_long {xs : List Int} (h : 24 < xs.length) : okB xs = false := by
  unfold okB; rw [decide_eq_false_iff_not]; intro e; omega
theorem okB_bad {xs : List Int} {k : Nat} (hk : k < xs.length) (h : xs.getD k 0 < 0 ∨ xs.length ≤ xs.getD k 0) : okB xs = false := by
  unfold okB; rw [decide_eq_false_iff_not]; intro e
  have := e.2 k hk
  omega
theorem okB_dup {xs : List Int} {k : Nat} (hk : k < xs.length) (h : xs.getD k 0 ∈ xs.take k) : okB xs = false := by
  unfold okB; rw [decide_eq_false_iff_not]; intro e
  obtain ⟨j, hj, he⟩ := List.getElem_of_mem h
  simp at hj
  refine (e.2 k hk).2.2 j (by omega) ?_
  rw [← he]
  simp [List.getD, List.getElem?_eq_getElem (show j < xs.length by omega)]
theorem okB_yes {xs : List Int} (h : xs.length ≤ 24) (h2 : OkTo xs xs.length) : okB xs = true := by
  unfold okB; rw [decide_eq_true_iff]; exact ⟨h, h2⟩
theorem OkTo.step {xs : List Int} {k : Nat} (h : OkTo xs k) (hk : k < xs.length) (h1 : 0 ≤ xs.getD k 0) (h2 : xs.getD k 0 < xs.length) (h3 : ¬ xs.getD k 0 ∈ xs.take k) : OkTo xs (k + 1) := by
  intro i hi
  by_cases e : i = k
  · subst e
    refine ⟨h1, h2, fun j hj he => h3 ?_⟩
    rw [← he]
    have hl : j < xs.length := by omega
    have : xs.getD j 0 = (xs.take i)[j]'(by simp; omega) := by simp [List.getD, List.getElem?_eq_getElem hl]
    rw [this]
    exact List.getElem_mem _
  · exact h i (by omega)
def tabB (f : Nat → Bool) : List Bool := (List.range 24).map f
theorem tabB_len (f : Nat → Bool) : (tabB f).length = 24 := by simp [tabB]
theorem tabB_at (f : Nat → Bool) {k : Nat} (h : k < 24) : (tabB f)[k]? = some (f k) := by simp [tabB, h]
theorem tabB_set (f f' : Nat → Bool) {k : Nat} (h : ∀ j, j < 24 → f' j = if j = k then true else f j) : (tabB f).set k true = tabB f' := by
  refine List.ext_getElem? fun i => ?_
  by_cases hi : i < 24
  · rw [tabB_at _ hi, List.getElem?_set, h i hi]
    by_cases e : k = i
    · subst e; simp [tabB_len, hi]
    · rw [if_neg e, tabB_at _ hi, if_neg (by omega)]
  · rw [List.getElem?_eq_none (by simp [tabB_len]; omega), List.getElem?_eq_none (by simp [tabB_len]; omega)]
def flags (xs : List Int) (k : Nat) : List Bool := tabB fun j => decide ((j : Int) ∈ xs.take k)
theorem flags_step {xs : List Int} {k z : Nat} (hk : k < xs.length) (hz : xs.getD k 0 = (z : Int)) : (flags xs k).set z true = flags xs (k + 1) := by
  refine tabB_set _ _ fun j hj => ?_
  have e : xs.take (k + 1) = xs.take k ++ [(z : Int)] := by
    rw [List.take_succ_eq_append_getElem hk, ← hz]; simp [List.getD, List.getElem?_eq_getElem hk]
  rw [e]
  by_cases hjz : j = z
  · subst hjz; simp
  · have : ¬ ((j : Int) = (z : Int)) := by omega
    simp [hjz, this]
def extTo (xs : List Int) (k : Nat) : List Int := tab fun i => if i < k then xs.getD i 0 else (i : Int)
theorem extTo_zero (xs : List Int) : extTo xs 0 = idl := by simp [extTo, idl]
theorem extTo_step (xs : List Int) (k : Nat) : (extTo xs k).set k (xs.getD k 0) = extTo xs (k + 1) := by
  have h := tab_set (fun i => if i < k then xs.getD i 0 else (i : Int)) (fun i => if i < k + 1 then xs.getD i 0 else (i : Int)) (k := k) (fun j hj => by
    by_cases e : j = k
    · subst e; simp
    · simp only [if_neg e]; split <;> split <;> first | rfl | omega)
  simpa [extTo] using h
def ext (xs : List Int) : List Int := extTo xs xs.length
def pv (xs : List Int) : List Int := if okB xs then ext xs else zeros
theorem zeros_len : zeros.length = 24 := by simp [zeros]
theorem ext_len (xs : List Int) : (ext xs).length = 24 := tab_len _
theorem pv_len (xs : List Int) : (pv xs).length = 24 := by unfold pv; split; exact ext_len _; exact zeros_len
theorem ext_at {xs : List Int} {i : Nat} (h : i < 24) : (ext xs).getD i 0 = if i < xs.length then xs.getD i 0 else (i : Int) := by
  unfold ext extTo; rw [tab_get _ h]
end Go.Proofs.Ytgcnemkhppkkcaa.pm

namespace Go.Proofs.Ytgcnemkhppkkcaa.permOk
open Go.ChangeShapes Go.WideShapes Go.ChangeAt Go.RowKit
open mem ints arr pm
set_option linter.unusedVariables false
set_option maxRecDepth 100000
theorem in_yes (x a b : Int) (w : World) (h1 : a ≤ x) (h2 : x ≤ b) :
    Calls sqp.prog 92 #[.int .i64 x, .int .i64 a, .int .i64 b] w fun e w' => e = .returned (.bool true) ∧ w = w' := by
  go_enter sqp.func92, sqp.ntmps92
  go_wp2
  go_ret
  exact ⟨rfl, rfl⟩
theorem in_no (x a b : Int) (w : World) (h : x < a ∨ b < x) :
    Calls sqp.prog 92 #[.int .i64 x, .int .i64 a, .int .i64 b] w fun e w' => e = .returned (.bool false) ∧ w = w' := by
  by_cases h1 : x < a
  · clear h
    have hd : decide (a ≤ x) = false := by simp; omega
    go_enter sqp.func92, sqp.ntmps92
    go_wp2
    go_ret
    exact ⟨rfl, rfl⟩
  · have h2 : b < x := by omega
    have hd : decide (x ≤ b) = false := by simp; omega
    clear h
    go_enter sqp.func92, sqp.ntmps92
    go_wp2
    go_ret
    exact ⟨rfl, rfl⟩
def hasB (xs : List Int) (z : Int) : Bool := decide (z ∈ xs)
theorem take_no {xs : List Int} {k : Nat} {z s : Int} (h : ¬ z ∈ xs.take k) (hk : xs[k]? = some s) (hs : ¬ s = z) : ¬ z ∈ xs.take (k + 1) := by
  rw [List.take_add_one, hk]
  simp
  exact ⟨h, fun e => hs e.symm⟩
set_option maxHeartbeats 400000 in
theorem has_any (A : Option Addr) (n c : Nat) (xs : List Int) (hi : Nat) (z : Int) (w : World) (hx : Rd w hi A n (V xs)) (hn : n ≤ 1048576) :
    Calls sqp.prog 135 #[.slice A n c, .int .i64 z] w fun e w' => e = .returned (.bool (hasB xs z)) ∧ w = w' := by
  have lx : xs.length = n := by simpa [V] using hx.1
  have LX := Lib.hid lx; clear lx
  have HX := Lib.hid hx; clear hx
  go_enter sqp.func135, sqp.ntmps135
  go_wp2
  go_loop [9] (fun i => ∃ k : Nat, k ≤ n ∧ i = .int .i64 k ∧ Hid (¬ z ∈ xs.take k)) (fun i => n - (intOf i).toNat)
  case atStart => exact ⟨0, Nat.zero_le _, rfl, Lib.hid (by simp)⟩
  case round =>
    obtain ⟨k, hk, rfl, HN⟩ := hrel
    by_cases hlt : k < n
    · obtain ⟨g, off, u, rfl, _, hxu, hcx⟩ := HX.out.at_ hlt
      obtain ⟨s, hxs, rfl⟩ := V_at hxu
      have HS := Lib.hid hxs; clear hxs hxu
      by_cases hst : s = z
      · subst hst
        go_wp2
        go_ret
        refine ⟨ret_bool ?_, rfl⟩
        unfold hasB; rw [eq_comm, decide_eq_true_iff]; exact List.mem_of_getElem? HS.out
      · have hb : (s == z) = false := by simpa using hst
        have HST := Lib.hid hst; clear hst
        go_wp2
        go_round
        case rel => exact ⟨k + 1, by omega, by go_num, Lib.hid (take_no HN.out HS.out HST.out)⟩
        case measure => simp [intOf]; omega
    · obtain rfl : k = n := by omega
      go_wp2
      go_ret
      refine ⟨ret_bool ?_, rfl⟩
      unfold hasB; rw [eq_comm, decide_eq_false_iff_not]
      have := HN.out
      rw [List.take_of_length_le (by rw [LX.out]; exact Nat.le_refl _)] at this
      exact this
theorem Rd.take {w : World} {hi n k : Nat} {A : Option Addr} {xs : List Int} (h : Rd w hi A n (V xs)) (hk : k ≤ n) : Rd w hi A k (V (xs.take k)) := by
  have hl : xs.length = n := by simpa [V] using h.1
  refine ⟨by simp [V]; omega, h.2.1, fun h0 => ?_⟩
  obtain ⟨g, off, e, hlt, hc⟩ := h.2.2 (by omega)
  refine ⟨g, off, e, hlt, fun j hj => ?_⟩
  rw [hc j (by omega)]
  simp [V, hj]
theorem getD_of {xs : List Int} {k : Nat} {s : Int} (h : xs[k]? = some s) : xs.getD k 0 = s := by simp [List.getD, h]
set_option maxHeartbeats 800000 in
theorem spec_any (A : Option Addr) (n c : Nat) (xs : List Int) (hi : Nat) (w : World) (hx : Rd w hi A n (V xs)) (hn : n ≤ 1048576) (hc : n ≤ c) :
    Calls sqp.prog 104 #[.slice A n c] w fun e w' => e = .returned (.bool (okB xs)) ∧ w = w' := by
  have lx : xs.length = n := by simpa [V] using hx.1
  have LX := Lib.hid lx; clear lx
  have HX := Lib.hid hx; clear hx
  by_cases h24 : 24 < n
  · have e := Lib.hid (okB_long (xs := xs) (by rw [LX.out]; exact h24))
    go_enter sqp.func104, sqp.ntmps104
    go_wp2
    go_ret
    exact ⟨ret_bool e.out.symm, rfl⟩
  go_enter sqp.func104, sqp.ntmps104
  go_wp2
  go_loop [10] (fun i => ∃ k : Nat, k ≤ n ∧ i = .int .i64 k ∧ Hid (OkTo xs k)) (fun i => n - (intOf i).toNat)
  case atStart => exact ⟨0, Nat.zero_le _, rfl, Lib.hid (fun i hi => by omega)⟩
  case round =>
    obtain ⟨k, hk, rfl, HO⟩ := hrel
    by_cases hlt : k < n
    · obtain ⟨g, off, u, rfl, _, hxu, hcx⟩ := HX.out.at_ hlt
      obtain ⟨s, hxs, rfl⟩ := V_at hxu
      have HG := Lib.hid (getD_of hxs)
      clear hxs hxu
      by_cases hin : 0 ≤ s ∧ s ≤ (n : Int) - 1
      · obtain ⟨i1, i2⟩ := hin
        by_cases hh : hasB (xs.take k) s = true
        · have HF : Hid (okB xs = false) := Lib.hid (okB_dup (by rw [LX.out]; exact hlt) (by rw [HG.out]; simpa [hasB] using hh))
          have HH := Lib.hid hh; clear hh
          go_wp2_with (go_at_call 92; refine (in_yes _ _ _ _ i1 i2).mono ?_; rintro e w' ⟨rfl, rfl⟩)
          refine (has_any _ k _ (xs.take k) _ s _ (Rd.take HX.out (by omega)) (by omega)).mono ?_
          rintro e w' ⟨rfl, rfl⟩
          rw [HH.out]
          go_wp2
          go_ret
          exact ⟨ret_bool HF.out.symm, rfl⟩
        · have hh' : hasB (xs.take k) s = false := by simpa using hh
          have HH := Lib.hid hh'; clear hh hh'
          go_wp2_with (go_at_call 92; refine (in_yes _ _ _ _ i1 i2).mono ?_; rintro e w' ⟨rfl, rfl⟩)
          refine (has_any _ k _ (xs.take k) _ s _ (Rd.take HX.out (by omega)) (by omega)).mono ?_
          rintro e w' ⟨rfl, rfl⟩
          rw [HH.out]
          go_wp2
          go_round
          case rel => exact ⟨k + 1, by omega, by go_num, Lib.hid (HO.out.step (by rw [LX.out]; exact hlt) (by rw [HG.out]; exact i1) (by rw [HG.out, LX.out]; omega) (by rw [HG.out]; simpa [hasB] using HH.out))⟩
          case measure => simp [intOf]; omega
      · have hno : s < 0 ∨ (n : Int) - 1 < s := by omega
        have HF : Hid (okB xs = false) := Lib.hid (okB_bad (k := k) (by rw [LX.out]; exact hlt) (by rw [HG.out, LX.out]; omega))
        clear hin
        go_wp2_with (go_at_call 92; refine (in_no _ _ _ _ hno).mono ?_; rintro e w' ⟨rfl, rfl⟩)
        go_ret
        exact ⟨ret_bool HF.out.symm, rfl⟩
    · obtain rfl : k = n := by omega
      go_wp2
      go_ret
      exact ⟨ret_bool (okB_yes (by rw [LX.out]; omega) (by rw [LX.out]; exact HO.out)).symm, rfl⟩
end Go.Proofs.Ytgcnemkhppkkcaa.permOk

namespace Go.Proofs.Ytgcnemkhppkkcaa.permOf
open Go.ChangeShapes Go.WideShapes Go.ChangeAt Go.RowKit
open mem ints arr pm permOk
set_option linter.unusedVariables false
set_option maxRecDepth 100000
theorem results_cell_tmp {P : Program} {fn : Func} {p q : Tmp} {ty : TypeId} (h : fn.results = #[.cell p ty, .tmp q]) (tmps : Array Value) (w : World) (g : Nat) (t : TypeId) (cs : Array Value) (fr : Nat × Nat) (d : TypeDesc) (v : Value)
    (hp : tmps.getD p undef = .pointer (some ⟨g, 0, none⟩)) (hq : tmps.getD q undef = v) (hg : w.heap[g]? = some (.cells cs t fr))
    (hu : P.underlying ty = some d) (hd : (match d with | .struct _ | .array _ _ => true | _ => false) = true) (hi : (P.info? ty).map (·.size) = some cs.size) :
    (results fn tmps).run P w = .ok (.tuple #[.agg cs, v]) w := by
  have hp' : tmps[p]?.getD undef = .pointer (some ⟨g, 0, none⟩) := by simpa using hp
  have hq' : tmps[q]?.getD undef = v := by simpa using hq
  simp [results, h, hp', hq', asAddr, run_loadVar_row w g t ty cs fr d hg hu hd hi]
theorem results_cell2_tmp {P : Program} {fn : Func} {p p2 q : Tmp} {ty : TypeId} (h : fn.results = #[.cell p ty, .cell p2 ty, .tmp q]) (tmps : Array Value) (w : World) (g g2 : Nat) (t : TypeId) (cs cs2 : Array Value) (fr : Nat × Nat) (d : TypeDesc) (v : Value)
    (hp : tmps.getD p undef = .pointer (some ⟨g, 0, none⟩)) (hp2 : tmps.getD p2 undef = .pointer (some ⟨g2, 0, none⟩)) (hq : tmps.getD q undef = v) (hg : w.heap[g]? = some (.cells cs t fr)) (hg2 : w.heap[g2]? = some (.cells cs2 t fr))
    (hu : P.underlying ty = some d) (hd : (match d with | .struct _ | .array _ _ => true | _ => false) = true) (hi : (P.info? ty).map (·.size) = some cs.size) (hi2 : (P.info? ty).map (·.size) = some cs2.size) :
    (results fn tmps).run P w = .ok (.tuple #[.agg cs, .agg cs2, v]) w := by
  have hp' : tmps[p]?.getD undef = .pointer (some ⟨g, 0, none⟩) := by simpa using hp
  have hp2' : tmps[p2]?.getD undef = .pointer (some ⟨g2, 0, none⟩) := by simpa using hp2
  have hq' : tmps[q]?.getD undef = v := by simpa using hq
  simp [results, h, hp', hp2', hq', asAddr, run_loadVar_row w g t ty cs fr d hg hu hd hi, run_loadVar_row w g2 t ty cs2 fr d hg2 hu hd hi2]
def VB (l : List Bool) : List Value := l.map Value.bool
theorem VB_set (l : List Bool) (k : Nat) (b : Bool) : (VB l).set k (.bool b) = VB (l.set k b) := by simp [VB, List.map_set]
theorem flags_cell {w : World} {g : Nat} {f : Nat → Bool} {t : TypeId} (h : Arr w g (VB (tabB f)) t) {k : Nat} (hk : k < 24) {b : Bool} (hb : f k = b) : w.cell? ⟨g, k, none⟩ = some (.bool b) :=
  h.cell (by simp [VB, tabB_at f hk, hb])
def PRel (xs : List Int) (R G : Nat) (w wr : World) (k : Nat) : Prop :=
  Arr wr R (V zeros) 60 ∧ Arr wr G (V (extTo xs k)) 60 ∧ Arr wr (G + 1) (VB (flags xs k)) 140 ∧ Below w.heap.size w wr ∧ OkTo xs k
def PermPost (xs : List Int) (w : World) (e : Ending) (w' : World) : Prop := e = .returned (.tuple #[.agg (V (pv xs)).toArray, .bool (okB xs)]) ∧ Below w.heap.size w w'
theorem post_no {xs : List Int} {w w' : World} (h : okB xs = false) (hb : Below w.heap.size w w') : PermPost xs w (.returned (.tuple #[.agg (V zeros).toArray, .bool false])) w' := by
  refine ⟨?_, hb⟩
  unfold pv
  simp [h]
theorem post_yes {xs : List Int} {w w' : World} (h : okB xs = true) (hb : Below w.heap.size w w') : PermPost xs w (.returned (.tuple #[.agg (V (ext xs)).toArray, .bool true])) w' := by
  refine ⟨?_, hb⟩
  unfold pv
  simp [h]
theorem flags_zero (xs : List Int) : flags xs 0 = List.replicate 24 false := by
  simp only [flags, List.take_zero, List.not_mem_nil, decide_false]; decide
set_option maxHeartbeats 1000000 in
theorem permOf_any (A : Option Addr) (n c : Nat) (xs : List Int) (hi : Nat) (w : World) (hx : Rd w hi A n (V xs)) (hn : n ≤ 1048576) :
    Calls sqp.prog 98 #[.slice A n c] w (PermPost xs w) := by
  have lx : xs.length = n := by simpa [V] using hx.1
  have LX := Lib.hid lx; clear lx
  have HX := Lib.hid hx; clear hx
  by_cases h24 : 24 < n
  · have E := Lib.hid (okB_long (xs := xs) (by rw [LX.out]; exact h24))
    have N := Lib.hid (Arr.new w (V zeros) 60 rfl)
    go_enter sqp.func98, sqp.ntmps98
    go_wp2_with (refine wpList_store_row rfl 60 _ _ rfl w.heap.size (V zeros).toArray rfl rfl 60 (V zeros).toArray N.out (size_V zeros_len) rfl (one_V _) ?_)
    exact bodyPost_ret (v := .tuple #[.agg (V zeros).toArray, .bool false]) (results_cell_tmp rfl _ _ w.heap.size 60 (V zeros).toArray (0, 0) _ _ rfl rfl N.out.row sqp.underlying60 rfl (size_V zeros_len)) rfl (post_no E.out (below_setRow ((Below.refl _ _).alloc (Nat.le_refl _) _) (Nat.le_refl _) _))
  have N := Lib.hid (Arr.new w (V zeros) 60 rfl)
  go_enter sqp.func98, sqp.ntmps98
  go_wp2_with fail
  refine (staying_any _).mono ?_
  rintro e w1 ⟨rfl, b1⟩
  have hs1 : w.heap.size + 1 ≤ w1.heap.size := by have := b1.size; simpa using this
  have A1 := Lib.hid (N.out.keep b1 (by simp))
  have B1 : Hid (Below w.heap.size w w1) := Lib.hid (((Below.refl _ _).alloc (Nat.le_refl _) _).trans (b1.mono (by simp)))
  clear b1
  go_wp2_with (refine wpList_store_row rfl 60 _ _ rfl w1.heap.size (V idl).toArray rfl rfl 60 (V zeros).toArray (Arr.new w1 (V zeros) _ rfl) (size_V (tab_len _)) rfl (one_V _) ?_)
  go_loopw [15] (fun i wr => ∃ k : Nat, k ≤ n ∧ i = .int .i64 k ∧ PRel xs w.heap.size w1.heap.size w wr k) (fun i _ => n - (intOf i).toNat)
  case atStart =>
    refine ⟨0, Nat.zero_le _, rfl, ((A1.out.alloc _).rowOther (by omega)).alloc _, ?_, ?_, (below_setRow (B1.out.alloc B1.out.size _) (by omega) _).alloc (by simp; omega) _, fun i hi => by omega⟩
    · rw [extTo_zero]
      exact (Arr.new w1 (V zeros) _ rfl).row.alloc _
    · rw [flags_zero]
      exact Arr.new _ (VB (List.replicate 24 false)) _ (by simp)
  case round =>
    obtain ⟨k, hk, rfl, hp⟩ := hrel
    have HP := Lib.hid hp; clear hp
    by_cases hlt : k < n
    · obtain ⟨g, off, u, rfl, hgl, hxu, hcx⟩ := HX.out.at_ hlt
      obtain ⟨s, hxs, rfl⟩ := V_at hxu
      have HG := Lib.hid (getD_of hxs)
      clear hxs hxu
      have hgw : g < w.heap.size := Nat.lt_of_lt_of_le hgl HX.out.2.1
      rw [← HP.out.2.2.2.1.cell (p := ⟨g, off + k, none⟩) hgw] at hcx
      clear hgl hgw
      have arm := HP.out.1
      have ARM := Lib.hid arm; clear arm
      by_cases hbad : s < 0 ∨ (n : Int) ≤ s
      · have HF : Hid (okB xs = false) := Lib.hid (okB_bad (k := k) (by rw [LX.out]; exact hlt) (by rw [HG.out, LX.out]; omega))
        by_cases hneg : s < 0
        · clear hbad
          go_wp2_with (refine wpList_store_row rfl 60 _ _ rfl w.heap.size (V zeros).toArray rfl rfl 60 (V zeros).toArray ARM.out (size_V zeros_len) rfl (one_V _) ?_)
          exact bodyPost_ret (v := .tuple #[.agg (V zeros).toArray, .bool false]) (results_cell_tmp rfl _ _ w.heap.size 60 (V zeros).toArray (0, 0) _ _ rfl rfl ARM.out.row sqp.underlying60 rfl (size_V zeros_len)) rfl (post_no HF.out (below_setRow HP.out.2.2.2.1 (Nat.le_refl _) _))
        · have hge : (n : Int) ≤ s := by omega
          have hd : decide (s < 0) = false := by simp; omega
          clear hbad
          go_wp2_with (refine wpList_store_row rfl 60 _ _ rfl w.heap.size (V zeros).toArray rfl rfl 60 (V zeros).toArray ARM.out (size_V zeros_len) rfl (one_V _) ?_)
          exact bodyPost_ret (v := .tuple #[.agg (V zeros).toArray, .bool false]) (results_cell_tmp rfl _ _ w.heap.size 60 (V zeros).toArray (0, 0) _ _ rfl rfl ARM.out.row sqp.underlying60 rfl (size_V zeros_len)) rfl (post_no HF.out (below_setRow HP.out.2.2.2.1 (Nat.le_refl _) _))
      · have i1 : 0 ≤ s := by omega
        have i2 : s < n := by omega
        clear hbad
        obtain ⟨z, rfl⟩ := Int.eq_ofNat_of_zero_le i1
        have hz : z < n := by omega
        have hz24 : z < 24 := by omega
        clear i1 i2
        by_cases hin : (z : Int) ∈ xs.take k
        · have HF : Hid (okB xs = false) := Lib.hid (okB_dup (k := k) (by rw [LX.out]; exact hlt) (by rw [HG.out]; exact hin))
          have hfl : wr.cell? ⟨w1.heap.size + 1, z, none⟩ = some (.bool true) := flags_cell HP.out.2.2.1 hz24 (by simpa using hin)
          clear hin
          go_wp2_with (refine wpList_store_row rfl 60 _ _ rfl w.heap.size (V zeros).toArray rfl rfl 60 (V zeros).toArray ARM.out (size_V zeros_len) rfl (one_V _) ?_)
          exact bodyPost_ret (v := .tuple #[.agg (V zeros).toArray, .bool false]) (results_cell_tmp rfl _ _ w.heap.size 60 (V zeros).toArray (0, 0) _ _ rfl rfl ARM.out.row sqp.underlying60 rfl (size_V zeros_len)) rfl (post_no HF.out (below_setRow HP.out.2.2.2.1 (Nat.le_refl _) _))
        · have hfl : wr.cell? ⟨w1.heap.size + 1, z, none⟩ = some (.bool false) := flags_cell HP.out.2.2.1 hz24 (by simpa using hin)
          have hff := HP.out.2.2.1.frozen z
          have hc2 : wr.cell? ⟨w1.heap.size, k, none⟩ = some (.int .i64 ((extTo xs k).getD k 0)) := HP.out.2.1.cell (V_getD (by rw [extTo, tab_len]; omega))
          have hf2 := HP.out.2.1.frozen k
          have HIN := Lib.hid hin; clear hin
          go_wp2
          go_roundw
          case rel =>
            refine ⟨k + 1, by omega, by go_num, (HP.out.1.other (by omega) _).other (by omega) _, ?_, ?_, (HP.out.2.2.2.1.setCell (by simp; omega) _).setCell (by simp; omega) _, HP.out.2.2.2.2.step (by rw [LX.out]; exact hlt) (by rw [HG.out]; omega) (by rw [HG.out, LX.out]; omega) (by rw [HG.out]; exact HIN.out)⟩
            · have h := (HP.out.2.1.other (k := z) (g' := w1.heap.size + 1) (by omega) (.bool true)).set_ k (.int .i64 (z : Int))
              rw [V_set, ← HG.out, extTo_step] at h
              rw [← HG.out]
              exact h
            · have h := HP.out.2.2.1.set_ z (.bool true)
              rw [VB_set, flags_step (by rw [LX.out]; exact hlt) HG.out] at h
              exact h.other (by omega) _
          case measure => simp [intOf]; omega
    · obtain rfl : k = n := by omega
      have HY : Hid (okB xs = true) := Lib.hid (okB_yes (by rw [LX.out]; omega) (by rw [LX.out]; exact HP.out.2.2.2.2))
      have h2 := HP.out.2.1
      rw [← LX.out] at h2
      have H2 : Hid (Arr wr w1.heap.size (V (ext xs)) 60) := Lib.hid h2
      have H1 := Lib.hid HP.out.1; have HB := Lib.hid HP.out.2.2.2.1
      clear h2 HP
      go_wp2_with (first | (refine wpList_load_row rfl 60 _ rfl w1.heap.size rfl 60 (V (ext xs)).toArray (0, 0) _ H2.out sqp.underlying60 rfl (size_V (ext_len _)) ?_) | (refine wpList_store_row rfl 60 _ _ rfl w.heap.size (V (ext xs)).toArray rfl rfl 60 (V zeros).toArray H1.out (size_V (ext_len _)) (by simp [V_len, ext_len, zeros]) (one_V _) ?_))
      exact bodyPost_ret (v := .tuple #[.agg (V (ext xs)).toArray, .bool true]) (results_cell_tmp rfl _ _ w.heap.size 60 (V (ext xs)).toArray (0, 0) _ _ rfl rfl H1.out.row sqp.underlying60 rfl (size_V (ext_len _))) rfl (post_yes HY.out (below_setRow HB.out (Nat.le_refl _) _))
end Go.Proofs.Ytgcnemkhppkkcaa.permOf

namespace Go.Proofs.Ytgcnemkhppkkcaa.inv
open Go.ChangeShapes Go.WideShapes Go.ChangeAt Go.RowKit
open mem ints arr pm permOk permOf
set_option linter.unusedVariables false
set_option maxRecDepth 100000
structure Sq (qs : List Int) : Prop where
  len : qs.length = 24
  lo : ∀ i, i < 24 → 0 ≤ qs.getD i 0
  hi : ∀ i, i < 24 → qs.getD i 0 < 24
theorem Sq.at_ {qs : List Int} (h : Sq qs) {i : Nat} (hi : i < 24) : ∃ z : Nat, z < 24 ∧ qs[i]? = some (z : Int) ∧ qs.getD i 0 = (z : Int) := by
  have h1 := h.lo i hi; have h2 := h.hi i hi
  have e : qs[i]? = some (qs.getD i 0) := by rw [List.getD, List.getElem?_eq_getElem (by rw [h.len]; exact hi)]; rfl
  exact ⟨(qs.getD i 0).toNat, by omega, by rw [e]; congr 1; omega, by omega⟩
theorem index_row (l : List Int) (k : Nat) (z : Int) (hk : k < 24) (hz : l[k]? = some z) (w : World) :
    (Instr.index 60 (.agg (V l).toArray) (.int .i64 (k : Int))).run sqp.prog w = .ok (.int .i64 z) w := by
  have hs : (sizeOf 3).run sqp.prog w = .ok 1 w := by kernel_rfl
  have h2 : (V l)[k]? = some (.int .i64 z) := V_get hz
  simp [Instr.index, asIntOf, run_underlying sqp.underlying60, hk, hs, part, h2]
def invTo (n : Nat) (qs : List Int) : Nat → List Int
  | 0 => List.replicate n 0
  | k + 1 => (invTo n qs k).set (qs.getD k 0).toNat (k : Int)
theorem invTo_len (n : Nat) (qs : List Int) (k : Nat) : (invTo n qs k).length = n := by
  induction k with
  | zero => simp [invTo]
  | succ k ih => simp [invTo, ih]
def InvRel (qs : List Int) (w wr : World) (k : Nat) : Prop :=
  Arr wr (w.heap.size + 1) (V zeros) 60 ∧ Arr wr (w.heap.size + 2) (V (invTo 24 qs k)) 60 ∧ Below w.heap.size w wr
set_option maxHeartbeats 1000000 in
theorem inverse_any (qs : List Int) (w : World) (hq : Sq qs) :
    Calls sqp.prog 100 #[.agg (V qs).toArray] w fun e w' => e = .returned (.agg (V (invTo 24 qs 24)).toArray) ∧ Below w.heap.size w w' := by
  have HQ := Lib.hid hq; clear hq
  go_enter sqp.func100, sqp.ntmps100
  go_wp2_with (refine wpList_load_row rfl 60 _ rfl w.heap.size rfl 60 (V qs).toArray (0, 0) _ (((Arr.new w (V qs) 60 rfl).alloc _).alloc _) sqp.underlying60 rfl (size_V HQ.out.len) ?_)
  go_loopw [7] (fun i wr => ∃ k : Nat, k ≤ 24 ∧ i = .int .i64 k ∧ InvRel qs w wr k) (fun i _ => 24 - (intOf i).toNat)
  case atStart =>
    exact ⟨0, Nat.zero_le _, rfl, (Arr.new _ (V zeros) _ (by simp)).alloc _, Arr.new _ (V zeros) _ (by simp), (((Below.refl _ _).alloc (Nat.le_refl _) _).alloc (by simp) _).alloc (by simp; omega) _⟩
  case round =>
    obtain ⟨k, hk, rfl, hr⟩ := hrel
    have HR := Lib.hid hr; clear hr
    by_cases hlt : k < 24
    · obtain ⟨z, hz, hqz, hqd⟩ := HQ.out.at_ hlt
      have hvz := index_row qs k z hlt hqz
      have HD := Lib.hid hqd; clear hqz hqd
      have hc : wr.cell? ⟨w.heap.size + 2, z, none⟩ = some (.int .i64 ((invTo 24 qs k).getD z 0)) := HR.out.2.1.cell (V_getD (by rw [invTo_len]; exact hz))
      have hf := HR.out.2.1.frozen z
      go_wp2
      go_roundw
      case rel =>
        refine ⟨k + 1, by omega, by go_num, HR.out.1.other (by omega) _, ?_, HR.out.2.2.setCell (by simp; omega) _⟩
        have h := HR.out.2.1.set_ z (.int .i64 (k : Int))
        rw [V_set] at h
        have e : invTo 24 qs (k + 1) = (invTo 24 qs k).set z (k : Int) := by rw [invTo, HD.out]; rfl
        rw [e]
        exact h
      case measure => simp [intOf]; omega
    · obtain rfl : k = 24 := by omega
      have H1 := Lib.hid HR.out.1; have H2 := Lib.hid HR.out.2.1; have HB := Lib.hid HR.out.2.2; clear HR
      have HL := Lib.hid (invTo_len 24 qs 24)
      generalize hr : invTo 24 qs 24 = r at H2 HL
      have HRR := Lib.hid hr; clear hr
      go_wp2_with (first | (refine wpList_load_row rfl 60 (.tmp 3) rfl (w.heap.size + 2) rfl 60 (V r).toArray (0, 0) _ H2.out sqp.underlying60 rfl (size_V HL.out) ?_) | (refine wpList_store_row rfl 60 (.tmp 2) (.tmp 15) rfl (w.heap.size + 1) (V r).toArray rfl rfl 60 (V zeros).toArray H1.out (size_V HL.out) (by simp [V_len, HL.out, zeros]) (one_V _) ?_))
      exact bodyPost_ret (v := .agg (V r).toArray) (results_cell_row rfl _ _ (w.heap.size + 1) 60 (V r).toArray (0, 0) _ rfl H1.out.row sqp.underlying60 rfl (size_V HL.out)) rfl ⟨by rw [HRR.out], arr.below_setRow HB.out (by omega) _⟩
def thenL (ps qs : List Int) : List Int := tab fun i => qs.getD (ps.getD i 0).toNat 0
def ThenRel (ps qs : List Int) (w wr : World) (k : Nat) : Prop :=
  Arr wr (w.heap.size + 1) (V qs) 60 ∧ Arr wr (w.heap.size + 2) (V zeros) 60 ∧ Arr wr (w.heap.size + 3) (V (tab fun i => if i < k then qs.getD (ps.getD i 0).toNat 0 else 0)) 60 ∧ Below w.heap.size w wr
set_option maxHeartbeats 1000000 in
theorem then_any (ps qs : List Int) (w : World) (hp : Sq ps) (hq : Sq qs) :
    Calls sqp.prog 101 #[.agg (V ps).toArray, .agg (V qs).toArray] w fun e w' => e = .returned (.agg (V (thenL ps qs)).toArray) ∧ Below w.heap.size w w' := by
  have HP := Lib.hid hp; have HQ := Lib.hid hq; clear hp hq
  go_enter sqp.func101, sqp.ntmps101
  go_wp2_with (refine wpList_load_row rfl 60 _ rfl w.heap.size rfl 60 (V ps).toArray (0, 0) _ ((((Arr.new w (V ps) 60 rfl).alloc _).alloc _).alloc _) sqp.underlying60 rfl (size_V HP.out.len) ?_)
  go_loopw [9] (fun i wr => ∃ k : Nat, k ≤ 24 ∧ i = .int .i64 k ∧ ThenRel ps qs w wr k) (fun i _ => 24 - (intOf i).toNat)
  case atStart =>
    exact ⟨0, Nat.zero_le _, rfl, ((Arr.new _ (V qs) _ (by simp)).alloc _).alloc _, (Arr.new _ (V zeros) _ (by simp)).alloc _, Arr.new _ (V zeros) _ (by simp), ((((Below.refl _ _).alloc (Nat.le_refl _) _).alloc (by simp) _).alloc (by simp; omega) _).alloc (by simp; omega) _⟩
  case round =>
    obtain ⟨k, hk, rfl, hr⟩ := hrel
    have HR := Lib.hid hr; clear hr
    by_cases hlt : k < 24
    · obtain ⟨z, hz, hqz, hqd⟩ := HP.out.at_ hlt
      have hvz := index_row ps k z hlt hqz
      have HD := Lib.hid hqd; clear hqz hqd
      have hcq : wr.cell? ⟨w.heap.size + 1, z, none⟩ = some (.int .i64 (qs.getD z 0)) := HR.out.1.cell (V_getD (by rw [HQ.out.len]; exact hz))
      have hc : wr.cell? ⟨w.heap.size + 3, k, none⟩ = some (.int .i64 ((tab fun i => if i < k then qs.getD (ps.getD i 0).toNat 0 else 0).getD k 0)) := HR.out.2.2.1.cell (V_getD (by rw [tab_len]; exact hlt))
      have hf := HR.out.2.2.1.frozen k
      go_wp2
      go_roundw
      case rel =>
        refine ⟨k + 1, by omega, by go_num, HR.out.1.other (by omega) _, HR.out.2.1.other (by omega) _, ?_, HR.out.2.2.2.setCell (by simp; omega) _⟩
        have h := HR.out.2.2.1.set_ k (.int .i64 (qs.getD z 0))
        rw [V_set] at h
        have e := tab_set (fun i => if i < k then qs.getD (ps.getD i 0).toNat 0 else 0) (fun i => if i < k + 1 then qs.getD (ps.getD i 0).toNat 0 else 0) (k := k) (fun j hj => by
          by_cases e : j = k
          · subst e; simp
          · simp only [if_neg e]; split <;> split <;> first | rfl | omega)
        simp only [Nat.lt_succ_self, if_true] at e
        rw [HD.out, Int.toNat_natCast] at e
        rw [e] at h
        exact h
      case measure => simp [intOf]; omega
    · obtain rfl : k = 24 := by omega
      have er : (tab fun i => if i < 24 then qs.getD (ps.getD i 0).toNat 0 else 0) = thenL ps qs := by
        unfold thenL tab
        refine List.map_congr_left fun i hi => ?_
        simp at hi
        simp [hi]
      have H1 := Lib.hid HR.out.2.1; have h2 := HR.out.2.2.1; have HB := Lib.hid HR.out.2.2.2; clear HR
      rw [er] at h2
      have H2 := Lib.hid h2; clear h2 er
      have HL : Hid ((thenL ps qs).length = 24) := Lib.hid (tab_len _)
      generalize hr : thenL ps qs = r at H2 HL
      have HRR := Lib.hid hr; clear hr
      go_wp2_with (first | (refine wpList_load_row rfl 60 (.tmp 5) rfl (w.heap.size + 3) rfl 60 (V r).toArray (0, 0) _ H2.out sqp.underlying60 rfl (size_V HL.out) ?_) | (refine wpList_store_row rfl 60 (.tmp 4) (.tmp 19) rfl (w.heap.size + 2) (V r).toArray rfl rfl 60 (V zeros).toArray H1.out (size_V HL.out) (by simp [V_len, HL.out, zeros]) (one_V _) ?_))
      exact bodyPost_ret (v := .agg (V r).toArray) (results_cell_row rfl _ _ (w.heap.size + 2) 60 (V r).toArray (0, 0) _ rfl H1.out.row sqp.underlying60 rfl (size_V HL.out)) rfl ⟨by rw [HRR.out], arr.below_setRow HB.out (by omega) _⟩
theorem slice_row (b n : Nat) (w : World) (hn : n ≤ 24) :
    (Instr.sliceAt 60 (.pointer (some ⟨b, 0, none⟩)) none (some (.int .i64 (n : Int))) none).run sqp.prog w = .ok (.slice (some ⟨b, 0, none⟩) n 24) w := by
  have h := run_sliceAt_array_h (P := sqp.prog) (t := 60) (w := w) (a := ⟨b, 0, none⟩) sqp.underlying60 .i64 (n : Int) (by omega) (by show (n : Int) ≤ 24; omega)
  exact h.trans (by kernel_rfl)
set_option maxHeartbeats 1000000 in
theorem list_any (qs : List Int) (n : Nat) (w : World) (hl : qs.length = 24) (hn : n ≤ 24) :
    Calls sqp.prog 67 #[.agg (V qs).toArray, .int .i64 n] w fun e w' => ∃ v, e = .returned v ∧ w'.ownsRow w.heap.size 3 1 v (qs.take n).length (V (qs.take n)) ∧ Below w.heap.size w w' := by
  obtain ⟨i0, hi0, hz0, hz1, hz2⟩ := info_parts infoI
  have HL := Lib.hid hl; clear hl
  have HZ2 := Lib.hid hz2; clear hz2
  go_enter sqp.func67, sqp.ntmps67
  go_wp2_with (at_make; refine wpList_make_full _ rfl _ _ 23 rfl (w.heap.size + 1) 3 i0 _ 1 sqp.underlying23 hi0 hz0 hz1 _ _ _ _ n rfl rfl rfl rfl ?b2 ?b3 (by simp) ?_)
  case b2 => rw [HZ2.out]; omega
  case b3 => unfold maxLen; omega
  intro w1 hown hg
  have hb1 : Below (w.heap.size + 1) (w.alloc (.cells (V qs).toArray 60)) w1 := (Below.refl _ _).grown hg (by simp) (by simp)
  have hcu : ∃ cur : Array Value, w1.heap[w.heap.size + 1]? = some (.cells cur 3 (0, 0)) ∧ cur.size = n := by
    rcases hown.2 with ⟨hv, _⟩ | ⟨g, cap, cur, hv, _, hh, _, _, hsz, _⟩
    · cases hv
    · injection hv with e1 e2 e3
      injection e1 with e1
      injection e1 with e1
      subst e1; subst e3
      exact ⟨cur, hh, by simpa using hsz⟩
  obtain ⟨cur, hh, hsz⟩ := hcu
  have HH := Lib.hid hh; have HSZ := Lib.hid hsz; clear hh hsz hown hg
  have A1 := Lib.hid ((Arr.new w (V qs) 60 rfl).keep hb1 (by simp))
  have hs1 : w.heap.size + 1 ≤ w1.heap.size := by have := hb1.size; simpa using this
  have B1 : Hid (Below w.heap.size w w1) := Lib.hid (((Below.refl _ _).alloc (Nat.le_refl _) _).trans (hb1.mono (by omega)))
  clear hb1
  have HT : Hid ((qs.take n).length = n) := Lib.hid (by simp [HL.out]; omega)
  have hin : Hid (∀ j v, (V (qs.take n))[j]? = some v → w1.cell? ((⟨w.heap.size, 0, none⟩ : Addr).add j) = some v) := Lib.hid (by
    intro j v hv
    obtain ⟨z, hz, rfl⟩ := V_at hv
    have hj : j < n := by
      rcases Nat.lt_or_ge j n with h | h
      · exact h
      · rw [List.getElem?_eq_none (by rw [HT.out]; exact h)] at hz; cases hz
    have hadd : (⟨w.heap.size, 0, none⟩ : Addr).add j = ⟨w.heap.size, j, none⟩ := by unfold Addr.add; split <;> simp_all
    rw [hadd]
    refine A1.out.cell (V_get ?_)
    simpa [List.getElem?_take, hj] using hz)
  have hsl := fun W => slice_row w.heap.size n W hn
  have hsz3 : (sqp.prog.info? 3).map (·.size) = some 1 := by kernel_rfl
  go_wp2_with (refine wpList_copy_own rfl (.tmp 8) (.tmp 10) 23 23 rfl 3 sqp.underlying23 hsz3 (w.heap.size + 1) 0 n n ⟨w.heap.size, 0, none⟩ n 24 rfl rfl cur 3 HH.out (V (qs.take n)) ?c1 hin.out ?c2 ?c3 ?_)
  case c1 => rw [V_len, HT.out]; exact (Nat.min_self n).symm
  case c2 => rw [V_len, HT.out, HSZ.out]; omega
  case c3 => intro v hv; unfold V at hv; rw [List.mem_map] at hv; obtain ⟨z, _, rfl⟩ := hv; rfl
  go_ret
  refine ⟨_, rfl, ⟨by simp [V_len], .inr ⟨w.heap.size + 1, n, _, ?_, by omega, setRow_heap _ _ _ _ _ _ HH.out, ?_, ?_, ?_, ?_⟩⟩, arr.below_setRow B1.out (by omega) _⟩
  · rw [HT.out]; rfl
  · rw [HT.out]; exact Nat.le_refl _
  · unfold maxLen; omega
  · have h1 := HT.out; have h2 := HSZ.out
    simp [V_len]; omega
  · have h1 := HT.out; have h2 := HSZ.out
    simp only [Nat.mul_one]
    rw [V_len, h1, List.drop_of_length_le (by simp [h2]), List.append_nil, List.take_of_length_le (by rw [V_len, h1]; exact Nat.le_refl _)]
end Go.Proofs.Ytgcnemkhppkkcaa.inv
