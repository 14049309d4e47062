import Derived.Test.YtgcnemkhppkkcaaZ03
import Derived.Test.YtgcnemkhppkkcaaProg
import Derived.KernelRfl
import Derived.Test.YtgcnemkhppkkcaaRows
import Derived.WalkKit
import Derived.ProofKit
import Derived.OpenShut
import Derived.ShutString
import Derived.Laws.RangeAny
import Derived.Lib.Hide
import Derived.Below
import Derived.Deep.QuietTactic
import Derived.BigQuiet
import Derived.Deep.RegionHeld3
import Derived.Deep.AppendLies
import Derived.Outline


namespace Go.Proofs.Ytgcnemkhppkkcaa.sqp
open Go sq
set_option linter.unusedVariables false
set_option linter.defProp false
set_option maxRecDepth 100000
noncomputable def fOrb : Func := { Try.f37 with body := Try.f37.body.map (mapC (seqO 6)) }
noncomputable def fClo : Func := { Try.f94 with body := Try.f94.body.map (mapC (seqO 0)) }
noncomputable def fSnd : Func := { name := "snd", origin := "", params := #[], resultTypes := #[], nfree := 0, ntmps := 5, results := #[], body := some (sendC 65 55 65), norace := false, tmpNames := #[] }
noncomputable def fGo : Func := { name := "go", origin := "", params := #[], resultTypes := #[], nfree := 0, ntmps := 5, results := #[], body := some (goC 62 90 62 103), norace := false, tmpNames := #[] }
noncomputable def funcs : Array Func := #[Try.f0, Try.f1, Try.f2, Try.f3, Try.f4, Try.f5, Try.f6, Try.f7, Try.f8, Try.f9, Try.f10, Try.f11, Try.f12, Try.f13, Try.f14, Try.f15, Try.f16, Try.f17, Try.f18, Try.f19, Try.f20, Try.f21, Try.f22, Try.f23, Try.f24, Try.f25, Try.f26, Try.f27, Try.f28, Try.f29, Try.f30, Try.f31, Try.f32, Try.f33, Try.f34, Try.f35, Try.f36, fOrb, Try.f38, Try.f39, Try.f40, Try.f41, Try.f42, Try.f43, Try.f44, Try.f45, Try.f46, Try.f47, Try.f48, Try.f49, Try.f50, Try.f51, Try.f52, Try.f53, Try.f54, Try.f55, Try.f56, Try.f57, Try.f58, Try.f59, Try.f60, Try.f61, Try.f62, Try.f63, Try.f64, Try.f65, Try.f66, Try.f67, Try.f68, Try.f69, Try.f70, Try.f71, Try.f72, Try.f73, Try.f74, Try.f75, Try.f76, Try.f77, Try.f78, Try.f79, Try.f80, Try.f81, Try.f82, Try.f83, Try.f84, Try.f85, Try.f86, Try.f87, Try.f88, Try.f89, Try.f90, Try.f91, Try.f92, Try.f93, fClo, Try.f95, Try.f96, Try.f97, Try.f98, Try.f99, Try.f100, Try.f101, Try.f102, Try.f103, Try.f104, Try.f105, Try.f106, Try.f107, Try.f108, Try.f109, Try.f110, Try.f111, Try.f112, Try.f113, Try.f114, Try.f115, Try.f116, Try.f117, Try.f118, Try.f119, Try.f120, Try.f121, Try.f122, Try.f123, Try.f124, Try.f125, Try.f126, Try.f127, Try.f128, Try.f129, Try.f130, Try.f131, Try.f132, Try.f133, Try.f134, Try.f135, Try.f136, Try.f137, Try.f138, Try.f139, Try.f140, Try.f141, Try.f142, Try.f143, Try.f144, Try.f145, Try.f146, Try.f147, Try.f148, Try.f149, Try.f150, Try.f151, Try.f152, Try.f153, Try.f154, Try.f155, Try.f156, Try.f157, Try.f158, Try.f159, Try.f160, Try.f161, fSnd, fGo]
noncomputable def prog : Program := { toTables := { Try.progTables with globals := #[] }, funcs }
theorem twin : sq.Twin Try.prog prog := ⟨fun t => by kernel_rfl, by kernel_rfl, by kernel_rfl, fun d => by kernel_rfl⟩
theorem guard_eq (i : TypeId) : prog.eqGuardType prog.depth i = Try.prog.eqGuardType Try.prog.depth i := by kernel_rfl
theorem tr_und {i : TypeId} {d : Option TypeDesc} (h : Program.underlying Try.prog i = d) : Program.underlying prog i = d := (twin.und i).trans h
theorem tr_size {i : TypeId} {x : Nat} (h : ∀ w, Sem.run Try.prog (sizeOf i) w = .ok x w) (w : World) : Sem.run prog (sizeOf i) w = .ok x w := (twin.sizeOf i w).trans (h w)
theorem tr_rund {i : TypeId} {x : TypeDesc} (h : ∀ w, Sem.run Try.prog (underlying i) w = .ok x w) (w : World) : Sem.run prog (underlying i) w = .ok x w := (twin.runUnd i w).trans (h w)
theorem tr_agg {i : TypeId} {x : Bool} (h : ∀ w, Sem.run Try.prog (isAgg i) w = .ok x w) (w : World) : Sem.run prog (isAgg i) w = .ok x w := (twin.agg i w).trans (h w)
theorem tr_zero {i : TypeId} {x : Value} (h : ∀ w, Sem.run Try.prog (zeroValue i) w = .ok x w) (w : World) : Sem.run prog (zeroValue i) w = .ok x w := (twin.zero i w).trans (h w)
def sizeOf0 := tr_size Try.sizeOf0
def sizeOf3 := tr_size Try.sizeOf3
def sizeOf4 := tr_size Try.sizeOf4
def sizeOf5 := tr_size Try.sizeOf5
def sizeOf9 := tr_size Try.sizeOf9
def sizeOf23 := tr_size Try.sizeOf23
def sizeOf25 := tr_size Try.sizeOf25
def sizeOf40 := tr_size Try.sizeOf40
def sizeOf60 := tr_size Try.sizeOf60
def sizeOf62 := tr_size Try.sizeOf62
def sizeOf63 := tr_size Try.sizeOf63
def sizeOf65 := tr_size Try.sizeOf65
def sizeOf106 := tr_size Try.sizeOf106
def sizeOf134 := tr_size Try.sizeOf134
def sizeOf149 := tr_size Try.sizeOf149
def sizeOf150 := tr_size Try.sizeOf150
def sizeOf155 := tr_size Try.sizeOf155
def sizeOf158 := tr_size Try.sizeOf158
def sizeOf160 := tr_size Try.sizeOf160
def sizeOf166 := tr_size Try.sizeOf166
def sizeOf170 := tr_size Try.sizeOf170
def sizeOf173 := tr_size Try.sizeOf173
def sizeOf174 := tr_size Try.sizeOf174
def underlying0 := tr_und Try.underlying0
def underlying3 := tr_und Try.underlying3
def underlying4 := tr_und Try.underlying4
def underlying5 := tr_und Try.underlying5
def underlying9 := tr_und Try.underlying9
def underlying22 := tr_und Try.underlying22
def underlying23 := tr_und Try.underlying23
def underlying25 := tr_und Try.underlying25
def underlying27 := tr_und Try.underlying27
def underlying40 := tr_und Try.underlying40
def underlying55 := tr_und Try.underlying55
def underlying56 := tr_und Try.underlying56
def underlying60 := tr_und Try.underlying60
def underlying62 := tr_und Try.underlying62
def underlying63 := tr_und Try.underlying63
def underlying65 := tr_und Try.underlying65
def underlying70 := tr_und Try.underlying70
def underlying77 := tr_und Try.underlying77
def underlying81 := tr_und Try.underlying81
def underlying88 := tr_und Try.underlying88
def underlying89 := tr_und Try.underlying89
def underlying90 := tr_und Try.underlying90
def underlying103 := tr_und Try.underlying103
def underlying106 := tr_und Try.underlying106
def underlying131 := tr_und Try.underlying131
def underlying135 := tr_und Try.underlying135
def underlying140 := tr_und Try.underlying140
def underlying141 := tr_und Try.underlying141
def underlying149 := tr_und Try.underlying149
def underlying150 := tr_und Try.underlying150
def underlying155 := tr_und Try.underlying155
def underlying158 := tr_und Try.underlying158
def underlying160 := tr_und Try.underlying160
def underlying166 := tr_und Try.underlying166
def underlying170 := tr_und Try.underlying170
def underlying173 := tr_und Try.underlying173
def underlying174 := tr_und Try.underlying174
def runUnderlying22 := tr_rund Try.runUnderlying22
def runUnderlying23 := tr_rund Try.runUnderlying23
def runUnderlying25 := tr_rund Try.runUnderlying25
def runUnderlying27 := tr_rund Try.runUnderlying27
def runUnderlying40 := tr_rund Try.runUnderlying40
def runUnderlying60 := tr_rund Try.runUnderlying60
def runUnderlying62 := tr_rund Try.runUnderlying62
def runUnderlying65 := tr_rund Try.runUnderlying65
def runUnderlying70 := tr_rund Try.runUnderlying70
def runUnderlying81 := tr_rund Try.runUnderlying81
def runUnderlying135 := tr_rund Try.runUnderlying135
def runUnderlying141 := tr_rund Try.runUnderlying141
def isAgg0 := tr_agg Try.isAgg0
def isAgg3 := tr_agg Try.isAgg3
def isAgg4 := tr_agg Try.isAgg4
def isAgg5 := tr_agg Try.isAgg5
def isAgg9 := tr_agg Try.isAgg9
def isAgg23 := tr_agg Try.isAgg23
def isAgg25 := tr_agg Try.isAgg25
def isAgg40 := tr_agg Try.isAgg40
def isAgg62 := tr_agg Try.isAgg62
def isAgg63 := tr_agg Try.isAgg63
def isAgg106 := tr_agg Try.isAgg106
def isAgg134 := tr_agg Try.isAgg134
def isAgg149 := tr_agg Try.isAgg149
def isAgg150 := tr_agg Try.isAgg150
def isAgg155 := tr_agg Try.isAgg155
def isAgg158 := tr_agg Try.isAgg158
def isAgg160 := tr_agg Try.isAgg160
def isAgg166 := tr_agg Try.isAgg166
def isAgg170 := tr_agg Try.isAgg170
def isAgg173 := tr_agg Try.isAgg173
def isAgg174 := tr_agg Try.isAgg174
def zeroValue0 := tr_zero Try.zeroValue0
def zeroValue3 := tr_zero Try.zeroValue3
def zeroValue4 := tr_zero Try.zeroValue4
def zeroValue5 := tr_zero Try.zeroValue5
def zeroValue9 := tr_zero Try.zeroValue9
def zeroValue23 := tr_zero Try.zeroValue23
def zeroValue25 := tr_zero Try.zeroValue25
def zeroValue60 := tr_zero Try.zeroValue60
def zeroValue62 := tr_zero Try.zeroValue62
def zeroValue63 := tr_zero Try.zeroValue63
def zeroValue65 := tr_zero Try.zeroValue65
def zeroValue89 := tr_zero Try.zeroValue89
def zeroValue90 := tr_zero Try.zeroValue90
def zeroValue106 := tr_zero Try.zeroValue106
def zeroValue135 := tr_zero Try.zeroValue135
def zeroValue140 := tr_zero Try.zeroValue140
def zeroValue141 := tr_zero Try.zeroValue141
def zeroValue149 := tr_zero Try.zeroValue149
def zeroValue150 := tr_zero Try.zeroValue150
def zeroValue155 := tr_zero Try.zeroValue155
def zeroValue158 := tr_zero Try.zeroValue158
def zeroValue160 := tr_zero Try.zeroValue160
def zeroValue166 := tr_zero Try.zeroValue166
def zeroValue170 := tr_zero Try.zeroValue170
def zeroValue173 := tr_zero Try.zeroValue173
def zeroValue174 := tr_zero Try.zeroValue174
theorem func4 : prog.funcs[4]? = some Try.f4 := by kernel_rfl
def ntmps4 := Try.ntmps4
theorem func5 : prog.funcs[5]? = some Try.f5 := by kernel_rfl
def ntmps5 := Try.ntmps5
theorem func6 : prog.funcs[6]? = some Try.f6 := by kernel_rfl
def ntmps6 := Try.ntmps6
theorem func12 : prog.funcs[12]? = some Try.f12 := by kernel_rfl
def ntmps12 := Try.ntmps12
theorem call12 (args : Array Value) (w : World) : Sem.run prog (callFunc 12 args) w = .ok (.enter 12 args) w := by kernel_rfl
theorem func18 : prog.funcs[18]? = some Try.f18 := by kernel_rfl
def ntmps18 := Try.ntmps18
theorem call18 (args : Array Value) (w : World) : Sem.run prog (callFunc 18 args) w = .ok (.enter 18 args) w := by kernel_rfl
theorem func19 : prog.funcs[19]? = some Try.f19 := by kernel_rfl
def ntmps19 := Try.ntmps19
theorem call19 (args : Array Value) (w : World) : Sem.run prog (callFunc 19 args) w = .ok (.enter 19 args) w := by kernel_rfl
theorem func20 : prog.funcs[20]? = some Try.f20 := by kernel_rfl
def ntmps20 := Try.ntmps20
theorem call20 (args : Array Value) (w : World) : Sem.run prog (callFunc 20 args) w = .ok (.enter 20 args) w := by kernel_rfl
theorem func21 : prog.funcs[21]? = some Try.f21 := by kernel_rfl
def ntmps21 := Try.ntmps21
theorem call21 (args : Array Value) (w : World) : Sem.run prog (callFunc 21 args) w = .ok (.enter 21 args) w := by kernel_rfl
theorem func22 : prog.funcs[22]? = some Try.f22 := by kernel_rfl
def ntmps22 := Try.ntmps22
theorem call22 (args : Array Value) (w : World) : Sem.run prog (callFunc 22 args) w = .ok (.enter 22 args) w := by kernel_rfl
theorem func23 : prog.funcs[23]? = some Try.f23 := by kernel_rfl
def ntmps23 := Try.ntmps23
theorem call23 (args : Array Value) (w : World) : Sem.run prog (callFunc 23 args) w = .ok (.enter 23 args) w := by kernel_rfl
theorem func24 : prog.funcs[24]? = some Try.f24 := by kernel_rfl
def ntmps24 := Try.ntmps24
theorem call24 (args : Array Value) (w : World) : Sem.run prog (callFunc 24 args) w = .ok (.enter 24 args) w := by kernel_rfl
theorem func25 : prog.funcs[25]? = some Try.f25 := by kernel_rfl
def ntmps25 := Try.ntmps25
theorem call25 (args : Array Value) (w : World) : Sem.run prog (callFunc 25 args) w = .ok (.enter 25 args) w := by kernel_rfl
theorem func26 : prog.funcs[26]? = some Try.f26 := by kernel_rfl
def ntmps26 := Try.ntmps26
theorem call26 (args : Array Value) (w : World) : Sem.run prog (callFunc 26 args) w = .ok (.enter 26 args) w := by kernel_rfl
theorem func27 : prog.funcs[27]? = some Try.f27 := by kernel_rfl
def ntmps27 := Try.ntmps27
theorem call27 (args : Array Value) (w : World) : Sem.run prog (callFunc 27 args) w = .ok (.enter 27 args) w := by kernel_rfl
theorem func28 : prog.funcs[28]? = some Try.f28 := by kernel_rfl
def ntmps28 := Try.ntmps28
theorem call28 (args : Array Value) (w : World) : Sem.run prog (callFunc 28 args) w = .ok (.enter 28 args) w := by kernel_rfl
theorem func29 : prog.funcs[29]? = some Try.f29 := by kernel_rfl
def ntmps29 := Try.ntmps29
theorem call29 (args : Array Value) (w : World) : Sem.run prog (callFunc 29 args) w = .ok (.enter 29 args) w := by kernel_rfl
theorem func37 : prog.funcs[37]? = some fOrb := by kernel_rfl
theorem tr_n37 {n : Nat} (h : Try.f37.ntmps = n) : fOrb.ntmps = n := h
def ntmps37 := tr_n37 Try.ntmps37
theorem call37 (args : Array Value) (w : World) : Sem.run prog (callFunc 37 args) w = .ok (.enter 37 args) w := by kernel_rfl
theorem func41 : prog.funcs[41]? = some Try.f41 := by kernel_rfl
def ntmps41 := Try.ntmps41
theorem call41 (args : Array Value) (w : World) : Sem.run prog (callFunc 41 args) w = .ok (.enter 41 args) w := by kernel_rfl
theorem func42 : prog.funcs[42]? = some Try.f42 := by kernel_rfl
def ntmps42 := Try.ntmps42
theorem call42 (args : Array Value) (w : World) : Sem.run prog (callFunc 42 args) w = .ok (.enter 42 args) w := by kernel_rfl
theorem func46 : prog.funcs[46]? = some Try.f46 := by kernel_rfl
def ntmps46 := Try.ntmps46
theorem call46 (args : Array Value) (w : World) : Sem.run prog (callFunc 46 args) w = .ok (.enter 46 args) w := by kernel_rfl
theorem func47 : prog.funcs[47]? = some Try.f47 := by kernel_rfl
def ntmps47 := Try.ntmps47
theorem call47 (args : Array Value) (w : World) : Sem.run prog (callFunc 47 args) w = .ok (.enter 47 args) w := by kernel_rfl
theorem func49 : prog.funcs[49]? = some Try.f49 := by kernel_rfl
def ntmps49 := Try.ntmps49
theorem call49 (args : Array Value) (w : World) : Sem.run prog (callFunc 49 args) w = .ok (.enter 49 args) w := by kernel_rfl
theorem func50 : prog.funcs[50]? = some Try.f50 := by kernel_rfl
def ntmps50 := Try.ntmps50
theorem call50 (args : Array Value) (w : World) : Sem.run prog (callFunc 50 args) w = .ok (.enter 50 args) w := by kernel_rfl
theorem func51 : prog.funcs[51]? = some Try.f51 := by kernel_rfl
def ntmps51 := Try.ntmps51
theorem call51 (args : Array Value) (w : World) : Sem.run prog (callFunc 51 args) w = .ok (.enter 51 args) w := by kernel_rfl
theorem func52 : prog.funcs[52]? = some Try.f52 := by kernel_rfl
def ntmps52 := Try.ntmps52
theorem call52 (args : Array Value) (w : World) : Sem.run prog (callFunc 52 args) w = .ok (.enter 52 args) w := by kernel_rfl
theorem func53 : prog.funcs[53]? = some Try.f53 := by kernel_rfl
def ntmps53 := Try.ntmps53
theorem call53 (args : Array Value) (w : World) : Sem.run prog (callFunc 53 args) w = .ok (.enter 53 args) w := by kernel_rfl
theorem func54 : prog.funcs[54]? = some Try.f54 := by kernel_rfl
def ntmps54 := Try.ntmps54
theorem call54 (args : Array Value) (w : World) : Sem.run prog (callFunc 54 args) w = .ok (.enter 54 args) w := by kernel_rfl
theorem func55 : prog.funcs[55]? = some Try.f55 := by kernel_rfl
def ntmps55 := Try.ntmps55
theorem call55 (args : Array Value) (w : World) : Sem.run prog (callFunc 55 args) w = .ok (.enter 55 args) w := by kernel_rfl
theorem func56 : prog.funcs[56]? = some Try.f56 := by kernel_rfl
def ntmps56 := Try.ntmps56
theorem call56 (args : Array Value) (w : World) : Sem.run prog (callFunc 56 args) w = .ok (.enter 56 args) w := by kernel_rfl
theorem func57 : prog.funcs[57]? = some Try.f57 := by kernel_rfl
def ntmps57 := Try.ntmps57
theorem call57 (args : Array Value) (w : World) : Sem.run prog (callFunc 57 args) w = .ok (.enter 57 args) w := by kernel_rfl
theorem func58 : prog.funcs[58]? = some Try.f58 := by kernel_rfl
def ntmps58 := Try.ntmps58
theorem call58 (args : Array Value) (w : World) : Sem.run prog (callFunc 58 args) w = .ok (.enter 58 args) w := by kernel_rfl
theorem func59 : prog.funcs[59]? = some Try.f59 := by kernel_rfl
theorem call59 (args : Array Value) (w : World) : Sem.run prog (callFunc 59 args) w = .ok (.enter 59 args) w := by kernel_rfl
theorem func60 : prog.funcs[60]? = some Try.f60 := by kernel_rfl
theorem call60 (args : Array Value) (w : World) : Sem.run prog (callFunc 60 args) w = .ok (.enter 60 args) w := by kernel_rfl
theorem func66 : prog.funcs[66]? = some Try.f66 := by kernel_rfl
def ntmps66 := Try.ntmps66
theorem func68 : prog.funcs[68]? = some Try.f68 := by kernel_rfl
def ntmps68 := Try.ntmps68
theorem call68 (args : Array Value) (w : World) : Sem.run prog (callFunc 68 args) w = .ok (.enter 68 args) w := by kernel_rfl
theorem func69 : prog.funcs[69]? = some Try.f69 := by kernel_rfl
def ntmps69 := Try.ntmps69
theorem call69 (args : Array Value) (w : World) : Sem.run prog (callFunc 69 args) w = .ok (.enter 69 args) w := by kernel_rfl
theorem func70 : prog.funcs[70]? = some Try.f70 := by kernel_rfl
def ntmps70 := Try.ntmps70
theorem call70 (args : Array Value) (w : World) : Sem.run prog (callFunc 70 args) w = .ok (.enter 70 args) w := by kernel_rfl
theorem func71 : prog.funcs[71]? = some Try.f71 := by kernel_rfl
def ntmps71 := Try.ntmps71
theorem call71 (args : Array Value) (w : World) : Sem.run prog (callFunc 71 args) w = .ok (.enter 71 args) w := by kernel_rfl
theorem func73 : prog.funcs[73]? = some Try.f73 := by kernel_rfl
def ntmps73 := Try.ntmps73
theorem call73 (args : Array Value) (w : World) : Sem.run prog (callFunc 73 args) w = .ok (.enter 73 args) w := by kernel_rfl
theorem func75 : prog.funcs[75]? = some Try.f75 := by kernel_rfl
def ntmps75 := Try.ntmps75
theorem call75 (args : Array Value) (w : World) : Sem.run prog (callFunc 75 args) w = .ok (.enter 75 args) w := by kernel_rfl
theorem func76 : prog.funcs[76]? = some Try.f76 := by kernel_rfl
def ntmps76 := Try.ntmps76
theorem call76 (args : Array Value) (w : World) : Sem.run prog (callFunc 76 args) w = .ok (.enter 76 args) w := by kernel_rfl
theorem func77 : prog.funcs[77]? = some Try.f77 := by kernel_rfl
def ntmps77 := Try.ntmps77
theorem call77 (args : Array Value) (w : World) : Sem.run prog (callFunc 77 args) w = .ok (.enter 77 args) w := by kernel_rfl
theorem func78 : prog.funcs[78]? = some Try.f78 := by kernel_rfl
def ntmps78 := Try.ntmps78
theorem call78 (args : Array Value) (w : World) : Sem.run prog (callFunc 78 args) w = .ok (.enter 78 args) w := by kernel_rfl
theorem func79 : prog.funcs[79]? = some Try.f79 := by kernel_rfl
def ntmps79 := Try.ntmps79
theorem call79 (args : Array Value) (w : World) : Sem.run prog (callFunc 79 args) w = .ok (.enter 79 args) w := by kernel_rfl
theorem func81 : prog.funcs[81]? = some Try.f81 := by kernel_rfl
def ntmps81 := Try.ntmps81
theorem call81 (args : Array Value) (w : World) : Sem.run prog (callFunc 81 args) w = .ok (.enter 81 args) w := by kernel_rfl
theorem func82 : prog.funcs[82]? = some Try.f82 := by kernel_rfl
def ntmps82 := Try.ntmps82
theorem call82 (args : Array Value) (w : World) : Sem.run prog (callFunc 82 args) w = .ok (.enter 82 args) w := by kernel_rfl
theorem func83 : prog.funcs[83]? = some Try.f83 := by kernel_rfl
def ntmps83 := Try.ntmps83
theorem call83 (args : Array Value) (w : World) : Sem.run prog (callFunc 83 args) w = .ok (.enter 83 args) w := by kernel_rfl
theorem func84 : prog.funcs[84]? = some Try.f84 := by kernel_rfl
def ntmps84 := Try.ntmps84
theorem call84 (args : Array Value) (w : World) : Sem.run prog (callFunc 84 args) w = .ok (.enter 84 args) w := by kernel_rfl
theorem func85 : prog.funcs[85]? = some Try.f85 := by kernel_rfl
def ntmps85 := Try.ntmps85
theorem call85 (args : Array Value) (w : World) : Sem.run prog (callFunc 85 args) w = .ok (.enter 85 args) w := by kernel_rfl
theorem func86 : prog.funcs[86]? = some Try.f86 := by kernel_rfl
def ntmps86 := Try.ntmps86
theorem call86 (args : Array Value) (w : World) : Sem.run prog (callFunc 86 args) w = .ok (.enter 86 args) w := by kernel_rfl
theorem func87 : prog.funcs[87]? = some Try.f87 := by kernel_rfl
def ntmps87 := Try.ntmps87
theorem call87 (args : Array Value) (w : World) : Sem.run prog (callFunc 87 args) w = .ok (.enter 87 args) w := by kernel_rfl
theorem func88 : prog.funcs[88]? = some Try.f88 := by kernel_rfl
theorem func89 : prog.funcs[89]? = some Try.f89 := by kernel_rfl
theorem func92 : prog.funcs[92]? = some Try.f92 := by kernel_rfl
def ntmps92 := Try.ntmps92
theorem call92 (args : Array Value) (w : World) : Sem.run prog (callFunc 92 args) w = .ok (.enter 92 args) w := by kernel_rfl
theorem func94 : prog.funcs[94]? = some fClo := by kernel_rfl
theorem tr_n94 {n : Nat} (h : Try.f94.ntmps = n) : fClo.ntmps = n := h
def ntmps94 := tr_n94 Try.ntmps94
theorem call94 (args : Array Value) (w : World) : Sem.run prog (callFunc 94 args) w = .ok (.enter 94 args) w := by kernel_rfl
theorem func96 : prog.funcs[96]? = some Try.f96 := by kernel_rfl
def ntmps96 := Try.ntmps96
theorem call96 (args : Array Value) (w : World) : Sem.run prog (callFunc 96 args) w = .ok (.enter 96 args) w := by kernel_rfl
theorem func97 : prog.funcs[97]? = some Try.f97 := by kernel_rfl
def ntmps97 := Try.ntmps97
theorem call97 (args : Array Value) (w : World) : Sem.run prog (callFunc 97 args) w = .ok (.enter 97 args) w := by kernel_rfl
theorem func98 : prog.funcs[98]? = some Try.f98 := by kernel_rfl
def ntmps98 := Try.ntmps98
theorem call98 (args : Array Value) (w : World) : Sem.run prog (callFunc 98 args) w = .ok (.enter 98 args) w := by kernel_rfl
theorem func99 : prog.funcs[99]? = some Try.f99 := by kernel_rfl
def ntmps99 := Try.ntmps99
theorem call99 (args : Array Value) (w : World) : Sem.run prog (callFunc 99 args) w = .ok (.enter 99 args) w := by kernel_rfl
theorem func100 : prog.funcs[100]? = some Try.f100 := by kernel_rfl
def ntmps100 := Try.ntmps100
theorem call100 (args : Array Value) (w : World) : Sem.run prog (callFunc 100 args) w = .ok (.enter 100 args) w := by kernel_rfl
theorem func101 : prog.funcs[101]? = some Try.f101 := by kernel_rfl
def ntmps101 := Try.ntmps101
theorem call101 (args : Array Value) (w : World) : Sem.run prog (callFunc 101 args) w = .ok (.enter 101 args) w := by kernel_rfl
theorem func102 : prog.funcs[102]? = some Try.f102 := by kernel_rfl
def ntmps102 := Try.ntmps102
theorem call102 (args : Array Value) (w : World) : Sem.run prog (callFunc 102 args) w = .ok (.enter 102 args) w := by kernel_rfl
theorem func103 : prog.funcs[103]? = some Try.f103 := by kernel_rfl
def ntmps103 := Try.ntmps103
theorem call103 (args : Array Value) (w : World) : Sem.run prog (callFunc 103 args) w = .ok (.enter 103 args) w := by kernel_rfl
theorem func104 : prog.funcs[104]? = some Try.f104 := by kernel_rfl
def ntmps104 := Try.ntmps104
theorem call104 (args : Array Value) (w : World) : Sem.run prog (callFunc 104 args) w = .ok (.enter 104 args) w := by kernel_rfl
theorem func105 : prog.funcs[105]? = some Try.f105 := by kernel_rfl
def ntmps105 := Try.ntmps105
theorem call105 (args : Array Value) (w : World) : Sem.run prog (callFunc 105 args) w = .ok (.enter 105 args) w := by kernel_rfl
theorem func106 : prog.funcs[106]? = some Try.f106 := by kernel_rfl
def ntmps106 := Try.ntmps106
theorem call106 (args : Array Value) (w : World) : Sem.run prog (callFunc 106 args) w = .ok (.enter 106 args) w := by kernel_rfl
theorem func107 : prog.funcs[107]? = some Try.f107 := by kernel_rfl
def ntmps107 := Try.ntmps107
theorem call107 (args : Array Value) (w : World) : Sem.run prog (callFunc 107 args) w = .ok (.enter 107 args) w := by kernel_rfl
theorem func108 : prog.funcs[108]? = some Try.f108 := by kernel_rfl
def ntmps108 := Try.ntmps108
theorem call108 (args : Array Value) (w : World) : Sem.run prog (callFunc 108 args) w = .ok (.enter 108 args) w := by kernel_rfl
theorem func109 : prog.funcs[109]? = some Try.f109 := by kernel_rfl
def ntmps109 := Try.ntmps109
theorem call109 (args : Array Value) (w : World) : Sem.run prog (callFunc 109 args) w = .ok (.enter 109 args) w := by kernel_rfl
theorem func110 : prog.funcs[110]? = some Try.f110 := by kernel_rfl
def ntmps110 := Try.ntmps110
theorem call110 (args : Array Value) (w : World) : Sem.run prog (callFunc 110 args) w = .ok (.enter 110 args) w := by kernel_rfl
theorem func111 : prog.funcs[111]? = some Try.f111 := by kernel_rfl
def ntmps111 := Try.ntmps111
theorem call111 (args : Array Value) (w : World) : Sem.run prog (callFunc 111 args) w = .ok (.enter 111 args) w := by kernel_rfl
theorem func112 : prog.funcs[112]? = some Try.f112 := by kernel_rfl
def ntmps112 := Try.ntmps112
theorem call112 (args : Array Value) (w : World) : Sem.run prog (callFunc 112 args) w = .ok (.enter 112 args) w := by kernel_rfl
theorem func113 : prog.funcs[113]? = some Try.f113 := by kernel_rfl
def ntmps113 := Try.ntmps113
theorem call113 (args : Array Value) (w : World) : Sem.run prog (callFunc 113 args) w = .ok (.enter 113 args) w := by kernel_rfl
theorem func114 : prog.funcs[114]? = some Try.f114 := by kernel_rfl
theorem func115 : prog.funcs[115]? = some Try.f115 := by kernel_rfl
theorem func116 : prog.funcs[116]? = some Try.f116 := by kernel_rfl
theorem func117 : prog.funcs[117]? = some Try.f117 := by kernel_rfl
theorem func118 : prog.funcs[118]? = some Try.f118 := by kernel_rfl
theorem func119 : prog.funcs[119]? = some Try.f119 := by kernel_rfl
theorem func120 : prog.funcs[120]? = some Try.f120 := by kernel_rfl
theorem func121 : prog.funcs[121]? = some Try.f121 := by kernel_rfl
theorem func122 : prog.funcs[122]? = some Try.f122 := by kernel_rfl
theorem func123 : prog.funcs[123]? = some Try.f123 := by kernel_rfl
theorem func124 : prog.funcs[124]? = some Try.f124 := by kernel_rfl
theorem func128 : prog.funcs[128]? = some Try.f128 := by kernel_rfl
theorem func129 : prog.funcs[129]? = some Try.f129 := by kernel_rfl
def ntmps129 := Try.ntmps129
theorem func130 : prog.funcs[130]? = some Try.f130 := by kernel_rfl
def ntmps130 := Try.ntmps130
theorem func131 : prog.funcs[131]? = some Try.f131 := by kernel_rfl
def ntmps131 := Try.ntmps131
theorem func132 : prog.funcs[132]? = some Try.f132 := by kernel_rfl
def ntmps132 := Try.ntmps132
theorem func133 : prog.funcs[133]? = some Try.f133 := by kernel_rfl
def ntmps133 := Try.ntmps133
theorem call133 (args : Array Value) (w : World) : Sem.run prog (callFunc 133 args) w = .ok (.enter 133 args) w := by kernel_rfl
theorem func134 : prog.funcs[134]? = some Try.f134 := by kernel_rfl
def ntmps134 := Try.ntmps134
theorem call134 (args : Array Value) (w : World) : Sem.run prog (callFunc 134 args) w = .ok (.enter 134 args) w := by kernel_rfl
theorem func135 : prog.funcs[135]? = some Try.f135 := by kernel_rfl
def ntmps135 := Try.ntmps135
theorem call135 (args : Array Value) (w : World) : Sem.run prog (callFunc 135 args) w = .ok (.enter 135 args) w := by kernel_rfl
theorem func136 : prog.funcs[136]? = some Try.f136 := by kernel_rfl
theorem func137 : prog.funcs[137]? = some Try.f137 := by kernel_rfl
theorem func138 : prog.funcs[138]? = some Try.f138 := by kernel_rfl
theorem func139 : prog.funcs[139]? = some Try.f139 := by kernel_rfl
theorem func140 : prog.funcs[140]? = some Try.f140 := by kernel_rfl
theorem func141 : prog.funcs[141]? = some Try.f141 := by kernel_rfl
def ntmps141 := Try.ntmps141
theorem call141 (args : Array Value) (w : World) : Sem.run prog (callFunc 141 args) w = .ok (.enter 141 args) w := by kernel_rfl
theorem func143 : prog.funcs[143]? = some Try.f143 := by kernel_rfl
theorem func162 : prog.funcs[162]? = some fSnd := by kernel_rfl
theorem results162 : fSnd.results = #[] := by kernel_rfl
theorem func163 : prog.funcs[163]? = some fGo := by kernel_rfl
theorem results163 : fGo.results = #[] := by kernel_rfl
theorem funcSnd : prog.funcs[sq.nfn]? = some fSnd := by kernel_rfl
theorem funcGo : prog.funcs[sq.nfn + 1]? = some fGo := by kernel_rfl
theorem ntmpsSnd : fSnd.ntmps = 5 := by kernel_rfl
theorem ntmpsGo : fGo.ntmps = 5 := by kernel_rfl
attribute [simp] sizeOf0 sizeOf3 sizeOf4 sizeOf5 sizeOf9
attribute [simp] sizeOf23 sizeOf25 sizeOf40
attribute [simp] sizeOf60 sizeOf62 sizeOf63 sizeOf65
attribute [simp] sizeOf106
attribute [simp] sizeOf134 sizeOf149 sizeOf150 sizeOf155 sizeOf158 sizeOf160 sizeOf166 sizeOf170
attribute [simp] sizeOf173 sizeOf174 underlying0 underlying3 underlying4 underlying5 underlying9
attribute [simp] underlying22 underlying23 underlying25 underlying27 underlying40 underlying55 underlying56
attribute [simp] underlying60 underlying62 underlying63 underlying65 underlying70 underlying77 underlying81 underlying88 underlying89 underlying90
attribute [simp] underlying103 underlying106 underlying131 underlying135
attribute [simp] underlying140 underlying141 underlying149 underlying150 underlying155 underlying158 underlying160 underlying166 underlying170 underlying173 underlying174
attribute [simp] runUnderlying22 runUnderlying23
attribute [simp] runUnderlying25 runUnderlying27 runUnderlying40 runUnderlying60 runUnderlying62
attribute [simp] runUnderlying65 runUnderlying70 runUnderlying81
attribute [simp] runUnderlying135 runUnderlying141
attribute [simp] isAgg0 isAgg3 isAgg4 isAgg5 isAgg9 isAgg23 isAgg25
attribute [simp] isAgg40 isAgg62 isAgg63
attribute [simp] isAgg106
attribute [simp] isAgg134 isAgg149
attribute [simp] isAgg150 isAgg155 isAgg158 isAgg160 isAgg166 isAgg170 isAgg173 isAgg174
attribute [simp] zeroValue0 zeroValue3 zeroValue4 zeroValue5 zeroValue9 zeroValue23 zeroValue25
attribute [simp] zeroValue60 zeroValue62 zeroValue63 zeroValue65
attribute [simp] zeroValue89 zeroValue90 zeroValue106
attribute [simp] zeroValue135 zeroValue140 zeroValue141 zeroValue149 zeroValue150 zeroValue155
attribute [simp] zeroValue158 zeroValue160 zeroValue166 zeroValue170 zeroValue173 zeroValue174
attribute [simp] func4 func5 func6 func12 call12
attribute [simp] func18 call18 func19 call19 func20 call20 func21 call21 func22 call22 func23 call23 func24 call24 func25 call25 func26 call26 func27 call27 func28 call28 func29 call29
attribute [simp] func37 ntmps37 call37 func41 call41 func42 call42 func46 call46 func47 call47 func49 call49 func50 call50 func51 call51
attribute [simp] func52 call52 func53 call53 func54 call54 func55 call55 func56 call56 func57 call57 func58 call58 func59 call59 func60 call60 func66 func68 call68 func69 call69 func70 call70 func71 call71
attribute [simp] func73 call73 func75 call75 func76 call76 func77 call77 func78 call78 func79 call79 func81 call81 func82 call82 func83 call83 func84 call84 func85 call85 func86 call86 func87 call87 func88 func89
attribute [simp] func92 call92 func94 ntmps94 call94 func96 call96 func97 call97 func98 call98 func99 call99 func100 call100 func101 call101 func102 call102 func103 call103 func104 call104 func105 call105 func106 call106 func107 call107 func108 call108 func109 call109 func110 call110
attribute [simp] func111 call111 func112 call112 func113 call113 func114 func115 func116 func117 func118 func119 func120 func121 func122 func123 func124 func128 func129 func130 func131
attribute [simp] func132 func133 call133 func134 call134 func135 call135 func136 func137 func138 func139 func140 func141 call141 func143
attribute [simp] func162 results162 func163 results163
end Go.Proofs.Ytgcnemkhppkkcaa.sqp

namespace Go.Proofs.Ytgcnemkhppkkcaa.mem
open Go.ChangeShapes Go.WideShapes Go.ChangeAt Go.RowKit
set_option linter.unusedVariables false
set_option maxRecDepth 100000
theorem ret_bool {a b : Bool} (h : a = b) : Ending.returned (.bool a) = .returned (.bool b) := by rw [h]
theorem ret_int {k : IntKind} {a b : Int} (h : a = b) : Ending.returned (.int k a) = .returned (.int k b) := by rw [h]
def Row (w : World) (lo hi : Nat) (A : Option Addr) (n : Nat) (xs : List Value) : Prop :=
  xs.length = n ∧ hi ≤ w.heap.size ∧ (0 < n → ∃ g off, A = some ⟨g, off, none⟩ ∧ lo ≤ g ∧ g < hi ∧ ∀ j, j < n → w.cell? ⟨g, off + j, none⟩ = xs[j]? ∧ w.frozen? ⟨g, off + j, none⟩ = false)
theorem Row.at_ {w : World} {lo hi n k : Nat} {A : Option Addr} {xs : List Value} (h : Row w lo hi A n xs) (hk : k < n) :
    ∃ g off u, A = some ⟨g, off, none⟩ ∧ lo ≤ g ∧ g < hi ∧ xs[k]? = some u ∧ w.cell? ⟨g, off + k, none⟩ = some u ∧ w.frozen? ⟨g, off + k, none⟩ = false := by
  obtain ⟨g, off, e, hb, hlt, hc⟩ := h.2.2 (by omega)
  have hl : k < xs.length := by have := h.1; omega
  obtain ⟨h1, h2⟩ := hc k hk
  exact ⟨g, off, xs[k], e, hb, hlt, List.getElem?_eq_getElem hl, by rw [h1, List.getElem?_eq_getElem hl], h2⟩
structure Out (lo hi : Nat) (w w' : World) : Prop where
  os : w'.os = w.os
  tape : w'.tape = w.tape
  output : w'.output = w.output
  size : w.heap.size ≤ w'.heap.size
  block : ∀ k, k < w.heap.size → k < lo ∨ hi ≤ k → w'.heap[k]? = w.heap[k]?
theorem Out.refl (lo hi : Nat) (w : World) : Out lo hi w w := ⟨rfl, rfl, rfl, Nat.le_refl _, fun _ _ _ => rfl⟩
theorem Out.trans {lo hi : Nat} {a b c : World} (h : Out lo hi a b) (k : Out lo hi b c) : Out lo hi a c :=
  ⟨k.os.trans h.os, k.tape.trans h.tape, k.output.trans h.output, Nat.le_trans h.size k.size, fun i hi hne => (k.block i (Nat.lt_of_lt_of_le hi h.size) hne).trans (h.block i hi hne)⟩
theorem Out.of_below {lo hi : Nat} {w w' : World} (hb : Below w.heap.size w w') : Out lo hi w w' :=
  ⟨hb.os, hb.tape, hb.output, hb.size, fun k hk _ => hb.block k hk⟩
theorem Out.set_ {lo hi g off : Nat} {w w' : World} (h : Out lo hi w w') (h1 : lo ≤ g) (h2 : g < hi) (u : Value) : Out lo hi w (w'.setCell ⟨g, off, none⟩ u) :=
  ⟨h.os, h.tape, h.output, by simpa [World.setCell] using h.size, fun j hj hne => (Below.heap_setCell _ _ _ _ (by intro e; have e2 : j = g := e; omega)).trans (h.block j hj hne)⟩
theorem Out.below {lo hi B : Nat} {w w' : World} (h : Out lo hi w w') (h1 : B ≤ lo) (h2 : B ≤ w.heap.size) : Below B w w' :=
  ⟨h.os, h.tape, h.output, h.size, fun k hk => h.block k (by omega) (.inl (by omega))⟩
theorem Out.drewN {lo hi : Nat} {w w' : World} (h : Out lo hi w w') (n : Nat) : Out lo hi w (w'.drewN n) := ⟨h.os, h.tape, h.output, h.size, h.block⟩
theorem Out.wider {lo hi lo' hi' : Nat} {w w' : World} (h : Out lo hi w w') (h1 : lo' ≤ lo) (h2 : hi ≤ hi') : Out lo' hi' w w' :=
  ⟨h.os, h.tape, h.output, h.size, fun k hk hne => h.block k hk (by omega)⟩
theorem Row.out {w w' : World} {lo hi lo' hi' n : Nat} {A : Option Addr} {xs : List Value} (h : Row w lo hi A n xs) (ho : Out lo' hi' w w') (hd : hi ≤ lo' ∨ hi' ≤ lo) : Row w' lo hi A n xs := by
  refine ⟨h.1, Nat.le_trans h.2.1 ho.size, fun hn => ?_⟩
  obtain ⟨g, off, e, hg, hlt, hc⟩ := h.2.2 hn
  have hs := h.2.1
  have hblk : w'.heap[g]? = w.heap[g]? := ho.block g (by omega) (by omega)
  refine ⟨g, off, e, hg, hlt, fun j hj => ?_⟩
  rw [World.cell?_of_block (w := w) (a := ⟨g, off + j, none⟩) hblk, World.frozen?_of_block (w := w) (a := ⟨g, off + j, none⟩) hblk]
  exact hc j hj
theorem Row.keep {w w' : World} {lo hi n B : Nat} {A : Option Addr} {xs : List Value} (h : Row w lo hi A n xs) (hb : Below B w w') (hB : hi ≤ B) : Row w' lo hi A n xs := by
  refine ⟨h.1, Nat.le_trans h.2.1 hb.size, fun hn => ?_⟩
  obtain ⟨g, off, e, hg, hlt, hc⟩ := h.2.2 hn
  have hblk : w'.heap[g]? = w.heap[g]? := hb.block g (by omega)
  refine ⟨g, off, e, hg, hlt, fun j hj => ?_⟩
  rw [World.cell?_of_block (w := w) (a := ⟨g, off + j, none⟩) hblk, World.frozen?_of_block (w := w) (a := ⟨g, off + j, none⟩) hblk]
  exact hc j hj
theorem Row.wider {w : World} {lo hi lo' hi' n : Nat} {A : Option Addr} {xs : List Value} (h : Row w lo hi A n xs) (h1 : lo' ≤ lo) (h2 : hi ≤ hi') (h3 : hi' ≤ w.heap.size) : Row w lo' hi' A n xs :=
  ⟨h.1, h3, fun hn => by
    obtain ⟨g, off, e, hg, hlt, hc⟩ := h.2.2 hn
    exact ⟨g, off, e, by omega, by omega, hc⟩⟩
theorem below_drewN {B : Nat} {a w : World} (h : Below B a w) (n : Nat) : Below B a (w.drewN n) := ⟨h.os, h.tape, h.output, h.size, h.block⟩
theorem Row.of_own {w : World} {base : Nat} {e : TypeId} {A : Option Addr} {n c : Nat} {xs : List Value} (h : w.ownsRow base e 1 (.slice A n c) n xs) : Row w base w.heap.size A n xs := by
  refine ⟨by simpa using h.1, Nat.le_refl _, fun hn => ?_⟩
  have hlen := h.1
  rcases h.2 with ⟨hv, h0⟩ | ⟨g, cap, cur, hv, hb, hh, r⟩
  · omega
  · injection hv with hA hn' hc'
    subst hA; subst hc'
    have hlt : g < w.heap.size := by
      rcases Nat.lt_or_ge g w.heap.size with hlt | hge
      · exact hlt
      · rw [Array.getElem?_eq_none hge] at hh; cases hh
    refine ⟨g, 0, rfl, hb, hlt, fun j hj => ?_⟩
    rw [Nat.zero_add]
    exact ⟨h.cellAt j (by omega), h.frozenAt j⟩
theorem Row.set_ {w : World} {lo hi n k g off : Nat} {xs : List Value} (h : Row w lo hi (some ⟨g, off, none⟩) n xs) (hk : k < n) (u : Value) :
    Row (w.setCell ⟨g, off + k, none⟩ u) lo hi (some ⟨g, off, none⟩) n (xs.set k u) := by
  refine ⟨by rw [List.length_set]; exact h.1, by simpa [World.setCell] using h.2.1, fun hn => ?_⟩
  obtain ⟨g', off', e, hg, hlt, hc⟩ := h.2.2 hn
  injection e with e; injection e with e1 e2; subst e1; subst e2
  refine ⟨g, off, rfl, hg, hlt, fun j hj => ?_⟩
  have hl := h.1
  rw [World.frozen?_setCell]
  refine ⟨?_, (hc j hj).2⟩
  by_cases e : j = k
  · subst e
    rw [World.cell?_setCell_same' w _ u (by rw [(hc j hj).1, List.getElem?_eq_getElem (by omega)]; rfl), List.getElem?_set_self (by omega)]
  · rw [World.cell?_setCell_other w _ _ u (by intro q; injection q with _ q; omega), List.getElem?_set_ne (by omega)]
    exact (hc j hj).1
def Rd (w : World) (hi : Nat) (A : Option Addr) (n : Nat) (xs : List Value) : Prop :=
  xs.length = n ∧ hi ≤ w.heap.size ∧ (0 < n → ∃ g off, A = some ⟨g, off, none⟩ ∧ g < hi ∧ ∀ j, j < n → w.cell? ⟨g, off + j, none⟩ = xs[j]?)
theorem Row.rd {w : World} {lo hi n : Nat} {A : Option Addr} {xs : List Value} (h : Row w lo hi A n xs) : Rd w hi A n xs :=
  ⟨h.1, h.2.1, fun hn => by
    obtain ⟨g, off, e, hg, hlt, hc⟩ := h.2.2 hn
    exact ⟨g, off, e, hlt, fun j hj => (hc j hj).1⟩⟩
theorem Rd.at_ {w : World} {hi n k : Nat} {A : Option Addr} {xs : List Value} (h : Rd w hi A n xs) (hk : k < n) :
    ∃ g off u, A = some ⟨g, off, none⟩ ∧ g < hi ∧ xs[k]? = some u ∧ w.cell? ⟨g, off + k, none⟩ = some u := by
  obtain ⟨g, off, e, hlt, hc⟩ := h.2.2 (by omega)
  have hl : k < xs.length := by have := h.1; omega
  exact ⟨g, off, xs[k], e, hlt, List.getElem?_eq_getElem hl, by rw [hc k hk, List.getElem?_eq_getElem hl]⟩
theorem Rd.keep {w w' : World} {hi n B : Nat} {A : Option Addr} {xs : List Value} (h : Rd w hi A n xs) (hb : Below B w w') (hB : hi ≤ B) : Rd w' hi A n xs := by
  refine ⟨h.1, Nat.le_trans h.2.1 hb.size, fun hn => ?_⟩
  obtain ⟨g, off, e, hlt, hc⟩ := h.2.2 hn
  have hblk : w'.heap[g]? = w.heap[g]? := hb.block g (by omega)
  refine ⟨g, off, e, hlt, fun j hj => ?_⟩
  rw [World.cell?_of_block (w := w) (a := ⟨g, off + j, none⟩) hblk]
  exact hc j hj
theorem Rd.of_cells {w : World} {a : Addr} {n : Nat} {xs : List Value} (hl : xs.length = n) (h : ∀ i, i < n → w.cell? (a.add i) = xs[i]?) : Rd w w.heap.size (some a) n xs := by
  refine ⟨hl, Nat.le_refl _, fun hn => ?_⟩
  obtain ⟨b, off, spot⟩ := a
  have h0 := h 0 hn
  rw [List.getElem?_eq_getElem (by omega)] at h0
  have hspot : spot = none := by simpa [Addr.add] using World.cell?_spot h0
  subst hspot
  have hb := World.block_lt_of_cell? w _ h0
  refine ⟨b, off, rfl, by simpa [Addr.add] using hb, fun j hj => ?_⟩
  rw [← h j hj]
  congr 1
  unfold Addr.add
  split
  · rename_i e; subst e; simp
  · rfl
theorem run_byte_string {P : Program} (W : World) (src dst e t : TypeId) (n : Int)
    (hs : P.underlying src = some (.slice e)) (he : P.underlying e = some (.int .u8)) (hd : P.underlying dst = some .string) :
    (convert src dst (.slice (some ⟨W.heap.size, 0, none⟩) 1 1)).run P (W.alloc (.cells #[.int .u8 n] t)) = .ok (.string ⟨#[UInt8.ofNat n.toNat]⟩) (W.alloc (.cells #[.int .u8 n] t)) := by
  rw [run_convert_bytes_string _ _ _ _ _ _ _ hs he hd]
  rw [run_bytesToString _ ⟨W.heap.size, 0, none⟩ 1 1 [n] ?_]
  · rfl
  · simp [go_sem]
theorem run_byte_cell {P : Program} (W : World) (src dst e : TypeId) (b : Nat) (n : Int)
    (hs : P.underlying src = some (.slice e)) (he : P.underlying e = some (.int .u8)) (hd : P.underlying dst = some .string) (hc : W.cell? ⟨b, 0, none⟩ = some (.int .u8 n)) :
    (convert src dst (.slice (some ⟨b, 0, none⟩) 1 1)).run P W = .ok (.string ⟨#[UInt8.ofNat n.toNat]⟩) W := by
  rw [run_convert_bytes_string _ _ _ _ _ _ _ hs he hd]
  rw [run_bytesToString _ ⟨b, 0, none⟩ 1 1 [n] ?_]
  · rfl
  · simp [go_sem, hc]
theorem grown_trans {a b c : World} {row : Option Nat} (h : a.grownBy b row) (k : b.grownBy c row) : a.grownBy c row :=
  ⟨k.os.trans h.os, k.tape.trans h.tape, k.output.trans h.output, Nat.le_trans h.size k.size, fun i hi hne => (k.block i (Nat.lt_of_lt_of_le hi h.size) hne).trans (h.block i hi hne)⟩
theorem wpList_append_one {P : Program} {ops : Array Oper} {rest : List Oper} {o : Oper} {a : Act} {Q : Exit → Act → World → Prop} (W : World) (u : Value) (ty : TypeId) (hgd : o.guard = none) (s x : Operand) (t : TypeId)
    (ho : o.op = .call { callee := .builtin .append, args := #[s, x], argTypes := #[t, t] })
    (base : Nat) (e : TypeId) (i : TypeInfo) (z : Value) (bytes : Nat) (ht : P.underlying t = some (.slice e)) (hi : P.info? e = some i) (hz : i.zero = some z)
    (hsize : i.size = 1) (hby : i.bytes = bytes) (hzs : z.cells.size = 1)
    (v : Value) (n : Nat) (xs : List Value) (hs : a.eval s = v) (hown : W.ownsRow base e 1 v n xs)
    (hx : a.eval x = .slice (some ⟨W.heap.size, 0, none⟩) 1 1) (h1 : u.oneCell' = true)
    (hbytes : (n + 1) * bytes ≤ 140737488355328) (hb0 : 0 < bytes) (hbase : base ≤ W.heap.size)
    (h : ∀ v' w', w'.ownsRow base e 1 v' (n + 1) (xs ++ [u]) → W.grownBy w' v.ownBlock → wpList P ops Q rest (a.put o.dst v') w') : wpList P ops Q (o :: rest) a (W.alloc (.cells #[u] ty)) := by
  refine wpList_append_own _ hgd s x t ho base e i z 1 bytes ht hi hz hsize hby hzs (by decide) v n xs hs (hown.alloc _) ⟨W.heap.size, 0, none⟩ 1 1 [u] hx rfl ?_ ?_ ?_ hbytes ?_ ?_
  · intro j q hj
    match j, hj with
    | 0, hj => simp at hj; subst hj; simp [Addr.add]
  · intro q hq; simp at hq; subst hq; exact h1
  · have : (n + 1) * 1 ≤ (n + 1) * bytes := Nat.mul_le_mul_left _ hb0
    unfold maxLen; omega
  · simp; omega
  · intro v' w' h2 h3 _
    exact h v' w' h2 (grown_trans (World.grownBy_alloc W _ _) h3)
theorem own_form {w : World} {base : Nat} {e : TypeId} {size n : Nat} {v : Value} {xs : List Value} (h : w.ownsRow base e size v n xs) : ∃ A c, v = .slice A n c := by
  rcases h.2 with ⟨rfl, rfl⟩ | ⟨g, cap, cur, rfl, _⟩
  · exact ⟨_, _, rfl⟩
  · exact ⟨_, _, rfl⟩
theorem own_below {w w' : World} {base B : Nat} {e : TypeId} {size n : Nat} {v : Value} {xs : List Value} (h : w.ownsRow base e size v n xs) (hg : w.grownBy w' v.ownBlock) (hB : B ≤ base) (hb : base ≤ w.heap.size) : Below B w w' :=
  (Below.refl _ _).grown hg (by omega) (fun k hk => by have := (h.lt k hk).1; omega)
end Go.Proofs.Ytgcnemkhppkkcaa.mem

namespace Go.Proofs.Ytgcnemkhppkkcaa.ints
open Go.ChangeShapes Go.WideShapes Go.ChangeAt Go.RowKit
open mem
set_option linter.unusedVariables false
set_option maxRecDepth 100000
def V (l : List Int) : List Value := l.map (Value.int .i64)
theorem V_len (l : List Int) : (V l).length = l.length := by simp [V]
theorem V_at {l : List Int} {k : Nat} {u : Value} (h : (V l)[k]? = some u) : ∃ z, l[k]? = some z ∧ u = .int .i64 z := by
  simp only [V, List.getElem?_map, Option.map_eq_some_iff] at h
  obtain ⟨s, h1, h2⟩ := h
  exact ⟨s, h1, h2.symm⟩
theorem V_get {l : List Int} {k : Nat} {z : Int} (h : l[k]? = some z) : (V l)[k]? = some (.int .i64 z) := by simp [V, h]
theorem V_set (l : List Int) (k : Nat) (z : Int) : (V l).set k (.int .i64 z) = V (l.set k z) := by simp [V, List.map_set]
def Drawn (w w' : World) : Prop := ∃ m, w' = w.drewN m
theorem Drawn.cell {w w' : World} (h : Drawn w w') (p : Addr) : w'.cell? p = w.cell? p := by obtain ⟨m, rfl⟩ := h; rfl
theorem Drawn.more {w w' : World} (h : Drawn w w') (n : Nat) : Drawn w (w'.drewN n) := by obtain ⟨m, rfl⟩ := h; exact ⟨m + n, by simp⟩
theorem Drawn.below {w w' : World} (h : Drawn w w') (B : Nat) : Below B w w' := by obtain ⟨m, rfl⟩ := h; exact below_drewN (Below.refl _ _) _
theorem infoI : (sqp.prog.info? 3).map (fun i => (i.zero, i.size, i.bytes)) = some (some (.int .i64 0), 1, 8) := by kernel_rfl
def eqi (xs ys : List Int) : Bool := decide (xs = ys)
def Same (xs ys : List Int) (k : Nat) : Prop := ∀ j, j < k → xs[j]? = ys[j]?
theorem Same.step {xs ys : List Int} {k : Nat} {s : Int} (h : Same xs ys k) (h1 : xs[k]? = some s) (h2 : ys[k]? = some s) : Same xs ys (k + 1) := by
  intro j hj
  by_cases e : j = k
  · subst e; rw [h1, h2]
  · exact h j (by omega)
theorem eqi_no {xs ys : List Int} {k : Nat} {s t : Int} (h1 : xs[k]? = some s) (h2 : ys[k]? = some t) (h : s ≠ t) : eqi xs ys = false := by
  unfold eqi
  rw [decide_eq_false_iff_not]
  rintro rfl
  rw [h1] at h2
  exact h (Option.some.inj h2)
theorem eqi_len {xs ys : List Int} (h : xs.length ≠ ys.length) : eqi xs ys = false := by
  unfold eqi
  rw [decide_eq_false_iff_not]
  rintro rfl
  exact h rfl
theorem eqi_yes {xs ys : List Int} {n : Nat} (h1 : xs.length = n) (h2 : ys.length = n) (h : Same xs ys n) : eqi xs ys = true := by
  unfold eqi
  rw [decide_eq_true_iff]
  refine List.ext_getElem? fun i => ?_
  by_cases hi : i < n
  · exact h i hi
  · rw [List.getElem?_eq_none (by omega), List.getElem?_eq_none (by omega)]
theorem eqi_self (xs : List Int) : eqi xs xs = true := by simp [eqi]
set_option maxHeartbeats 400000 in
theorem eq_any (A : Option Addr) (n c : Nat) (B : Option Addr) (m d : Nat) (xs ys : List Int) (h1 h2 : Nat) (w : World)
    (hx : Rd w h1 A n (V xs)) (hy : Rd w h2 B m (V ys)) (hn : n ≤ maxLen) (hm : m ≤ maxLen) :
    Calls sqp.prog 25 #[.slice A n c, .slice B m d] w fun e w' => e = .returned (.bool (eqi xs ys)) ∧ Drawn w w' := by
  unfold maxLen at hn hm
  have lx : xs.length = n := by simpa [V] using hx.1
  have ly : ys.length = m := by simpa [V] using hy.1
  have LX := Lib.hid lx; have LY := Lib.hid ly; clear lx ly
  have HX := Lib.hid hx; have HY := Lib.hid hy; clear hx hy
  by_cases hnm : n = m
  · obtain rfl : m = n := hnm.symm
    clear hnm
    go_enter sqp.func25, sqp.ntmps25
    go_wp2
    go_loopw [5] (fun i wr => ∃ k : Nat, k ≤ m ∧ i = .int .i64 k ∧ Drawn w wr ∧ Same xs ys k) (fun i _ => m - (intOf i).toNat)
    case atStart => exact ⟨0, Nat.zero_le _, rfl, ⟨0, rfl⟩, fun j hj => by omega⟩
    case round =>
      obtain ⟨k, hk, rfl, hdr, hsame⟩ := hrel
      have HS := Lib.hid hsame; have HD := Lib.hid hdr; clear hsame hdr
      by_cases hlt : k < m
      · obtain ⟨g, off, u, rfl, _, hxu, hcx⟩ := HX.out.at_ hlt
        obtain ⟨g', off', u', rfl, _, hyu, hcy⟩ := HY.out.at_ hlt
        obtain ⟨s, hxs, rfl⟩ := V_at hxu
        obtain ⟨t, hyt, rfl⟩ := V_at hyu
        rw [← HD.out.cell] at hcx hcy
        have HXS := Lib.hid hxs; have HYT := Lib.hid hyt; clear hxs hyt hxu hyu
        by_cases hst : s = t
        · subst hst
          go_wp2
          go_quiet (fail)
          go_wp2
          go_roundw
          case rel => exact ⟨k + 1, by omega, by go_num, HD.out.more _, HS.out.step HXS.out HYT.out⟩
          case measure => simp [intOf]; omega
        · have hb : (s != t) = true := by simpa using hst
          have HST := Lib.hid hst; clear hst
          go_wp2
          go_quiet (fail)
          go_wp2
          go_ret
          exact ⟨ret_bool (eqi_no HXS.out HYT.out HST.out).symm, HD.out.more _⟩
      · obtain rfl : k = m := by omega
        go_wp2
        go_ret
        exact ⟨ret_bool (eqi_yes LX.out LY.out HS.out).symm, HD.out⟩
  · have hb : ((n : Int) != (m : Int)) = true := by simp; omega
    have HB : eqi xs ys = false := eqi_len (by rw [LX.out, LY.out]; exact hnm)
    have HB := Lib.hid HB
    clear hnm
    go_enter sqp.func25, sqp.ntmps25
    go_wp2
    go_ret
    exact ⟨ret_bool HB.out.symm, 0, rfl⟩
def Marks (k : Int) (n : Nat) : List Int := (List.range n).map fun (i : Nat) => k + (i : Int)
theorem marks_at {k : Int} {n j : Nat} (h : j < n) : (V (Marks k n))[j]? = some (.int .i64 (k + j)) := by
  simp [V, Marks, h]
def MUpto (ys : List Value) (k : Int) (j : Nat) : Prop := ∀ i : Nat, i < j → ys[i]? = some (.int .i64 (k + i))
theorem MUpto.all {ys : List Value} {k : Int} {n : Nat} (h : MUpto ys k n) (hl : ys.length = n) : ys = V (Marks k n) := by
  refine List.ext_getElem? fun i => ?_
  by_cases hi : i < n
  · rw [h i hi, marks_at hi]
  · rw [List.getElem?_eq_none (by omega), List.getElem?_eq_none (by simp [V, Marks]; omega)]
theorem MUpto.step {ys : List Value} {k : Int} {j : Nat} (h : MUpto ys k j) (hl : j < ys.length) : MUpto (ys.set j (.int .i64 (k + j))) k (j + 1) := by
  intro i hi
  by_cases e : i = j
  · subst e; rw [List.getElem?_set_self hl]
  · rw [List.getElem?_set_ne (by omega)]; exact h i (by omega)
def MarkRel (A : Option Addr) (n lo hi : Nat) (k : Int) (w wr : World) (j : Nat) : Prop := ∃ ys, Row wr lo hi A n ys ∧ MUpto ys k j ∧ Out lo hi w wr
set_option maxHeartbeats 400000 in
theorem mark_any (A : Option Addr) (n c : Nat) (xs : List Value) (lo hi : Nat) (k : Int) (w : World)
    (hx : Row w lo hi A n xs) (hn : n ≤ 4611686018427387904) (h1 : 1 ≤ k) (h2 : k + n ≤ 4611686018427387904) :
    Calls sqp.prog 27 #[.slice A n c, .int .i64 k] w fun e w' => e = .returned (.int .i64 (k + n)) ∧ Row w' lo hi A n (V (Marks k n)) ∧ Out lo hi w w' := by
  have HX := Lib.hid hx; clear hx
  go_enter sqp.func27, sqp.ntmps27
  go_wp2
  go_loopw [1, 5] (fun q i wr => ∃ j : Nat, j ≤ n ∧ q = .int .i64 (k + j) ∧ i = .int .i64 j ∧ MarkRel A n lo hi k w wr j) (fun _ i _ => n - (intOf i).toNat)
  case atStart => exact ⟨0, Nat.zero_le _, by simp, rfl, xs, HX.out, fun i hi => by omega, Out.refl _ _ _⟩
  case round =>
    obtain ⟨j, hj, rfl, rfl, hm⟩ := hrel
    have HM := Lib.hid hm; clear hm
    by_cases hlt : j < n
    · obtain ⟨ys, hr, hu, hbut⟩ := HM.out
      obtain ⟨g, off, u, rfl, hbg, hgl, hyu, hcy, hfr⟩ := hr.at_ hlt
      have HR := Lib.hid hr; have HU := Lib.hid hu; have HB := Lib.hid hbut; clear hr hu hbut hyu
      go_wp2
      go_roundw
      case rel =>
        refine ⟨j + 1, by omega, by go_num, by go_num, ys.set j (.int .i64 (k + j)), ?_, HU.out.step (by have := HR.out.1; omega), ?_⟩
        · exact HR.out.set_ hlt _
        · exact HB.out.set_ hbg hgl _
      case measure => simp [intOf]; omega
    · obtain rfl : j = n := by omega
      go_wp2
      go_ret
      obtain ⟨ys, hr, hu, hbut⟩ := HM.out
      refine ⟨rfl, ?_, hbut⟩
      rw [← hu.all hr.1]; exact hr
set_option maxHeartbeats 400000 in
theorem held_any (A : Option Addr) (n c : Nat) (lo hi : Nat) (k : Int) (w : World)
    (hx : Row w lo hi A n (V (Marks k n))) (hn : n ≤ 4611686018427387904) (h1 : 1 ≤ k) (h2 : k + n ≤ 4611686018427387904) :
    Calls sqp.prog 28 #[.slice A n c, .int .i64 k] w fun e w' => e = .returned (.int .i64 (k + n)) ∧ Drawn w w' := by
  have HX := Lib.hid hx; clear hx
  go_enter sqp.func28, sqp.ntmps28
  go_wp2
  go_loopw [1, 5] (fun q i wr => ∃ j : Nat, j ≤ n ∧ q = .int .i64 (k + j) ∧ i = .int .i64 j ∧ Drawn w wr) (fun _ i _ => n - (intOf i).toNat)
  case atStart => exact ⟨0, Nat.zero_le _, by simp, rfl, 0, rfl⟩
  case round =>
    obtain ⟨j, hj, rfl, rfl, hb⟩ := hrel
    by_cases hlt : j < n
    · obtain ⟨g, off, u, rfl, hbg, hgl, hyu, hcy, hfr⟩ := HX.out.at_ hlt
      rw [marks_at hlt] at hyu
      obtain rfl := Option.some.inj hyu
      rw [← hb.cell] at hcy
      have HB := Lib.hid hb; clear hb hyu hfr
      go_wp2
      go_roundw
      case rel => exact ⟨j + 1, by omega, by go_num, by go_num, HB.out⟩
      case measure => simp [intOf]; omega
    · obtain rfl : j = n := by omega
      go_wp2
      go_ret
      exact ⟨rfl, hb⟩
def Upto (ys : List Value) (xs : List Int) (j : Nat) : Prop := ∀ i : Nat, i < j → ys[i]? = (V xs)[i]?
theorem Upto.step {ys : List Value} {xs : List Int} {j : Nat} {s : Int} (h : Upto ys xs j) (hl : j < ys.length) (hs : (V xs)[j]? = some (.int .i64 s)) : Upto (ys.set j (.int .i64 s)) xs (j + 1) := by
  intro i hi
  by_cases e : i = j
  · subst e; rw [List.getElem?_set_self hl, hs]
  · rw [List.getElem?_set_ne (by omega)]; exact h i (by omega)
theorem Upto.all {ys : List Value} {xs : List Int} {n : Nat} (h : Upto ys xs n) (hl : ys.length = n) (hx : xs.length = n) : ys = V xs := by
  refine List.ext_getElem? fun i => ?_
  by_cases hi : i < n
  · exact h i hi
  · rw [List.getElem?_eq_none (by omega), List.getElem?_eq_none (by simp [V]; omega)]
def CopyRel (xs : List Int) (n : Nat) (w wr : World) (j : Nat) : Prop := ∃ ys, wr.ownsRow w.heap.size 3 1 (.slice (some ⟨w.heap.size, 0, none⟩) n n) n ys ∧ Upto ys xs j ∧ Below w.heap.size w wr
set_option maxHeartbeats 400000 in
theorem to_any (A : Option Addr) (n c : Nat) (xs : List Int) (hi : Nat) (w : World)
    (hx : Rd w hi A n (V xs)) (hn : n ≤ 1048576) :
    Calls sqp.prog 54 #[.slice A n c] w fun e w' => e = .returned (.slice (some ⟨w.heap.size, 0, none⟩) n n) ∧ w'.ownsRow w.heap.size 3 1 (.slice (some ⟨w.heap.size, 0, none⟩) n n) n (V xs) ∧ Below w.heap.size w w' := by
  obtain ⟨i0, hi0, hz0, hz1, hz2⟩ := info_parts infoI
  have lx : xs.length = n := by simpa [V] using hx.1
  have LX := Lib.hid lx; clear lx
  have HX := Lib.hid hx; clear hx
  have HZ2 := Lib.hid hz2; clear hz2
  go_enter sqp.func54, sqp.ntmps54
  go_wp2_with (at_make; refine wpList_make_full _ rfl _ _ 23 rfl w.heap.size 3 i0 _ 1 sqp.underlying23 hi0 hz0 hz1 _ _ _ _ n rfl rfl rfl rfl ?b2 ?b3 (Nat.le_refl _) ?_)
  case b2 => rw [HZ2.out]; omega
  case b3 => unfold maxLen; omega
  intro w1 hown hg
  have hb1 : Below w.heap.size w w1 := (Below.refl _ _).grown hg (Nat.le_refl _) (by simp)
  have HO := Lib.hid hown; have HB := Lib.hid hb1; clear hown hg hb1
  go_wp2
  go_loopw [4] (fun i wr => ∃ j : Nat, j ≤ n ∧ i = .int .i64 j ∧ CopyRel xs n w wr j) (fun i _ => n - (intOf i).toNat)
  case atStart => exact ⟨0, Nat.zero_le _, rfl, _, HO.out, fun i hi => by omega, HB.out⟩
  case round =>
    obtain ⟨j, hj, rfl, hcr⟩ := hrel
    have HC := Lib.hid hcr; clear hcr
    by_cases hlt : j < n
    · obtain ⟨ys, hown, hu, hb⟩ := HC.out
      obtain ⟨g, off, u, rfl, hgl, hxu, hcx⟩ := HX.out.at_ hlt
      obtain ⟨s, hxs, rfl⟩ := V_at hxu
      have hgw : g < w.heap.size := Nat.lt_of_lt_of_le hgl HX.out.2.1
      have hcx' : wr.cell? ⟨g, off + j, none⟩ = some (.int .i64 s) := by rw [hb.cell (p := ⟨g, off + j, none⟩) hgw]; exact hcx
      have hly : ys.length = n := by simpa using hown.1
      have hcy : wr.cell? ⟨w.heap.size, j, none⟩ = some (ys.getD j undef) := by
        rw [hown.cellAt j (by omega), List.getElem?_eq_getElem (by omega)]; simp [List.getD, List.getElem?_eq_getElem (show j < ys.length by omega)]
      have hfy := hown.frozenAt j
      have HOW := Lib.hid hown; have HU := Lib.hid hu; have HBB := Lib.hid hb; have HXU := Lib.hid hxu; have HLY := Lib.hid hly
      clear hown hu hb hxu hxs hcx HC hly
      go_wp2
      go_roundw
      case rel => exact ⟨j + 1, by omega, by go_num, _, (HOW.out.stored j (.int .i64 s)).1, HU.out.step (by rw [HLY.out]; exact hlt) HXU.out, HBB.out.setCell (Nat.le_refl _) _⟩
      case measure => simp [intOf]; omega
    · obtain rfl : j = n := by omega
      go_wp2
      go_ret
      obtain ⟨ys, hown, hu, hb⟩ := HC.out
      refine ⟨rfl, ?_, hb⟩
      rw [← hu.all (by simpa using hown.1) LX.out]
      exact hown
end Go.Proofs.Ytgcnemkhppkkcaa.ints
