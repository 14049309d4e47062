import Derived.Test.YtgcnemkhppkkcaaU03
import Derived.Test.YtgcnemkhppkkcaaProg
import Derived.KernelRfl
import Derived.Test.YtgcnemkhppkkcaaRows
import Derived.WalkKit
import Derived.ProofKit
import Derived.OpenShut
import Derived.ShutString
import Derived.Laws.RangeAny
import Derived.Lib.Hide
import Derived.Below
import Derived.Deep.QuietTactic
import Derived.BigQuiet
import Derived.Deep.RegionHeld3
import Derived.Deep.AppendLies
import Derived.Outline
import Derived.Laws.Rows
import Derived.Deep.WholeRow
import Derived.Lib.SmallJoins


namespace Go.Proofs.Ytgcnemkhppkkcaa.sqp
open Go sq
set_option linter.unusedVariables false
set_option linter.defProp false
set_option maxRecDepth 100000
noncomputable def fOrb : Func := { Try.f37 with body := Try.f37.body.map (mapC (seqO 6)) }
noncomputable def fClo : Func := { Try.f94 with body := Try.f94.body.map (mapC (seqO 0)) }
noncomputable def fSnd : Func := { name := "snd", origin := "", params := #[], resultTypes := #[], nfree := 0, ntmps := 5, results := #[], body := some (sendC 65 55 65), norace := false, tmpNames := #[] }
noncomputable def fGo : Func := { name := "go", origin := "", params := #[], resultTypes := #[], nfree := 0, ntmps := 5, results := #[], body := some (goC 62 90 62 103), norace := false, tmpNames := #[] }
noncomputable def funcs : Array Func := #[Try.f0, Try.f1, Try.f2, Try.f3, Try.f4, Try.f5, Try.f6, Try.f7, Try.f8, Try.f9, Try.f10, Try.f11, Try.f12, Try.f13, Try.f14, Try.f15, Try.f16, Try.f17, Try.f18, Try.f19, Try.f20, Try.f21, Try.f22, Try.f23, Try.f24, Try.f25, Try.f26, Try.f27, Try.f28, Try.f29, Try.f30, Try.f31, Try.f32, Try.f33, Try.f34, Try.f35, Try.f36, fOrb, Try.f38, Try.f39, Try.f40, Try.f41, Try.f42, Try.f43, Try.f44, Try.f45, Try.f46, Try.f47, Try.f48, Try.f49, Try.f50, Try.f51, Try.f52, Try.f53, Try.f54, Try.f55, Try.f56, Try.f57, Try.f58, Try.f59, Try.f60, Try.f61, Try.f62, Try.f63, Try.f64, Try.f65, Try.f66, Try.f67, Try.f68, Try.f69, Try.f70, Try.f71, Try.f72, Try.f73, Try.f74, Try.f75, Try.f76, Try.f77, Try.f78, Try.f79, Try.f80, Try.f81, Try.f82, Try.f83, Try.f84, Try.f85, Try.f86, Try.f87, Try.f88, Try.f89, Try.f90, Try.f91, Try.f92, Try.f93, fClo, Try.f95, Try.f96, Try.f97, Try.f98, Try.f99, Try.f100, Try.f101, Try.f102, Try.f103, Try.f104, Try.f105, Try.f106, Try.f107, Try.f108, Try.f109, Try.f110, Try.f111, Try.f112, Try.f113, Try.f114, Try.f115, Try.f116, Try.f117, Try.f118, Try.f119, Try.f120, Try.f121, Try.f122, Try.f123, Try.f124, Try.f125, Try.f126, Try.f127, Try.f128, Try.f129, Try.f130, Try.f131, Try.f132, Try.f133, Try.f134, Try.f135, Try.f136, Try.f137, Try.f138, Try.f139, Try.f140, Try.f141, Try.f142, Try.f143, Try.f144, Try.f145, Try.f146, Try.f147, Try.f148, Try.f149, Try.f150, Try.f151, Try.f152, Try.f153, Try.f154, Try.f155, Try.f156, Try.f157, Try.f158, Try.f159, Try.f160, Try.f161, fSnd, fGo]
noncomputable def prog : Program := { toTables := { Try.progTables with globals := #[] }, funcs }
theorem twin : sq.Twin Try.prog prog := ⟨fun t => by kernel_rfl, by kernel_rfl, by kernel_rfl, fun d => by kernel_rfl⟩
theorem guard_eq (i : TypeId) : prog.eqGuardType prog.depth i = Try.prog.eqGuardType Try.prog.depth i := by kernel_rfl
theorem tr_und {i : TypeId} {d : Option TypeDesc} (h : Program.underlying Try.prog i = d) : Program.underlying prog i = d := (twin.und i).trans h
theorem tr_size {i : TypeId} {x : Nat} (h : ∀ w, Sem.run Try.prog (sizeOf i) w = .ok x w) (w : World) : Sem.run prog (sizeOf i) w = .ok x w := (twin.sizeOf i w).trans (h w)
theorem tr_rund {i : TypeId} {x : TypeDesc} (h : ∀ w, Sem.run Try.prog (underlying i) w = .ok x w) (w : World) : Sem.run prog (underlying i) w = .ok x w := (twin.runUnd i w).trans (h w)
theorem tr_agg {i : TypeId} {x : Bool} (h : ∀ w, Sem.run Try.prog (isAgg i) w = .ok x w) (w : World) : Sem.run prog (isAgg i) w = .ok x w := (twin.agg i w).trans (h w)
theorem tr_zero {i : TypeId} {x : Value} (h : ∀ w, Sem.run Try.prog (zeroValue i) w = .ok x w) (w : World) : Sem.run prog (zeroValue i) w = .ok x w := (twin.zero i w).trans (h w)
def sizeOf3 := tr_size Try.sizeOf3
def sizeOf4 := tr_size Try.sizeOf4
def sizeOf5 := tr_size Try.sizeOf5
def sizeOf9 := tr_size Try.sizeOf9
def sizeOf22 := tr_size Try.sizeOf22
def sizeOf23 := tr_size Try.sizeOf23
def sizeOf25 := tr_size Try.sizeOf25
def sizeOf60 := tr_size Try.sizeOf60
def sizeOf62 := tr_size Try.sizeOf62
def sizeOf63 := tr_size Try.sizeOf63
def sizeOf65 := tr_size Try.sizeOf65
def sizeOf134 := tr_size Try.sizeOf134
def underlying3 := tr_und Try.underlying3
def underlying4 := tr_und Try.underlying4
def underlying5 := tr_und Try.underlying5
def underlying9 := tr_und Try.underlying9
def underlying22 := tr_und Try.underlying22
def underlying23 := tr_und Try.underlying23
def underlying25 := tr_und Try.underlying25
def underlying27 := tr_und Try.underlying27
def underlying55 := tr_und Try.underlying55
def underlying56 := tr_und Try.underlying56
def underlying60 := tr_und Try.underlying60
def underlying62 := tr_und Try.underlying62
def underlying63 := tr_und Try.underlying63
def underlying65 := tr_und Try.underlying65
def underlying70 := tr_und Try.underlying70
def underlying77 := tr_und Try.underlying77
def underlying81 := tr_und Try.underlying81
def underlying89 := tr_und Try.underlying89
def underlying90 := tr_und Try.underlying90
def underlying103 := tr_und Try.underlying103
def underlying131 := tr_und Try.underlying131
def underlying135 := tr_und Try.underlying135
def underlying140 := tr_und Try.underlying140
def underlying141 := tr_und Try.underlying141
def runUnderlying22 := tr_rund Try.runUnderlying22
def runUnderlying23 := tr_rund Try.runUnderlying23
def runUnderlying25 := tr_rund Try.runUnderlying25
def runUnderlying27 := tr_rund Try.runUnderlying27
def runUnderlying60 := tr_rund Try.runUnderlying60
def runUnderlying62 := tr_rund Try.runUnderlying62
def runUnderlying65 := tr_rund Try.runUnderlying65
def runUnderlying70 := tr_rund Try.runUnderlying70
def runUnderlying81 := tr_rund Try.runUnderlying81
def runUnderlying102 := tr_rund Try.runUnderlying102
def runUnderlying135 := tr_rund Try.runUnderlying135
def runUnderlying141 := tr_rund Try.runUnderlying141
def isAgg3 := tr_agg Try.isAgg3
def isAgg4 := tr_agg Try.isAgg4
def isAgg5 := tr_agg Try.isAgg5
def isAgg9 := tr_agg Try.isAgg9
def isAgg22 := tr_agg Try.isAgg22
def isAgg23 := tr_agg Try.isAgg23
def isAgg25 := tr_agg Try.isAgg25
def isAgg62 := tr_agg Try.isAgg62
def isAgg63 := tr_agg Try.isAgg63
def isAgg134 := tr_agg Try.isAgg134
def zeroValue3 := tr_zero Try.zeroValue3
def zeroValue5 := tr_zero Try.zeroValue5
def zeroValue9 := tr_zero Try.zeroValue9
def zeroValue25 := tr_zero Try.zeroValue25
def zeroValue60 := tr_zero Try.zeroValue60
def zeroValue62 := tr_zero Try.zeroValue62
def zeroValue63 := tr_zero Try.zeroValue63
def zeroValue65 := tr_zero Try.zeroValue65
def zeroValue89 := tr_zero Try.zeroValue89
def zeroValue90 := tr_zero Try.zeroValue90
def zeroValue102 := tr_zero Try.zeroValue102
def zeroValue135 := tr_zero Try.zeroValue135
def zeroValue140 := tr_zero Try.zeroValue140
def zeroValue141 := tr_zero Try.zeroValue141
theorem func3 : prog.funcs[3]? = some Try.f3 := by kernel_rfl
def ntmps3 := Try.ntmps3
theorem func8 : prog.funcs[8]? = some Try.f8 := by kernel_rfl
def ntmps8 := Try.ntmps8
theorem call8 (args : Array Value) (w : World) : Sem.run prog (callFunc 8 args) w = .ok (.enter 8 args) w := by kernel_rfl
theorem func9 : prog.funcs[9]? = some Try.f9 := by kernel_rfl
def ntmps9 := Try.ntmps9
theorem call9 (args : Array Value) (w : World) : Sem.run prog (callFunc 9 args) w = .ok (.enter 9 args) w := by kernel_rfl
theorem func10 : prog.funcs[10]? = some Try.f10 := by kernel_rfl
def ntmps10 := Try.ntmps10
theorem call10 (args : Array Value) (w : World) : Sem.run prog (callFunc 10 args) w = .ok (.enter 10 args) w := by kernel_rfl
theorem func11 : prog.funcs[11]? = some Try.f11 := by kernel_rfl
def ntmps11 := Try.ntmps11
theorem call11 (args : Array Value) (w : World) : Sem.run prog (callFunc 11 args) w = .ok (.enter 11 args) w := by kernel_rfl
theorem func12 : prog.funcs[12]? = some Try.f12 := by kernel_rfl
def ntmps12 := Try.ntmps12
theorem call12 (args : Array Value) (w : World) : Sem.run prog (callFunc 12 args) w = .ok (.enter 12 args) w := by kernel_rfl
theorem func13 : prog.funcs[13]? = some Try.f13 := by kernel_rfl
def ntmps13 := Try.ntmps13
theorem call13 (args : Array Value) (w : World) : Sem.run prog (callFunc 13 args) w = .ok (.enter 13 args) w := by kernel_rfl
theorem func14 : prog.funcs[14]? = some Try.f14 := by kernel_rfl
def ntmps14 := Try.ntmps14
theorem call14 (args : Array Value) (w : World) : Sem.run prog (callFunc 14 args) w = .ok (.enter 14 args) w := by kernel_rfl
theorem func15 : prog.funcs[15]? = some Try.f15 := by kernel_rfl
def ntmps15 := Try.ntmps15
theorem call15 (args : Array Value) (w : World) : Sem.run prog (callFunc 15 args) w = .ok (.enter 15 args) w := by kernel_rfl
theorem func16 : prog.funcs[16]? = some Try.f16 := by kernel_rfl
def ntmps16 := Try.ntmps16
theorem call16 (args : Array Value) (w : World) : Sem.run prog (callFunc 16 args) w = .ok (.enter 16 args) w := by kernel_rfl
theorem func17 : prog.funcs[17]? = some Try.f17 := by kernel_rfl
def ntmps17 := Try.ntmps17
theorem call17 (args : Array Value) (w : World) : Sem.run prog (callFunc 17 args) w = .ok (.enter 17 args) w := by kernel_rfl
theorem func18 : prog.funcs[18]? = some Try.f18 := by kernel_rfl
def ntmps18 := Try.ntmps18
theorem call18 (args : Array Value) (w : World) : Sem.run prog (callFunc 18 args) w = .ok (.enter 18 args) w := by kernel_rfl
theorem func35 : prog.funcs[35]? = some Try.f35 := by kernel_rfl
def ntmps35 := Try.ntmps35
theorem call35 (args : Array Value) (w : World) : Sem.run prog (callFunc 35 args) w = .ok (.enter 35 args) w := by kernel_rfl
theorem func36 : prog.funcs[36]? = some Try.f36 := by kernel_rfl
def ntmps36 := Try.ntmps36
theorem call36 (args : Array Value) (w : World) : Sem.run prog (callFunc 36 args) w = .ok (.enter 36 args) w := by kernel_rfl
theorem func37 : prog.funcs[37]? = some fOrb := by kernel_rfl
theorem tr_n37 {n : Nat} (h : Try.f37.ntmps = n) : fOrb.ntmps = n := h
def ntmps37 := tr_n37 Try.ntmps37
theorem call37 (args : Array Value) (w : World) : Sem.run prog (callFunc 37 args) w = .ok (.enter 37 args) w := by kernel_rfl
theorem func38 : prog.funcs[38]? = some Try.f38 := by kernel_rfl
def ntmps38 := Try.ntmps38
theorem call38 (args : Array Value) (w : World) : Sem.run prog (callFunc 38 args) w = .ok (.enter 38 args) w := by kernel_rfl
theorem func39 : prog.funcs[39]? = some Try.f39 := by kernel_rfl
def ntmps39 := Try.ntmps39
theorem call39 (args : Array Value) (w : World) : Sem.run prog (callFunc 39 args) w = .ok (.enter 39 args) w := by kernel_rfl
theorem func40 : prog.funcs[40]? = some Try.f40 := by kernel_rfl
def ntmps40 := Try.ntmps40
theorem call40 (args : Array Value) (w : World) : Sem.run prog (callFunc 40 args) w = .ok (.enter 40 args) w := by kernel_rfl
theorem func41 : prog.funcs[41]? = some Try.f41 := by kernel_rfl
def ntmps41 := Try.ntmps41
theorem call41 (args : Array Value) (w : World) : Sem.run prog (callFunc 41 args) w = .ok (.enter 41 args) w := by kernel_rfl
theorem func42 : prog.funcs[42]? = some Try.f42 := by kernel_rfl
def ntmps42 := Try.ntmps42
theorem call42 (args : Array Value) (w : World) : Sem.run prog (callFunc 42 args) w = .ok (.enter 42 args) w := by kernel_rfl
theorem func43 : prog.funcs[43]? = some Try.f43 := by kernel_rfl
def ntmps43 := Try.ntmps43
theorem call43 (args : Array Value) (w : World) : Sem.run prog (callFunc 43 args) w = .ok (.enter 43 args) w := by kernel_rfl
theorem func44 : prog.funcs[44]? = some Try.f44 := by kernel_rfl
def ntmps44 := Try.ntmps44
theorem call44 (args : Array Value) (w : World) : Sem.run prog (callFunc 44 args) w = .ok (.enter 44 args) w := by kernel_rfl
theorem func45 : prog.funcs[45]? = some Try.f45 := by kernel_rfl
def ntmps45 := Try.ntmps45
theorem call45 (args : Array Value) (w : World) : Sem.run prog (callFunc 45 args) w = .ok (.enter 45 args) w := by kernel_rfl
theorem func46 : prog.funcs[46]? = some Try.f46 := by kernel_rfl
def ntmps46 := Try.ntmps46
theorem call46 (args : Array Value) (w : World) : Sem.run prog (callFunc 46 args) w = .ok (.enter 46 args) w := by kernel_rfl
theorem func47 : prog.funcs[47]? = some Try.f47 := by kernel_rfl
def ntmps47 := Try.ntmps47
theorem call47 (args : Array Value) (w : World) : Sem.run prog (callFunc 47 args) w = .ok (.enter 47 args) w := by kernel_rfl
theorem func48 : prog.funcs[48]? = some Try.f48 := by kernel_rfl
def ntmps48 := Try.ntmps48
theorem call48 (args : Array Value) (w : World) : Sem.run prog (callFunc 48 args) w = .ok (.enter 48 args) w := by kernel_rfl
theorem func50 : prog.funcs[50]? = some Try.f50 := by kernel_rfl
def ntmps50 := Try.ntmps50
theorem call50 (args : Array Value) (w : World) : Sem.run prog (callFunc 50 args) w = .ok (.enter 50 args) w := by kernel_rfl
theorem func63 : prog.funcs[63]? = some Try.f63 := by kernel_rfl
def ntmps63 := Try.ntmps63
theorem call63 (args : Array Value) (w : World) : Sem.run prog (callFunc 63 args) w = .ok (.enter 63 args) w := by kernel_rfl
theorem func64 : prog.funcs[64]? = some Try.f64 := by kernel_rfl
def ntmps64 := Try.ntmps64
theorem call64 (args : Array Value) (w : World) : Sem.run prog (callFunc 64 args) w = .ok (.enter 64 args) w := by kernel_rfl
theorem func65 : prog.funcs[65]? = some Try.f65 := by kernel_rfl
def ntmps65 := Try.ntmps65
theorem call65 (args : Array Value) (w : World) : Sem.run prog (callFunc 65 args) w = .ok (.enter 65 args) w := by kernel_rfl
theorem func66 : prog.funcs[66]? = some Try.f66 := by kernel_rfl
def ntmps66 := Try.ntmps66
theorem func67 : prog.funcs[67]? = some Try.f67 := by kernel_rfl
def ntmps67 := Try.ntmps67
theorem call67 (args : Array Value) (w : World) : Sem.run prog (callFunc 67 args) w = .ok (.enter 67 args) w := by kernel_rfl
theorem func68 : prog.funcs[68]? = some Try.f68 := by kernel_rfl
def ntmps68 := Try.ntmps68
theorem call68 (args : Array Value) (w : World) : Sem.run prog (callFunc 68 args) w = .ok (.enter 68 args) w := by kernel_rfl
theorem func69 : prog.funcs[69]? = some Try.f69 := by kernel_rfl
def ntmps69 := Try.ntmps69
theorem call69 (args : Array Value) (w : World) : Sem.run prog (callFunc 69 args) w = .ok (.enter 69 args) w := by kernel_rfl
theorem func70 : prog.funcs[70]? = some Try.f70 := by kernel_rfl
def ntmps70 := Try.ntmps70
theorem call70 (args : Array Value) (w : World) : Sem.run prog (callFunc 70 args) w = .ok (.enter 70 args) w := by kernel_rfl
theorem func71 : prog.funcs[71]? = some Try.f71 := by kernel_rfl
def ntmps71 := Try.ntmps71
theorem call71 (args : Array Value) (w : World) : Sem.run prog (callFunc 71 args) w = .ok (.enter 71 args) w := by kernel_rfl
theorem func72 : prog.funcs[72]? = some Try.f72 := by kernel_rfl
def ntmps72 := Try.ntmps72
theorem call72 (args : Array Value) (w : World) : Sem.run prog (callFunc 72 args) w = .ok (.enter 72 args) w := by kernel_rfl
theorem func73 : prog.funcs[73]? = some Try.f73 := by kernel_rfl
def ntmps73 := Try.ntmps73
theorem call73 (args : Array Value) (w : World) : Sem.run prog (callFunc 73 args) w = .ok (.enter 73 args) w := by kernel_rfl
theorem func74 : prog.funcs[74]? = some Try.f74 := by kernel_rfl
def ntmps74 := Try.ntmps74
theorem call74 (args : Array Value) (w : World) : Sem.run prog (callFunc 74 args) w = .ok (.enter 74 args) w := by kernel_rfl
theorem func75 : prog.funcs[75]? = some Try.f75 := by kernel_rfl
def ntmps75 := Try.ntmps75
theorem call75 (args : Array Value) (w : World) : Sem.run prog (callFunc 75 args) w = .ok (.enter 75 args) w := by kernel_rfl
theorem func76 : prog.funcs[76]? = some Try.f76 := by kernel_rfl
def ntmps76 := Try.ntmps76
theorem call76 (args : Array Value) (w : World) : Sem.run prog (callFunc 76 args) w = .ok (.enter 76 args) w := by kernel_rfl
theorem func77 : prog.funcs[77]? = some Try.f77 := by kernel_rfl
def ntmps77 := Try.ntmps77
theorem call77 (args : Array Value) (w : World) : Sem.run prog (callFunc 77 args) w = .ok (.enter 77 args) w := by kernel_rfl
theorem func78 : prog.funcs[78]? = some Try.f78 := by kernel_rfl
def ntmps78 := Try.ntmps78
theorem call78 (args : Array Value) (w : World) : Sem.run prog (callFunc 78 args) w = .ok (.enter 78 args) w := by kernel_rfl
theorem func79 : prog.funcs[79]? = some Try.f79 := by kernel_rfl
def ntmps79 := Try.ntmps79
theorem call79 (args : Array Value) (w : World) : Sem.run prog (callFunc 79 args) w = .ok (.enter 79 args) w := by kernel_rfl
theorem func80 : prog.funcs[80]? = some Try.f80 := by kernel_rfl
def ntmps80 := Try.ntmps80
theorem call80 (args : Array Value) (w : World) : Sem.run prog (callFunc 80 args) w = .ok (.enter 80 args) w := by kernel_rfl
theorem func81 : prog.funcs[81]? = some Try.f81 := by kernel_rfl
def ntmps81 := Try.ntmps81
theorem call81 (args : Array Value) (w : World) : Sem.run prog (callFunc 81 args) w = .ok (.enter 81 args) w := by kernel_rfl
theorem func83 : prog.funcs[83]? = some Try.f83 := by kernel_rfl
def ntmps83 := Try.ntmps83
theorem func92 : prog.funcs[92]? = some Try.f92 := by kernel_rfl
def ntmps92 := Try.ntmps92
theorem call92 (args : Array Value) (w : World) : Sem.run prog (callFunc 92 args) w = .ok (.enter 92 args) w := by kernel_rfl
theorem func93 : prog.funcs[93]? = some Try.f93 := by kernel_rfl
def ntmps93 := Try.ntmps93
theorem call93 (args : Array Value) (w : World) : Sem.run prog (callFunc 93 args) w = .ok (.enter 93 args) w := by kernel_rfl
theorem func94 : prog.funcs[94]? = some fClo := by kernel_rfl
theorem tr_n94 {n : Nat} (h : Try.f94.ntmps = n) : fClo.ntmps = n := h
def ntmps94 := tr_n94 Try.ntmps94
theorem call94 (args : Array Value) (w : World) : Sem.run prog (callFunc 94 args) w = .ok (.enter 94 args) w := by kernel_rfl
theorem func95 : prog.funcs[95]? = some Try.f95 := by kernel_rfl
def ntmps95 := Try.ntmps95
theorem call95 (args : Array Value) (w : World) : Sem.run prog (callFunc 95 args) w = .ok (.enter 95 args) w := by kernel_rfl
theorem func96 : prog.funcs[96]? = some Try.f96 := by kernel_rfl
def ntmps96 := Try.ntmps96
theorem call96 (args : Array Value) (w : World) : Sem.run prog (callFunc 96 args) w = .ok (.enter 96 args) w := by kernel_rfl
theorem func97 : prog.funcs[97]? = some Try.f97 := by kernel_rfl
def ntmps97 := Try.ntmps97
theorem call97 (args : Array Value) (w : World) : Sem.run prog (callFunc 97 args) w = .ok (.enter 97 args) w := by kernel_rfl
theorem func98 : prog.funcs[98]? = some Try.f98 := by kernel_rfl
def ntmps98 := Try.ntmps98
theorem call98 (args : Array Value) (w : World) : Sem.run prog (callFunc 98 args) w = .ok (.enter 98 args) w := by kernel_rfl
theorem func99 : prog.funcs[99]? = some Try.f99 := by kernel_rfl
def ntmps99 := Try.ntmps99
theorem call99 (args : Array Value) (w : World) : Sem.run prog (callFunc 99 args) w = .ok (.enter 99 args) w := by kernel_rfl
theorem func100 : prog.funcs[100]? = some Try.f100 := by kernel_rfl
def ntmps100 := Try.ntmps100
theorem call100 (args : Array Value) (w : World) : Sem.run prog (callFunc 100 args) w = .ok (.enter 100 args) w := by kernel_rfl
theorem func101 : prog.funcs[101]? = some Try.f101 := by kernel_rfl
def ntmps101 := Try.ntmps101
theorem call101 (args : Array Value) (w : World) : Sem.run prog (callFunc 101 args) w = .ok (.enter 101 args) w := by kernel_rfl
theorem func102 : prog.funcs[102]? = some Try.f102 := by kernel_rfl
def ntmps102 := Try.ntmps102
theorem call102 (args : Array Value) (w : World) : Sem.run prog (callFunc 102 args) w = .ok (.enter 102 args) w := by kernel_rfl
theorem func103 : prog.funcs[103]? = some Try.f103 := by kernel_rfl
def ntmps103 := Try.ntmps103
theorem call103 (args : Array Value) (w : World) : Sem.run prog (callFunc 103 args) w = .ok (.enter 103 args) w := by kernel_rfl
theorem func104 : prog.funcs[104]? = some Try.f104 := by kernel_rfl
def ntmps104 := Try.ntmps104
theorem call104 (args : Array Value) (w : World) : Sem.run prog (callFunc 104 args) w = .ok (.enter 104 args) w := by kernel_rfl
theorem func105 : prog.funcs[105]? = some Try.f105 := by kernel_rfl
def ntmps105 := Try.ntmps105
theorem call105 (args : Array Value) (w : World) : Sem.run prog (callFunc 105 args) w = .ok (.enter 105 args) w := by kernel_rfl
theorem func109 : prog.funcs[109]? = some Try.f109 := by kernel_rfl
def ntmps109 := Try.ntmps109
theorem func113 : prog.funcs[113]? = some Try.f113 := by kernel_rfl
def ntmps113 := Try.ntmps113
theorem func128 : prog.funcs[128]? = some Try.f128 := by kernel_rfl
theorem func129 : prog.funcs[129]? = some Try.f129 := by kernel_rfl
def ntmps129 := Try.ntmps129
theorem func130 : prog.funcs[130]? = some Try.f130 := by kernel_rfl
def ntmps130 := Try.ntmps130
theorem func131 : prog.funcs[131]? = some Try.f131 := by kernel_rfl
def ntmps131 := Try.ntmps131
theorem func132 : prog.funcs[132]? = some Try.f132 := by kernel_rfl
def ntmps132 := Try.ntmps132
theorem func133 : prog.funcs[133]? = some Try.f133 := by kernel_rfl
def ntmps133 := Try.ntmps133
theorem call133 (args : Array Value) (w : World) : Sem.run prog (callFunc 133 args) w = .ok (.enter 133 args) w := by kernel_rfl
theorem func134 : prog.funcs[134]? = some Try.f134 := by kernel_rfl
def ntmps134 := Try.ntmps134
theorem call134 (args : Array Value) (w : World) : Sem.run prog (callFunc 134 args) w = .ok (.enter 134 args) w := by kernel_rfl
theorem func135 : prog.funcs[135]? = some Try.f135 := by kernel_rfl
def ntmps135 := Try.ntmps135
theorem call135 (args : Array Value) (w : World) : Sem.run prog (callFunc 135 args) w = .ok (.enter 135 args) w := by kernel_rfl
theorem func141 : prog.funcs[141]? = some Try.f141 := by kernel_rfl
def ntmps141 := Try.ntmps141
theorem call141 (args : Array Value) (w : World) : Sem.run prog (callFunc 141 args) w = .ok (.enter 141 args) w := by kernel_rfl
theorem func162 : prog.funcs[162]? = some fSnd := by kernel_rfl
theorem results162 : fSnd.results = #[] := by kernel_rfl
theorem func163 : prog.funcs[163]? = some fGo := by kernel_rfl
theorem results163 : fGo.results = #[] := by kernel_rfl
theorem funcSnd : prog.funcs[sq.nfn]? = some fSnd := by kernel_rfl
theorem funcGo : prog.funcs[sq.nfn + 1]? = some fGo := by kernel_rfl
theorem ntmpsSnd : fSnd.ntmps = 5 := by kernel_rfl
theorem ntmpsGo : fGo.ntmps = 5 := by kernel_rfl
attribute [simp] sizeOf3 sizeOf4 sizeOf5 sizeOf9
attribute [simp] sizeOf22 sizeOf23 sizeOf25
attribute [simp] sizeOf60 sizeOf62 sizeOf63 sizeOf65
attribute [simp] sizeOf134
attribute [simp] underlying3 underlying4 underlying5 underlying9
attribute [simp] underlying22 underlying23 underlying25 underlying27 underlying55 underlying56
attribute [simp] underlying60 underlying62 underlying63 underlying65 underlying70 underlying77 underlying81 underlying89 underlying90
attribute [simp] underlying103 underlying131 underlying135
attribute [simp] underlying140 underlying141
attribute [simp] runUnderlying22 runUnderlying23
attribute [simp] runUnderlying25 runUnderlying27 runUnderlying60 runUnderlying62
attribute [simp] runUnderlying65 runUnderlying70 runUnderlying81 runUnderlying102
attribute [simp] runUnderlying135 runUnderlying141
attribute [simp] isAgg3 isAgg4 isAgg5 isAgg9 isAgg22 isAgg23 isAgg25
attribute [simp] isAgg62 isAgg63
attribute [simp] isAgg134
attribute [simp] zeroValue3 zeroValue5 zeroValue9 zeroValue25
attribute [simp] zeroValue60 zeroValue62 zeroValue63 zeroValue65
attribute [simp] zeroValue89 zeroValue90 zeroValue102
attribute [simp] zeroValue135 zeroValue140 zeroValue141
attribute [simp] func3 func8 call8 func9 call9 func10 call10 func11 call11 func12 call12
attribute [simp] func13 call13 func14 call14 func15 call15 func16 call16 func17 call17 func18 call18
attribute [simp] func35 call35 func36 call36 func37 ntmps37 call37 func38 call38 func39 call39 func40 call40 func41 call41 func42 call42 func43 call43 func44 call44 func45 call45 func46 call46 func47 call47 func48 call48 func50 call50
attribute [simp] func63 call63 func64 call64 func65 call65 func66 func67 call67 func68 call68 func69 call69 func70 call70 func71 call71
attribute [simp] func72 call72 func73 call73 func74 call74 func75 call75 func76 call76 func77 call77 func78 call78 func79 call79 func80 call80 func81 call81 func83
attribute [simp] func92 call92 func93 call93 func94 ntmps94 call94 func95 call95 func96 call96 func97 call97 func98 call98 func99 call99 func100 call100 func101 call101 func102 call102 func103 call103 func104 call104 func105 call105 func109
attribute [simp] func113 func128 func129 func130 func131
attribute [simp] func132 func133 call133 func134 call134 func135 call135 func141 call141
attribute [simp] func162 results162 func163 results163
end Go.Proofs.Ytgcnemkhppkkcaa.sqp

namespace Go.Proofs.Ytgcnemkhppkkcaa.mem
open Go.ChangeShapes Go.WideShapes Go.ChangeAt Go.RowKit
set_option linter.unusedVariables false
set_option maxRecDepth 100000
theorem ret_bool {a b : Bool} (h : a = b) : Ending.returned (.bool a) = .returned (.bool b) := by rw [h]
theorem ret_int {k : IntKind} {a b : Int} (h : a = b) : Ending.returned (.int k a) = .returned (.int k b) := by rw [h]
def Row (w : World) (lo hi : Nat) (A : Option Addr) (n : Nat) (xs : List Value) : Prop :=
  xs.length = n ∧ hi ≤ w.heap.size ∧ (0 < n → ∃ g off, A = some ⟨g, off, none⟩ ∧ lo ≤ g ∧ g < hi ∧ ∀ j, j < n → w.cell? ⟨g, off + j, none⟩ = xs[j]? ∧ w.frozen? ⟨g, off + j, none⟩ = false)
theorem Row.at_ {w : World} {lo hi n k : Nat} {A : Option Addr} {xs : List Value} (h : Row w lo hi A n xs) (hk : k < n) :
    ∃ g off u, A = some ⟨g, off, none⟩ ∧ lo ≤ g ∧ g < hi ∧ xs[k]? = some u ∧ w.cell? ⟨g, off + k, none⟩ = some u ∧ w.frozen? ⟨g, off + k, none⟩ = false := by
  obtain ⟨g, off, e, hb, hlt, hc⟩ := h.2.2 (by omega)
  have hl : k < xs.length := by have := h.1; omega
  obtain ⟨h1, h2⟩ := hc k hk
  exact ⟨g, off, xs[k], e, hb, hlt, List.getElem?_eq_getElem hl, by rw [h1, List.getElem?_eq_getElem hl], h2⟩
structure Out (lo hi : Nat) (w w' : World) : Prop where
  os : w'.os = w.os
  tape : w'.tape = w.tape
  output : w'.output = w.output
  size : w.heap.size ≤ w'.heap.size
  block : ∀ k, k < w.heap.size → k < lo ∨ hi ≤ k → w'.heap[k]? = w.heap[k]?
theorem Out.refl (lo hi : Nat) (w : World) : Out lo hi w w := ⟨rfl, rfl, rfl, Nat.le_refl _, fun _ _ _ => rfl⟩
theorem Out.trans {lo hi : Nat} {a b c : World} (h : Out lo hi a b) (k : Out lo hi b c) : Out lo hi a c :=
  ⟨k.os.trans h.os, k.tape.trans h.tape, k.output.trans h.output, Nat.le_trans h.size k.size, fun i hi hne => (k.block i (Nat.lt_of_lt_of_le hi h.size) hne).trans (h.block i hi hne)⟩
theorem Out.of_below {lo hi : Nat} {w w' : World} (hb : Below w.heap.size w w') : Out lo hi w w' :=
  ⟨hb.os, hb.tape, hb.output, hb.size, fun k hk _ => hb.block k hk⟩
theorem Out.set_ {lo hi g off : Nat} {w w' : World} (h : Out lo hi w w') (h1 : lo ≤ g) (h2 : g < hi) (u : Value) : Out lo hi w (w'.setCell ⟨g, off, none⟩ u) :=
  ⟨h.os, h.tape, h.output, by simpa [World.setCell] using h.size, fun j hj hne => (Below.heap_setCell _ _ _ _ (by intro e; have e2 : j = g := e; omega)).trans (h.block j hj hne)⟩
theorem Out.below {lo hi B : Nat} {w w' : World} (h : Out lo hi w w') (h1 : B ≤ lo) (h2 : B ≤ w.heap.size) : Below B w w' :=
  ⟨h.os, h.tape, h.output, h.size, fun k hk => h.block k (by omega) (.inl (by omega))⟩
theorem Out.drewN {lo hi : Nat} {w w' : World} (h : Out lo hi w w') (n : Nat) : Out lo hi w (w'.drewN n) := ⟨h.os, h.tape, h.output, h.size, h.block⟩
theorem Row.out {w w' : World} {lo hi lo' hi' n : Nat} {A : Option Addr} {xs : List Value} (h : Row w lo hi A n xs) (ho : Out lo' hi' w w') (hd : hi ≤ lo' ∨ hi' ≤ lo) : Row w' lo hi A n xs := by
  refine ⟨h.1, Nat.le_trans h.2.1 ho.size, fun hn => ?_⟩
  obtain ⟨g, off, e, hg, hlt, hc⟩ := h.2.2 hn
  have hs := h.2.1
  have hblk : w'.heap[g]? = w.heap[g]? := ho.block g (by omega) (by omega)
  refine ⟨g, off, e, hg, hlt, fun j hj => ?_⟩
  rw [World.cell?_of_block (w := w) (a := ⟨g, off + j, none⟩) hblk, World.frozen?_of_block (w := w) (a := ⟨g, off + j, none⟩) hblk]
  exact hc j hj
theorem Row.keep {w w' : World} {lo hi n B : Nat} {A : Option Addr} {xs : List Value} (h : Row w lo hi A n xs) (hb : Below B w w') (hB : hi ≤ B) : Row w' lo hi A n xs := by
  refine ⟨h.1, Nat.le_trans h.2.1 hb.size, fun hn => ?_⟩
  obtain ⟨g, off, e, hg, hlt, hc⟩ := h.2.2 hn
  have hblk : w'.heap[g]? = w.heap[g]? := hb.block g (by omega)
  refine ⟨g, off, e, hg, hlt, fun j hj => ?_⟩
  rw [World.cell?_of_block (w := w) (a := ⟨g, off + j, none⟩) hblk, World.frozen?_of_block (w := w) (a := ⟨g, off + j, none⟩) hblk]
  exact hc j hj
theorem below_drewN {B : Nat} {a w : World} (h : Below B a w) (n : Nat) : Below B a (w.drewN n) := ⟨h.os, h.tape, h.output, h.size, h.block⟩
theorem Row.of_own {w : World} {base : Nat} {e : TypeId} {A : Option Addr} {n c : Nat} {xs : List Value} (h : w.ownsRow base e 1 (.slice A n c) n xs) : Row w base w.heap.size A n xs := by
  refine ⟨by simpa using h.1, Nat.le_refl _, fun hn => ?_⟩
  have hlen := h.1
  rcases h.2 with ⟨hv, h0⟩ | ⟨g, cap, cur, hv, hb, hh, r⟩
  · omega
  · injection hv with hA hn' hc'
    subst hA; subst hc'
    have hlt : g < w.heap.size := by
      rcases Nat.lt_or_ge g w.heap.size with hlt | hge
      · exact hlt
      · rw [Array.getElem?_eq_none hge] at hh; cases hh
    refine ⟨g, 0, rfl, hb, hlt, fun j hj => ?_⟩
    rw [Nat.zero_add]
    exact ⟨h.cellAt j (by omega), h.frozenAt j⟩
theorem Row.set_ {w : World} {lo hi n k g off : Nat} {xs : List Value} (h : Row w lo hi (some ⟨g, off, none⟩) n xs) (hk : k < n) (u : Value) :
    Row (w.setCell ⟨g, off + k, none⟩ u) lo hi (some ⟨g, off, none⟩) n (xs.set k u) := by
  refine ⟨by rw [List.length_set]; exact h.1, by simpa [World.setCell] using h.2.1, fun hn => ?_⟩
  obtain ⟨g', off', e, hg, hlt, hc⟩ := h.2.2 hn
  injection e with e; injection e with e1 e2; subst e1; subst e2
  refine ⟨g, off, rfl, hg, hlt, fun j hj => ?_⟩
  have hl := h.1
  rw [World.frozen?_setCell]
  refine ⟨?_, (hc j hj).2⟩
  by_cases e : j = k
  · subst e
    rw [World.cell?_setCell_same' w _ u (by rw [(hc j hj).1, List.getElem?_eq_getElem (by omega)]; rfl), List.getElem?_set_self (by omega)]
  · rw [World.cell?_setCell_other w _ _ u (by intro q; injection q with _ q; omega), List.getElem?_set_ne (by omega)]
    exact (hc j hj).1
def Rd (w : World) (hi : Nat) (A : Option Addr) (n : Nat) (xs : List Value) : Prop :=
  xs.length = n ∧ hi ≤ w.heap.size ∧ (0 < n → ∃ g off, A = some ⟨g, off, none⟩ ∧ g < hi ∧ ∀ j, j < n → w.cell? ⟨g, off + j, none⟩ = xs[j]?)
theorem Row.rd {w : World} {lo hi n : Nat} {A : Option Addr} {xs : List Value} (h : Row w lo hi A n xs) : Rd w hi A n xs :=
  ⟨h.1, h.2.1, fun hn => by
    obtain ⟨g, off, e, hg, hlt, hc⟩ := h.2.2 hn
    exact ⟨g, off, e, hlt, fun j hj => (hc j hj).1⟩⟩
theorem Rd.at_ {w : World} {hi n k : Nat} {A : Option Addr} {xs : List Value} (h : Rd w hi A n xs) (hk : k < n) :
    ∃ g off u, A = some ⟨g, off, none⟩ ∧ g < hi ∧ xs[k]? = some u ∧ w.cell? ⟨g, off + k, none⟩ = some u := by
  obtain ⟨g, off, e, hlt, hc⟩ := h.2.2 (by omega)
  have hl : k < xs.length := by have := h.1; omega
  exact ⟨g, off, xs[k], e, hlt, List.getElem?_eq_getElem hl, by rw [hc k hk, List.getElem?_eq_getElem hl]⟩
theorem Rd.keep {w w' : World} {hi n B : Nat} {A : Option Addr} {xs : List Value} (h : Rd w hi A n xs) (hb : Below B w w') (hB : hi ≤ B) : Rd w' hi A n xs := by
  refine ⟨h.1, Nat.le_trans h.2.1 hb.size, fun hn => ?_⟩
  obtain ⟨g, off, e, hlt, hc⟩ := h.2.2 hn
  have hblk : w'.heap[g]? = w.heap[g]? := hb.block g (by omega)
  refine ⟨g, off, e, hlt, fun j hj => ?_⟩
  rw [World.cell?_of_block (w := w) (a := ⟨g, off + j, none⟩) hblk]
  exact hc j hj
theorem Rd.out {w w' : World} {hi lo' hi' n : Nat} {A : Option Addr} {xs : List Value} (h : Rd w hi A n xs) (ho : Out lo' hi' w w') (hd : hi ≤ lo' ∨ hi' ≤ 0) : Rd w' hi A n xs := by
  refine ⟨h.1, Nat.le_trans h.2.1 ho.size, fun hn => ?_⟩
  obtain ⟨g, off, e, hlt, hc⟩ := h.2.2 hn
  have hs := h.2.1
  have hblk : w'.heap[g]? = w.heap[g]? := ho.block g (by omega) (by omega)
  refine ⟨g, off, e, hlt, fun j hj => ?_⟩
  rw [World.cell?_of_block (w := w) (a := ⟨g, off + j, none⟩) hblk]
  exact hc j hj
theorem Rd.of_cells {w : World} {a : Addr} {n : Nat} {xs : List Value} (hl : xs.length = n) (h : ∀ i, i < n → w.cell? (a.add i) = xs[i]?) : Rd w w.heap.size (some a) n xs := by
  refine ⟨hl, Nat.le_refl _, fun hn => ?_⟩
  obtain ⟨b, off, spot⟩ := a
  have h0 := h 0 hn
  rw [List.getElem?_eq_getElem (by omega)] at h0
  have hspot : spot = none := by simpa [Addr.add] using World.cell?_spot h0
  subst hspot
  have hb := World.block_lt_of_cell? w _ h0
  refine ⟨b, off, rfl, by simpa [Addr.add] using hb, fun j hj => ?_⟩
  rw [← h j hj]
  congr 1
  unfold Addr.add
  split
  · rename_i e; subst e; simp
  · rfl
theorem grown_trans {a b c : World} {row : Option Nat} (h : a.grownBy b row) (k : b.grownBy c row) : a.grownBy c row :=
  ⟨k.os.trans h.os, k.tape.trans h.tape, k.output.trans h.output, Nat.le_trans h.size k.size, fun i hi hne => (k.block i (Nat.lt_of_lt_of_le hi h.size) hne).trans (h.block i hi hne)⟩
theorem wpList_append_one {P : Program} {ops : Array Oper} {rest : List Oper} {o : Oper} {a : Act} {Q : Exit → Act → World → Prop} (W : World) (u : Value) (ty : TypeId) (hgd : o.guard = none) (s x : Operand) (t : TypeId)
    (ho : o.op = .call { callee := .builtin .append, args := #[s, x], argTypes := #[t, t] })
    (base : Nat) (e : TypeId) (i : TypeInfo) (z : Value) (bytes : Nat) (ht : P.underlying t = some (.slice e)) (hi : P.info? e = some i) (hz : i.zero = some z)
    (hsize : i.size = 1) (hby : i.bytes = bytes) (hzs : z.cells.size = 1)
    (v : Value) (n : Nat) (xs : List Value) (hs : a.eval s = v) (hown : W.ownsRow base e 1 v n xs)
    (hx : a.eval x = .slice (some ⟨W.heap.size, 0, none⟩) 1 1) (h1 : u.oneCell' = true)
    (hbytes : (n + 1) * bytes ≤ 140737488355328) (hb0 : 0 < bytes) (hbase : base ≤ W.heap.size)
    (h : ∀ v' w', w'.ownsRow base e 1 v' (n + 1) (xs ++ [u]) → W.grownBy w' v.ownBlock → wpList P ops Q rest (a.put o.dst v') w') : wpList P ops Q (o :: rest) a (W.alloc (.cells #[u] ty)) := by
  refine wpList_append_own _ hgd s x t ho base e i z 1 bytes ht hi hz hsize hby hzs (by decide) v n xs hs (hown.alloc _) ⟨W.heap.size, 0, none⟩ 1 1 [u] hx rfl ?_ ?_ ?_ hbytes ?_ ?_
  · intro j q hj
    match j, hj with
    | 0, hj => simp at hj; subst hj; simp [Addr.add]
  · intro q hq; simp at hq; subst hq; exact h1
  · have : (n + 1) * 1 ≤ (n + 1) * bytes := Nat.mul_le_mul_left _ hb0
    unfold maxLen; omega
  · simp; omega
  · intro v' w' h2 h3 _
    exact h v' w' h2 (grown_trans (World.grownBy_alloc W _ _) h3)
theorem own_form {w : World} {base : Nat} {e : TypeId} {size n : Nat} {v : Value} {xs : List Value} (h : w.ownsRow base e size v n xs) : ∃ A c, v = .slice A n c := by
  rcases h.2 with ⟨rfl, rfl⟩ | ⟨g, cap, cur, rfl, _⟩
  · exact ⟨_, _, rfl⟩
  · exact ⟨_, _, rfl⟩
theorem own_below {w w' : World} {base B : Nat} {e : TypeId} {size n : Nat} {v : Value} {xs : List Value} (h : w.ownsRow base e size v n xs) (hg : w.grownBy w' v.ownBlock) (hB : B ≤ base) (hb : base ≤ w.heap.size) : Below B w w' :=
  (Below.refl _ _).grown hg (by omega) (fun k hk => by have := (h.lt k hk).1; omega)
end Go.Proofs.Ytgcnemkhppkkcaa.mem

namespace Go.Proofs.Ytgcnemkhppkkcaa.ints
open Go.ChangeShapes Go.WideShapes Go.ChangeAt Go.RowKit
open mem
set_option linter.unusedVariables false
set_option maxRecDepth 100000
def V (l : List Int) : List Value := l.map (Value.int .i64)
theorem V_len (l : List Int) : (V l).length = l.length := by simp [V]
theorem V_at {l : List Int} {k : Nat} {u : Value} (h : (V l)[k]? = some u) : ∃ z, l[k]? = some z ∧ u = .int .i64 z := by
  simp only [V, List.getElem?_map, Option.map_eq_some_iff] at h
  obtain ⟨s, h1, h2⟩ := h
  exact ⟨s, h1, h2.symm⟩
theorem V_get {l : List Int} {k : Nat} {z : Int} (h : l[k]? = some z) : (V l)[k]? = some (.int .i64 z) := by simp [V, h]
theorem V_set (l : List Int) (k : Nat) (z : Int) : (V l).set k (.int .i64 z) = V (l.set k z) := by simp [V, List.map_set]
def Drawn (w w' : World) : Prop := ∃ m, w' = w.drewN m
theorem Drawn.cell {w w' : World} (h : Drawn w w') (p : Addr) : w'.cell? p = w.cell? p := by obtain ⟨m, rfl⟩ := h; rfl
theorem Drawn.more {w w' : World} (h : Drawn w w') (n : Nat) : Drawn w (w'.drewN n) := by obtain ⟨m, rfl⟩ := h; exact ⟨m + n, by simp⟩
theorem Drawn.below {w w' : World} (h : Drawn w w') (B : Nat) : Below B w w' := by obtain ⟨m, rfl⟩ := h; exact below_drewN (Below.refl _ _) _
theorem infoI : (sqp.prog.info? 3).map (fun i => (i.zero, i.size, i.bytes)) = some (some (.int .i64 0), 1, 8) := by kernel_rfl
def eqi (xs ys : List Int) : Bool := decide (xs = ys)
def Same (xs ys : List Int) (k : Nat) : Prop := ∀ j, j < k → xs[j]? = ys[j]?
theorem Same.step {xs ys : List Int} {k : Nat} {s : Int} (h : Same xs ys k) (h1 : xs[k]? = some s) (h2 : ys[k]? = some s) : Same xs ys (k + 1) := by
  intro j hj
  by_cases e : j = k
  · subst e; rw [h1, h2]
  · exact h j (by omega)
theorem eqi_no {xs ys : List Int} {k : Nat} {s t : Int} (h1 : xs[k]? = some s) (h2 : ys[k]? = some t) (h : s ≠ t) : eqi xs ys = false := by
  unfold eqi
  rw [decide_eq_false_iff_not]
  rintro rfl
  rw [h1] at h2
  exact h (Option.some.inj h2)
theorem eqi_len {xs ys : List Int} (h : xs.length ≠ ys.length) : eqi xs ys = false := by
  unfold eqi
  rw [decide_eq_false_iff_not]
  rintro rfl
  exact h rfl
theorem eqi_yes {xs ys : List Int} {n : Nat} (h1 : xs.length = n) (h2 : ys.length = n) (h : Same xs ys n) : eqi xs ys = true := by
  unfold eqi
  rw [decide_eq_true_iff]
  refine List.ext_getElem? fun i => ?_
  by_cases hi : i < n
  · exact h i hi
  · rw [List.getElem?_eq_none (by omega), List.getElem?_eq_none (by omega)]
end Go.Proofs.Ytgcnemkhppkkcaa.ints

namespace Go.Proofs.Ytgcnemkhppkkcaa.arr
open Go.ChangeShapes Go.WideShapes Go.ChangeAt Go.RowKit
open mem ints
set_option linter.unusedVariables false
set_option maxRecDepth 100000
def Arr (w : World) (g : Nat) (cs : List Value) (t : TypeId) : Prop := w.heap[g]? = some (.cells cs.toArray t (0, 0))
theorem Arr.lt {w : World} {g : Nat} {cs : List Value} {t : TypeId} (h : Arr w g cs t) : g < w.heap.size := (Array.getElem?_eq_some_iff.1 h).1
theorem Arr.cell {w : World} {g k : Nat} {cs : List Value} {t : TypeId} {v : Value} (h : Arr w g cs t) (hk : cs[k]? = some v) : w.cell? ⟨g, k, none⟩ = some v := by
  unfold Arr at h
  simp [World.cell?, h, hk]
theorem Arr.frozen {w : World} {g : Nat} {cs : List Value} {t : TypeId} (h : Arr w g cs t) (k : Nat) : w.frozen? ⟨g, k, none⟩ = false := by
  unfold Arr at h
  simp [World.frozen?, h]
theorem Arr.set_ {w : World} {g : Nat} {cs : List Value} {t : TypeId} (h : Arr w g cs t) (k : Nat) (v : Value) : Arr (w.setCell ⟨g, k, none⟩ v) g (cs.set k v) t := by
  have := heap_setCell_same w g k cs.toArray t v h
  simpa [Arr] using this
theorem Arr.other {w : World} {g g' k : Nat} {cs : List Value} {t : TypeId} (h : Arr w g cs t) (hne : g ≠ g') (v : Value) : Arr (w.setCell ⟨g', k, none⟩ v) g cs t :=
  (heap_setCell_other w ⟨g', k, none⟩ g v hne).trans h
theorem Arr.keep {w w' : World} {g B : Nat} {cs : List Value} {t : TypeId} (h : Arr w g cs t) (hb : Below B w w') (hB : g < B) : Arr w' g cs t :=
  (hb.block g hB).trans h
theorem Arr.alloc {w : World} {g : Nat} {cs : List Value} {t : TypeId} (h : Arr w g cs t) (o : Obj) : Arr (w.alloc o) g cs t :=
  (((Below.refl w.heap.size w).alloc (Nat.le_refl _) o).block g h.lt).trans h
theorem Arr.new (w : World) (cs : List Value) (t : TypeId) {g : Nat} (hg : g = w.heap.size) : Arr (w.alloc (.cells cs.toArray t)) g cs t := by
  subst hg
  exact heap_alloc_last w _
theorem Arr.row {w : World} {g : Nat} {cs cs' : List Value} {t : TypeId} (h : Arr w g cs t) : Arr (w.setRow g cs'.toArray) g cs' t := setRow_heap w g _ _ t _ h
theorem Arr.rowOther {w : World} {g g' : Nat} {cs : List Value} {cs' : Array Value} {t : TypeId} (h : Arr w g cs t) (hne : g ≠ g') : Arr (w.setRow g' cs') g cs t := (setRow_other w g' g cs' hne).trans h
theorem Arr.drew {w : World} {g : Nat} {cs : List Value} {t : TypeId} (h : Arr w g cs t) (n : Nat) : Arr (w.drewN n) g cs t := h
theorem below_setRow {B : Nat} {w w' : World} (h : Below B w w') {g : Nat} (hg : B ≤ g) (cs : Array Value) : Below B w (w'.setRow g cs) :=
  ⟨h.os, h.tape, h.output, by simpa using h.size, fun k hk => (setRow_other w' g k cs (by omega)).trans (h.block k hk)⟩
theorem one_V (l : List Int) : (V l).toArray.all (·.oneCell') = true := by simp [V, Value.oneCell']
theorem info44 : (sqp.prog.info? 60).map (·.size) = some 24 := by kernel_rfl
theorem size_V {l : List Int} (h : l.length = 24) : (sqp.prog.info? 60).map (·.size) = some (V l).toArray.size := by rw [info44]; simp [V, h]
def zeros : List Int := List.replicate 24 0
theorem V_getD {l : List Int} {k : Nat} (h : k < l.length) : (V l)[k]? = some (.int .i64 (l.getD k 0)) := by
  simp [V, List.getD, h]
def tab (f : Nat → Int) : List Int := (List.range 24).map f
theorem tab_len (f : Nat → Int) : (tab f).length = 24 := by simp [tab]
theorem tab_at (f : Nat → Int) {k : Nat} (h : k < 24) : (tab f)[k]? = some (f k) := by simp [tab, h]
theorem tab_get (f : Nat → Int) {k : Nat} (h : k < 24) : (tab f).getD k 0 = f k := by simp [tab, h]
theorem tab_set (f f' : Nat → Int) {k : Nat} (h : ∀ j, j < 24 → f' j = if j = k then f' k else f j) : (tab f).set k (f' k) = tab f' := by
  refine List.ext_getElem? fun i => ?_
  by_cases hi : i < 24
  · rw [tab_at _ hi, List.getElem?_set]
    by_cases e : k = i
    · subst e; simp [tab_len, hi]
    · rw [if_neg e, tab_at _ hi, h i hi, if_neg (by omega)]
  · rw [List.getElem?_eq_none (by simp [tab_len]; omega), List.getElem?_eq_none (by simp [tab_len]; omega)]
def Stay (w wr : World) (k : Nat) : Prop := Arr wr w.heap.size (V zeros) 60 ∧ Arr wr (w.heap.size + 1) (V (tab fun i => if i < k then (i : Int) else 0)) 60 ∧ Below w.heap.size w wr
def idl : List Int := tab fun i => (i : Int)
set_option maxHeartbeats 400000 in
theorem staying_any (w : World) :
    Calls sqp.prog 99 #[] w fun e w' => e = .returned (.agg (V idl).toArray) ∧ Below w.heap.size w w' := by
  go_enter sqp.func99, sqp.ntmps99
  go_wp2
  go_loopw [3] (fun i wr => ∃ k : Nat, k ≤ 24 ∧ i = .int .i64 k ∧ Stay w wr k) (fun i _ => 24 - (intOf i).toNat)
  case atStart =>
    exact ⟨0, Nat.zero_le _, rfl, (Arr.new w (V zeros) _ rfl).alloc _, Arr.new _ (V zeros) _ (by simp), ((Below.refl _ _).alloc (Nat.le_refl _) _).alloc (by simp) _⟩
  case round =>
    obtain ⟨k, hk, rfl, hst⟩ := hrel
    have HS := Lib.hid hst; clear hst
    by_cases hlt : k < 24
    · have hc := HS.out.2.1.cell (V_getD (k := k) (by rw [tab_len]; exact hlt))
      have hf := HS.out.2.1.frozen k
      go_wp2
      go_roundw
      case rel =>
        refine ⟨k + 1, by omega, by go_num, HS.out.1.other (by omega) _, ?_, HS.out.2.2.setCell (by simp) _⟩
        have h := HS.out.2.1.set_ k (.int .i64 (k : Int))
        rw [V_set] at h
        have e := tab_set (fun i => if i < k then (i : Int) else 0) (fun i => if i < k + 1 then (i : Int) else 0) (k := k) (fun j hj => by
          by_cases e : j = k
          · subst e; simp
          · simp [e]; split <;> split <;> omega)
        simp only [Nat.lt_succ_self, if_true] at e
        rw [e] at h
        exact h
      case measure => simp [intOf]; omega
    · obtain rfl : k = 24 := by omega
      have e : tab (fun i => if i < 24 then (i : Int) else 0) = idl := by decide
      have h2 := HS.out.2.1; rw [e] at h2
      have H2 := Lib.hid h2; clear h2 e
      go_wp2_with (first | (refine wpList_load_row rfl 60 _ rfl (w.heap.size + 1) rfl 60 (V idl).toArray (0, 0) _ H2.out sqp.underlying60 rfl (size_V (tab_len _)) ?_) | (refine wpList_store_row rfl 60 _ _ rfl w.heap.size (V idl).toArray rfl rfl 60 (V zeros).toArray HS.out.1 (size_V (tab_len _)) (by simp [V_len, idl, tab_len, zeros]) (one_V _) ?_))
      exact bodyPost_ret (v := .agg (V idl).toArray) (results_cell_row rfl _ _ w.heap.size 60 (V idl).toArray (0, 0) _ rfl HS.out.1.row sqp.underlying60 rfl (size_V (tab_len _))) rfl ⟨rfl, below_setRow HS.out.2.2 (Nat.le_refl _) _⟩
end Go.Proofs.Ytgcnemkhppkkcaa.arr

namespace Go.Proofs.Ytgcnemkhppkkcaa.sf
open Go.ChangeShapes Go.WideShapes Go.ChangeAt Go.RowKit Go.Joins Go.Deep
open mem ints arr
set_option linter.unusedVariables false
set_option maxRecDepth 100000
def Svl (w : World) (lo hi : Nat) (v : Value) (r u : List Int) : Prop :=
  ∃ P n c Q m d l1 h1 l2 h2, v = .agg #[.slice P n c, .slice Q m d] ∧ Row w l1 h1 P n (V r) ∧ Row w l2 h2 Q m (V u) ∧ n ≤ c ∧ m ≤ d ∧ lo ≤ l1 ∧ h1 ≤ hi ∧ lo ≤ l2 ∧ h2 ≤ hi ∧ (h1 ≤ l2 ∨ h2 ≤ l1) ∧ hi ≤ w.heap.size
def Srd (w : World) (hi : Nat) (v : Value) (r u : List Int) : Prop :=
  ∃ P n c Q m d, v = .agg #[.slice P n c, .slice Q m d] ∧ Rd w hi P n (V r) ∧ Rd w hi Q m (V u) ∧ n ≤ c ∧ m ≤ d
theorem Rd.wider {w : World} {hi hi' n : Nat} {A : Option Addr} {xs : List Value} (h : Rd w hi A n xs) (h1 : hi ≤ hi') (h2 : hi' ≤ w.heap.size) : Rd w hi' A n xs :=
  ⟨h.1, h2, fun hn => by
    obtain ⟨g, off, e, hlt, hc⟩ := h.2.2 hn
    exact ⟨g, off, e, by omega, hc⟩⟩
theorem Svl.rd {w : World} {lo hi : Nat} {v : Value} {r u : List Int} (h : Svl w lo hi v r u) : Srd w hi v r u := by
  obtain ⟨P, n, c, Q, m, d, l1, h1, l2, h2, rfl, a, b, e1, e2, f1, f2, f3, f4, f5, f6⟩ := h
  exact ⟨P, n, c, Q, m, d, rfl, Rd.wider a.rd f2 f6, Rd.wider b.rd f4 f6, e1, e2⟩
theorem Svl.top {w : World} {lo hi : Nat} {v : Value} {r u : List Int} (h : Svl w lo hi v r u) : hi ≤ w.heap.size := by
  obtain ⟨P, n, c, Q, m, d, l1, h1, l2, h2, rfl, a, b, e1, e2, f1, f2, f3, f4, f5, f6⟩ := h
  exact f6
theorem Srd.top {w : World} {hi : Nat} {v : Value} {r u : List Int} (h : Srd w hi v r u) : hi ≤ w.heap.size := by
  obtain ⟨P, n, c, Q, m, d, rfl, a, b, e1, e2⟩ := h
  exact a.2.1
theorem Svl.keep {w w' : World} {lo hi B : Nat} {v : Value} {r u : List Int} (h : Svl w lo hi v r u) (hb : Below B w w') (hB : hi ≤ B) : Svl w' lo hi v r u := by
  obtain ⟨P, n, c, Q, m, d, l1, h1, l2, h2, rfl, a, b, e1, e2, f1, f2, f3, f4, f5, f6⟩ := h
  exact ⟨P, n, c, Q, m, d, l1, h1, l2, h2, rfl, a.keep hb (by omega), b.keep hb (by omega), e1, e2, f1, f2, f3, f4, f5, Nat.le_trans f6 hb.size⟩
theorem Srd.keep {w w' : World} {hi B : Nat} {v : Value} {r u : List Int} (h : Srd w hi v r u) (hb : Below B w w') (hB : hi ≤ B) : Srd w' hi v r u := by
  obtain ⟨P, n, c, Q, m, d, rfl, a, b, e1, e2⟩ := h
  exact ⟨P, n, c, Q, m, d, rfl, a.keep hb hB, b.keep hb hB, e1, e2⟩
theorem Svl.out {w w' : World} {lo hi lo' hi' : Nat} {v : Value} {r u : List Int} (h : Svl w lo hi v r u) (ho : Out lo' hi' w w') (hd : hi ≤ lo' ∨ hi' ≤ lo) : Svl w' lo hi v r u := by
  obtain ⟨P, n, c, Q, m, d, l1, h1, l2, h2, rfl, a, b, e1, e2, f1, f2, f3, f4, f5, f6⟩ := h
  exact ⟨P, n, c, Q, m, d, l1, h1, l2, h2, rfl, a.out ho (by omega), b.out ho (by omega), e1, e2, f1, f2, f3, f4, f5, Nat.le_trans f6 ho.size⟩
theorem Svl.later {w : World} {lo lo' hi : Nat} {v : Value} {r u : List Int} (h : Svl w lo hi v r u) (hl : lo' ≤ lo) : Svl w lo' hi v r u := by
  obtain ⟨P, n, c, Q, m, d, l1, h1, l2, h2, rfl, a, b, e1, e2, f1, f2, f3, f4, f5, f6⟩ := h
  exact ⟨P, n, c, Q, m, d, l1, h1, l2, h2, rfl, a, b, e1, e2, by omega, f2, by omega, f4, f5, f6⟩
theorem Svl.wide {w : World} {lo hi : Nat} {v : Value} {r u : List Int} (h : Svl w lo hi v r u) : Svl w lo w.heap.size v r u := by
  obtain ⟨P, n, c, Q, m, d, l1, h1, l2, h2, rfl, a, b, e1, e2, f1, f2, f3, f4, f5, f6⟩ := h
  exact ⟨P, n, c, Q, m, d, l1, h1, l2, h2, rfl, a, b, e1, e2, f1, by omega, f3, by omega, f5, Nat.le_refl _⟩
theorem Svl.nil (w : World) (lo hi : Nat) (h : hi ≤ w.heap.size) (hl : lo ≤ hi) : Svl w lo hi (.agg #[.slice none 0 0, .slice none 0 0]) [] [] :=
  ⟨none, 0, 0, none, 0, 0, lo, lo, lo, lo, rfl, ⟨rfl, by omega, fun h => absurd h (by omega)⟩, ⟨rfl, by omega, fun h => absurd h (by omega)⟩, Nat.le_refl _, Nat.le_refl _, Nat.le_refl _, hl, Nat.le_refl _, hl, .inl (Nat.le_refl _), h⟩
theorem own_cap {w : World} {base : Nat} {e : TypeId} {n n' c : Nat} {A : Option Addr} {xs : List Value} (h : w.ownsRow base e 1 (.slice A n' c) n xs) : n' = n ∧ n ≤ c := by
  rcases h.2 with ⟨q, rfl⟩ | ⟨g, cap, cur, q, _, _, hc, _⟩
  · injection q with _ q2 q3; subst q2; subst q3; exact ⟨rfl, Nat.le_refl _⟩
  · injection q with _ q2 q3; subst q2; subst q3; exact ⟨rfl, hc⟩
theorem _root_.Go.Proofs.Ytgcnemkhppkkcaa.mem.Out.row_ {lo hi g : Nat} {w w' : World} (h : Out lo hi w w') (h1 : lo ≤ g) (h2 : g < hi) (cs : Array Value) : Out lo hi w (w'.setRow g cs) :=
  ⟨h.os, h.tape, h.output, by simpa using h.size, fun k hk hne => (setRow_other w' g k cs (by omega)).trans (h.block k hk hne)⟩
theorem _root_.Go.Proofs.Ytgcnemkhppkkcaa.arr.Arr.out {w w' : World} {g lo hi : Nat} {cs : List Value} {t : TypeId} (h : Arr w g cs t) (ho : Out lo hi w w') (hd : g < lo ∨ hi ≤ g) : Arr w' g cs t :=
  (ho.block g h.lt hd).trans h
theorem Svl.mk2 {w : World} {lo l2 : Nat} {P Q : Option Addr} {n c m d : Nat} {r u : List Int} (a : Row w lo l2 P n (V r)) (b : Row w l2 w.heap.size Q m (V u)) (hl : lo ≤ l2) (e1 : n ≤ c) (e2 : m ≤ d) : Svl w lo w.heap.size (.agg #[.slice P n c, .slice Q m d]) r u :=
  ⟨P, n, c, Q, m, d, lo, l2, l2, w.heap.size, rfl, a, b, e1, e2, Nat.le_refl _, a.2.1, hl, Nat.le_refl _, .inl (Nat.le_refl _), Nat.le_refl _⟩
theorem Svl.len {w : World} {lo hi : Nat} {v : Value} {r u : List Int} (h : Svl w lo hi v r u) : ∃ P c Q d, v = .agg #[.slice P r.length c, .slice Q u.length d] := by
  obtain ⟨P, n, c, Q, m, d, l1, h1, l2, h2, rfl, a, b, e1, e2, f1, f2, f3, f4, f5, f6⟩ := h
  have q1 : r.length = n := by simpa [V] using a.1
  have q2 : u.length = m := by simpa [V] using b.1
  subst q1; subst q2
  exact ⟨P, c, Q, d, rfl⟩
theorem Svl.lens {w : World} {lo hi : Nat} {v : Value} {r u : List Int} (h : Svl w lo hi v r u) {n m : Nat} (h1 : r.length = n) (h2 : u.length = m) : ∃ P c Q d, v = .agg #[.slice P n c, .slice Q m d] := by
  subst h1; subst h2; exact h.len
end Go.Proofs.Ytgcnemkhppkkcaa.sf
