import Derived.Test.YtddppmbllcnkoaaZ03
import Derived.Test.YtddppmbllcnkoaaProg
import Derived.KernelRfl
import Derived.Test.YtddppmbllcnkoaaRows
import Derived.WalkKit
import Derived.ProofKit
import Derived.OpenShut
import Derived.ShutString
import Derived.Laws.RangeAny
import Derived.Lib.Hide
import Derived.Below
import Derived.Deep.QuietTactic
import Derived.BigQuiet
import Derived.Deep.RegionHeld3
import Derived.Deep.AppendLies
/-
  Two programs under a renaming of blocks, and every schedule.
-/

/-
  The program with the goroutine's start turned to a call, its sends to calls, its channel made with room: the functions, and what the load says of the other program, said of this one.
-/
namespace Go.Proofs.Ytddppmbllcnkoaa.sqp
open Go Go.Proofs.Ytddppmbllcnkoaa.sq
set_option linter.unusedVariables false
set_option linter.defProp false
set_option maxRecDepth 100000

noncomputable def fOrb : Func := { Try.f47 with body := Try.f47.body.map (mapC (seqO 6)) }
noncomputable def fClo : Func := { Try.f103 with body := Try.f103.body.map (mapC (seqO 0)) }
noncomputable def fSnd : Func := { name := "snd", origin := "", params := #[], resultTypes := #[], nfree := 0, ntmps := 5, results := #[], body := some (sendC 68 58 68), norace := false, tmpNames := #[] }
noncomputable def fGo : Func := { name := "go", origin := "", params := #[], resultTypes := #[], nfree := 0, ntmps := 5, results := #[], body := some (goC 65 84 65 105), norace := false, tmpNames := #[] }
noncomputable def funcs : Array Func := #[Try.f0, Try.f1, Try.f2, Try.f3, Try.f4, Try.f5, Try.f6, Try.f7, Try.f8, Try.f9, Try.f10, Try.f11, Try.f12, Try.f13, Try.f14, Try.f15, Try.f16, Try.f17, Try.f18, Try.f19, Try.f20, Try.f21, Try.f22, Try.f23, Try.f24, Try.f25, Try.f26, Try.f27, Try.f28, Try.f29, Try.f30, Try.f31, Try.f32, Try.f33, Try.f34, Try.f35, Try.f36, Try.f37, Try.f38, Try.f39, Try.f40, Try.f41, Try.f42, Try.f43, Try.f44, Try.f45, Try.f46, fOrb, Try.f48, Try.f49, Try.f50, Try.f51, Try.f52, Try.f53, Try.f54, Try.f55, Try.f56, Try.f57, Try.f58, Try.f59, Try.f60, Try.f61, Try.f62, Try.f63, Try.f64, Try.f65, Try.f66, Try.f67, Try.f68, Try.f69, Try.f70, Try.f71, Try.f72, Try.f73, Try.f74, Try.f75, Try.f76, Try.f77, Try.f78, Try.f79, Try.f80, Try.f81, Try.f82, Try.f83, Try.f84, Try.f85, Try.f86, Try.f87, Try.f88, Try.f89, Try.f90, Try.f91, Try.f92, Try.f93, Try.f94, Try.f95, Try.f96, Try.f97, Try.f98, Try.f99, Try.f100, Try.f101, Try.f102, fClo, Try.f104, Try.f105, Try.f106, Try.f107, Try.f108, Try.f109, Try.f110, Try.f111, Try.f112, Try.f113, Try.f114, Try.f115, Try.f116, Try.f117, Try.f118, Try.f119, Try.f120, Try.f121, Try.f122, Try.f123, Try.f124, Try.f125, Try.f126, Try.f127, Try.f128, Try.f129, Try.f130, Try.f131, Try.f132, Try.f133, Try.f134, Try.f135, Try.f136, Try.f137, Try.f138, Try.f139, Try.f140, Try.f141, Try.f142, Try.f143, Try.f144, Try.f145, Try.f146, Try.f147, Try.f148, Try.f149, Try.f150, Try.f151, Try.f152, Try.f153, Try.f154, Try.f155, Try.f156, Try.f157, Try.f158, Try.f159, Try.f160, Try.f161, Try.f162, Try.f163, Try.f164, Try.f165, Try.f166, Try.f167, Try.f168, Try.f169, Try.f170, fSnd, fGo]
noncomputable def prog : Program := { toTables := { Try.progTables with globals := #[] }, funcs }
theorem twin : sq.Twin Try.prog prog := ⟨fun t => by kernel_rfl, by kernel_rfl, by kernel_rfl, fun d => by kernel_rfl⟩
theorem guard_eq (i : TypeId) : prog.eqGuardType prog.depth i = Try.prog.eqGuardType Try.prog.depth i := by kernel_rfl
theorem tr_und {i : TypeId} {d : Option TypeDesc} (h : Program.underlying Try.prog i = d) : Program.underlying prog i = d := (twin.und i).trans h
theorem tr_size {i : TypeId} {x : Nat} (h : ∀ w, Sem.run Try.prog (sizeOf i) w = .ok x w) (w : World) : Sem.run prog (sizeOf i) w = .ok x w := (twin.sizeOf i w).trans (h w)
theorem tr_rund {i : TypeId} {x : TypeDesc} (h : ∀ w, Sem.run Try.prog (underlying i) w = .ok x w) (w : World) : Sem.run prog (underlying i) w = .ok x w := (twin.runUnd i w).trans (h w)
theorem tr_agg {i : TypeId} {x : Bool} (h : ∀ w, Sem.run Try.prog (isAgg i) w = .ok x w) (w : World) : Sem.run prog (isAgg i) w = .ok x w := (twin.agg i w).trans (h w)
theorem tr_zero {i : TypeId} {x : Value} (h : ∀ w, Sem.run Try.prog (zeroValue i) w = .ok x w) (w : World) : Sem.run prog (zeroValue i) w = .ok x w := (twin.zero i w).trans (h w)
def sizeOf3 := tr_size Try.sizeOf3
def sizeOf4 := tr_size Try.sizeOf4
def sizeOf5 := tr_size Try.sizeOf5
def sizeOf9 := tr_size Try.sizeOf9
def sizeOf23 := tr_size Try.sizeOf23
def sizeOf25 := tr_size Try.sizeOf25
def sizeOf44 := tr_size Try.sizeOf44
def sizeOf63 := tr_size Try.sizeOf63
def sizeOf65 := tr_size Try.sizeOf65
def sizeOf66 := tr_size Try.sizeOf66
def sizeOf68 := tr_size Try.sizeOf68
def sizeOf136 := tr_size Try.sizeOf136
def underlying3 := tr_und Try.underlying3
def underlying4 := tr_und Try.underlying4
def underlying5 := tr_und Try.underlying5
def underlying9 := tr_und Try.underlying9
def underlying22 := tr_und Try.underlying22
def underlying23 := tr_und Try.underlying23
def underlying25 := tr_und Try.underlying25
def underlying27 := tr_und Try.underlying27
def underlying44 := tr_und Try.underlying44
def underlying58 := tr_und Try.underlying58
def underlying59 := tr_und Try.underlying59
def underlying63 := tr_und Try.underlying63
def underlying65 := tr_und Try.underlying65
def underlying66 := tr_und Try.underlying66
def underlying68 := tr_und Try.underlying68
def underlying73 := tr_und Try.underlying73
def underlying80 := tr_und Try.underlying80
def underlying83 := tr_und Try.underlying83
def underlying84 := tr_und Try.underlying84
def underlying92 := tr_und Try.underlying92
def underlying105 := tr_und Try.underlying105
def underlying133 := tr_und Try.underlying133
def underlying137 := tr_und Try.underlying137
def underlying142 := tr_und Try.underlying142
def underlying143 := tr_und Try.underlying143
def runUnderlying22 := tr_rund Try.runUnderlying22
def runUnderlying23 := tr_rund Try.runUnderlying23
def runUnderlying25 := tr_rund Try.runUnderlying25
def runUnderlying27 := tr_rund Try.runUnderlying27
def runUnderlying44 := tr_rund Try.runUnderlying44
def runUnderlying63 := tr_rund Try.runUnderlying63
def runUnderlying65 := tr_rund Try.runUnderlying65
def runUnderlying68 := tr_rund Try.runUnderlying68
def runUnderlying73 := tr_rund Try.runUnderlying73
def runUnderlying92 := tr_rund Try.runUnderlying92
def runUnderlying137 := tr_rund Try.runUnderlying137
def runUnderlying143 := tr_rund Try.runUnderlying143
def isAgg3 := tr_agg Try.isAgg3
def isAgg4 := tr_agg Try.isAgg4
def isAgg5 := tr_agg Try.isAgg5
def isAgg9 := tr_agg Try.isAgg9
def isAgg23 := tr_agg Try.isAgg23
def isAgg25 := tr_agg Try.isAgg25
def isAgg44 := tr_agg Try.isAgg44
def isAgg65 := tr_agg Try.isAgg65
def isAgg66 := tr_agg Try.isAgg66
def isAgg136 := tr_agg Try.isAgg136
def zeroValue3 := tr_zero Try.zeroValue3
def zeroValue5 := tr_zero Try.zeroValue5
def zeroValue9 := tr_zero Try.zeroValue9
def zeroValue25 := tr_zero Try.zeroValue25
def zeroValue63 := tr_zero Try.zeroValue63
def zeroValue65 := tr_zero Try.zeroValue65
def zeroValue66 := tr_zero Try.zeroValue66
def zeroValue68 := tr_zero Try.zeroValue68
def zeroValue83 := tr_zero Try.zeroValue83
def zeroValue84 := tr_zero Try.zeroValue84
def zeroValue137 := tr_zero Try.zeroValue137
def zeroValue142 := tr_zero Try.zeroValue142
def zeroValue143 := tr_zero Try.zeroValue143
theorem func5 : prog.funcs[5]? = some Try.f5 := by kernel_rfl
def ntmps5 := Try.ntmps5
theorem func6 : prog.funcs[6]? = some Try.f6 := by kernel_rfl
def ntmps6 := Try.ntmps6
theorem func10 : prog.funcs[10]? = some Try.f10 := by kernel_rfl
def ntmps10 := Try.ntmps10
theorem func12 : prog.funcs[12]? = some Try.f12 := by kernel_rfl
def ntmps12 := Try.ntmps12
theorem call12 (args : Array Value) (w : World) : Sem.run prog (callFunc 12 args) w = .ok (.enter 12 args) w := by kernel_rfl
theorem func13 : prog.funcs[13]? = some Try.f13 := by kernel_rfl
def ntmps13 := Try.ntmps13
theorem call13 (args : Array Value) (w : World) : Sem.run prog (callFunc 13 args) w = .ok (.enter 13 args) w := by kernel_rfl
theorem func28 : prog.funcs[28]? = some Try.f28 := by kernel_rfl
def ntmps28 := Try.ntmps28
theorem call28 (args : Array Value) (w : World) : Sem.run prog (callFunc 28 args) w = .ok (.enter 28 args) w := by kernel_rfl
theorem func29 : prog.funcs[29]? = some Try.f29 := by kernel_rfl
def ntmps29 := Try.ntmps29
theorem call29 (args : Array Value) (w : World) : Sem.run prog (callFunc 29 args) w = .ok (.enter 29 args) w := by kernel_rfl
theorem func30 : prog.funcs[30]? = some Try.f30 := by kernel_rfl
def ntmps30 := Try.ntmps30
theorem call30 (args : Array Value) (w : World) : Sem.run prog (callFunc 30 args) w = .ok (.enter 30 args) w := by kernel_rfl
theorem func31 : prog.funcs[31]? = some Try.f31 := by kernel_rfl
def ntmps31 := Try.ntmps31
theorem call31 (args : Array Value) (w : World) : Sem.run prog (callFunc 31 args) w = .ok (.enter 31 args) w := by kernel_rfl
theorem func32 : prog.funcs[32]? = some Try.f32 := by kernel_rfl
def ntmps32 := Try.ntmps32
theorem call32 (args : Array Value) (w : World) : Sem.run prog (callFunc 32 args) w = .ok (.enter 32 args) w := by kernel_rfl
theorem func33 : prog.funcs[33]? = some Try.f33 := by kernel_rfl
def ntmps33 := Try.ntmps33
theorem call33 (args : Array Value) (w : World) : Sem.run prog (callFunc 33 args) w = .ok (.enter 33 args) w := by kernel_rfl
theorem func34 : prog.funcs[34]? = some Try.f34 := by kernel_rfl
def ntmps34 := Try.ntmps34
theorem call34 (args : Array Value) (w : World) : Sem.run prog (callFunc 34 args) w = .ok (.enter 34 args) w := by kernel_rfl
theorem func35 : prog.funcs[35]? = some Try.f35 := by kernel_rfl
def ntmps35 := Try.ntmps35
theorem call35 (args : Array Value) (w : World) : Sem.run prog (callFunc 35 args) w = .ok (.enter 35 args) w := by kernel_rfl
theorem func36 : prog.funcs[36]? = some Try.f36 := by kernel_rfl
def ntmps36 := Try.ntmps36
theorem call36 (args : Array Value) (w : World) : Sem.run prog (callFunc 36 args) w = .ok (.enter 36 args) w := by kernel_rfl
theorem func39 : prog.funcs[39]? = some Try.f39 := by kernel_rfl
def ntmps39 := Try.ntmps39
theorem call39 (args : Array Value) (w : World) : Sem.run prog (callFunc 39 args) w = .ok (.enter 39 args) w := by kernel_rfl
theorem func40 : prog.funcs[40]? = some Try.f40 := by kernel_rfl
def ntmps40 := Try.ntmps40
theorem call40 (args : Array Value) (w : World) : Sem.run prog (callFunc 40 args) w = .ok (.enter 40 args) w := by kernel_rfl
theorem func41 : prog.funcs[41]? = some Try.f41 := by kernel_rfl
def ntmps41 := Try.ntmps41
theorem call41 (args : Array Value) (w : World) : Sem.run prog (callFunc 41 args) w = .ok (.enter 41 args) w := by kernel_rfl
theorem func43 : prog.funcs[43]? = some Try.f43 := by kernel_rfl
def ntmps43 := Try.ntmps43
theorem call43 (args : Array Value) (w : World) : Sem.run prog (callFunc 43 args) w = .ok (.enter 43 args) w := by kernel_rfl
theorem func44 : prog.funcs[44]? = some Try.f44 := by kernel_rfl
def ntmps44 := Try.ntmps44
theorem call44 (args : Array Value) (w : World) : Sem.run prog (callFunc 44 args) w = .ok (.enter 44 args) w := by kernel_rfl
theorem func47 : prog.funcs[47]? = some fOrb := by kernel_rfl
theorem tr_n47 {n : Nat} (h : Try.f47.ntmps = n) : fOrb.ntmps = n := h
def ntmps47 := tr_n47 Try.ntmps47
theorem call47 (args : Array Value) (w : World) : Sem.run prog (callFunc 47 args) w = .ok (.enter 47 args) w := by kernel_rfl
theorem func48 : prog.funcs[48]? = some Try.f48 := by kernel_rfl
def ntmps48 := Try.ntmps48
theorem call48 (args : Array Value) (w : World) : Sem.run prog (callFunc 48 args) w = .ok (.enter 48 args) w := by kernel_rfl
theorem func56 : prog.funcs[56]? = some Try.f56 := by kernel_rfl
def ntmps56 := Try.ntmps56
theorem call56 (args : Array Value) (w : World) : Sem.run prog (callFunc 56 args) w = .ok (.enter 56 args) w := by kernel_rfl
theorem func57 : prog.funcs[57]? = some Try.f57 := by kernel_rfl
def ntmps57 := Try.ntmps57
theorem call57 (args : Array Value) (w : World) : Sem.run prog (callFunc 57 args) w = .ok (.enter 57 args) w := by kernel_rfl
theorem func64 : prog.funcs[64]? = some Try.f64 := by kernel_rfl
def ntmps64 := Try.ntmps64
theorem call64 (args : Array Value) (w : World) : Sem.run prog (callFunc 64 args) w = .ok (.enter 64 args) w := by kernel_rfl
theorem func65 : prog.funcs[65]? = some Try.f65 := by kernel_rfl
def ntmps65 := Try.ntmps65
theorem call65 (args : Array Value) (w : World) : Sem.run prog (callFunc 65 args) w = .ok (.enter 65 args) w := by kernel_rfl
theorem func66 : prog.funcs[66]? = some Try.f66 := by kernel_rfl
def ntmps66 := Try.ntmps66
theorem call66 (args : Array Value) (w : World) : Sem.run prog (callFunc 66 args) w = .ok (.enter 66 args) w := by kernel_rfl
theorem func67 : prog.funcs[67]? = some Try.f67 := by kernel_rfl
def ntmps67 := Try.ntmps67
theorem call67 (args : Array Value) (w : World) : Sem.run prog (callFunc 67 args) w = .ok (.enter 67 args) w := by kernel_rfl
theorem func68 : prog.funcs[68]? = some Try.f68 := by kernel_rfl
def ntmps68 := Try.ntmps68
theorem call68 (args : Array Value) (w : World) : Sem.run prog (callFunc 68 args) w = .ok (.enter 68 args) w := by kernel_rfl
theorem func69 : prog.funcs[69]? = some Try.f69 := by kernel_rfl
def ntmps69 := Try.ntmps69
theorem call69 (args : Array Value) (w : World) : Sem.run prog (callFunc 69 args) w = .ok (.enter 69 args) w := by kernel_rfl
theorem func75 : prog.funcs[75]? = some Try.f75 := by kernel_rfl
def ntmps75 := Try.ntmps75
theorem func76 : prog.funcs[76]? = some Try.f76 := by kernel_rfl
def ntmps76 := Try.ntmps76
theorem call76 (args : Array Value) (w : World) : Sem.run prog (callFunc 76 args) w = .ok (.enter 76 args) w := by kernel_rfl
theorem func77 : prog.funcs[77]? = some Try.f77 := by kernel_rfl
def ntmps77 := Try.ntmps77
theorem call77 (args : Array Value) (w : World) : Sem.run prog (callFunc 77 args) w = .ok (.enter 77 args) w := by kernel_rfl
theorem func82 : prog.funcs[82]? = some Try.f82 := by kernel_rfl
def ntmps82 := Try.ntmps82
theorem call82 (args : Array Value) (w : World) : Sem.run prog (callFunc 82 args) w = .ok (.enter 82 args) w := by kernel_rfl
theorem func84 : prog.funcs[84]? = some Try.f84 := by kernel_rfl
def ntmps84 := Try.ntmps84
theorem call84 (args : Array Value) (w : World) : Sem.run prog (callFunc 84 args) w = .ok (.enter 84 args) w := by kernel_rfl
theorem func85 : prog.funcs[85]? = some Try.f85 := by kernel_rfl
def ntmps85 := Try.ntmps85
theorem call85 (args : Array Value) (w : World) : Sem.run prog (callFunc 85 args) w = .ok (.enter 85 args) w := by kernel_rfl
theorem func86 : prog.funcs[86]? = some Try.f86 := by kernel_rfl
def ntmps86 := Try.ntmps86
theorem call86 (args : Array Value) (w : World) : Sem.run prog (callFunc 86 args) w = .ok (.enter 86 args) w := by kernel_rfl
theorem func87 : prog.funcs[87]? = some Try.f87 := by kernel_rfl
def ntmps87 := Try.ntmps87
theorem call87 (args : Array Value) (w : World) : Sem.run prog (callFunc 87 args) w = .ok (.enter 87 args) w := by kernel_rfl
theorem func88 : prog.funcs[88]? = some Try.f88 := by kernel_rfl
def ntmps88 := Try.ntmps88
theorem call88 (args : Array Value) (w : World) : Sem.run prog (callFunc 88 args) w = .ok (.enter 88 args) w := by kernel_rfl
theorem func94 : prog.funcs[94]? = some Try.f94 := by kernel_rfl
def ntmps94 := Try.ntmps94
theorem call94 (args : Array Value) (w : World) : Sem.run prog (callFunc 94 args) w = .ok (.enter 94 args) w := by kernel_rfl
theorem func95 : prog.funcs[95]? = some Try.f95 := by kernel_rfl
def ntmps95 := Try.ntmps95
theorem call95 (args : Array Value) (w : World) : Sem.run prog (callFunc 95 args) w = .ok (.enter 95 args) w := by kernel_rfl
theorem func96 : prog.funcs[96]? = some Try.f96 := by kernel_rfl
def ntmps96 := Try.ntmps96
theorem call96 (args : Array Value) (w : World) : Sem.run prog (callFunc 96 args) w = .ok (.enter 96 args) w := by kernel_rfl
theorem func97 : prog.funcs[97]? = some Try.f97 := by kernel_rfl
def ntmps97 := Try.ntmps97
theorem call97 (args : Array Value) (w : World) : Sem.run prog (callFunc 97 args) w = .ok (.enter 97 args) w := by kernel_rfl
theorem func98 : prog.funcs[98]? = some Try.f98 := by kernel_rfl
def ntmps98 := Try.ntmps98
theorem call98 (args : Array Value) (w : World) : Sem.run prog (callFunc 98 args) w = .ok (.enter 98 args) w := by kernel_rfl
theorem func99 : prog.funcs[99]? = some Try.f99 := by kernel_rfl
def ntmps99 := Try.ntmps99
theorem call99 (args : Array Value) (w : World) : Sem.run prog (callFunc 99 args) w = .ok (.enter 99 args) w := by kernel_rfl
theorem func100 : prog.funcs[100]? = some Try.f100 := by kernel_rfl
def ntmps100 := Try.ntmps100
theorem call100 (args : Array Value) (w : World) : Sem.run prog (callFunc 100 args) w = .ok (.enter 100 args) w := by kernel_rfl
theorem func101 : prog.funcs[101]? = some Try.f101 := by kernel_rfl
def ntmps101 := Try.ntmps101
theorem call101 (args : Array Value) (w : World) : Sem.run prog (callFunc 101 args) w = .ok (.enter 101 args) w := by kernel_rfl
theorem func103 : prog.funcs[103]? = some fClo := by kernel_rfl
theorem tr_n103 {n : Nat} (h : Try.f103.ntmps = n) : fClo.ntmps = n := h
def ntmps103 := tr_n103 Try.ntmps103
theorem call103 (args : Array Value) (w : World) : Sem.run prog (callFunc 103 args) w = .ok (.enter 103 args) w := by kernel_rfl
theorem func105 : prog.funcs[105]? = some Try.f105 := by kernel_rfl
def ntmps105 := Try.ntmps105
theorem call105 (args : Array Value) (w : World) : Sem.run prog (callFunc 105 args) w = .ok (.enter 105 args) w := by kernel_rfl
theorem func106 : prog.funcs[106]? = some Try.f106 := by kernel_rfl
def ntmps106 := Try.ntmps106
theorem call106 (args : Array Value) (w : World) : Sem.run prog (callFunc 106 args) w = .ok (.enter 106 args) w := by kernel_rfl
theorem func107 : prog.funcs[107]? = some Try.f107 := by kernel_rfl
def ntmps107 := Try.ntmps107
theorem call107 (args : Array Value) (w : World) : Sem.run prog (callFunc 107 args) w = .ok (.enter 107 args) w := by kernel_rfl
theorem func108 : prog.funcs[108]? = some Try.f108 := by kernel_rfl
def ntmps108 := Try.ntmps108
theorem call108 (args : Array Value) (w : World) : Sem.run prog (callFunc 108 args) w = .ok (.enter 108 args) w := by kernel_rfl
theorem func109 : prog.funcs[109]? = some Try.f109 := by kernel_rfl
def ntmps109 := Try.ntmps109
theorem call109 (args : Array Value) (w : World) : Sem.run prog (callFunc 109 args) w = .ok (.enter 109 args) w := by kernel_rfl
theorem func110 : prog.funcs[110]? = some Try.f110 := by kernel_rfl
def ntmps110 := Try.ntmps110
theorem call110 (args : Array Value) (w : World) : Sem.run prog (callFunc 110 args) w = .ok (.enter 110 args) w := by kernel_rfl
theorem func111 : prog.funcs[111]? = some Try.f111 := by kernel_rfl
def ntmps111 := Try.ntmps111
theorem call111 (args : Array Value) (w : World) : Sem.run prog (callFunc 111 args) w = .ok (.enter 111 args) w := by kernel_rfl
theorem func112 : prog.funcs[112]? = some Try.f112 := by kernel_rfl
def ntmps112 := Try.ntmps112
theorem call112 (args : Array Value) (w : World) : Sem.run prog (callFunc 112 args) w = .ok (.enter 112 args) w := by kernel_rfl
theorem func127 : prog.funcs[127]? = some Try.f127 := by kernel_rfl
def ntmps127 := Try.ntmps127
theorem call127 (args : Array Value) (w : World) : Sem.run prog (callFunc 127 args) w = .ok (.enter 127 args) w := by kernel_rfl
theorem func128 : prog.funcs[128]? = some Try.f128 := by kernel_rfl
def ntmps128 := Try.ntmps128
theorem call128 (args : Array Value) (w : World) : Sem.run prog (callFunc 128 args) w = .ok (.enter 128 args) w := by kernel_rfl
theorem func129 : prog.funcs[129]? = some Try.f129 := by kernel_rfl
def ntmps129 := Try.ntmps129
theorem call129 (args : Array Value) (w : World) : Sem.run prog (callFunc 129 args) w = .ok (.enter 129 args) w := by kernel_rfl
theorem func130 : prog.funcs[130]? = some Try.f130 := by kernel_rfl
def ntmps130 := Try.ntmps130
theorem call130 (args : Array Value) (w : World) : Sem.run prog (callFunc 130 args) w = .ok (.enter 130 args) w := by kernel_rfl
theorem func131 : prog.funcs[131]? = some Try.f131 := by kernel_rfl
def ntmps131 := Try.ntmps131
theorem call131 (args : Array Value) (w : World) : Sem.run prog (callFunc 131 args) w = .ok (.enter 131 args) w := by kernel_rfl
theorem func132 : prog.funcs[132]? = some Try.f132 := by kernel_rfl
def ntmps132 := Try.ntmps132
theorem call132 (args : Array Value) (w : World) : Sem.run prog (callFunc 132 args) w = .ok (.enter 132 args) w := by kernel_rfl
theorem func133 : prog.funcs[133]? = some Try.f133 := by kernel_rfl
def ntmps133 := Try.ntmps133
theorem call133 (args : Array Value) (w : World) : Sem.run prog (callFunc 133 args) w = .ok (.enter 133 args) w := by kernel_rfl
theorem func134 : prog.funcs[134]? = some Try.f134 := by kernel_rfl
def ntmps134 := Try.ntmps134
theorem call134 (args : Array Value) (w : World) : Sem.run prog (callFunc 134 args) w = .ok (.enter 134 args) w := by kernel_rfl
theorem func135 : prog.funcs[135]? = some Try.f135 := by kernel_rfl
def ntmps135 := Try.ntmps135
theorem call135 (args : Array Value) (w : World) : Sem.run prog (callFunc 135 args) w = .ok (.enter 135 args) w := by kernel_rfl
theorem func136 : prog.funcs[136]? = some Try.f136 := by kernel_rfl
def ntmps136 := Try.ntmps136
theorem call136 (args : Array Value) (w : World) : Sem.run prog (callFunc 136 args) w = .ok (.enter 136 args) w := by kernel_rfl
theorem func137 : prog.funcs[137]? = some Try.f137 := by kernel_rfl
theorem func138 : prog.funcs[138]? = some Try.f138 := by kernel_rfl
def ntmps138 := Try.ntmps138
theorem func139 : prog.funcs[139]? = some Try.f139 := by kernel_rfl
def ntmps139 := Try.ntmps139
theorem func140 : prog.funcs[140]? = some Try.f140 := by kernel_rfl
def ntmps140 := Try.ntmps140
theorem func141 : prog.funcs[141]? = some Try.f141 := by kernel_rfl
def ntmps141 := Try.ntmps141
theorem func142 : prog.funcs[142]? = some Try.f142 := by kernel_rfl
def ntmps142 := Try.ntmps142
theorem call142 (args : Array Value) (w : World) : Sem.run prog (callFunc 142 args) w = .ok (.enter 142 args) w := by kernel_rfl
theorem func143 : prog.funcs[143]? = some Try.f143 := by kernel_rfl
def ntmps143 := Try.ntmps143
theorem call143 (args : Array Value) (w : World) : Sem.run prog (callFunc 143 args) w = .ok (.enter 143 args) w := by kernel_rfl
theorem func149 : prog.funcs[149]? = some Try.f149 := by kernel_rfl
def ntmps149 := Try.ntmps149
theorem call149 (args : Array Value) (w : World) : Sem.run prog (callFunc 149 args) w = .ok (.enter 149 args) w := by kernel_rfl
theorem func151 : prog.funcs[151]? = some Try.f151 := by kernel_rfl
def ntmps151 := Try.ntmps151
theorem call151 (args : Array Value) (w : World) : Sem.run prog (callFunc 151 args) w = .ok (.enter 151 args) w := by kernel_rfl
theorem func171 : prog.funcs[171]? = some fSnd := by kernel_rfl
theorem results171 : fSnd.results = #[] := by kernel_rfl
theorem func172 : prog.funcs[172]? = some fGo := by kernel_rfl
theorem results172 : fGo.results = #[] := by kernel_rfl
theorem funcSnd : prog.funcs[sq.nfn]? = some fSnd := by kernel_rfl
theorem funcGo : prog.funcs[sq.nfn + 1]? = some fGo := by kernel_rfl
theorem ntmpsSnd : fSnd.ntmps = 5 := by kernel_rfl
theorem ntmpsGo : fGo.ntmps = 5 := by kernel_rfl
attribute [simp] sizeOf3 sizeOf4 sizeOf5
attribute [simp] sizeOf9 sizeOf23 sizeOf25 sizeOf44
attribute [simp] sizeOf63 sizeOf65 sizeOf66 sizeOf68
attribute [simp] sizeOf136
attribute [simp] underlying3 underlying4 underlying5 underlying9
attribute [simp] underlying22 underlying23 underlying25 underlying27 underlying44
attribute [simp] underlying58 underlying59 underlying63 underlying65 underlying66 underlying68 underlying73 underlying80 underlying83 underlying84
attribute [simp] underlying92 underlying105
attribute [simp] underlying133 underlying137 underlying142 underlying143
attribute [simp] runUnderlying22 runUnderlying23 runUnderlying25 runUnderlying27 runUnderlying44
attribute [simp] runUnderlying63 runUnderlying65 runUnderlying68 runUnderlying73 runUnderlying92
attribute [simp] runUnderlying137 runUnderlying143
attribute [simp] isAgg3 isAgg4 isAgg5 isAgg9
attribute [simp] isAgg23 isAgg25 isAgg44
attribute [simp] isAgg65 isAgg66
attribute [simp] isAgg136
attribute [simp] zeroValue3 zeroValue5 zeroValue9
attribute [simp] zeroValue25 zeroValue63
attribute [simp] zeroValue65 zeroValue66 zeroValue68 zeroValue83 zeroValue84
attribute [simp] zeroValue137 zeroValue142 zeroValue143
attribute [simp] func5
attribute [simp] func6 func10 func12 call12 func13 call13
attribute [simp] func28 call28 func29 call29 func30 call30 func31 call31 func32 call32 func33 call33 func34 call34 func35 call35 func36 call36 func39 call39 func40 call40 func41 call41 func43 call43 func44 call44
attribute [simp] func47 ntmps47 call47 func48 call48 func56 call56 func57 call57 func64 call64
attribute [simp] func65 call65 func66 call66 func67 call67 func68 call68 func69 call69 func75 func76 call76 func77 call77 func82 call82 func84 call84
attribute [simp] func85 call85 func86 call86 func87 call87 func88 call88 func94 call94 func95 call95 func96 call96 func97 call97 func98 call98 func99 call99 func100 call100 func101 call101 func103 ntmps103 call103
attribute [simp] func105 call105 func106 call106 func107 call107 func108 call108 func109 call109 func110 call110 func111 call111 func112 call112
attribute [simp] func127 call127 func128 call128 func129 call129 func130 call130 func131 call131 func132 call132 func133 call133 func134 call134 func135 call135 func136 call136 func137 func138 func139 func140 func141 func142 call142 func143 call143
attribute [simp] func149 call149 func151 call151 func171 results171 func172
attribute [simp] results172
end Go.Proofs.Ytddppmbllcnkoaa.sqp

/-
  Words for memory: a slice that reads as a list of cells, each of which may be written; what a quiet call leaves.
-/
namespace Go.Proofs.Ytddppmbllcnkoaa.mem
open Go.ChangeShapes Go.WideShapes Go.ChangeAt Go.RowKit
set_option linter.unusedVariables false
set_option maxRecDepth 100000

theorem ret_bool {a b : Bool} (h : a = b) : Ending.returned (.bool a) = .returned (.bool b) := by rw [h]
theorem ret_int {k : IntKind} {a b : Int} (h : a = b) : Ending.returned (.int k a) = .returned (.int k b) := by rw [h]
/-- The slice value '.slice A n c' reads as the cells xs; they lie in one block from 'lo' on and below 'hi', and none is frozen. -/
def Row (w : World) (lo hi : Nat) (A : Option Addr) (n : Nat) (xs : List Value) : Prop :=
  xs.length = n ∧ hi ≤ w.heap.size ∧ (0 < n → ∃ g off, A = some ⟨g, off, none⟩ ∧ lo ≤ g ∧ g < hi ∧ ∀ j, j < n → w.cell? ⟨g, off + j, none⟩ = xs[j]? ∧ w.frozen? ⟨g, off + j, none⟩ = false)

theorem Row.at_ {w : World} {lo hi n k : Nat} {A : Option Addr} {xs : List Value} (h : Row w lo hi A n xs) (hk : k < n) :
    ∃ g off u, A = some ⟨g, off, none⟩ ∧ lo ≤ g ∧ g < hi ∧ xs[k]? = some u ∧ w.cell? ⟨g, off + k, none⟩ = some u ∧ w.frozen? ⟨g, off + k, none⟩ = false := by
  obtain ⟨g, off, e, hb, hlt, hc⟩ := h.2.2 (by omega)
  have hl : k < xs.length := by have := h.1; omega
  obtain ⟨h1, h2⟩ := hc k hk
  exact ⟨g, off, xs[k], e, hb, hlt, List.getElem?_eq_getElem hl, by rw [h1, List.getElem?_eq_getElem hl], h2⟩

/-- All that was there is as it was, but for blocks from 'lo' on and below 'hi'. -/
structure Out (lo hi : Nat) (w w' : World) : Prop where
  os : w'.os = w.os
  tape : w'.tape = w.tape
  output : w'.output = w.output
  size : w.heap.size ≤ w'.heap.size
  block : ∀ k, k < w.heap.size → k < lo ∨ hi ≤ k → w'.heap[k]? = w.heap[k]?

theorem Out.refl (lo hi : Nat) (w : World) : Out lo hi w w := ⟨rfl, rfl, rfl, Nat.le_refl _, fun _ _ _ => rfl⟩
theorem Out.trans {lo hi : Nat} {a b c : World} (h : Out lo hi a b) (k : Out lo hi b c) : Out lo hi a c :=
  ⟨k.os.trans h.os, k.tape.trans h.tape, k.output.trans h.output, Nat.le_trans h.size k.size, fun i hi hne => (k.block i (Nat.lt_of_lt_of_le hi h.size) hne).trans (h.block i hi hne)⟩
theorem Out.of_below {lo hi : Nat} {w w' : World} (hb : Below w.heap.size w w') : Out lo hi w w' :=
  ⟨hb.os, hb.tape, hb.output, hb.size, fun k hk _ => hb.block k hk⟩
theorem Out.set_ {lo hi g off : Nat} {w w' : World} (h : Out lo hi w w') (h1 : lo ≤ g) (h2 : g < hi) (u : Value) : Out lo hi w (w'.setCell ⟨g, off, none⟩ u) :=
  ⟨h.os, h.tape, h.output, by simpa [World.setCell] using h.size, fun j hj hne => (Below.heap_setCell _ _ _ _ (by intro e; have e2 : j = g := e; omega)).trans (h.block j hj hne)⟩
theorem Out.below {lo hi B : Nat} {w w' : World} (h : Out lo hi w w') (h1 : B ≤ lo) (h2 : B ≤ w.heap.size) : Below B w w' :=
  ⟨h.os, h.tape, h.output, h.size, fun k hk => h.block k (by omega) (.inl (by omega))⟩
theorem Out.wider {lo hi lo' hi' : Nat} {w w' : World} (h : Out lo hi w w') (h1 : lo' ≤ lo) (h2 : hi ≤ hi') : Out lo' hi' w w' :=
  ⟨h.os, h.tape, h.output, h.size, fun k hk hne => h.block k hk (by omega)⟩

theorem Row.out {w w' : World} {lo hi lo' hi' n : Nat} {A : Option Addr} {xs : List Value} (h : Row w lo hi A n xs) (ho : Out lo' hi' w w') (hd : hi ≤ lo' ∨ hi' ≤ lo) : Row w' lo hi A n xs := by
  refine ⟨h.1, Nat.le_trans h.2.1 ho.size, fun hn => ?_⟩
  obtain ⟨g, off, e, hg, hlt, hc⟩ := h.2.2 hn
  have hs := h.2.1
  have hblk : w'.heap[g]? = w.heap[g]? := ho.block g (by omega) (by omega)
  refine ⟨g, off, e, hg, hlt, fun j hj => ?_⟩
  rw [World.cell?_of_block (w := w) (a := ⟨g, off + j, none⟩) hblk, World.frozen?_of_block (w := w) (a := ⟨g, off + j, none⟩) hblk]
  exact hc j hj
theorem Row.keep {w w' : World} {lo hi n B : Nat} {A : Option Addr} {xs : List Value} (h : Row w lo hi A n xs) (hb : Below B w w') (hB : hi ≤ B) : Row w' lo hi A n xs := by
  refine ⟨h.1, Nat.le_trans h.2.1 hb.size, fun hn => ?_⟩
  obtain ⟨g, off, e, hg, hlt, hc⟩ := h.2.2 hn
  have hblk : w'.heap[g]? = w.heap[g]? := hb.block g (by omega)
  refine ⟨g, off, e, hg, hlt, fun j hj => ?_⟩
  rw [World.cell?_of_block (w := w) (a := ⟨g, off + j, none⟩) hblk, World.frozen?_of_block (w := w) (a := ⟨g, off + j, none⟩) hblk]
  exact hc j hj

theorem Row.wider {w : World} {lo hi lo' hi' n : Nat} {A : Option Addr} {xs : List Value} (h : Row w lo hi A n xs) (h1 : lo' ≤ lo) (h2 : hi ≤ hi') (h3 : hi' ≤ w.heap.size) : Row w lo' hi' A n xs :=
  ⟨h.1, h3, fun hn => by
    obtain ⟨g, off, e, hg, hlt, hc⟩ := h.2.2 hn
    exact ⟨g, off, e, by omega, by omega, hc⟩⟩

theorem below_drewN {B : Nat} {a w : World} (h : Below B a w) (n : Nat) : Below B a (w.drewN n) := ⟨h.os, h.tape, h.output, h.size, h.block⟩

theorem Row.of_own {w : World} {base : Nat} {e : TypeId} {A : Option Addr} {n c : Nat} {xs : List Value} (h : w.ownsRow base e 1 (.slice A n c) n xs) : Row w base w.heap.size A n xs := by
  refine ⟨by simpa using h.1, Nat.le_refl _, fun hn => ?_⟩
  have hlen := h.1
  rcases h.2 with ⟨hv, h0⟩ | ⟨g, cap, cur, hv, hb, hh, r⟩
  · omega
  · injection hv with hA hn' hc'
    subst hA; subst hc'
    have hlt : g < w.heap.size := by
      rcases Nat.lt_or_ge g w.heap.size with hlt | hge
      · exact hlt
      · rw [Array.getElem?_eq_none hge] at hh; cases hh
    refine ⟨g, 0, rfl, hb, hlt, fun j hj => ?_⟩
    rw [Nat.zero_add]
    exact ⟨h.cellAt j (by omega), h.frozenAt j⟩

theorem Row.set_ {w : World} {lo hi n k g off : Nat} {xs : List Value} (h : Row w lo hi (some ⟨g, off, none⟩) n xs) (hk : k < n) (u : Value) :
    Row (w.setCell ⟨g, off + k, none⟩ u) lo hi (some ⟨g, off, none⟩) n (xs.set k u) := by
  refine ⟨by rw [List.length_set]; exact h.1, by simpa [World.setCell] using h.2.1, fun hn => ?_⟩
  obtain ⟨g', off', e, hg, hlt, hc⟩ := h.2.2 hn
  injection e with e; injection e with e1 e2; subst e1; subst e2
  refine ⟨g, off, rfl, hg, hlt, fun j hj => ?_⟩
  have hl := h.1
  rw [World.frozen?_setCell]
  refine ⟨?_, (hc j hj).2⟩
  by_cases e : j = k
  · subst e
    rw [World.cell?_setCell_same' w _ u (by rw [(hc j hj).1, List.getElem?_eq_getElem (by omega)]; rfl), List.getElem?_set_self (by omega)]
  · rw [World.cell?_setCell_other w _ _ u (by intro q; injection q with _ q; omega), List.getElem?_set_ne (by omega)]
    exact (hc j hj).1

/-- The slice value '.slice A n c' reads as the cells xs, which lie in one block below 'hi'. -/
def Rd (w : World) (hi : Nat) (A : Option Addr) (n : Nat) (xs : List Value) : Prop :=
  xs.length = n ∧ hi ≤ w.heap.size ∧ (0 < n → ∃ g off, A = some ⟨g, off, none⟩ ∧ g < hi ∧ ∀ j, j < n → w.cell? ⟨g, off + j, none⟩ = xs[j]?)
theorem Row.rd {w : World} {lo hi n : Nat} {A : Option Addr} {xs : List Value} (h : Row w lo hi A n xs) : Rd w hi A n xs :=
  ⟨h.1, h.2.1, fun hn => by
    obtain ⟨g, off, e, hg, hlt, hc⟩ := h.2.2 hn
    exact ⟨g, off, e, hlt, fun j hj => (hc j hj).1⟩⟩
theorem Rd.at_ {w : World} {hi n k : Nat} {A : Option Addr} {xs : List Value} (h : Rd w hi A n xs) (hk : k < n) :
    ∃ g off u, A = some ⟨g, off, none⟩ ∧ g < hi ∧ xs[k]? = some u ∧ w.cell? ⟨g, off + k, none⟩ = some u := by
  obtain ⟨g, off, e, hlt, hc⟩ := h.2.2 (by omega)
  have hl : k < xs.length := by have := h.1; omega
  exact ⟨g, off, xs[k], e, hlt, List.getElem?_eq_getElem hl, by rw [hc k hk, List.getElem?_eq_getElem hl]⟩
theorem Rd.keep {w w' : World} {hi n B : Nat} {A : Option Addr} {xs : List Value} (h : Rd w hi A n xs) (hb : Below B w w') (hB : hi ≤ B) : Rd w' hi A n xs := by
  refine ⟨h.1, Nat.le_trans h.2.1 hb.size, fun hn => ?_⟩
  obtain ⟨g, off, e, hlt, hc⟩ := h.2.2 hn
  have hblk : w'.heap[g]? = w.heap[g]? := hb.block g (by omega)
  refine ⟨g, off, e, hlt, fun j hj => ?_⟩
  rw [World.cell?_of_block (w := w) (a := ⟨g, off + j, none⟩) hblk]
  exact hc j hj
/-- A slice that came in: its cells. -/
theorem Rd.of_cells {w : World} {a : Addr} {n : Nat} {xs : List Value} (hl : xs.length = n) (h : ∀ i, i < n → w.cell? (a.add i) = xs[i]?) : Rd w w.heap.size (some a) n xs := by
  refine ⟨hl, Nat.le_refl _, fun hn => ?_⟩
  obtain ⟨b, off, spot⟩ := a
  have h0 := h 0 hn
  rw [List.getElem?_eq_getElem (by omega)] at h0
  have hspot : spot = none := by simpa [Addr.add] using World.cell?_spot h0
  subst hspot
  have hb := World.block_lt_of_cell? w _ h0
  refine ⟨b, off, rfl, by simpa [Addr.add] using hb, fun j hj => ?_⟩
  rw [← h j hj]
  congr 1
  unfold Addr.add
  split
  · rename_i e; subst e; simp
  · rfl

theorem run_byte_string {P : Program} (W : World) (src dst e t : TypeId) (n : Int)
    (hs : P.underlying src = some (.slice e)) (he : P.underlying e = some (.int .u8)) (hd : P.underlying dst = some .string) :
    (convert src dst (.slice (some ⟨W.heap.size, 0, none⟩) 1 1)).run P (W.alloc (.cells #[.int .u8 n] t)) = .ok (.string ⟨#[UInt8.ofNat n.toNat]⟩) (W.alloc (.cells #[.int .u8 n] t)) := by
  rw [run_convert_bytes_string _ _ _ _ _ _ _ hs he hd]
  rw [run_bytesToString _ ⟨W.heap.size, 0, none⟩ 1 1 [n] ?_]
  · rfl
  · simp [go_sem]

theorem run_byte_cell {P : Program} (W : World) (src dst e : TypeId) (b : Nat) (n : Int)
    (hs : P.underlying src = some (.slice e)) (he : P.underlying e = some (.int .u8)) (hd : P.underlying dst = some .string) (hc : W.cell? ⟨b, 0, none⟩ = some (.int .u8 n)) :
    (convert src dst (.slice (some ⟨b, 0, none⟩) 1 1)).run P W = .ok (.string ⟨#[UInt8.ofNat n.toNat]⟩) W := by
  rw [run_convert_bytes_string _ _ _ _ _ _ _ hs he hd]
  rw [run_bytesToString _ ⟨b, 0, none⟩ 1 1 [n] ?_]
  · rfl
  · simp [go_sem, hc]
theorem grown_trans {a b c : World} {row : Option Nat} (h : a.grownBy b row) (k : b.grownBy c row) : a.grownBy c row :=
  ⟨k.os.trans h.os, k.tape.trans h.tape, k.output.trans h.output, Nat.le_trans h.size k.size, fun i hi hne => (k.block i (Nat.lt_of_lt_of_le hi h.size) hne).trans (h.block i hi hne)⟩

/-- 'out = append(out, u)': u lies in the one cell of a new block; the row is nil or the call's own. -/
theorem wpList_append_one {P : Program} {ops : Array Oper} {rest : List Oper} {o : Oper} {a : Act} {Q : Exit → Act → World → Prop} (W : World) (u : Value) (ty : TypeId) (hgd : o.guard = none) (s x : Operand) (t : TypeId)
    (ho : o.op = .call { callee := .builtin .append, args := #[s, x], argTypes := #[t, t] })
    (base : Nat) (e : TypeId) (i : TypeInfo) (z : Value) (bytes : Nat) (ht : P.underlying t = some (.slice e)) (hi : P.info? e = some i) (hz : i.zero = some z)
    (hsize : i.size = 1) (hby : i.bytes = bytes) (hzs : z.cells.size = 1)
    (v : Value) (n : Nat) (xs : List Value) (hs : a.eval s = v) (hown : W.ownsRow base e 1 v n xs)
    (hx : a.eval x = .slice (some ⟨W.heap.size, 0, none⟩) 1 1) (h1 : u.oneCell' = true)
    (hbytes : (n + 1) * bytes ≤ 140737488355328) (hb0 : 0 < bytes) (hbase : base ≤ W.heap.size)
    (h : ∀ v' w', w'.ownsRow base e 1 v' (n + 1) (xs ++ [u]) → W.grownBy w' v.ownBlock → wpList P ops Q rest (a.put o.dst v') w') : wpList P ops Q (o :: rest) a (W.alloc (.cells #[u] ty)) := by
  refine wpList_append_own _ hgd s x t ho base e i z 1 bytes ht hi hz hsize hby hzs (by decide) v n xs hs (hown.alloc _) ⟨W.heap.size, 0, none⟩ 1 1 [u] hx rfl ?_ ?_ ?_ hbytes ?_ ?_
  · intro j q hj
    match j, hj with
    | 0, hj => simp at hj; subst hj; simp [Addr.add]
  · intro q hq; simp at hq; subst hq; exact h1
  · have : (n + 1) * 1 ≤ (n + 1) * bytes := Nat.mul_le_mul_left _ hb0
    unfold maxLen; omega
  · simp; omega
  · intro v' w' h2 h3 _
    exact h v' w' h2 (grown_trans (World.grownBy_alloc W _ _) h3)

theorem own_form {w : World} {base : Nat} {e : TypeId} {size n : Nat} {v : Value} {xs : List Value} (h : w.ownsRow base e size v n xs) : ∃ A c, v = .slice A n c := by
  rcases h.2 with ⟨rfl, rfl⟩ | ⟨g, cap, cur, rfl, _⟩
  · exact ⟨_, _, rfl⟩
  · exact ⟨_, _, rfl⟩
theorem own_below {w w' : World} {base B : Nat} {e : TypeId} {size n : Nat} {v : Value} {xs : List Value} (h : w.ownsRow base e size v n xs) (hg : w.grownBy w' v.ownBlock) (hB : B ≤ base) (hb : base ≤ w.heap.size) : Below B w w' :=
  (Below.refl _ _).grown hg (by omega) (fun k hk => by have := (h.lt k hk).1; omega)

end Go.Proofs.Ytddppmbllcnkoaa.mem
