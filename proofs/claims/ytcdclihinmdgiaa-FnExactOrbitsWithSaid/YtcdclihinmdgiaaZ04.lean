import Derived.Test.YtcdclihinmdgiaaZ03
import Derived.Test.YtcdclihinmdgiaaProg
import Derived.KernelRfl
import Derived.Test.YtcdclihinmdgiaaRows
import Derived.WalkKit
import Derived.ProofKit
import Derived.OpenShut
import Derived.ShutString
import Derived.Laws.RangeAny
import Derived.Lib.Hide
import Derived.Below
import Derived.Deep.QuietTactic
import Derived.BigQuiet
import Derived.Deep.RegionHeld3
import Derived.Deep.AppendLies
import Derived.Outline


namespace Go.Proofs.Ytcdclihinmdgiaa.sqp
open Go sq
set_option linter.unusedVariables false
set_option linter.defProp false
set_option maxRecDepth 100000
noncomputable def qzx:Func:={ Try.f16 with body:=Try.f16.body.map (qll (qfq 6)) }
noncomputable def q29:Func:={ Try.f59 with body:=Try.f59.body.map (qll (qfq 0)) }
noncomputable def qzy:Func:={ name:="snd",origin:="",params:=#[],resultTypes:=#[],nfree:=0,ntmps:=5,results:=#[],body:=some (qmz 55 48 55),norace:=false,tmpNames:=#[] }
noncomputable def fGo:Func:={ name:="go",origin:="",params:=#[],resultTypes:=#[],nfree:=0,ntmps:=5,results:=#[],body:=some (goC 43 44 43 77),norace:=false,tmpNames:=#[] }
noncomputable def funcs:Array Func:=#[Try.f0,Try.f1,Try.f2,Try.f3,Try.f4,Try.f5,Try.f6,Try.f7,Try.f8,Try.f9,Try.f10,Try.f11,Try.f12,Try.f13,Try.f14,Try.f15,qzx,Try.f17,Try.f18,Try.f19,Try.f20,Try.f21,Try.f22,Try.f23,Try.f24,Try.f25,Try.f26,Try.f27,Try.f28,Try.f29,Try.f30,Try.f31,Try.f32,Try.f33,Try.f34,Try.f35,Try.f36,Try.f37,Try.f38,Try.f39,Try.f40,Try.f41,Try.f42,Try.f43,Try.f44,Try.f45,Try.f46,Try.f47,Try.f48,Try.f49,Try.f50,Try.f51,Try.f52,Try.f53,Try.f54,Try.f55,Try.f56,Try.f57,Try.f58,q29,Try.f60,Try.f61,Try.f62,Try.f63,Try.f64,Try.f65,Try.f66,Try.f67,Try.f68,Try.f69,Try.f70,Try.f71,Try.f72,Try.f73,Try.f74,Try.f75,Try.f76,Try.f77,Try.f78,Try.f79,Try.f80,Try.f81,Try.f82,Try.f83,Try.f84,Try.f85,Try.f86,Try.f87,Try.f88,Try.f89,Try.f90,Try.f91,Try.f92,Try.f93,Try.f94,Try.f95,Try.f96,Try.f97,Try.f98,Try.f99,Try.f100,Try.f101,qzy,fGo]
noncomputable def prog:Program:={ toTables:={ Try.progTables with globals:=#[] },funcs }
theorem twin:sq.Twin Try.prog prog:=⟨fun t=>by kernel_rfl,by kernel_rfl,by kernel_rfl,fun d=>by kernel_rfl⟩
theorem qvv (i:TypeId):prog.eqGuardType prog.depth i = Try.prog.eqGuardType Try.prog.depth i:=by kernel_rfl
theorem jr {i:TypeId} {d:Option TypeDesc} (h:Program.underlying Try.prog i = d):Program.underlying prog i = d:=(twin.und i).trans h
theorem ng {i:TypeId} {x:Nat} (h:∀ w,Sem.run Try.prog (sizeOf i) w = .ok x w) (w:World):Sem.run prog (sizeOf i) w = .ok x w:=(twin.sizeOf i w).trans (h w)
theorem uw {i:TypeId} {x:TypeDesc} (h:∀ w,Sem.run Try.prog (underlying i) w = .ok x w) (w:World):Sem.run prog (underlying i) w = .ok x w:=(twin.qxu i w).trans (h w)
theorem qcc {i:TypeId} {x:Bool} (h:∀ w,Sem.run Try.prog (isAgg i) w = .ok x w) (w:World):Sem.run prog (isAgg i) w = .ok x w:=(twin.agg i w).trans (h w)
theorem yx {i:TypeId} {x:Value} (h:∀ w,Sem.run Try.prog (zeroValue i) w = .ok x w) (w:World):Sem.run prog (zeroValue i) w = .ok x w:=(twin.zero i w).trans (h w)
def sizeOf3:=ng Try.sizeOf3
def sizeOf4:=ng Try.sizeOf4
def sizeOf5:=ng Try.sizeOf5
def sizeOf9:=ng Try.sizeOf9
def sizeOf28:=ng Try.sizeOf28
def sizeOf30:=ng Try.sizeOf30
def sizeOf32:=ng Try.sizeOf32
def sizeOf38:=ng Try.sizeOf38
def sizeOf41:=ng Try.sizeOf41
def sizeOf43:=ng Try.sizeOf43
def sizeOf44:=ng Try.sizeOf44
def sizeOf53:=ng Try.sizeOf53
def sizeOf55:=ng Try.sizeOf55
def sizeOf115:=ng Try.sizeOf115
def underlying3:=jr Try.underlying3
def underlying4:=jr Try.underlying4
def underlying5:=jr Try.underlying5
def underlying9:=jr Try.underlying9
def underlying22:=jr Try.underlying22
def underlying28:=jr Try.underlying28
def underlying30:=jr Try.underlying30
def underlying32:=jr Try.underlying32
def underlying34:=jr Try.underlying34
def underlying41:=jr Try.underlying41
def underlying43:=jr Try.underlying43
def underlying44:=jr Try.underlying44
def underlying48:=jr Try.underlying48
def underlying49:=jr Try.underlying49
def underlying53:=jr Try.underlying53
def underlying55:=jr Try.underlying55
def underlying62:=jr Try.underlying62
def underlying67:=jr Try.underlying67
def underlying71:=jr Try.underlying71
def underlying77:=jr Try.underlying77
def underlying91:=jr Try.underlying91
def underlying92:=jr Try.underlying92
def underlying93:=jr Try.underlying93
def underlying98:=jr Try.underlying98
def underlying99:=jr Try.underlying99
def underlying103:=jr Try.underlying103
def underlying114:=jr Try.underlying114
def underlying116:=jr Try.underlying116
def runUnderlying22:=uw Try.runUnderlying22
def runUnderlying28:=uw Try.runUnderlying28
def runUnderlying30:=uw Try.runUnderlying30
def runUnderlying32:=uw Try.runUnderlying32
def runUnderlying34:=uw Try.runUnderlying34
def runUnderlying41:=uw Try.runUnderlying41
def runUnderlying43:=uw Try.runUnderlying43
def runUnderlying44:=uw Try.runUnderlying44
def runUnderlying46:=uw Try.runUnderlying46
def runUnderlying55:=uw Try.runUnderlying55
def runUnderlying62:=uw Try.runUnderlying62
def runUnderlying67:=uw Try.runUnderlying67
def runUnderlying92:=uw Try.runUnderlying92
def runUnderlying114:=uw Try.runUnderlying114
def runUnderlying116:=uw Try.runUnderlying116
def isAgg3:=qcc Try.isAgg3
def isAgg4:=qcc Try.isAgg4
def isAgg5:=qcc Try.isAgg5
def isAgg9:=qcc Try.isAgg9
def isAgg28:=qcc Try.isAgg28
def isAgg30:=qcc Try.isAgg30
def isAgg32:=qcc Try.isAgg32
def isAgg38:=qcc Try.isAgg38
def isAgg43:=qcc Try.isAgg43
def isAgg44:=qcc Try.isAgg44
def isAgg53:=qcc Try.isAgg53
def isAgg115:=qcc Try.isAgg115
def zeroValue3:=yx Try.zeroValue3
def zeroValue5:=yx Try.zeroValue5
def zeroValue9:=yx Try.zeroValue9
def zeroValue28:=yx Try.zeroValue28
def zeroValue30:=yx Try.zeroValue30
def zeroValue32:=yx Try.zeroValue32
def zeroValue41:=yx Try.zeroValue41
def zeroValue43:=yx Try.zeroValue43
def zeroValue44:=yx Try.zeroValue44
def zeroValue46:=yx Try.zeroValue46
def zeroValue53:=yx Try.zeroValue53
def zeroValue55:=yx Try.zeroValue55
def zeroValue91:=yx Try.zeroValue91
def zeroValue92:=yx Try.zeroValue92
def zeroValue99:=yx Try.zeroValue99
def zeroValue116:=yx Try.zeroValue116
theorem func3:prog.funcs[3]? = some Try.f3:=by kernel_rfl
def ntmps3:=Try.ntmps3
theorem func4:prog.funcs[4]? = some Try.f4:=by kernel_rfl
def ntmps4:=Try.ntmps4
theorem call4 (args:Array Value) (w:World):Sem.run prog (callFunc 4 args) w = .ok (.enter 4 args) w:=by kernel_rfl
theorem func5:prog.funcs[5]? = some Try.f5:=by kernel_rfl
def ntmps5:=Try.ntmps5
theorem call5 (args:Array Value) (w:World):Sem.run prog (callFunc 5 args) w = .ok (.enter 5 args) w:=by kernel_rfl
theorem func6:prog.funcs[6]? = some Try.f6:=by kernel_rfl
def ntmps6:=Try.ntmps6
theorem call6 (args:Array Value) (w:World):Sem.run prog (callFunc 6 args) w = .ok (.enter 6 args) w:=by kernel_rfl
theorem func7:prog.funcs[7]? = some Try.f7:=by kernel_rfl
def ntmps7:=Try.ntmps7
theorem call7 (args:Array Value) (w:World):Sem.run prog (callFunc 7 args) w = .ok (.enter 7 args) w:=by kernel_rfl
theorem func8:prog.funcs[8]? = some Try.f8:=by kernel_rfl
def ntmps8:=Try.ntmps8
theorem call8 (args:Array Value) (w:World):Sem.run prog (callFunc 8 args) w = .ok (.enter 8 args) w:=by kernel_rfl
theorem func9:prog.funcs[9]? = some Try.f9:=by kernel_rfl
def ntmps9:=Try.ntmps9
theorem call9 (args:Array Value) (w:World):Sem.run prog (callFunc 9 args) w = .ok (.enter 9 args) w:=by kernel_rfl
theorem func10:prog.funcs[10]? = some Try.f10:=by kernel_rfl
def ntmps10:=Try.ntmps10
theorem call10 (args:Array Value) (w:World):Sem.run prog (callFunc 10 args) w = .ok (.enter 10 args) w:=by kernel_rfl
theorem func11:prog.funcs[11]? = some Try.f11:=by kernel_rfl
def ntmps11:=Try.ntmps11
theorem call11 (args:Array Value) (w:World):Sem.run prog (callFunc 11 args) w = .ok (.enter 11 args) w:=by kernel_rfl
theorem func12:prog.funcs[12]? = some Try.f12:=by kernel_rfl
def ntmps12:=Try.ntmps12
theorem call12 (args:Array Value) (w:World):Sem.run prog (callFunc 12 args) w = .ok (.enter 12 args) w:=by kernel_rfl
theorem func13:prog.funcs[13]? = some Try.f13:=by kernel_rfl
def ntmps13:=Try.ntmps13
theorem call13 (args:Array Value) (w:World):Sem.run prog (callFunc 13 args) w = .ok (.enter 13 args) w:=by kernel_rfl
theorem func14:prog.funcs[14]? = some Try.f14:=by kernel_rfl
def ntmps14:=Try.ntmps14
theorem call14 (args:Array Value) (w:World):Sem.run prog (callFunc 14 args) w = .ok (.enter 14 args) w:=by kernel_rfl
theorem func15:prog.funcs[15]? = some Try.f15:=by kernel_rfl
def ntmps15:=Try.ntmps15
theorem call15 (args:Array Value) (w:World):Sem.run prog (callFunc 15 args) w = .ok (.enter 15 args) w:=by kernel_rfl
theorem func16:prog.funcs[16]? = some qzx:=by kernel_rfl
theorem q2a {n:Nat} (h:Try.f16.ntmps = n):qzx.ntmps = n:=h
def ntmps16:=q2a Try.ntmps16
theorem call16 (args:Array Value) (w:World):Sem.run prog (callFunc 16 args) w = .ok (.enter 16 args) w:=by kernel_rfl
theorem func17:prog.funcs[17]? = some Try.f17:=by kernel_rfl
def ntmps17:=Try.ntmps17
theorem call17 (args:Array Value) (w:World):Sem.run prog (callFunc 17 args) w = .ok (.enter 17 args) w:=by kernel_rfl
theorem func18:prog.funcs[18]? = some Try.f18:=by kernel_rfl
def ntmps18:=Try.ntmps18
theorem call18 (args:Array Value) (w:World):Sem.run prog (callFunc 18 args) w = .ok (.enter 18 args) w:=by kernel_rfl
theorem func19:prog.funcs[19]? = some Try.f19:=by kernel_rfl
def ntmps19:=Try.ntmps19
theorem call19 (args:Array Value) (w:World):Sem.run prog (callFunc 19 args) w = .ok (.enter 19 args) w:=by kernel_rfl
theorem func20:prog.funcs[20]? = some Try.f20:=by kernel_rfl
def ntmps20:=Try.ntmps20
theorem call20 (args:Array Value) (w:World):Sem.run prog (callFunc 20 args) w = .ok (.enter 20 args) w:=by kernel_rfl
theorem func21:prog.funcs[21]? = some Try.f21:=by kernel_rfl
def ntmps21:=Try.ntmps21
theorem call21 (args:Array Value) (w:World):Sem.run prog (callFunc 21 args) w = .ok (.enter 21 args) w:=by kernel_rfl
theorem func22:prog.funcs[22]? = some Try.f22:=by kernel_rfl
def ntmps22:=Try.ntmps22
theorem call22 (args:Array Value) (w:World):Sem.run prog (callFunc 22 args) w = .ok (.enter 22 args) w:=by kernel_rfl
theorem func23:prog.funcs[23]? = some Try.f23:=by kernel_rfl
def ntmps23:=Try.ntmps23
theorem call23 (args:Array Value) (w:World):Sem.run prog (callFunc 23 args) w = .ok (.enter 23 args) w:=by kernel_rfl
theorem func24:prog.funcs[24]? = some Try.f24:=by kernel_rfl
def ntmps24:=Try.ntmps24
theorem call24 (args:Array Value) (w:World):Sem.run prog (callFunc 24 args) w = .ok (.enter 24 args) w:=by kernel_rfl
theorem func25:prog.funcs[25]? = some Try.f25:=by kernel_rfl
def ntmps25:=Try.ntmps25
theorem call25 (args:Array Value) (w:World):Sem.run prog (callFunc 25 args) w = .ok (.enter 25 args) w:=by kernel_rfl
theorem func26:prog.funcs[26]? = some Try.f26:=by kernel_rfl
def ntmps26:=Try.ntmps26
theorem call26 (args:Array Value) (w:World):Sem.run prog (callFunc 26 args) w = .ok (.enter 26 args) w:=by kernel_rfl
theorem func27:prog.funcs[27]? = some Try.f27:=by kernel_rfl
def ntmps27:=Try.ntmps27
theorem call27 (args:Array Value) (w:World):Sem.run prog (callFunc 27 args) w = .ok (.enter 27 args) w:=by kernel_rfl
theorem func28:prog.funcs[28]? = some Try.f28:=by kernel_rfl
def ntmps28:=Try.ntmps28
theorem call28 (args:Array Value) (w:World):Sem.run prog (callFunc 28 args) w = .ok (.enter 28 args) w:=by kernel_rfl
theorem func29:prog.funcs[29]? = some Try.f29:=by kernel_rfl
def ntmps29:=Try.ntmps29
theorem call29 (args:Array Value) (w:World):Sem.run prog (callFunc 29 args) w = .ok (.enter 29 args) w:=by kernel_rfl
theorem func30:prog.funcs[30]? = some Try.f30:=by kernel_rfl
def ntmps30:=Try.ntmps30
theorem call30 (args:Array Value) (w:World):Sem.run prog (callFunc 30 args) w = .ok (.enter 30 args) w:=by kernel_rfl
theorem func31:prog.funcs[31]? = some Try.f31:=by kernel_rfl
def ntmps31:=Try.ntmps31
theorem call31 (args:Array Value) (w:World):Sem.run prog (callFunc 31 args) w = .ok (.enter 31 args) w:=by kernel_rfl
theorem func32:prog.funcs[32]? = some Try.f32:=by kernel_rfl
def ntmps32:=Try.ntmps32
theorem call32 (args:Array Value) (w:World):Sem.run prog (callFunc 32 args) w = .ok (.enter 32 args) w:=by kernel_rfl
theorem func33:prog.funcs[33]? = some Try.f33:=by kernel_rfl
def ntmps33:=Try.ntmps33
theorem call33 (args:Array Value) (w:World):Sem.run prog (callFunc 33 args) w = .ok (.enter 33 args) w:=by kernel_rfl
theorem func34:prog.funcs[34]? = some Try.f34:=by kernel_rfl
def ntmps34:=Try.ntmps34
theorem call34 (args:Array Value) (w:World):Sem.run prog (callFunc 34 args) w = .ok (.enter 34 args) w:=by kernel_rfl
theorem func35:prog.funcs[35]? = some Try.f35:=by kernel_rfl
def ntmps35:=Try.ntmps35
theorem call35 (args:Array Value) (w:World):Sem.run prog (callFunc 35 args) w = .ok (.enter 35 args) w:=by kernel_rfl
theorem func36:prog.funcs[36]? = some Try.f36:=by kernel_rfl
def ntmps36:=Try.ntmps36
theorem func37:prog.funcs[37]? = some Try.f37:=by kernel_rfl
def ntmps37:=Try.ntmps37
theorem call37 (args:Array Value) (w:World):Sem.run prog (callFunc 37 args) w = .ok (.enter 37 args) w:=by kernel_rfl
theorem func38:prog.funcs[38]? = some Try.f38:=by kernel_rfl
def ntmps38:=Try.ntmps38
theorem call38 (args:Array Value) (w:World):Sem.run prog (callFunc 38 args) w = .ok (.enter 38 args) w:=by kernel_rfl
theorem func39:prog.funcs[39]? = some Try.f39:=by kernel_rfl
def ntmps39:=Try.ntmps39
theorem call39 (args:Array Value) (w:World):Sem.run prog (callFunc 39 args) w = .ok (.enter 39 args) w:=by kernel_rfl
theorem func40:prog.funcs[40]? = some Try.f40:=by kernel_rfl
def ntmps40:=Try.ntmps40
theorem call40 (args:Array Value) (w:World):Sem.run prog (callFunc 40 args) w = .ok (.enter 40 args) w:=by kernel_rfl
theorem func41:prog.funcs[41]? = some Try.f41:=by kernel_rfl
def ntmps41:=Try.ntmps41
theorem call41 (args:Array Value) (w:World):Sem.run prog (callFunc 41 args) w = .ok (.enter 41 args) w:=by kernel_rfl
theorem func42:prog.funcs[42]? = some Try.f42:=by kernel_rfl
def ntmps42:=Try.ntmps42
theorem call42 (args:Array Value) (w:World):Sem.run prog (callFunc 42 args) w = .ok (.enter 42 args) w:=by kernel_rfl
theorem func43:prog.funcs[43]? = some Try.f43:=by kernel_rfl
def ntmps43:=Try.ntmps43
theorem call43 (args:Array Value) (w:World):Sem.run prog (callFunc 43 args) w = .ok (.enter 43 args) w:=by kernel_rfl
theorem func44:prog.funcs[44]? = some Try.f44:=by kernel_rfl
def ntmps44:=Try.ntmps44
theorem call44 (args:Array Value) (w:World):Sem.run prog (callFunc 44 args) w = .ok (.enter 44 args) w:=by kernel_rfl
theorem func45:prog.funcs[45]? = some Try.f45:=by kernel_rfl
def ntmps45:=Try.ntmps45
theorem call45 (args:Array Value) (w:World):Sem.run prog (callFunc 45 args) w = .ok (.enter 45 args) w:=by kernel_rfl
theorem func46:prog.funcs[46]? = some Try.f46:=by kernel_rfl
def ntmps46:=Try.ntmps46
theorem call46 (args:Array Value) (w:World):Sem.run prog (callFunc 46 args) w = .ok (.enter 46 args) w:=by kernel_rfl
theorem func47:prog.funcs[47]? = some Try.f47:=by kernel_rfl
def ntmps47:=Try.ntmps47
theorem call47 (args:Array Value) (w:World):Sem.run prog (callFunc 47 args) w = .ok (.enter 47 args) w:=by kernel_rfl
theorem func48:prog.funcs[48]? = some Try.f48:=by kernel_rfl
def ntmps48:=Try.ntmps48
theorem call48 (args:Array Value) (w:World):Sem.run prog (callFunc 48 args) w = .ok (.enter 48 args) w:=by kernel_rfl
theorem func49:prog.funcs[49]? = some Try.f49:=by kernel_rfl
def ntmps49:=Try.ntmps49
theorem call49 (args:Array Value) (w:World):Sem.run prog (callFunc 49 args) w = .ok (.enter 49 args) w:=by kernel_rfl
theorem func50:prog.funcs[50]? = some Try.f50:=by kernel_rfl
def ntmps50:=Try.ntmps50
theorem call50 (args:Array Value) (w:World):Sem.run prog (callFunc 50 args) w = .ok (.enter 50 args) w:=by kernel_rfl
theorem func51:prog.funcs[51]? = some Try.f51:=by kernel_rfl
def ntmps51:=Try.ntmps51
theorem call51 (args:Array Value) (w:World):Sem.run prog (callFunc 51 args) w = .ok (.enter 51 args) w:=by kernel_rfl
theorem func52:prog.funcs[52]? = some Try.f52:=by kernel_rfl
def ntmps52:=Try.ntmps52
theorem call52 (args:Array Value) (w:World):Sem.run prog (callFunc 52 args) w = .ok (.enter 52 args) w:=by kernel_rfl
theorem func53:prog.funcs[53]? = some Try.f53:=by kernel_rfl
def ntmps53:=Try.ntmps53
theorem call53 (args:Array Value) (w:World):Sem.run prog (callFunc 53 args) w = .ok (.enter 53 args) w:=by kernel_rfl
theorem func54:prog.funcs[54]? = some Try.f54:=by kernel_rfl
def ntmps54:=Try.ntmps54
theorem call54 (args:Array Value) (w:World):Sem.run prog (callFunc 54 args) w = .ok (.enter 54 args) w:=by kernel_rfl
theorem func55:prog.funcs[55]? = some Try.f55:=by kernel_rfl
def ntmps55:=Try.ntmps55
theorem call55 (args:Array Value) (w:World):Sem.run prog (callFunc 55 args) w = .ok (.enter 55 args) w:=by kernel_rfl
theorem func56:prog.funcs[56]? = some Try.f56:=by kernel_rfl
def ntmps56:=Try.ntmps56
theorem call56 (args:Array Value) (w:World):Sem.run prog (callFunc 56 args) w = .ok (.enter 56 args) w:=by kernel_rfl
theorem func57:prog.funcs[57]? = some Try.f57:=by kernel_rfl
def ntmps57:=Try.ntmps57
theorem call57 (args:Array Value) (w:World):Sem.run prog (callFunc 57 args) w = .ok (.enter 57 args) w:=by kernel_rfl
theorem func58:prog.funcs[58]? = some Try.f58:=by kernel_rfl
def ntmps58:=Try.ntmps58
theorem call58 (args:Array Value) (w:World):Sem.run prog (callFunc 58 args) w = .ok (.enter 58 args) w:=by kernel_rfl
theorem func59:prog.funcs[59]? = some q29:=by kernel_rfl
theorem q2b {n:Nat} (h:Try.f59.ntmps = n):q29.ntmps = n:=h
def ntmps59:=q2b Try.ntmps59
theorem call59 (args:Array Value) (w:World):Sem.run prog (callFunc 59 args) w = .ok (.enter 59 args) w:=by kernel_rfl
theorem func60:prog.funcs[60]? = some Try.f60:=by kernel_rfl
def ntmps60:=Try.ntmps60
theorem call60 (args:Array Value) (w:World):Sem.run prog (callFunc 60 args) w = .ok (.enter 60 args) w:=by kernel_rfl
theorem func61:prog.funcs[61]? = some Try.f61:=by kernel_rfl
theorem func63:prog.funcs[63]? = some Try.f63:=by kernel_rfl
def ntmps63:=Try.ntmps63
theorem call63 (args:Array Value) (w:World):Sem.run prog (callFunc 63 args) w = .ok (.enter 63 args) w:=by kernel_rfl
theorem func64:prog.funcs[64]? = some Try.f64:=by kernel_rfl
def ntmps64:=Try.ntmps64
theorem call64 (args:Array Value) (w:World):Sem.run prog (callFunc 64 args) w = .ok (.enter 64 args) w:=by kernel_rfl
theorem func65:prog.funcs[65]? = some Try.f65:=by kernel_rfl
def ntmps65:=Try.ntmps65
theorem call65 (args:Array Value) (w:World):Sem.run prog (callFunc 65 args) w = .ok (.enter 65 args) w:=by kernel_rfl
theorem func66:prog.funcs[66]? = some Try.f66:=by kernel_rfl
def ntmps66:=Try.ntmps66
theorem call66 (args:Array Value) (w:World):Sem.run prog (callFunc 66 args) w = .ok (.enter 66 args) w:=by kernel_rfl
theorem func67:prog.funcs[67]? = some Try.f67:=by kernel_rfl
def ntmps67:=Try.ntmps67
theorem call67 (args:Array Value) (w:World):Sem.run prog (callFunc 67 args) w = .ok (.enter 67 args) w:=by kernel_rfl
theorem func68:prog.funcs[68]? = some Try.f68:=by kernel_rfl
def ntmps68:=Try.ntmps68
theorem call68 (args:Array Value) (w:World):Sem.run prog (callFunc 68 args) w = .ok (.enter 68 args) w:=by kernel_rfl
theorem func69:prog.funcs[69]? = some Try.f69:=by kernel_rfl
def ntmps69:=Try.ntmps69
theorem call69 (args:Array Value) (w:World):Sem.run prog (callFunc 69 args) w = .ok (.enter 69 args) w:=by kernel_rfl
theorem func70:prog.funcs[70]? = some Try.f70:=by kernel_rfl
def ntmps70:=Try.ntmps70
theorem call70 (args:Array Value) (w:World):Sem.run prog (callFunc 70 args) w = .ok (.enter 70 args) w:=by kernel_rfl
theorem func71:prog.funcs[71]? = some Try.f71:=by kernel_rfl
def ntmps71:=Try.ntmps71
theorem call71 (args:Array Value) (w:World):Sem.run prog (callFunc 71 args) w = .ok (.enter 71 args) w:=by kernel_rfl
theorem func72:prog.funcs[72]? = some Try.f72:=by kernel_rfl
def ntmps72:=Try.ntmps72
theorem call72 (args:Array Value) (w:World):Sem.run prog (callFunc 72 args) w = .ok (.enter 72 args) w:=by kernel_rfl
theorem func73:prog.funcs[73]? = some Try.f73:=by kernel_rfl
def ntmps73:=Try.ntmps73
theorem call73 (args:Array Value) (w:World):Sem.run prog (callFunc 73 args) w = .ok (.enter 73 args) w:=by kernel_rfl
theorem func74:prog.funcs[74]? = some Try.f74:=by kernel_rfl
def ntmps74:=Try.ntmps74
theorem call74 (args:Array Value) (w:World):Sem.run prog (callFunc 74 args) w = .ok (.enter 74 args) w:=by kernel_rfl
theorem func76:prog.funcs[76]? = some Try.f76:=by kernel_rfl
def ntmps76:=Try.ntmps76
theorem call76 (args:Array Value) (w:World):Sem.run prog (callFunc 76 args) w = .ok (.enter 76 args) w:=by kernel_rfl
theorem func77:prog.funcs[77]? = some Try.f77:=by kernel_rfl
def ntmps77:=Try.ntmps77
theorem call77 (args:Array Value) (w:World):Sem.run prog (callFunc 77 args) w = .ok (.enter 77 args) w:=by kernel_rfl
theorem func78:prog.funcs[78]? = some Try.f78:=by kernel_rfl
def ntmps78:=Try.ntmps78
theorem func79:prog.funcs[79]? = some Try.f79:=by kernel_rfl
def ntmps79:=Try.ntmps79
theorem func80:prog.funcs[80]? = some Try.f80:=by kernel_rfl
def ntmps80:=Try.ntmps80
theorem func81:prog.funcs[81]? = some Try.f81:=by kernel_rfl
def ntmps81:=Try.ntmps81
theorem func102:prog.funcs[102]? = some qzy:=by kernel_rfl
theorem qhu:qzy.results = #[]:=by kernel_rfl
theorem func103:prog.funcs[103]? = some fGo:=by kernel_rfl
theorem qet:fGo.results = #[]:=by kernel_rfl
theorem qzz:prog.funcs[sq.nfn]? = some qzy:=by kernel_rfl
theorem q2c:prog.funcs[sq.nfn + 1]? = some fGo:=by kernel_rfl
theorem qvw:qzy.ntmps = 5:=by kernel_rfl
theorem qz0:fGo.ntmps = 5:=by kernel_rfl
attribute [simp] sizeOf3 sizeOf4 sizeOf5 sizeOf9 sizeOf28 sizeOf30 sizeOf32 sizeOf38
attribute [simp] sizeOf41 sizeOf43 sizeOf44 sizeOf53 sizeOf55
attribute [simp] sizeOf115
attribute [simp] underlying3 underlying4 underlying5 underlying9
attribute [simp] underlying22 underlying28 underlying30 underlying32 underlying34 underlying41 underlying43 underlying44 underlying48 underlying49 underlying53 underlying55
attribute [simp] underlying62 underlying67 underlying71 underlying77 underlying91 underlying92 underlying93 underlying98 underlying99
attribute [simp] underlying103 underlying114 underlying116
attribute [simp] runUnderlying22 runUnderlying28 runUnderlying30 runUnderlying32 runUnderlying34
attribute [simp] runUnderlying41 runUnderlying43 runUnderlying44 runUnderlying46 runUnderlying55 runUnderlying62 runUnderlying67
attribute [simp] runUnderlying92 runUnderlying114 runUnderlying116
attribute [simp] isAgg3 isAgg4 isAgg5 isAgg9
attribute [simp] isAgg28 isAgg30 isAgg32 isAgg38 isAgg43 isAgg44 isAgg53
attribute [simp] isAgg115
attribute [simp] zeroValue3 zeroValue5 zeroValue9 zeroValue28 zeroValue30 zeroValue32
attribute [simp] zeroValue41 zeroValue43 zeroValue44 zeroValue46 zeroValue53 zeroValue55
attribute [simp] zeroValue91 zeroValue92 zeroValue99 zeroValue116
attribute [simp] func3 func4 call4 func5 call5 func6 call6 func7
attribute [simp] call7 func8 call8 func9 call9 func10 call10 func11 call11 func12 call12 func13 call13 func14 call14 func15 call15 func16 ntmps16 call16 func17 call17 func18 call18 func19 call19 func20 call20 func21 call21 func22 call22 func23 call23 func24 call24 func25 call25 func26
attribute [simp] call26 func27 call27 func28 call28 func29 call29 func30 call30 func31 call31 func32 call32 func33 call33 func34 call34 func35 call35 func36 func37 call37 func38 call38 func39 call39 func40 call40 func41 call41 func42 call42 func43 call43 func44 call44 func45 call45 func46
attribute [simp] call46 func47 call47 func48 call48 func49 call49 func50 call50 func51 call51 func52 call52 func53 call53 func54 call54 func55 call55 func56 call56 func57 call57 func58 call58 func59 ntmps59 call59 func60 call60 func61 func63 call63 func64 call64 func65 call65
attribute [simp] func66 call66 func67 call67 func68 call68 func69 call69 func70 call70 func71 call71 func72 call72 func73 call73 func74 call74 func76 call76 func77 call77 func78 func79 func80 func81
attribute [simp] func102 qhu func103 qet
end Go.Proofs.Ytcdclihinmdgiaa.sqp

namespace Go.Proofs.Ytcdclihinmdgiaa.mem
open Go.ChangeShapes Go.WideShapes Go.ChangeAt Go.RowKit
set_option linter.unusedVariables false
set_option maxRecDepth 100000
theorem qx {a b:Bool} (h:a = b):Ending.returned (.bool a) = .returned (.bool b):=by rw [h]
theorem qdr {k:IntKind} {a b:Int} (h:a = b):Ending.returned (.int k a) = .returned (.int k b):=by rw [h]
def Row (w:World) (lo hi:Nat) (A:Option Addr) (n:Nat) (xs:List Value):Prop :=
 xs.length = n/\hi<=w.heap.size/\(0 < n->∃ g off,A = some ⟨g,off,none⟩/\lo<=g/\g < hi/\∀ j,j < n->w.cell? ⟨g,off + j,none⟩ = xs[j]?/\w.frozen? ⟨g,off + j,none⟩ = false)
theorem Row.at_ {w:World} {lo hi n k:Nat} {A:Option Addr} {xs:List Value} (h:Row w lo hi A n xs) (hk:k < n) :
  ∃ g off u,A = some ⟨g,off,none⟩/\lo<=g/\g < hi/\xs[k]? = some u/\w.cell? ⟨g,off + k,none⟩ = some u/\w.frozen? ⟨g,off + k,none⟩ = false:=by
 obtain ⟨g,off,e,hb,hlt,hc⟩:=h.2.2 (by omega)
 have hl:k < xs.length:=by have:=h.1;omega
 obtain ⟨h1,h2⟩:=hc k hk
 exact ⟨g,off,xs[k],e,hb,hlt,List.getElem?_eq_getElem hl,by rw [h1,List.getElem?_eq_getElem hl],h2⟩
structure Out (lo hi:Nat) (w w':World):Prop where
 os:w'.os = w.os
 tape:w'.tape = w.tape
 output:w'.output = w.output
 size:w.heap.size<=w'.heap.size
 block:∀ k,k < w.heap.size->k < lo\/hi<=k->w'.heap[k]? = w.heap[k]?
theorem Out.refl (lo hi:Nat) (w:World):Out lo hi w w:=⟨rfl,rfl,rfl,Nat.le_refl _,fun _ _ _=>rfl⟩
theorem Out.trans {lo hi:Nat} {a b c:World} (h:Out lo hi a b) (k:Out lo hi b c):Out lo hi a c :=
 ⟨k.os.trans h.os,k.tape.trans h.tape,k.output.trans h.output,Nat.le_trans h.size k.size,fun i hi hne=>(k.block i (Nat.lt_of_lt_of_le hi h.size) hne).trans (h.block i hi hne)⟩
theorem Out.of_below {lo hi:Nat} {w w':World} (hb:Below w.heap.size w w'):Out lo hi w w' :=
 ⟨hb.os,hb.tape,hb.output,hb.size,fun k hk _=>hb.block k hk⟩
theorem Out.qjo {lo hi g off:Nat} {w w':World} (h:Out lo hi w w') (h1:lo<=g) (h2:g < hi) (u:Value):Out lo hi w (w'.setCell ⟨g,off,none⟩ u) :=
 ⟨h.os,h.tape,h.output,by simpa [World.setCell] using h.size,fun j hj hne=>(Below.heap_setCell _ _ _ _ (by intro e;have e2:j = g:=e;omega)).trans (h.block j hj hne)⟩
theorem Out.below {lo hi B:Nat} {w w':World} (h:Out lo hi w w') (h1:B<=lo) (h2:B<=w.heap.size):Below B w w' :=
 ⟨h.os,h.tape,h.output,h.size,fun k hk=>h.block k (by omega) (.inl (by omega))⟩
theorem Out.wider {lo hi lo' hi':Nat} {w w':World} (h:Out lo hi w w') (h1:lo'<=lo) (h2:hi<=hi'):Out lo' hi' w w' :=
 ⟨h.os,h.tape,h.output,h.size,fun k hk hne=>h.block k hk (by omega)⟩
theorem Row.out {w w':World} {lo hi lo' hi' n:Nat} {A:Option Addr} {xs:List Value} (h:Row w lo hi A n xs) (ho:Out lo' hi' w w') (hd:hi<=lo'\/hi'<=lo):Row w' lo hi A n xs:=by
 refine ⟨h.1,Nat.le_trans h.2.1 ho.size,fun hn=>?_⟩
 obtain ⟨g,off,e,hg,hlt,hc⟩:=h.2.2 hn
 have hs:=h.2.1
 have hblk:w'.heap[g]? = w.heap[g]?:=ho.block g (by omega) (by omega)
 refine ⟨g,off,e,hg,hlt,fun j hj=>?_⟩
 rw [World.cell?_of_block (w:=w) (a:=⟨g,off + j,none⟩) hblk,World.frozen?_of_block (w:=w) (a:=⟨g,off + j,none⟩) hblk]
 exact hc j hj
theorem Row.keep {w w':World} {lo hi n B:Nat} {A:Option Addr} {xs:List Value} (h:Row w lo hi A n xs) (hb:Below B w w') (hB:hi<=B):Row w' lo hi A n xs:=by
 refine ⟨h.1,Nat.le_trans h.2.1 hb.size,fun hn=>?_⟩
 obtain ⟨g,off,e,hg,hlt,hc⟩:=h.2.2 hn
 have hblk:w'.heap[g]? = w.heap[g]?:=hb.block g (by omega)
 refine ⟨g,off,e,hg,hlt,fun j hj=>?_⟩
 rw [World.cell?_of_block (w:=w) (a:=⟨g,off + j,none⟩) hblk,World.frozen?_of_block (w:=w) (a:=⟨g,off + j,none⟩) hblk]
 exact hc j hj
theorem Row.wider {w:World} {lo hi lo' hi' n:Nat} {A:Option Addr} {xs:List Value} (h:Row w lo hi A n xs) (h1:lo'<=lo) (h2:hi<=hi') (h3:hi'<=w.heap.size):Row w lo' hi' A n xs :=
 ⟨h.1,h3,fun hn=>by
  obtain ⟨g,off,e,hg,hlt,hc⟩:=h.2.2 hn
  exact ⟨g,off,e,by omega,by omega,hc⟩⟩
theorem below_drewN {B:Nat} {a w:World} (h:Below B a w) (n:Nat):Below B a (w.drewN n):=⟨h.os,h.tape,h.output,h.size,h.block⟩
theorem Row.yu {w:World} {base:Nat} {e:TypeId} {A:Option Addr} {n c:Nat} {xs:List Value} (h:w.ownsRow base e 1 (.slice A n c) n xs):Row w base w.heap.size A n xs:=by
 refine ⟨by simpa using h.1,Nat.le_refl _,fun hn=>?_⟩
 have hlen:=h.1
 rcases h.2 with ⟨hv,h0⟩ | ⟨g,cap,cur,hv,hb,hh,r⟩
 ·omega
 ·injection hv with hA hn' hc'
  subst hA;subst hc'
  have hlt:g < w.heap.size:=by
   rcases Nat.lt_or_ge g w.heap.size with hlt | hge
   ·exact hlt
   ·rw [Array.getElem?_eq_none hge] at hh;cases hh
  refine ⟨g,0,rfl,hb,hlt,fun j hj=>?_⟩
  rw [Nat.zero_add]
  exact ⟨h.cellAt j (by omega),h.frozenAt j⟩
theorem Row.qjo {w:World} {lo hi n k g off:Nat} {xs:List Value} (h:Row w lo hi (some ⟨g,off,none⟩) n xs) (hk:k < n) (u:Value) :
  Row (w.setCell ⟨g,off + k,none⟩ u) lo hi (some ⟨g,off,none⟩) n (xs.set k u):=by
 refine ⟨by rw [List.length_set];exact h.1,by simpa [World.setCell] using h.2.1,fun hn=>?_⟩
 obtain ⟨g',off',e,hg,hlt,hc⟩:=h.2.2 hn
 injection e with e;injection e with e1 e2;subst e1;subst e2
 refine ⟨g,off,rfl,hg,hlt,fun j hj=>?_⟩
 have hl:=h.1
 rw [World.frozen?_setCell]
 refine ⟨?_,(hc j hj).2⟩
 by_cases e:j = k
 ·subst e
  rw [World.cell?_setCell_same' w _ u (by rw [(hc j hj).1,List.getElem?_eq_getElem (by omega)];rfl),List.getElem?_set_self (by omega)]
 ·rw [World.cell?_setCell_other w _ _ u (by intro q;injection q with _ q;omega),List.getElem?_set_ne (by omega)]
  exact (hc j hj).1
def Rd (w:World) (hi:Nat) (A:Option Addr) (n:Nat) (xs:List Value):Prop :=
 xs.length = n/\hi<=w.heap.size/\(0 < n->∃ g off,A = some ⟨g,off,none⟩/\g < hi/\∀ j,j < n->w.cell? ⟨g,off + j,none⟩ = xs[j]?)
theorem Row.rd {w:World} {lo hi n:Nat} {A:Option Addr} {xs:List Value} (h:Row w lo hi A n xs):Rd w hi A n xs :=
 ⟨h.1,h.2.1,fun hn=>by
  obtain ⟨g,off,e,hg,hlt,hc⟩:=h.2.2 hn
  exact ⟨g,off,e,hlt,fun j hj=>(hc j hj).1⟩⟩
theorem Rd.at_ {w:World} {hi n k:Nat} {A:Option Addr} {xs:List Value} (h:Rd w hi A n xs) (hk:k < n) :
  ∃ g off u,A = some ⟨g,off,none⟩/\g < hi/\xs[k]? = some u/\w.cell? ⟨g,off + k,none⟩ = some u:=by
 obtain ⟨g,off,e,hlt,hc⟩:=h.2.2 (by omega)
 have hl:k < xs.length:=by have:=h.1;omega
 exact ⟨g,off,xs[k],e,hlt,List.getElem?_eq_getElem hl,by rw [hc k hk,List.getElem?_eq_getElem hl]⟩
theorem Rd.keep {w w':World} {hi n B:Nat} {A:Option Addr} {xs:List Value} (h:Rd w hi A n xs) (hb:Below B w w') (hB:hi<=B):Rd w' hi A n xs:=by
 refine ⟨h.1,Nat.le_trans h.2.1 hb.size,fun hn=>?_⟩
 obtain ⟨g,off,e,hlt,hc⟩:=h.2.2 hn
 have hblk:w'.heap[g]? = w.heap[g]?:=hb.block g (by omega)
 refine ⟨g,off,e,hlt,fun j hj=>?_⟩
 rw [World.cell?_of_block (w:=w) (a:=⟨g,off + j,none⟩) hblk]
 exact hc j hj
theorem Rd.of_cells {w:World} {a:Addr} {n:Nat} {xs:List Value} (hl:xs.length = n) (h:∀ i,i < n->w.cell? (a.add i) = xs[i]?):Rd w w.heap.size (some a) n xs:=by
 refine ⟨hl,Nat.le_refl _,fun hn=>?_⟩
 obtain ⟨b,off,spot⟩:=a
 have h0:=h 0 hn
 rw [List.getElem?_eq_getElem (by omega)] at h0
 have hspot:spot = none:=by simpa [Addr.add] using World.cell?_spot h0
 subst hspot
 have hb:=World.block_lt_of_cell? w _ h0
 refine ⟨b,off,rfl,by simpa [Addr.add] using hb,fun j hj=>?_⟩
 rw [<-h j hj]
 congr 1
 unfold Addr.add
 split
 ·rename_i e;subst e;simp
 ·rfl
theorem qf6 {P:Program} (W:World) (src dst e t:TypeId) (n:Int)
  (hs:P.underlying src = some (.slice e)) (he:P.underlying e = some (.int .u8)) (hd:P.underlying dst = some .string) :
  (convert src dst (.slice (some ⟨W.heap.size,0,none⟩) 1 1)).run P (W.alloc (.cells #[.int .u8 n] t)) = .ok (.string ⟨#[UInt8.ofNat n.toNat]⟩) (W.alloc (.cells #[.int .u8 n] t)):=by
 rw [run_convert_bytes_string _ _ _ _ _ _ _ hs he hd]
 rw [run_bytesToString _ ⟨W.heap.size,0,none⟩ 1 1 [n] ?_]
 ·rfl
 ·simp [go_sem]
theorem qik {P:Program} (W:World) (src dst e:TypeId) (b:Nat) (n:Int)
  (hs:P.underlying src = some (.slice e)) (he:P.underlying e = some (.int .u8)) (hd:P.underlying dst = some .string) (hc:W.cell? ⟨b,0,none⟩ = some (.int .u8 n)) :
  (convert src dst (.slice (some ⟨b,0,none⟩) 1 1)).run P W = .ok (.string ⟨#[UInt8.ofNat n.toNat]⟩) W:=by
 rw [run_convert_bytes_string _ _ _ _ _ _ _ hs he hd]
 rw [run_bytesToString _ ⟨b,0,none⟩ 1 1 [n] ?_]
 ·rfl
 ·simp [go_sem,hc]
theorem qf7 {a b c:World} {row:Option Nat} (h:a.grownBy b row) (k:b.grownBy c row):a.grownBy c row :=
 ⟨k.os.trans h.os,k.tape.trans h.tape,k.output.trans h.output,Nat.le_trans h.size k.size,fun i hi hne=>(k.block i (Nat.lt_of_lt_of_le hi h.size) hne).trans (h.block i hi hne)⟩
theorem yh {P:Program} {ops:Array Oper} {rest:List Oper} {o:Oper} {a:Act} {Q:Exit->Act->World->Prop} (W:World) (u:Value) (ty:TypeId) (hgd:o.guard = none) (s x:Operand) (t:TypeId)
  (ho:o.op = .call { callee:=.builtin .append,args:=#[s,x],argTypes:=#[t,t] })
  (base:Nat) (e:TypeId) (i:TypeInfo) (z:Value) (bytes:Nat) (ht:P.underlying t = some (.slice e)) (hi:P.info? e = some i) (hz:i.zero = some z)
  (hsize:i.size = 1) (hby:i.bytes = bytes) (hzs:z.cells.size = 1)
  (v:Value) (n:Nat) (xs:List Value) (hs:a.eval s = v) (hown:W.ownsRow base e 1 v n xs)
  (hx:a.eval x = .slice (some ⟨W.heap.size,0,none⟩) 1 1) (h1:u.oneCell' = true)
  (hbytes:(n + 1) * bytes<=140737488355328) (hb0:0 < bytes) (hbase:base<=W.heap.size)
  (h:∀ v' w',w'.ownsRow base e 1 v' (n + 1) (xs ++ [u])->W.grownBy w' v.ownBlock->wpList P ops Q rest (a.put o.dst v') w'):wpList P ops Q (o :: rest) a (W.alloc (.cells #[u] ty)):=by
 refine wpList_append_own _ hgd s x t ho base e i z 1 bytes ht hi hz hsize hby hzs (by decide) v n xs hs (hown.alloc _) ⟨W.heap.size,0,none⟩ 1 1 [u] hx rfl ?_ ?_ ?_ hbytes ?_ ?_
 ·intro j q hj
  match j,hj with
  | 0,hj=>simp at hj;subst hj;simp [Addr.add]
 ·intro q hq;simp at hq;subst hq;exact h1
 ·have:(n + 1) * 1<=(n + 1) * bytes:=Nat.mul_le_mul_left _ hb0
  unfold maxLen;omega
 ·simp;omega
 ·intro v' w' h2 h3 _
  exact h v' w' h2 (qf7 (World.grownBy_alloc W _ _) h3)
theorem za {w:World} {base:Nat} {e:TypeId} {size n:Nat} {v:Value} {xs:List Value} (h:w.ownsRow base e size v n xs):∃ A c,v = .slice A n c:=by
 rcases h.2 with ⟨rfl,rfl⟩ | ⟨g,cap,cur,rfl,_⟩
 ·exact ⟨_,_,rfl⟩
 ·exact ⟨_,_,rfl⟩
theorem own_below {w w':World} {base B:Nat} {e:TypeId} {size n:Nat} {v:Value} {xs:List Value} (h:w.ownsRow base e size v n xs) (hg:w.grownBy w' v.ownBlock) (hB:B<=base) (hb:base<=w.heap.size):Below B w w' :=
 (Below.refl _ _).grown hg (by omega) (fun k hk=>by have:=(h.lt k hk).1;omega)
end Go.Proofs.Ytcdclihinmdgiaa.mem

namespace Go.Proofs.Ytcdclihinmdgiaa.ints
open Go.ChangeShapes Go.WideShapes Go.ChangeAt Go.RowKit
open mem
set_option linter.unusedVariables false
set_option maxRecDepth 100000
def V (l:List Int):List Value:=l.map (Value.int .i64)
theorem q8 (l:List Int):(V l).length = l.length:=by simp [V]
theorem qhb {l:List Int} {k:Nat} {u:Value} (h:(V l)[k]? = some u):∃ z,l[k]? = some z/\u = .int .i64 z:=by
 simp only [V,List.getElem?_map,Option.map_eq_some_iff] at h
 obtain ⟨s,h1,h2⟩:=h
 exact ⟨s,h1,h2.symm⟩
theorem qpc {l:List Int} {k:Nat} {z:Int} (h:l[k]? = some z):(V l)[k]? = some (.int .i64 z):=by simp [V,h]
theorem qj7 (l:List Int) (k:Nat) (z:Int):(V l).set k (.int .i64 z) = V (l.set k z):=by simp [V,List.map_set]
def qbg (w w':World):Prop:=∃ m,w' = w.drewN m
theorem qbg.cell {w w':World} (h:qbg w w') (p:Addr):w'.cell? p = w.cell? p:=by obtain ⟨m,rfl⟩:=h;rfl
theorem qbg.more {w w':World} (h:qbg w w') (n:Nat):qbg w (w'.drewN n):=by obtain ⟨m,rfl⟩:=h;exact ⟨m + n,by simp⟩
theorem qbg.below {w w':World} (h:qbg w w') (B:Nat):Below B w w':=by obtain ⟨m,rfl⟩:=h;exact below_drewN (Below.refl _ _) _
theorem qeo:(sqp.prog.info? 3).map (fun i=>(i.zero,i.size,i.bytes)) = some (some (.int .i64 0),1,8):=by kernel_rfl
def eqi (xs ys:List Int):Bool:=decide (xs = ys)
def Same (xs ys:List Int) (k:Nat):Prop:=∀ j,j < k->xs[j]? = ys[j]?
theorem Same.step {xs ys:List Int} {k:Nat} {s:Int} (h:Same xs ys k) (h1:xs[k]? = some s) (h2:ys[k]? = some s):Same xs ys (k + 1):=by
 intro j hj
 by_cases e:j = k
 ·subst e;rw [h1,h2]
 ·exact h j (by omega)
theorem qxg {xs ys:List Int} {k:Nat} {s t:Int} (h1:xs[k]? = some s) (h2:ys[k]? = some t) (h:s ≠ t):eqi xs ys = false:=by
 unfold eqi
 rw [decide_eq_false_iff_not]
 rintro rfl
 rw [h1] at h2
 exact h (Option.some.inj h2)
theorem qrq {xs ys:List Int} (h:xs.length ≠ ys.length):eqi xs ys = false:=by
 unfold eqi
 rw [decide_eq_false_iff_not]
 rintro rfl
 exact h rfl
theorem ql0 {xs ys:List Int} {n:Nat} (h1:xs.length = n) (h2:ys.length = n) (h:Same xs ys n):eqi xs ys = true:=by
 unfold eqi
 rw [decide_eq_true_iff]
 refine List.ext_getElem? fun i=>?_
 by_cases hi:i < n
 ·exact h i hi
 ·rw [List.getElem?_eq_none (by omega),List.getElem?_eq_none (by omega)]
theorem quu (xs:List Int):eqi xs xs = true:=by simp [eqi]
set_option maxHeartbeats 400000 in
theorem qxh (A:Option Addr) (n c:Nat) (B:Option Addr) (m d:Nat) (xs ys:List Int) (h1 h2:Nat) (w:World)
  (hx:Rd w h1 A n (V xs)) (hy:Rd w h2 B m (V ys)) (hn:n<=maxLen) (hm:m<=maxLen) :
  Calls sqp.prog 63 #[.slice A n c,.slice B m d] w fun e w'=>e = .returned (.bool (eqi xs ys))/\qbg w w':=by
 unfold maxLen at hn hm
 have lx:xs.length = n:=by simpa [V] using hx.1
 have ly:ys.length = m:=by simpa [V] using hy.1
 have LX:=Lib.hid lx;have LY:=Lib.hid ly;clear lx ly
 have HX:=Lib.hid hx;have HY:=Lib.hid hy;clear hx hy
 by_cases hnm:n = m
 ·obtain rfl:m = n:=hnm.symm
  clear hnm
  go_enter sqp.func63,sqp.ntmps63
  go_wp2
  go_loopw [5] (fun i wr=>∃ k:Nat,k<=m/\i = .int .i64 k/\qbg w wr/\Same xs ys k) (fun i _=>m - (intOf i).toNat)
  case atStart=>exact ⟨0,Nat.zero_le _,rfl,⟨0,rfl⟩,fun j hj=>by omega⟩
  case round =>
   obtain ⟨k,hk,rfl,hdr,hsame⟩:=hrel
   have HS:=Lib.hid hsame;have HD:=Lib.hid hdr;clear hsame hdr
   by_cases hlt:k < m
   ·obtain ⟨g,off,u,rfl,_,hxu,hcx⟩:=HX.out.at_ hlt
    obtain ⟨g',off',u',rfl,_,hyu,hcy⟩:=HY.out.at_ hlt
    obtain ⟨s,hxs,rfl⟩:=qhb hxu
    obtain ⟨t,hyt,rfl⟩:=qhb hyu
    rw [<-HD.out.cell] at hcx hcy
    have HXS:=Lib.hid hxs;have HYT:=Lib.hid hyt;clear hxs hyt hxu hyu
    by_cases hst:s = t
    ·subst hst
     go_wp2
     go_quiet (fail)
     go_wp2
     go_roundw
     case rel=>exact ⟨k + 1,by omega,by go_num,HD.out.more _,HS.out.step HXS.out HYT.out⟩
     case measure=>simp [intOf];omega
    ·have hb:(s != t) = true:=by simpa using hst
     have HST:=Lib.hid hst;clear hst
     go_wp2
     go_quiet (fail)
     go_wp2
     go_ret
     exact ⟨qx (qxg HXS.out HYT.out HST.out).symm,HD.out.more _⟩
   ·obtain rfl:k = m:=by omega
    go_wp2
    go_ret
    exact ⟨qx (ql0 LX.out LY.out HS.out).symm,HD.out⟩
 ·have hb:((n:Int) != (m:Int)) = true:=by simp;omega
  have HB:eqi xs ys = false:=qrq (by rw [LX.out,LY.out];exact hnm)
  have HB:=Lib.hid HB
  clear hnm
  go_enter sqp.func63,sqp.ntmps63
  go_wp2
  go_ret
  exact ⟨qx HB.out.symm,0,rfl⟩
def Marks (k:Int) (n:Nat):List Int:=(List.range n).map fun (i:Nat)=>k + (i:Int)
theorem qns {k:Int} {n j:Nat} (h:j < n):(V (Marks k n))[j]? = some (.int .i64 (k + j)):=by
 simp [V,Marks,h]
def qpd (ys:List Value) (k:Int) (j:Nat):Prop:=∀ i:Nat,i < j->ys[i]? = some (.int .i64 (k + i))
theorem qpd.all {ys:List Value} {k:Int} {n:Nat} (h:qpd ys k n) (hl:ys.length = n):ys = V (Marks k n):=by
 refine List.ext_getElem? fun i=>?_
 by_cases hi:i < n
 ·rw [h i hi,qns hi]
 ·rw [List.getElem?_eq_none (by omega),List.getElem?_eq_none (by simp [V,Marks];omega)]
theorem qpd.step {ys:List Value} {k:Int} {j:Nat} (h:qpd ys k j) (hl:j < ys.length):qpd (ys.set j (.int .i64 (k + j))) k (j + 1):=by
 intro i hi
 by_cases e:i = j
 ·subst e;rw [List.getElem?_set_self hl]
 ·rw [List.getElem?_set_ne (by omega)];exact h i (by omega)
def qyz (A:Option Addr) (n lo hi:Nat) (k:Int) (w wr:World) (j:Nat):Prop:=∃ ys,Row wr lo hi A n ys/\qpd ys k j/\Out lo hi w wr
set_option maxHeartbeats 400000 in
theorem qnt (A:Option Addr) (n c:Nat) (xs:List Value) (lo hi:Nat) (k:Int) (w:World)
  (hx:Row w lo hi A n xs) (hn:n<=4611686018427387904) (h1:1<=k) (h2:k + n<=4611686018427387904) :
  Calls sqp.prog 42 #[.slice A n c,.int .i64 k] w fun e w'=>e = .returned (.int .i64 (k + n))/\Row w' lo hi A n (V (Marks k n))/\Out lo hi w w':=by
 have HX:=Lib.hid hx;clear hx
 go_enter sqp.func42,sqp.ntmps42
 go_wp2
 go_loopw [1,5] (fun q i wr=>∃ j:Nat,j<=n/\q = .int .i64 (k + j)/\i = .int .i64 j/\qyz A n lo hi k w wr j) (fun _ i _=>n - (intOf i).toNat)
 case atStart=>exact ⟨0,Nat.zero_le _,by simp,rfl,xs,HX.out,fun i hi=>by omega,Out.refl _ _ _⟩
 case round =>
  obtain ⟨j,hj,rfl,rfl,hm⟩:=hrel
  have HM:=Lib.hid hm;clear hm
  by_cases hlt:j < n
  ·obtain ⟨ys,hr,hu,hbut⟩:=HM.out
   obtain ⟨g,off,u,rfl,hbg,hgl,hyu,hcy,hfr⟩:=hr.at_ hlt
   have HR:=Lib.hid hr;have HU:=Lib.hid hu;have HB:=Lib.hid hbut;clear hr hu hbut hyu
   go_wp2
   go_roundw
   case rel =>
    refine ⟨j + 1,by omega,by go_num,by go_num,ys.set j (.int .i64 (k + j)),?_,HU.out.step (by have:=HR.out.1;omega),?_⟩
    ·exact HR.out.qjo hlt _
    ·exact HB.out.qjo hbg hgl _
   case measure=>simp [intOf];omega
  ·obtain rfl:j = n:=by omega
   go_wp2
   go_ret
   obtain ⟨ys,hr,hu,hbut⟩:=HM.out
   refine ⟨rfl,?_,hbut⟩
   rw [<-hu.all hr.1];exact hr
set_option maxHeartbeats 400000 in
theorem qnu (A:Option Addr) (n c:Nat) (lo hi:Nat) (k:Int) (w:World)
  (hx:Row w lo hi A n (V (Marks k n))) (hn:n<=4611686018427387904) (h1:1<=k) (h2:k + n<=4611686018427387904) :
  Calls sqp.prog 43 #[.slice A n c,.int .i64 k] w fun e w'=>e = .returned (.int .i64 (k + n))/\qbg w w':=by
 have HX:=Lib.hid hx;clear hx
 go_enter sqp.func43,sqp.ntmps43
 go_wp2
 go_loopw [1,5] (fun q i wr=>∃ j:Nat,j<=n/\q = .int .i64 (k + j)/\i = .int .i64 j/\qbg w wr) (fun _ i _=>n - (intOf i).toNat)
 case atStart=>exact ⟨0,Nat.zero_le _,by simp,rfl,0,rfl⟩
 case round =>
  obtain ⟨j,hj,rfl,rfl,hb⟩:=hrel
  by_cases hlt:j < n
  ·obtain ⟨g,off,u,rfl,hbg,hgl,hyu,hcy,hfr⟩:=HX.out.at_ hlt
   rw [qns hlt] at hyu
   obtain rfl:=Option.some.inj hyu
   rw [<-hb.cell] at hcy
   have HB:=Lib.hid hb;clear hb hyu hfr
   go_wp2
   go_roundw
   case rel=>exact ⟨j + 1,by omega,by go_num,by go_num,HB.out⟩
   case measure=>simp [intOf];omega
  ·obtain rfl:j = n:=by omega
   go_wp2
   go_ret
   exact ⟨rfl,hb⟩
end Go.Proofs.Ytcdclihinmdgiaa.ints
