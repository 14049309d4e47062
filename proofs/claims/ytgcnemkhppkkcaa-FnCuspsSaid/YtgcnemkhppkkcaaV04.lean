import Derived.Test.YtgcnemkhppkkcaaV03
import Derived.Test.YtgcnemkhppkkcaaProg
import Derived.KernelRfl
import Derived.Test.YtgcnemkhppkkcaaRows
import Derived.WalkKit
import Derived.ProofKit
import Derived.OpenShut
import Derived.ShutString
import Derived.Laws.RangeAny
import Derived.Lib.Hide
import Derived.Below
import Derived.Deep.QuietTactic
import Derived.BigQuiet
import Derived.Deep.RegionHeld3
import Derived.Deep.AppendLies
import Derived.Outline
import Derived.Laws.Rows
import Derived.Deep.WholeRow
import Derived.Lib.SmallJoins


namespace Go.Proofs.Ytgcnemkhppkkcaa.sqp
open Go sq
set_option linter.unusedVariables false
set_option linter.defProp false
set_option maxRecDepth 100000
noncomputable def fOrb:Func:={ Try.f37 with body:=Try.f37.body.map (mapC (seqO 6)) }
noncomputable def fClo:Func:={ Try.f94 with body:=Try.f94.body.map (mapC (seqO 0)) }
noncomputable def fSnd:Func:={ name:="snd",origin:="",params:=#[],resultTypes:=#[],nfree:=0,ntmps:=5,results:=#[],body:=some (sendC 65 55 65),norace:=false,tmpNames:=#[] }
noncomputable def fGo:Func:={ name:="go",origin:="",params:=#[],resultTypes:=#[],nfree:=0,ntmps:=5,results:=#[],body:=some (goC 62 90 62 103),norace:=false,tmpNames:=#[] }
noncomputable def funcs:Array Func:=#[Try.f0,Try.f1,Try.f2,Try.f3,Try.f4,Try.f5,Try.f6,Try.f7,Try.f8,Try.f9,Try.f10,Try.f11,Try.f12,Try.f13,Try.f14,Try.f15,Try.f16,Try.f17,Try.f18,Try.f19,Try.f20,Try.f21,Try.f22,Try.f23,Try.f24,Try.f25,Try.f26,Try.f27,Try.f28,Try.f29,Try.f30,Try.f31,Try.f32,Try.f33,Try.f34,Try.f35,Try.f36,fOrb,Try.f38,Try.f39,Try.f40,Try.f41,Try.f42,Try.f43,Try.f44,Try.f45,Try.f46,Try.f47,Try.f48,Try.f49,Try.f50,Try.f51,Try.f52,Try.f53,Try.f54,Try.f55,Try.f56,Try.f57,Try.f58,Try.f59,Try.f60,Try.f61,Try.f62,Try.f63,Try.f64,Try.f65,Try.f66,Try.f67,Try.f68,Try.f69,Try.f70,Try.f71,Try.f72,Try.f73,Try.f74,Try.f75,Try.f76,Try.f77,Try.f78,Try.f79,Try.f80,Try.f81,Try.f82,Try.f83,Try.f84,Try.f85,Try.f86,Try.f87,Try.f88,Try.f89,Try.f90,Try.f91,Try.f92,Try.f93,fClo,Try.f95,Try.f96,Try.f97,Try.f98,Try.f99,Try.f100,Try.f101,Try.f102,Try.f103,Try.f104,Try.f105,Try.f106,Try.f107,Try.f108,Try.f109,Try.f110,Try.f111,Try.f112,Try.f113,Try.f114,Try.f115,Try.f116,Try.f117,Try.f118,Try.f119,Try.f120,Try.f121,Try.f122,Try.f123,Try.f124,Try.f125,Try.f126,Try.f127,Try.f128,Try.f129,Try.f130,Try.f131,Try.f132,Try.f133,Try.f134,Try.f135,Try.f136,Try.f137,Try.f138,Try.f139,Try.f140,Try.f141,Try.f142,Try.f143,Try.f144,Try.f145,Try.f146,Try.f147,Try.f148,Try.f149,Try.f150,Try.f151,Try.f152,Try.f153,Try.f154,Try.f155,Try.f156,Try.f157,Try.f158,Try.f159,Try.f160,Try.f161,fSnd,fGo]
noncomputable def prog:Program:={ toTables:={ Try.progTables with globals:=#[] },funcs }
theorem twin:sq.Twin Try.prog prog:=⟨fun t=>by kernel_rfl,by kernel_rfl,by kernel_rfl,fun d=>by kernel_rfl⟩
theorem guard_eq (i:TypeId):prog.eqGuardType prog.depth i = Try.prog.eqGuardType Try.prog.depth i:=by kernel_rfl
theorem tr_und {i:TypeId} {d:Option TypeDesc} (h:Program.underlying Try.prog i = d):Program.underlying prog i = d:=(twin.und i).trans h
theorem tr_size {i:TypeId} {x:Nat} (h:∀ w,Sem.run Try.prog (sizeOf i) w = .ok x w) (w:World):Sem.run prog (sizeOf i) w = .ok x w:=(twin.sizeOf i w).trans (h w)
theorem tr_rund {i:TypeId} {x:TypeDesc} (h:∀ w,Sem.run Try.prog (underlying i) w = .ok x w) (w:World):Sem.run prog (underlying i) w = .ok x w:=(twin.runUnd i w).trans (h w)
theorem tr_agg {i:TypeId} {x:Bool} (h:∀ w,Sem.run Try.prog (isAgg i) w = .ok x w) (w:World):Sem.run prog (isAgg i) w = .ok x w:=(twin.agg i w).trans (h w)
theorem tr_zero {i:TypeId} {x:Value} (h:∀ w,Sem.run Try.prog (zeroValue i) w = .ok x w) (w:World):Sem.run prog (zeroValue i) w = .ok x w:=(twin.zero i w).trans (h w)
def sizeOf0:=tr_size Try.sizeOf0
def sizeOf3:=tr_size Try.sizeOf3
def sizeOf4:=tr_size Try.sizeOf4
def sizeOf5:=tr_size Try.sizeOf5
def sizeOf9:=tr_size Try.sizeOf9
def sizeOf22:=tr_size Try.sizeOf22
def sizeOf23:=tr_size Try.sizeOf23
def sizeOf25:=tr_size Try.sizeOf25
def sizeOf60:=tr_size Try.sizeOf60
def sizeOf62:=tr_size Try.sizeOf62
def sizeOf63:=tr_size Try.sizeOf63
def sizeOf65:=tr_size Try.sizeOf65
def sizeOf96:=tr_size Try.sizeOf96
def sizeOf106:=tr_size Try.sizeOf106
def sizeOf126:=tr_size Try.sizeOf126
def sizeOf134:=tr_size Try.sizeOf134
def sizeOf149:=tr_size Try.sizeOf149
def sizeOf150:=tr_size Try.sizeOf150
def sizeOf155:=tr_size Try.sizeOf155
def sizeOf158:=tr_size Try.sizeOf158
def sizeOf160:=tr_size Try.sizeOf160
def sizeOf166:=tr_size Try.sizeOf166
def sizeOf170:=tr_size Try.sizeOf170
def sizeOf173:=tr_size Try.sizeOf173
def sizeOf174:=tr_size Try.sizeOf174
def underlying0:=tr_und Try.underlying0
def underlying3:=tr_und Try.underlying3
def underlying4:=tr_und Try.underlying4
def underlying5:=tr_und Try.underlying5
def underlying9:=tr_und Try.underlying9
def underlying22:=tr_und Try.underlying22
def underlying23:=tr_und Try.underlying23
def underlying25:=tr_und Try.underlying25
def underlying55:=tr_und Try.underlying55
def underlying56:=tr_und Try.underlying56
def underlying60:=tr_und Try.underlying60
def underlying62:=tr_und Try.underlying62
def underlying63:=tr_und Try.underlying63
def underlying65:=tr_und Try.underlying65
def underlying70:=tr_und Try.underlying70
def underlying77:=tr_und Try.underlying77
def underlying89:=tr_und Try.underlying89
def underlying90:=tr_und Try.underlying90
def underlying93:=tr_und Try.underlying93
def underlying96:=tr_und Try.underlying96
def underlying103:=tr_und Try.underlying103
def underlying106:=tr_und Try.underlying106
def underlying124:=tr_und Try.underlying124
def underlying126:=tr_und Try.underlying126
def underlying131:=tr_und Try.underlying131
def underlying135:=tr_und Try.underlying135
def underlying140:=tr_und Try.underlying140
def underlying141:=tr_und Try.underlying141
def underlying149:=tr_und Try.underlying149
def underlying150:=tr_und Try.underlying150
def underlying155:=tr_und Try.underlying155
def underlying158:=tr_und Try.underlying158
def underlying160:=tr_und Try.underlying160
def underlying161:=tr_und Try.underlying161
def underlying162:=tr_und Try.underlying162
def underlying166:=tr_und Try.underlying166
def underlying170:=tr_und Try.underlying170
def underlying173:=tr_und Try.underlying173
def underlying174:=tr_und Try.underlying174
def runUnderlying23:=tr_rund Try.runUnderlying23
def runUnderlying25:=tr_rund Try.runUnderlying25
def runUnderlying60:=tr_rund Try.runUnderlying60
def runUnderlying62:=tr_rund Try.runUnderlying62
def runUnderlying65:=tr_rund Try.runUnderlying65
def runUnderlying70:=tr_rund Try.runUnderlying70
def runUnderlying93:=tr_rund Try.runUnderlying93
def runUnderlying96:=tr_rund Try.runUnderlying96
def runUnderlying102:=tr_rund Try.runUnderlying102
def runUnderlying124:=tr_rund Try.runUnderlying124
def runUnderlying128:=tr_rund Try.runUnderlying128
def runUnderlying135:=tr_rund Try.runUnderlying135
def runUnderlying141:=tr_rund Try.runUnderlying141
def runUnderlying162:=tr_rund Try.runUnderlying162
def isAgg0:=tr_agg Try.isAgg0
def isAgg3:=tr_agg Try.isAgg3
def isAgg4:=tr_agg Try.isAgg4
def isAgg5:=tr_agg Try.isAgg5
def isAgg9:=tr_agg Try.isAgg9
def isAgg22:=tr_agg Try.isAgg22
def isAgg23:=tr_agg Try.isAgg23
def isAgg25:=tr_agg Try.isAgg25
def isAgg62:=tr_agg Try.isAgg62
def isAgg63:=tr_agg Try.isAgg63
def isAgg96:=tr_agg Try.isAgg96
def isAgg106:=tr_agg Try.isAgg106
def isAgg126:=tr_agg Try.isAgg126
def isAgg134:=tr_agg Try.isAgg134
def isAgg149:=tr_agg Try.isAgg149
def isAgg150:=tr_agg Try.isAgg150
def isAgg155:=tr_agg Try.isAgg155
def isAgg158:=tr_agg Try.isAgg158
def isAgg160:=tr_agg Try.isAgg160
def isAgg166:=tr_agg Try.isAgg166
def isAgg170:=tr_agg Try.isAgg170
def isAgg173:=tr_agg Try.isAgg173
def isAgg174:=tr_agg Try.isAgg174
def zeroValue0:=tr_zero Try.zeroValue0
def zeroValue3:=tr_zero Try.zeroValue3
def zeroValue4:=tr_zero Try.zeroValue4
def zeroValue5:=tr_zero Try.zeroValue5
def zeroValue9:=tr_zero Try.zeroValue9
def zeroValue23:=tr_zero Try.zeroValue23
def zeroValue25:=tr_zero Try.zeroValue25
def zeroValue60:=tr_zero Try.zeroValue60
def zeroValue62:=tr_zero Try.zeroValue62
def zeroValue63:=tr_zero Try.zeroValue63
def zeroValue65:=tr_zero Try.zeroValue65
def zeroValue89:=tr_zero Try.zeroValue89
def zeroValue90:=tr_zero Try.zeroValue90
def zeroValue96:=tr_zero Try.zeroValue96
def zeroValue102:=tr_zero Try.zeroValue102
def zeroValue106:=tr_zero Try.zeroValue106
def zeroValue126:=tr_zero Try.zeroValue126
def zeroValue128:=tr_zero Try.zeroValue128
def zeroValue135:=tr_zero Try.zeroValue135
def zeroValue140:=tr_zero Try.zeroValue140
def zeroValue141:=tr_zero Try.zeroValue141
def zeroValue149:=tr_zero Try.zeroValue149
def zeroValue150:=tr_zero Try.zeroValue150
def zeroValue155:=tr_zero Try.zeroValue155
def zeroValue158:=tr_zero Try.zeroValue158
def zeroValue160:=tr_zero Try.zeroValue160
def zeroValue161:=tr_zero Try.zeroValue161
def zeroValue166:=tr_zero Try.zeroValue166
def zeroValue170:=tr_zero Try.zeroValue170
def zeroValue173:=tr_zero Try.zeroValue173
def zeroValue174:=tr_zero Try.zeroValue174
theorem func7:prog.funcs[7]? = some Try.f7:=by kernel_rfl
def ntmps7:=Try.ntmps7
theorem func8:prog.funcs[8]? = some Try.f8:=by kernel_rfl
def ntmps8:=Try.ntmps8
theorem call8 (args:Array Value) (w:World):Sem.run prog (callFunc 8 args) w = .ok (.enter 8 args) w:=by kernel_rfl
theorem func10:prog.funcs[10]? = some Try.f10:=by kernel_rfl
def ntmps10:=Try.ntmps10
theorem call10 (args:Array Value) (w:World):Sem.run prog (callFunc 10 args) w = .ok (.enter 10 args) w:=by kernel_rfl
theorem func16:prog.funcs[16]? = some Try.f16:=by kernel_rfl
def ntmps16:=Try.ntmps16
theorem call16 (args:Array Value) (w:World):Sem.run prog (callFunc 16 args) w = .ok (.enter 16 args) w:=by kernel_rfl
theorem func24:prog.funcs[24]? = some Try.f24:=by kernel_rfl
def ntmps24:=Try.ntmps24
theorem call24 (args:Array Value) (w:World):Sem.run prog (callFunc 24 args) w = .ok (.enter 24 args) w:=by kernel_rfl
theorem func30:prog.funcs[30]? = some Try.f30:=by kernel_rfl
def ntmps30:=Try.ntmps30
theorem call30 (args:Array Value) (w:World):Sem.run prog (callFunc 30 args) w = .ok (.enter 30 args) w:=by kernel_rfl
theorem func31:prog.funcs[31]? = some Try.f31:=by kernel_rfl
def ntmps31:=Try.ntmps31
theorem call31 (args:Array Value) (w:World):Sem.run prog (callFunc 31 args) w = .ok (.enter 31 args) w:=by kernel_rfl
theorem func32:prog.funcs[32]? = some Try.f32:=by kernel_rfl
def ntmps32:=Try.ntmps32
theorem call32 (args:Array Value) (w:World):Sem.run prog (callFunc 32 args) w = .ok (.enter 32 args) w:=by kernel_rfl
theorem func33:prog.funcs[33]? = some Try.f33:=by kernel_rfl
def ntmps33:=Try.ntmps33
theorem call33 (args:Array Value) (w:World):Sem.run prog (callFunc 33 args) w = .ok (.enter 33 args) w:=by kernel_rfl
theorem func34:prog.funcs[34]? = some Try.f34:=by kernel_rfl
def ntmps34:=Try.ntmps34
theorem call34 (args:Array Value) (w:World):Sem.run prog (callFunc 34 args) w = .ok (.enter 34 args) w:=by kernel_rfl
theorem func35:prog.funcs[35]? = some Try.f35:=by kernel_rfl
def ntmps35:=Try.ntmps35
theorem call35 (args:Array Value) (w:World):Sem.run prog (callFunc 35 args) w = .ok (.enter 35 args) w:=by kernel_rfl
theorem func36:prog.funcs[36]? = some Try.f36:=by kernel_rfl
def ntmps36:=Try.ntmps36
theorem call36 (args:Array Value) (w:World):Sem.run prog (callFunc 36 args) w = .ok (.enter 36 args) w:=by kernel_rfl
theorem func37:prog.funcs[37]? = some fOrb:=by kernel_rfl
theorem tr_n37 {n:Nat} (h:Try.f37.ntmps = n):fOrb.ntmps = n:=h
def ntmps37:=tr_n37 Try.ntmps37
theorem call37 (args:Array Value) (w:World):Sem.run prog (callFunc 37 args) w = .ok (.enter 37 args) w:=by kernel_rfl
theorem func38:prog.funcs[38]? = some Try.f38:=by kernel_rfl
def ntmps38:=Try.ntmps38
theorem call38 (args:Array Value) (w:World):Sem.run prog (callFunc 38 args) w = .ok (.enter 38 args) w:=by kernel_rfl
theorem func39:prog.funcs[39]? = some Try.f39:=by kernel_rfl
def ntmps39:=Try.ntmps39
theorem func40:prog.funcs[40]? = some Try.f40:=by kernel_rfl
def ntmps40:=Try.ntmps40
theorem call40 (args:Array Value) (w:World):Sem.run prog (callFunc 40 args) w = .ok (.enter 40 args) w:=by kernel_rfl
theorem func44:prog.funcs[44]? = some Try.f44:=by kernel_rfl
def ntmps44:=Try.ntmps44
theorem call44 (args:Array Value) (w:World):Sem.run prog (callFunc 44 args) w = .ok (.enter 44 args) w:=by kernel_rfl
theorem func46:prog.funcs[46]? = some Try.f46:=by kernel_rfl
def ntmps46:=Try.ntmps46
theorem call46 (args:Array Value) (w:World):Sem.run prog (callFunc 46 args) w = .ok (.enter 46 args) w:=by kernel_rfl
theorem func47:prog.funcs[47]? = some Try.f47:=by kernel_rfl
def ntmps47:=Try.ntmps47
theorem call47 (args:Array Value) (w:World):Sem.run prog (callFunc 47 args) w = .ok (.enter 47 args) w:=by kernel_rfl
theorem func50:prog.funcs[50]? = some Try.f50:=by kernel_rfl
def ntmps50:=Try.ntmps50
theorem call50 (args:Array Value) (w:World):Sem.run prog (callFunc 50 args) w = .ok (.enter 50 args) w:=by kernel_rfl
theorem func58:prog.funcs[58]? = some Try.f58:=by kernel_rfl
def ntmps58:=Try.ntmps58
theorem call58 (args:Array Value) (w:World):Sem.run prog (callFunc 58 args) w = .ok (.enter 58 args) w:=by kernel_rfl
theorem func59:prog.funcs[59]? = some Try.f59:=by kernel_rfl
theorem call59 (args:Array Value) (w:World):Sem.run prog (callFunc 59 args) w = .ok (.enter 59 args) w:=by kernel_rfl
theorem func60:prog.funcs[60]? = some Try.f60:=by kernel_rfl
theorem call60 (args:Array Value) (w:World):Sem.run prog (callFunc 60 args) w = .ok (.enter 60 args) w:=by kernel_rfl
theorem func61:prog.funcs[61]? = some Try.f61:=by kernel_rfl
def ntmps61:=Try.ntmps61
theorem call61 (args:Array Value) (w:World):Sem.run prog (callFunc 61 args) w = .ok (.enter 61 args) w:=by kernel_rfl
theorem func62:prog.funcs[62]? = some Try.f62:=by kernel_rfl
def ntmps62:=Try.ntmps62
theorem call62 (args:Array Value) (w:World):Sem.run prog (callFunc 62 args) w = .ok (.enter 62 args) w:=by kernel_rfl
theorem func63:prog.funcs[63]? = some Try.f63:=by kernel_rfl
def ntmps63:=Try.ntmps63
theorem call63 (args:Array Value) (w:World):Sem.run prog (callFunc 63 args) w = .ok (.enter 63 args) w:=by kernel_rfl
theorem func64:prog.funcs[64]? = some Try.f64:=by kernel_rfl
def ntmps64:=Try.ntmps64
theorem call64 (args:Array Value) (w:World):Sem.run prog (callFunc 64 args) w = .ok (.enter 64 args) w:=by kernel_rfl
theorem func65:prog.funcs[65]? = some Try.f65:=by kernel_rfl
def ntmps65:=Try.ntmps65
theorem call65 (args:Array Value) (w:World):Sem.run prog (callFunc 65 args) w = .ok (.enter 65 args) w:=by kernel_rfl
theorem func66:prog.funcs[66]? = some Try.f66:=by kernel_rfl
def ntmps66:=Try.ntmps66
theorem func67:prog.funcs[67]? = some Try.f67:=by kernel_rfl
def ntmps67:=Try.ntmps67
theorem call67 (args:Array Value) (w:World):Sem.run prog (callFunc 67 args) w = .ok (.enter 67 args) w:=by kernel_rfl
theorem func68:prog.funcs[68]? = some Try.f68:=by kernel_rfl
def ntmps68:=Try.ntmps68
theorem call68 (args:Array Value) (w:World):Sem.run prog (callFunc 68 args) w = .ok (.enter 68 args) w:=by kernel_rfl
theorem func73:prog.funcs[73]? = some Try.f73:=by kernel_rfl
def ntmps73:=Try.ntmps73
theorem call73 (args:Array Value) (w:World):Sem.run prog (callFunc 73 args) w = .ok (.enter 73 args) w:=by kernel_rfl
theorem func75:prog.funcs[75]? = some Try.f75:=by kernel_rfl
def ntmps75:=Try.ntmps75
theorem call75 (args:Array Value) (w:World):Sem.run prog (callFunc 75 args) w = .ok (.enter 75 args) w:=by kernel_rfl
theorem func76:prog.funcs[76]? = some Try.f76:=by kernel_rfl
def ntmps76:=Try.ntmps76
theorem call76 (args:Array Value) (w:World):Sem.run prog (callFunc 76 args) w = .ok (.enter 76 args) w:=by kernel_rfl
theorem func77:prog.funcs[77]? = some Try.f77:=by kernel_rfl
def ntmps77:=Try.ntmps77
theorem call77 (args:Array Value) (w:World):Sem.run prog (callFunc 77 args) w = .ok (.enter 77 args) w:=by kernel_rfl
theorem func78:prog.funcs[78]? = some Try.f78:=by kernel_rfl
def ntmps78:=Try.ntmps78
theorem call78 (args:Array Value) (w:World):Sem.run prog (callFunc 78 args) w = .ok (.enter 78 args) w:=by kernel_rfl
theorem func79:prog.funcs[79]? = some Try.f79:=by kernel_rfl
def ntmps79:=Try.ntmps79
theorem call79 (args:Array Value) (w:World):Sem.run prog (callFunc 79 args) w = .ok (.enter 79 args) w:=by kernel_rfl
theorem func81:prog.funcs[81]? = some Try.f81:=by kernel_rfl
def ntmps81:=Try.ntmps81
theorem call81 (args:Array Value) (w:World):Sem.run prog (callFunc 81 args) w = .ok (.enter 81 args) w:=by kernel_rfl
theorem func88:prog.funcs[88]? = some Try.f88:=by kernel_rfl
theorem func89:prog.funcs[89]? = some Try.f89:=by kernel_rfl
theorem func90:prog.funcs[90]? = some Try.f90:=by kernel_rfl
def ntmps90:=Try.ntmps90
theorem call90 (args:Array Value) (w:World):Sem.run prog (callFunc 90 args) w = .ok (.enter 90 args) w:=by kernel_rfl
theorem func91:prog.funcs[91]? = some Try.f91:=by kernel_rfl
def ntmps91:=Try.ntmps91
theorem call91 (args:Array Value) (w:World):Sem.run prog (callFunc 91 args) w = .ok (.enter 91 args) w:=by kernel_rfl
theorem func92:prog.funcs[92]? = some Try.f92:=by kernel_rfl
def ntmps92:=Try.ntmps92
theorem call92 (args:Array Value) (w:World):Sem.run prog (callFunc 92 args) w = .ok (.enter 92 args) w:=by kernel_rfl
theorem func93:prog.funcs[93]? = some Try.f93:=by kernel_rfl
def ntmps93:=Try.ntmps93
theorem call93 (args:Array Value) (w:World):Sem.run prog (callFunc 93 args) w = .ok (.enter 93 args) w:=by kernel_rfl
theorem func94:prog.funcs[94]? = some fClo:=by kernel_rfl
theorem tr_n94 {n:Nat} (h:Try.f94.ntmps = n):fClo.ntmps = n:=h
def ntmps94:=tr_n94 Try.ntmps94
theorem call94 (args:Array Value) (w:World):Sem.run prog (callFunc 94 args) w = .ok (.enter 94 args) w:=by kernel_rfl
theorem func96:prog.funcs[96]? = some Try.f96:=by kernel_rfl
def ntmps96:=Try.ntmps96
theorem call96 (args:Array Value) (w:World):Sem.run prog (callFunc 96 args) w = .ok (.enter 96 args) w:=by kernel_rfl
theorem func97:prog.funcs[97]? = some Try.f97:=by kernel_rfl
def ntmps97:=Try.ntmps97
theorem call97 (args:Array Value) (w:World):Sem.run prog (callFunc 97 args) w = .ok (.enter 97 args) w:=by kernel_rfl
theorem func98:prog.funcs[98]? = some Try.f98:=by kernel_rfl
def ntmps98:=Try.ntmps98
theorem call98 (args:Array Value) (w:World):Sem.run prog (callFunc 98 args) w = .ok (.enter 98 args) w:=by kernel_rfl
theorem func99:prog.funcs[99]? = some Try.f99:=by kernel_rfl
def ntmps99:=Try.ntmps99
theorem call99 (args:Array Value) (w:World):Sem.run prog (callFunc 99 args) w = .ok (.enter 99 args) w:=by kernel_rfl
theorem func100:prog.funcs[100]? = some Try.f100:=by kernel_rfl
def ntmps100:=Try.ntmps100
theorem call100 (args:Array Value) (w:World):Sem.run prog (callFunc 100 args) w = .ok (.enter 100 args) w:=by kernel_rfl
theorem func101:prog.funcs[101]? = some Try.f101:=by kernel_rfl
def ntmps101:=Try.ntmps101
theorem call101 (args:Array Value) (w:World):Sem.run prog (callFunc 101 args) w = .ok (.enter 101 args) w:=by kernel_rfl
theorem func102:prog.funcs[102]? = some Try.f102:=by kernel_rfl
def ntmps102:=Try.ntmps102
theorem call102 (args:Array Value) (w:World):Sem.run prog (callFunc 102 args) w = .ok (.enter 102 args) w:=by kernel_rfl
theorem func103:prog.funcs[103]? = some Try.f103:=by kernel_rfl
def ntmps103:=Try.ntmps103
theorem call103 (args:Array Value) (w:World):Sem.run prog (callFunc 103 args) w = .ok (.enter 103 args) w:=by kernel_rfl
theorem func104:prog.funcs[104]? = some Try.f104:=by kernel_rfl
def ntmps104:=Try.ntmps104
theorem call104 (args:Array Value) (w:World):Sem.run prog (callFunc 104 args) w = .ok (.enter 104 args) w:=by kernel_rfl
theorem func105:prog.funcs[105]? = some Try.f105:=by kernel_rfl
def ntmps105:=Try.ntmps105
theorem call105 (args:Array Value) (w:World):Sem.run prog (callFunc 105 args) w = .ok (.enter 105 args) w:=by kernel_rfl
theorem func109:prog.funcs[109]? = some Try.f109:=by kernel_rfl
def ntmps109:=Try.ntmps109
theorem func113:prog.funcs[113]? = some Try.f113:=by kernel_rfl
def ntmps113:=Try.ntmps113
theorem func114:prog.funcs[114]? = some Try.f114:=by kernel_rfl
theorem func115:prog.funcs[115]? = some Try.f115:=by kernel_rfl
theorem func116:prog.funcs[116]? = some Try.f116:=by kernel_rfl
theorem func117:prog.funcs[117]? = some Try.f117:=by kernel_rfl
theorem func118:prog.funcs[118]? = some Try.f118:=by kernel_rfl
theorem func119:prog.funcs[119]? = some Try.f119:=by kernel_rfl
theorem func120:prog.funcs[120]? = some Try.f120:=by kernel_rfl
theorem func121:prog.funcs[121]? = some Try.f121:=by kernel_rfl
theorem func122:prog.funcs[122]? = some Try.f122:=by kernel_rfl
theorem func123:prog.funcs[123]? = some Try.f123:=by kernel_rfl
theorem func124:prog.funcs[124]? = some Try.f124:=by kernel_rfl
theorem func125:prog.funcs[125]? = some Try.f125:=by kernel_rfl
def ntmps125:=Try.ntmps125
theorem call125 (args:Array Value) (w:World):Sem.run prog (callFunc 125 args) w = .ok (.enter 125 args) w:=by kernel_rfl
theorem func126:prog.funcs[126]? = some Try.f126:=by kernel_rfl
def ntmps126:=Try.ntmps126
theorem call126 (args:Array Value) (w:World):Sem.run prog (callFunc 126 args) w = .ok (.enter 126 args) w:=by kernel_rfl
theorem func127:prog.funcs[127]? = some Try.f127:=by kernel_rfl
def ntmps127:=Try.ntmps127
theorem call127 (args:Array Value) (w:World):Sem.run prog (callFunc 127 args) w = .ok (.enter 127 args) w:=by kernel_rfl
theorem func128:prog.funcs[128]? = some Try.f128:=by kernel_rfl
theorem func129:prog.funcs[129]? = some Try.f129:=by kernel_rfl
def ntmps129:=Try.ntmps129
theorem func130:prog.funcs[130]? = some Try.f130:=by kernel_rfl
def ntmps130:=Try.ntmps130
theorem func131:prog.funcs[131]? = some Try.f131:=by kernel_rfl
def ntmps131:=Try.ntmps131
theorem func132:prog.funcs[132]? = some Try.f132:=by kernel_rfl
def ntmps132:=Try.ntmps132
theorem func133:prog.funcs[133]? = some Try.f133:=by kernel_rfl
def ntmps133:=Try.ntmps133
theorem call133 (args:Array Value) (w:World):Sem.run prog (callFunc 133 args) w = .ok (.enter 133 args) w:=by kernel_rfl
theorem func134:prog.funcs[134]? = some Try.f134:=by kernel_rfl
def ntmps134:=Try.ntmps134
theorem call134 (args:Array Value) (w:World):Sem.run prog (callFunc 134 args) w = .ok (.enter 134 args) w:=by kernel_rfl
theorem func135:prog.funcs[135]? = some Try.f135:=by kernel_rfl
def ntmps135:=Try.ntmps135
theorem call135 (args:Array Value) (w:World):Sem.run prog (callFunc 135 args) w = .ok (.enter 135 args) w:=by kernel_rfl
theorem func136:prog.funcs[136]? = some Try.f136:=by kernel_rfl
theorem func137:prog.funcs[137]? = some Try.f137:=by kernel_rfl
theorem func138:prog.funcs[138]? = some Try.f138:=by kernel_rfl
theorem func139:prog.funcs[139]? = some Try.f139:=by kernel_rfl
theorem func140:prog.funcs[140]? = some Try.f140:=by kernel_rfl
theorem func141:prog.funcs[141]? = some Try.f141:=by kernel_rfl
def ntmps141:=Try.ntmps141
theorem call141 (args:Array Value) (w:World):Sem.run prog (callFunc 141 args) w = .ok (.enter 141 args) w:=by kernel_rfl
theorem func142:prog.funcs[142]? = some Try.f142:=by kernel_rfl
def ntmps142:=Try.ntmps142
theorem call142 (args:Array Value) (w:World):Sem.run prog (callFunc 142 args) w = .ok (.enter 142 args) w:=by kernel_rfl
theorem func143:prog.funcs[143]? = some Try.f143:=by kernel_rfl
theorem func162:prog.funcs[162]? = some fSnd:=by kernel_rfl
theorem results162:fSnd.results = #[]:=by kernel_rfl
theorem func163:prog.funcs[163]? = some fGo:=by kernel_rfl
theorem results163:fGo.results = #[]:=by kernel_rfl
theorem funcSnd:prog.funcs[sq.nfn]? = some fSnd:=by kernel_rfl
theorem funcGo:prog.funcs[sq.nfn + 1]? = some fGo:=by kernel_rfl
theorem ntmpsSnd:fSnd.ntmps = 5:=by kernel_rfl
theorem ntmpsGo:fGo.ntmps = 5:=by kernel_rfl
attribute [simp] sizeOf0 sizeOf3 sizeOf4 sizeOf5 sizeOf9
attribute [simp] sizeOf22 sizeOf23 sizeOf25
attribute [simp] sizeOf60 sizeOf62 sizeOf63 sizeOf65
attribute [simp] sizeOf96 sizeOf106 sizeOf126
attribute [simp] sizeOf134 sizeOf149 sizeOf150 sizeOf155 sizeOf158 sizeOf160 sizeOf166 sizeOf170
attribute [simp] sizeOf173 sizeOf174 underlying0 underlying3 underlying4 underlying5 underlying9
attribute [simp] underlying22 underlying23 underlying25 underlying55 underlying56
attribute [simp] underlying60 underlying62 underlying63 underlying65 underlying70 underlying77 underlying89 underlying90 underlying93 underlying96
attribute [simp] underlying103 underlying106 underlying124 underlying126 underlying131 underlying135
attribute [simp] underlying140 underlying141 underlying149 underlying150 underlying155 underlying158 underlying160 underlying161 underlying162 underlying166 underlying170 underlying173 underlying174
attribute [simp] runUnderlying23
attribute [simp] runUnderlying25 runUnderlying60 runUnderlying62
attribute [simp] runUnderlying65 runUnderlying70 runUnderlying93 runUnderlying96 runUnderlying102
attribute [simp] runUnderlying124 runUnderlying128 runUnderlying135 runUnderlying141
attribute [simp] runUnderlying162
attribute [simp] isAgg0 isAgg3 isAgg4 isAgg5 isAgg9 isAgg22 isAgg23 isAgg25
attribute [simp] isAgg62 isAgg63
attribute [simp] isAgg96 isAgg106
attribute [simp] isAgg126 isAgg134 isAgg149
attribute [simp] isAgg150 isAgg155 isAgg158 isAgg160 isAgg166 isAgg170 isAgg173 isAgg174
attribute [simp] zeroValue0 zeroValue3 zeroValue4 zeroValue5 zeroValue9 zeroValue23 zeroValue25
attribute [simp] zeroValue60 zeroValue62 zeroValue63 zeroValue65
attribute [simp] zeroValue89 zeroValue90 zeroValue96 zeroValue102 zeroValue106
attribute [simp] zeroValue126 zeroValue128 zeroValue135 zeroValue140 zeroValue141 zeroValue149 zeroValue150 zeroValue155
attribute [simp] zeroValue158 zeroValue160 zeroValue161 zeroValue166 zeroValue170 zeroValue173 zeroValue174
attribute [simp] func7 func8 call8 func10 call10
attribute [simp] func16 call16 func24 call24 func30 call30 func31 call31 func32 call32
attribute [simp] func33 call33 func34 call34 func35 call35 func36 call36 func37 ntmps37 call37 func38 call38 func39 func40 call40 func44 call44 func46 call46 func47 call47 func50 call50
attribute [simp] func58 call58 func59 call59 func60 call60 func61 call61 func62 call62 func63 call63 func64 call64 func65 call65 func66 func67 call67 func68 call68
attribute [simp] func73 call73 func75 call75 func76 call76 func77 call77 func78 call78 func79 call79 func81 call81 func88 func89 func90 call90 func91 call91
attribute [simp] func92 call92 func93 call93 func94 ntmps94 call94 func96 call96 func97 call97 func98 call98 func99 call99 func100 call100 func101 call101 func102 call102 func103 call103 func104 call104 func105 call105 func109
attribute [simp] func113 func114 func115 func116 func117 func118 func119 func120 func121 func122 func123 func124 func125 call125 func126 call126 func127 call127 func128 func129 func130 func131
attribute [simp] func132 func133 call133 func134 call134 func135 call135 func136 func137 func138 func139 func140 func141 call141 func142 call142 func143
attribute [simp] func162 results162 func163 results163
end Go.Proofs.Ytgcnemkhppkkcaa.sqp

namespace Go.Proofs.Ytgcnemkhppkkcaa.mem
open Go.ChangeShapes Go.WideShapes Go.ChangeAt Go.RowKit
set_option linter.unusedVariables false
set_option maxRecDepth 100000
theorem ret_bool {a b:Bool} (h:a = b):Ending.returned (.bool a) = .returned (.bool b):=by rw [h]
theorem ret_int {k:IntKind} {a b:Int} (h:a = b):Ending.returned (.int k a) = .returned (.int k b):=by rw [h]
def Row (w:World) (lo hi:Nat) (A:Option Addr) (n:Nat) (xs:List Value):Prop :=
 xs.length = n/\hi<=w.heap.size/\(0 < n->∃ g off,A = some ⟨g,off,none⟩/\lo<=g/\g < hi/\∀ j,j < n->w.cell? ⟨g,off + j,none⟩ = xs[j]?/\w.frozen? ⟨g,off + j,none⟩ = false)
theorem Row.at_ {w:World} {lo hi n k:Nat} {A:Option Addr} {xs:List Value} (h:Row w lo hi A n xs) (hk:k < n) :
  ∃ g off u,A = some ⟨g,off,none⟩/\lo<=g/\g < hi/\xs[k]? = some u/\w.cell? ⟨g,off + k,none⟩ = some u/\w.frozen? ⟨g,off + k,none⟩ = false:=by
 obtain ⟨g,off,e,hb,hlt,hc⟩:=h.2.2 (by omega)
 have hl:k < xs.length:=by have:=h.1;omega
 obtain ⟨h1,h2⟩:=hc k hk
 exact ⟨g,off,xs[k],e,hb,hlt,List.getElem?_eq_getElem hl,by rw [h1,List.getElem?_eq_getElem hl],h2⟩
structure Out (lo hi:Nat) (w w':World):Prop where
 os:w'.os = w.os
 tape:w'.tape = w.tape
 output:w'.output = w.output
 size:w.heap.size<=w'.heap.size
 block:∀ k,k < w.heap.size->k < lo\/hi<=k->w'.heap[k]? = w.heap[k]?
theorem Out.refl (lo hi:Nat) (w:World):Out lo hi w w:=⟨rfl,rfl,rfl,Nat.le_refl _,fun _ _ _=>rfl⟩
theorem Out.trans {lo hi:Nat} {a b c:World} (h:Out lo hi a b) (k:Out lo hi b c):Out lo hi a c :=
 ⟨k.os.trans h.os,k.tape.trans h.tape,k.output.trans h.output,Nat.le_trans h.size k.size,fun i hi hne=>(k.block i (Nat.lt_of_lt_of_le hi h.size) hne).trans (h.block i hi hne)⟩
theorem Out.of_below {lo hi:Nat} {w w':World} (hb:Below w.heap.size w w'):Out lo hi w w' :=
 ⟨hb.os,hb.tape,hb.output,hb.size,fun k hk _=>hb.block k hk⟩
theorem Out.set_ {lo hi g off:Nat} {w w':World} (h:Out lo hi w w') (h1:lo<=g) (h2:g < hi) (u:Value):Out lo hi w (w'.setCell ⟨g,off,none⟩ u) :=
 ⟨h.os,h.tape,h.output,by simpa [World.setCell] using h.size,fun j hj hne=>(Below.heap_setCell _ _ _ _ (by intro e;have e2:j = g:=e;omega)).trans (h.block j hj hne)⟩
theorem Out.below {lo hi B:Nat} {w w':World} (h:Out lo hi w w') (h1:B<=lo) (h2:B<=w.heap.size):Below B w w' :=
 ⟨h.os,h.tape,h.output,h.size,fun k hk=>h.block k (by omega) (.inl (by omega))⟩
theorem Out.drewN {lo hi:Nat} {w w':World} (h:Out lo hi w w') (n:Nat):Out lo hi w (w'.drewN n):=⟨h.os,h.tape,h.output,h.size,h.block⟩
theorem Row.out {w w':World} {lo hi lo' hi' n:Nat} {A:Option Addr} {xs:List Value} (h:Row w lo hi A n xs) (ho:Out lo' hi' w w') (hd:hi<=lo'\/hi'<=lo):Row w' lo hi A n xs:=by
 refine ⟨h.1,Nat.le_trans h.2.1 ho.size,fun hn=>?_⟩
 obtain ⟨g,off,e,hg,hlt,hc⟩:=h.2.2 hn
 have hs:=h.2.1
 have hblk:w'.heap[g]? = w.heap[g]?:=ho.block g (by omega) (by omega)
 refine ⟨g,off,e,hg,hlt,fun j hj=>?_⟩
 rw [World.cell?_of_block (w:=w) (a:=⟨g,off + j,none⟩) hblk,World.frozen?_of_block (w:=w) (a:=⟨g,off + j,none⟩) hblk]
 exact hc j hj
theorem Row.keep {w w':World} {lo hi n B:Nat} {A:Option Addr} {xs:List Value} (h:Row w lo hi A n xs) (hb:Below B w w') (hB:hi<=B):Row w' lo hi A n xs:=by
 refine ⟨h.1,Nat.le_trans h.2.1 hb.size,fun hn=>?_⟩
 obtain ⟨g,off,e,hg,hlt,hc⟩:=h.2.2 hn
 have hblk:w'.heap[g]? = w.heap[g]?:=hb.block g (by omega)
 refine ⟨g,off,e,hg,hlt,fun j hj=>?_⟩
 rw [World.cell?_of_block (w:=w) (a:=⟨g,off + j,none⟩) hblk,World.frozen?_of_block (w:=w) (a:=⟨g,off + j,none⟩) hblk]
 exact hc j hj
theorem Row.wider {w:World} {lo hi lo' hi' n:Nat} {A:Option Addr} {xs:List Value} (h:Row w lo hi A n xs) (h1:lo'<=lo) (h2:hi<=hi') (h3:hi'<=w.heap.size):Row w lo' hi' A n xs :=
 ⟨h.1,h3,fun hn=>by
  obtain ⟨g,off,e,hg,hlt,hc⟩:=h.2.2 hn
  exact ⟨g,off,e,by omega,by omega,hc⟩⟩
theorem below_drewN {B:Nat} {a w:World} (h:Below B a w) (n:Nat):Below B a (w.drewN n):=⟨h.os,h.tape,h.output,h.size,h.block⟩
theorem Row.of_own {w:World} {base:Nat} {e:TypeId} {A:Option Addr} {n c:Nat} {xs:List Value} (h:w.ownsRow base e 1 (.slice A n c) n xs):Row w base w.heap.size A n xs:=by
 refine ⟨by simpa using h.1,Nat.le_refl _,fun hn=>?_⟩
 have hlen:=h.1
 rcases h.2 with ⟨hv,h0⟩ | ⟨g,cap,cur,hv,hb,hh,r⟩
 ·omega
 ·injection hv with hA hn' hc'
  subst hA;subst hc'
  have hlt:g < w.heap.size:=by
   rcases Nat.lt_or_ge g w.heap.size with hlt | hge
   ·exact hlt
   ·rw [Array.getElem?_eq_none hge] at hh;cases hh
  refine ⟨g,0,rfl,hb,hlt,fun j hj=>?_⟩
  rw [Nat.zero_add]
  exact ⟨h.cellAt j (by omega),h.frozenAt j⟩
def Rd (w:World) (hi:Nat) (A:Option Addr) (n:Nat) (xs:List Value):Prop :=
 xs.length = n/\hi<=w.heap.size/\(0 < n->∃ g off,A = some ⟨g,off,none⟩/\g < hi/\∀ j,j < n->w.cell? ⟨g,off + j,none⟩ = xs[j]?)
theorem Row.rd {w:World} {lo hi n:Nat} {A:Option Addr} {xs:List Value} (h:Row w lo hi A n xs):Rd w hi A n xs :=
 ⟨h.1,h.2.1,fun hn=>by
  obtain ⟨g,off,e,hg,hlt,hc⟩:=h.2.2 hn
  exact ⟨g,off,e,hlt,fun j hj=>(hc j hj).1⟩⟩
theorem Rd.at_ {w:World} {hi n k:Nat} {A:Option Addr} {xs:List Value} (h:Rd w hi A n xs) (hk:k < n) :
  ∃ g off u,A = some ⟨g,off,none⟩/\g < hi/\xs[k]? = some u/\w.cell? ⟨g,off + k,none⟩ = some u:=by
 obtain ⟨g,off,e,hlt,hc⟩:=h.2.2 (by omega)
 have hl:k < xs.length:=by have:=h.1;omega
 exact ⟨g,off,xs[k],e,hlt,List.getElem?_eq_getElem hl,by rw [hc k hk,List.getElem?_eq_getElem hl]⟩
theorem Rd.keep {w w':World} {hi n B:Nat} {A:Option Addr} {xs:List Value} (h:Rd w hi A n xs) (hb:Below B w w') (hB:hi<=B):Rd w' hi A n xs:=by
 refine ⟨h.1,Nat.le_trans h.2.1 hb.size,fun hn=>?_⟩
 obtain ⟨g,off,e,hlt,hc⟩:=h.2.2 hn
 have hblk:w'.heap[g]? = w.heap[g]?:=hb.block g (by omega)
 refine ⟨g,off,e,hlt,fun j hj=>?_⟩
 rw [World.cell?_of_block (w:=w) (a:=⟨g,off + j,none⟩) hblk]
 exact hc j hj
theorem Rd.out {w w':World} {hi lo' hi' n:Nat} {A:Option Addr} {xs:List Value} (h:Rd w hi A n xs) (ho:Out lo' hi' w w') (hd:hi<=lo'\/hi'<=0):Rd w' hi A n xs:=by
 refine ⟨h.1,Nat.le_trans h.2.1 ho.size,fun hn=>?_⟩
 obtain ⟨g,off,e,hlt,hc⟩:=h.2.2 hn
 have hs:=h.2.1
 have hblk:w'.heap[g]? = w.heap[g]?:=ho.block g (by omega) (by omega)
 refine ⟨g,off,e,hlt,fun j hj=>?_⟩
 rw [World.cell?_of_block (w:=w) (a:=⟨g,off + j,none⟩) hblk]
 exact hc j hj
theorem Rd.of_cells {w:World} {a:Addr} {n:Nat} {xs:List Value} (hl:xs.length = n) (h:∀ i,i < n->w.cell? (a.add i) = xs[i]?):Rd w w.heap.size (some a) n xs:=by
 refine ⟨hl,Nat.le_refl _,fun hn=>?_⟩
 obtain ⟨b,off,spot⟩:=a
 have h0:=h 0 hn
 rw [List.getElem?_eq_getElem (by omega)] at h0
 have hspot:spot = none:=by simpa [Addr.add] using World.cell?_spot h0
 subst hspot
 have hb:=World.block_lt_of_cell? w _ h0
 refine ⟨b,off,rfl,by simpa [Addr.add] using hb,fun j hj=>?_⟩
 rw [<-h j hj]
 congr 1
 unfold Addr.add
 split
 ·rename_i e;subst e;simp
 ·rfl
theorem grown_trans {a b c:World} {row:Option Nat} (h:a.grownBy b row) (k:b.grownBy c row):a.grownBy c row :=
 ⟨k.os.trans h.os,k.tape.trans h.tape,k.output.trans h.output,Nat.le_trans h.size k.size,fun i hi hne=>(k.block i (Nat.lt_of_lt_of_le hi h.size) hne).trans (h.block i hi hne)⟩
theorem wpList_append_one {P:Program} {ops:Array Oper} {rest:List Oper} {o:Oper} {a:Act} {Q:Exit->Act->World->Prop} (W:World) (u:Value) (ty:TypeId) (hgd:o.guard = none) (s x:Operand) (t:TypeId)
  (ho:o.op = .call { callee:=.builtin .append,args:=#[s,x],argTypes:=#[t,t] })
  (base:Nat) (e:TypeId) (i:TypeInfo) (z:Value) (bytes:Nat) (ht:P.underlying t = some (.slice e)) (hi:P.info? e = some i) (hz:i.zero = some z)
  (hsize:i.size = 1) (hby:i.bytes = bytes) (hzs:z.cells.size = 1)
  (v:Value) (n:Nat) (xs:List Value) (hs:a.eval s = v) (hown:W.ownsRow base e 1 v n xs)
  (hx:a.eval x = .slice (some ⟨W.heap.size,0,none⟩) 1 1) (h1:u.oneCell' = true)
  (hbytes:(n + 1) * bytes<=140737488355328) (hb0:0 < bytes) (hbase:base<=W.heap.size)
  (h:∀ v' w',w'.ownsRow base e 1 v' (n + 1) (xs ++ [u])->W.grownBy w' v.ownBlock->wpList P ops Q rest (a.put o.dst v') w'):wpList P ops Q (o :: rest) a (W.alloc (.cells #[u] ty)):=by
 refine wpList_append_own _ hgd s x t ho base e i z 1 bytes ht hi hz hsize hby hzs (by decide) v n xs hs (hown.alloc _) ⟨W.heap.size,0,none⟩ 1 1 [u] hx rfl ?_ ?_ ?_ hbytes ?_ ?_
 ·intro j q hj
  match j,hj with
  | 0,hj=>simp at hj;subst hj;simp [Addr.add]
 ·intro q hq;simp at hq;subst hq;exact h1
 ·have:(n + 1) * 1<=(n + 1) * bytes:=Nat.mul_le_mul_left _ hb0
  unfold maxLen;omega
 ·simp;omega
 ·intro v' w' h2 h3 _
  exact h v' w' h2 (grown_trans (World.grownBy_alloc W _ _) h3)
theorem own_form {w:World} {base:Nat} {e:TypeId} {size n:Nat} {v:Value} {xs:List Value} (h:w.ownsRow base e size v n xs):∃ A c,v = .slice A n c:=by
 rcases h.2 with ⟨rfl,rfl⟩ | ⟨g,cap,cur,rfl,_⟩
 ·exact ⟨_,_,rfl⟩
 ·exact ⟨_,_,rfl⟩
theorem own_below {w w':World} {base B:Nat} {e:TypeId} {size n:Nat} {v:Value} {xs:List Value} (h:w.ownsRow base e size v n xs) (hg:w.grownBy w' v.ownBlock) (hB:B<=base) (hb:base<=w.heap.size):Below B w w' :=
 (Below.refl _ _).grown hg (by omega) (fun k hk=>by have:=(h.lt k hk).1;omega)
end Go.Proofs.Ytgcnemkhppkkcaa.mem

namespace Go.Proofs.Ytgcnemkhppkkcaa.ints
open Go.ChangeShapes Go.WideShapes Go.ChangeAt Go.RowKit
open mem
set_option linter.unusedVariables false
set_option maxRecDepth 100000
def V (l:List Int):List Value:=l.map (Value.int .i64)
theorem V_len (l:List Int):(V l).length = l.length:=by simp [V]
theorem V_at {l:List Int} {k:Nat} {u:Value} (h:(V l)[k]? = some u):∃ z,l[k]? = some z/\u = .int .i64 z:=by
 simp only [V,List.getElem?_map,Option.map_eq_some_iff] at h
 obtain ⟨s,h1,h2⟩:=h
 exact ⟨s,h1,h2.symm⟩
theorem V_get {l:List Int} {k:Nat} {z:Int} (h:l[k]? = some z):(V l)[k]? = some (.int .i64 z):=by simp [V,h]
theorem V_set (l:List Int) (k:Nat) (z:Int):(V l).set k (.int .i64 z) = V (l.set k z):=by simp [V,List.map_set]
def Drawn (w w':World):Prop:=∃ m,w' = w.drewN m
theorem Drawn.cell {w w':World} (h:Drawn w w') (p:Addr):w'.cell? p = w.cell? p:=by obtain ⟨m,rfl⟩:=h;rfl
theorem Drawn.more {w w':World} (h:Drawn w w') (n:Nat):Drawn w (w'.drewN n):=by obtain ⟨m,rfl⟩:=h;exact ⟨m + n,by simp⟩
theorem Drawn.below {w w':World} (h:Drawn w w') (B:Nat):Below B w w':=by obtain ⟨m,rfl⟩:=h;exact below_drewN (Below.refl _ _) _
theorem infoI:(sqp.prog.info? 3).map (fun i=>(i.zero,i.size,i.bytes)) = some (some (.int .i64 0),1,8):=by kernel_rfl
def eqi (xs ys:List Int):Bool:=decide (xs = ys)
def Same (xs ys:List Int) (k:Nat):Prop:=∀ j,j < k->xs[j]? = ys[j]?
theorem Same.step {xs ys:List Int} {k:Nat} {s:Int} (h:Same xs ys k) (h1:xs[k]? = some s) (h2:ys[k]? = some s):Same xs ys (k + 1):=by
 intro j hj
 by_cases e:j = k
 ·subst e;rw [h1,h2]
 ·exact h j (by omega)
theorem eqi_no {xs ys:List Int} {k:Nat} {s t:Int} (h1:xs[k]? = some s) (h2:ys[k]? = some t) (h:s ≠ t):eqi xs ys = false:=by
 unfold eqi
 rw [decide_eq_false_iff_not]
 rintro rfl
 rw [h1] at h2
 exact h (Option.some.inj h2)
theorem eqi_len {xs ys:List Int} (h:xs.length ≠ ys.length):eqi xs ys = false:=by
 unfold eqi
 rw [decide_eq_false_iff_not]
 rintro rfl
 exact h rfl
theorem eqi_yes {xs ys:List Int} {n:Nat} (h1:xs.length = n) (h2:ys.length = n) (h:Same xs ys n):eqi xs ys = true:=by
 unfold eqi
 rw [decide_eq_true_iff]
 refine List.ext_getElem? fun i=>?_
 by_cases hi:i < n
 ·exact h i hi
 ·rw [List.getElem?_eq_none (by omega),List.getElem?_eq_none (by omega)]
end Go.Proofs.Ytgcnemkhppkkcaa.ints

namespace Go.Proofs.Ytgcnemkhppkkcaa.arr
open Go.ChangeShapes Go.WideShapes Go.ChangeAt Go.RowKit
open mem ints
set_option linter.unusedVariables false
set_option maxRecDepth 100000
def Arr (w:World) (g:Nat) (cs:List Value) (t:TypeId):Prop:=w.heap[g]? = some (.cells cs.toArray t (0,0))
theorem Arr.lt {w:World} {g:Nat} {cs:List Value} {t:TypeId} (h:Arr w g cs t):g < w.heap.size:=(Array.getElem?_eq_some_iff.1 h).1
theorem Arr.cell {w:World} {g k:Nat} {cs:List Value} {t:TypeId} {v:Value} (h:Arr w g cs t) (hk:cs[k]? = some v):w.cell? ⟨g,k,none⟩ = some v:=by
 unfold Arr at h
 simp [World.cell?,h,hk]
theorem Arr.frozen {w:World} {g:Nat} {cs:List Value} {t:TypeId} (h:Arr w g cs t) (k:Nat):w.frozen? ⟨g,k,none⟩ = false:=by
 unfold Arr at h
 simp [World.frozen?,h]
theorem Arr.set_ {w:World} {g:Nat} {cs:List Value} {t:TypeId} (h:Arr w g cs t) (k:Nat) (v:Value):Arr (w.setCell ⟨g,k,none⟩ v) g (cs.set k v) t:=by
 have:=heap_setCell_same w g k cs.toArray t v h
 simpa [Arr] using this
theorem Arr.other {w:World} {g g' k:Nat} {cs:List Value} {t:TypeId} (h:Arr w g cs t) (hne:g ≠ g') (v:Value):Arr (w.setCell ⟨g',k,none⟩ v) g cs t :=
 (heap_setCell_other w ⟨g',k,none⟩ g v hne).trans h
theorem Arr.keep {w w':World} {g B:Nat} {cs:List Value} {t:TypeId} (h:Arr w g cs t) (hb:Below B w w') (hB:g < B):Arr w' g cs t :=
 (hb.block g hB).trans h
theorem Arr.alloc {w:World} {g:Nat} {cs:List Value} {t:TypeId} (h:Arr w g cs t) (o:Obj):Arr (w.alloc o) g cs t :=
 (((Below.refl w.heap.size w).alloc (Nat.le_refl _) o).block g h.lt).trans h
theorem Arr.new (w:World) (cs:List Value) (t:TypeId) {g:Nat} (hg:g = w.heap.size):Arr (w.alloc (.cells cs.toArray t)) g cs t:=by
 subst hg
 exact heap_alloc_last w _
theorem Arr.row {w:World} {g:Nat} {cs cs':List Value} {t:TypeId} (h:Arr w g cs t):Arr (w.setRow g cs'.toArray) g cs' t:=setRow_heap w g _ _ t _ h
theorem Arr.rowOther {w:World} {g g':Nat} {cs:List Value} {cs':Array Value} {t:TypeId} (h:Arr w g cs t) (hne:g ≠ g'):Arr (w.setRow g' cs') g cs t:=(setRow_other w g' g cs' hne).trans h
theorem Arr.drew {w:World} {g:Nat} {cs:List Value} {t:TypeId} (h:Arr w g cs t) (n:Nat):Arr (w.drewN n) g cs t:=h
theorem below_setRow {B:Nat} {w w':World} (h:Below B w w') {g:Nat} (hg:B<=g) (cs:Array Value):Below B w (w'.setRow g cs) :=
 ⟨h.os,h.tape,h.output,by simpa using h.size,fun k hk=>(setRow_other w' g k cs (by omega)).trans (h.block k hk)⟩
theorem one_V (l:List Int):(V l).toArray.all (·.oneCell') = true:=by simp [V,Value.oneCell']
theorem info44:(sqp.prog.info? 60).map (·.size) = some 24:=by kernel_rfl
theorem size_V {l:List Int} (h:l.length = 24):(sqp.prog.info? 60).map (·.size) = some (V l).toArray.size:=by rw [info44];simp [V,h]
def zeros:List Int:=List.replicate 24 0
theorem V_getD {l:List Int} {k:Nat} (h:k < l.length):(V l)[k]? = some (.int .i64 (l.getD k 0)):=by
 simp [V,List.getD,h]
def tab (f:Nat->Int):List Int:=(List.range 24).map f
theorem tab_len (f:Nat->Int):(tab f).length = 24:=by simp [tab]
theorem tab_at (f:Nat->Int) {k:Nat} (h:k < 24):(tab f)[k]? = some (f k):=by simp [tab,h]
theorem tab_get (f:Nat->Int) {k:Nat} (h:k < 24):(tab f).getD k 0 = f k:=by simp [tab,h]
theorem tab_set (f f':Nat->Int) {k:Nat} (h:∀ j,j < 24->f' j = if j = k then f' k else f j):(tab f).set k (f' k) = tab f':=by
 refine List.ext_getElem? fun i=>?_
 by_cases hi:i < 24
 ·rw [tab_at _ hi,List.getElem?_set]
  by_cases e:k = i
  ·subst e;simp [tab_len,hi]
  ·rw [if_neg e,tab_at _ hi,h i hi,if_neg (by omega)]
 ·rw [List.getElem?_eq_none (by simp [tab_len];omega),List.getElem?_eq_none (by simp [tab_len];omega)]
def Stay (w wr:World) (k:Nat):Prop:=Arr wr w.heap.size (V zeros) 60/\Arr wr (w.heap.size + 1) (V (tab fun i=>if i < k then (i:Int) else 0)) 60/\Below w.heap.size w wr
def idl:List Int:=tab fun i=>(i:Int)
set_option maxHeartbeats 400000 in
theorem staying_any (w:World) :
  Calls sqp.prog 99 #[] w fun e w'=>e = .returned (.agg (V idl).toArray)/\Below w.heap.size w w':=by
 go_enter sqp.func99,sqp.ntmps99
 go_wp2
 go_loopw [3] (fun i wr=>∃ k:Nat,k<=24/\i = .int .i64 k/\Stay w wr k) (fun i _=>24 - (intOf i).toNat)
 case atStart =>
  exact ⟨0,Nat.zero_le _,rfl,(Arr.new w (V zeros) _ rfl).alloc _,Arr.new _ (V zeros) _ (by simp),((Below.refl _ _).alloc (Nat.le_refl _) _).alloc (by simp) _⟩
 case round =>
  obtain ⟨k,hk,rfl,hst⟩:=hrel
  have HS:=Lib.hid hst;clear hst
  by_cases hlt:k < 24
  ·have hc:=HS.out.2.1.cell (V_getD (k:=k) (by rw [tab_len];exact hlt))
   have hf:=HS.out.2.1.frozen k
   go_wp2
   go_roundw
   case rel =>
    refine ⟨k + 1,by omega,by go_num,HS.out.1.other (by omega) _,?_,HS.out.2.2.setCell (by simp) _⟩
    have h:=HS.out.2.1.set_ k (.int .i64 (k:Int))
    rw [V_set] at h
    have e:=tab_set (fun i=>if i < k then (i:Int) else 0) (fun i=>if i < k + 1 then (i:Int) else 0) (k:=k) (fun j hj=>by
     by_cases e:j = k
     ·subst e;simp
     ·simp [e];split <;> split <;> omega)
    simp only [Nat.lt_succ_self,if_true] at e
    rw [e] at h
    exact h
   case measure=>simp [intOf];omega
  ·obtain rfl:k = 24:=by omega
   have e:tab (fun i=>if i < 24 then (i:Int) else 0) = idl:=by decide
   have h2:=HS.out.2.1;rw [e] at h2
   have H2:=Lib.hid h2;clear h2 e
   go_wp2_with (first | (refine wpList_load_row rfl 60 _ rfl (w.heap.size + 1) rfl 60 (V idl).toArray (0,0) _ H2.out sqp.underlying60 rfl (size_V (tab_len _)) ?_) | (refine wpList_store_row rfl 60 _ _ rfl w.heap.size (V idl).toArray rfl rfl 60 (V zeros).toArray HS.out.1 (size_V (tab_len _)) (by simp [V_len,idl,tab_len,zeros]) (one_V _) ?_))
   exact bodyPost_ret (v:=.agg (V idl).toArray) (results_cell_row rfl _ _ w.heap.size 60 (V idl).toArray (0,0) _ rfl HS.out.1.row sqp.underlying60 rfl (size_V (tab_len _))) rfl ⟨rfl,below_setRow HS.out.2.2 (Nat.le_refl _) _⟩
end Go.Proofs.Ytgcnemkhppkkcaa.arr

namespace Go.Proofs.Ytgcnemkhppkkcaa.sf
open Go.ChangeShapes Go.WideShapes Go.ChangeAt Go.RowKit Go.Joins Go.Deep
open mem ints arr
set_option linter.unusedVariables false
set_option maxRecDepth 100000
def Svl (w:World) (lo hi:Nat) (v:Value) (r u:List Int):Prop :=
 ∃ P n c Q m d l1 h1 l2 h2,v = .agg #[.slice P n c,.slice Q m d]/\Row w l1 h1 P n (V r)/\Row w l2 h2 Q m (V u)/\n<=c/\m<=d/\lo<=l1/\h1<=hi/\lo<=l2/\h2<=hi/\(h1<=l2\/h2<=l1)/\hi<=w.heap.size
def Srd (w:World) (hi:Nat) (v:Value) (r u:List Int):Prop :=
 ∃ P n c Q m d,v = .agg #[.slice P n c,.slice Q m d]/\Rd w hi P n (V r)/\Rd w hi Q m (V u)/\n<=c/\m<=d
theorem Rd.wider {w:World} {hi hi' n:Nat} {A:Option Addr} {xs:List Value} (h:Rd w hi A n xs) (h1:hi<=hi') (h2:hi'<=w.heap.size):Rd w hi' A n xs :=
 ⟨h.1,h2,fun hn=>by
  obtain ⟨g,off,e,hlt,hc⟩:=h.2.2 hn
  exact ⟨g,off,e,by omega,hc⟩⟩
theorem Svl.rd {w:World} {lo hi:Nat} {v:Value} {r u:List Int} (h:Svl w lo hi v r u):Srd w hi v r u:=by
 obtain ⟨P,n,c,Q,m,d,l1,h1,l2,h2,rfl,a,b,e1,e2,f1,f2,f3,f4,f5,f6⟩:=h
 exact ⟨P,n,c,Q,m,d,rfl,Rd.wider a.rd f2 f6,Rd.wider b.rd f4 f6,e1,e2⟩
theorem Svl.top {w:World} {lo hi:Nat} {v:Value} {r u:List Int} (h:Svl w lo hi v r u):hi<=w.heap.size:=by
 obtain ⟨P,n,c,Q,m,d,l1,h1,l2,h2,rfl,a,b,e1,e2,f1,f2,f3,f4,f5,f6⟩:=h
 exact f6
theorem Svl.keep {w w':World} {lo hi B:Nat} {v:Value} {r u:List Int} (h:Svl w lo hi v r u) (hb:Below B w w') (hB:hi<=B):Svl w' lo hi v r u:=by
 obtain ⟨P,n,c,Q,m,d,l1,h1,l2,h2,rfl,a,b,e1,e2,f1,f2,f3,f4,f5,f6⟩:=h
 exact ⟨P,n,c,Q,m,d,l1,h1,l2,h2,rfl,a.keep hb (by omega),b.keep hb (by omega),e1,e2,f1,f2,f3,f4,f5,Nat.le_trans f6 hb.size⟩
theorem Srd.keep {w w':World} {hi B:Nat} {v:Value} {r u:List Int} (h:Srd w hi v r u) (hb:Below B w w') (hB:hi<=B):Srd w' hi v r u:=by
 obtain ⟨P,n,c,Q,m,d,rfl,a,b,e1,e2⟩:=h
 exact ⟨P,n,c,Q,m,d,rfl,a.keep hb hB,b.keep hb hB,e1,e2⟩
theorem Svl.out {w w':World} {lo hi lo' hi':Nat} {v:Value} {r u:List Int} (h:Svl w lo hi v r u) (ho:Out lo' hi' w w') (hd:hi<=lo'\/hi'<=lo):Svl w' lo hi v r u:=by
 obtain ⟨P,n,c,Q,m,d,l1,h1,l2,h2,rfl,a,b,e1,e2,f1,f2,f3,f4,f5,f6⟩:=h
 exact ⟨P,n,c,Q,m,d,l1,h1,l2,h2,rfl,a.out ho (by omega),b.out ho (by omega),e1,e2,f1,f2,f3,f4,f5,Nat.le_trans f6 ho.size⟩
theorem Svl.later {w:World} {lo lo' hi:Nat} {v:Value} {r u:List Int} (h:Svl w lo hi v r u) (hl:lo'<=lo):Svl w lo' hi v r u:=by
 obtain ⟨P,n,c,Q,m,d,l1,h1,l2,h2,rfl,a,b,e1,e2,f1,f2,f3,f4,f5,f6⟩:=h
 exact ⟨P,n,c,Q,m,d,l1,h1,l2,h2,rfl,a,b,e1,e2,by omega,f2,by omega,f4,f5,f6⟩
theorem Svl.wide {w:World} {lo hi:Nat} {v:Value} {r u:List Int} (h:Svl w lo hi v r u):Svl w lo w.heap.size v r u:=by
 obtain ⟨P,n,c,Q,m,d,l1,h1,l2,h2,rfl,a,b,e1,e2,f1,f2,f3,f4,f5,f6⟩:=h
 exact ⟨P,n,c,Q,m,d,l1,h1,l2,h2,rfl,a,b,e1,e2,f1,by omega,f3,by omega,f5,Nat.le_refl _⟩
theorem Svl.nil (w:World) (lo hi:Nat) (h:hi<=w.heap.size) (hl:lo<=hi):Svl w lo hi (.agg #[.slice none 0 0,.slice none 0 0]) [] [] :=
 ⟨none,0,0,none,0,0,lo,lo,lo,lo,rfl,⟨rfl,by omega,fun h=>absurd h (by omega)⟩,⟨rfl,by omega,fun h=>absurd h (by omega)⟩,Nat.le_refl _,Nat.le_refl _,Nat.le_refl _,hl,Nat.le_refl _,hl,.inl (Nat.le_refl _),h⟩
theorem own_cap {w:World} {base:Nat} {e:TypeId} {n n' c:Nat} {A:Option Addr} {xs:List Value} (h:w.ownsRow base e 1 (.slice A n' c) n xs):n' = n/\n<=c:=by
 rcases h.2 with ⟨q,rfl⟩ | ⟨g,cap,cur,q,_,_,hc,_⟩
 ·injection q with _ q2 q3;subst q2;subst q3;exact ⟨rfl,Nat.le_refl _⟩
 ·injection q with _ q2 q3;subst q2;subst q3;exact ⟨rfl,hc⟩
theorem _root_.Go.Proofs.Ytgcnemkhppkkcaa.mem.Out.row_ {lo hi g:Nat} {w w':World} (h:Out lo hi w w') (h1:lo<=g) (h2:g < hi) (cs:Array Value):Out lo hi w (w'.setRow g cs) :=
 ⟨h.os,h.tape,h.output,by simpa using h.size,fun k hk hne=>(setRow_other w' g k cs (by omega)).trans (h.block k hk hne)⟩
theorem _root_.Go.Proofs.Ytgcnemkhppkkcaa.arr.Arr.out {w w':World} {g lo hi:Nat} {cs:List Value} {t:TypeId} (h:Arr w g cs t) (ho:Out lo hi w w') (hd:g < lo\/hi<=g):Arr w' g cs t :=
 (ho.block g h.lt hd).trans h
theorem Svl.mk2 {w:World} {lo l2:Nat} {P Q:Option Addr} {n c m d:Nat} {r u:List Int} (a:Row w lo l2 P n (V r)) (b:Row w l2 w.heap.size Q m (V u)) (hl:lo<=l2) (e1:n<=c) (e2:m<=d):Svl w lo w.heap.size (.agg #[.slice P n c,.slice Q m d]) r u :=
 ⟨P,n,c,Q,m,d,lo,l2,l2,w.heap.size,rfl,a,b,e1,e2,Nat.le_refl _,a.2.1,hl,Nat.le_refl _,.inl (Nat.le_refl _),Nat.le_refl _⟩
theorem Svl.len {w:World} {lo hi:Nat} {v:Value} {r u:List Int} (h:Svl w lo hi v r u):∃ P c Q d,v = .agg #[.slice P r.length c,.slice Q u.length d]:=by
 obtain ⟨P,n,c,Q,m,d,l1,h1,l2,h2,rfl,a,b,e1,e2,f1,f2,f3,f4,f5,f6⟩:=h
 have q1:r.length = n:=by simpa [V] using a.1
 have q2:u.length = m:=by simpa [V] using b.1
 subst q1;subst q2
 exact ⟨P,c,Q,d,rfl⟩
theorem Svl.lens {w:World} {lo hi:Nat} {v:Value} {r u:List Int} (h:Svl w lo hi v r u) {n m:Nat} (h1:r.length = n) (h2:u.length = m):∃ P c Q d,v = .agg #[.slice P n c,.slice Q m d]:=by
 subst h1;subst h2;exact h.len
end Go.Proofs.Ytgcnemkhppkkcaa.sf

namespace Go.Proofs.Ytgcnemkhppkkcaa.sqo
open Go sq
set_option linter.unusedVariables false
set_option maxRecDepth 100000
def lM:List Nat:=[3,4,5,6,7,8,9,10,11,12,13,14,15,16,17,18,19,20,21,22,23,24,25,26,27,28,29,30,31,32,33,34,35,36,37,38,39,40,41,42,43,44,45,46,47,48,49,50,51,52,53,54,55,56,57,58,59,60,61,62,63,64,65,67,68,69,70,71,72,73,74,75,76,77,78,79,80,81,82,83,84,85,86,87,88,89,90,91,92,93,95,96,97,98,99,100,101,102,103,104,105,106,107,108,109,110,111,112,113,114,115,116,117,118,119,120,121,122,123,124,125,126,127,128,129,130,131,132,133,134,135,136,137,138,139,140,141,142,143]
def lC:List Nat:=[47,68,73,77,78,79,94,96,99,100,101,102,103,129,130,131,132,134,141]
def lA:List Nat:=[3,4,5,6,7,8,9,10,11,12,13,14,15,16,17,18,19,20,21,22,23,24,25,26,27,28,29,30,31,32,33,34,35,36,37,38,39,40,41,42,43,44,45,46,47,48,49,50,51,52,53,54,55,56,57,58,59,60,61,62,63,64,65,67,68,69,70,71,72,73,74,75,76,77,78,79,80,81,82,83,84,85,86,87,88,89,90,91,92,93,94,95,96,97,98,99,100,101,102,103,104,105,106,107,108,109,110,111,112,113,114,115,116,117,118,119,120,121,122,123,124,125,126,127,128,129,130,131,132,133,134,135,136,137,138,139,140,141,142,143]
def lX:List Nat:=[66,3,4,5,6,7,8,9,10,11,12,13,14,15,16,17,18,19,20,21,22,23,24,25,26,27,28,29,30,31,32,33,34,35,36,37,38,39,40,41,42,43,44,45,46,47,48,49,50,51,52,53,54,55,56,57,58,59,60,61,62,63,64,65,67,68,69,70,71,72,73,74,75,76,77,78,79,80,81,82,83,84,85,86,87,88,89,90,91,92,93,94,95,96,97,98,99,100,101,102,103,104,105,106,107,108,109,110,111,112,113,114,115,116,117,118,119,120,121,122,123,124,125,126,127,128,129,130,131,132,133,134,135,136,137,138,139,140,141,142,143]
def kl:List Nat:=[3,4,5,6,7,8,9,10,11,12,13,14,15,16,17,18,19,20,21,22,23,24,25,26,27,28,29,30,31,32,33,34,35,36,37,38,39,40,41,42,43,44,45,46,47,48,49,50,51,52,53,54,55,56,57,58,59,60,61,62,63,64,65,66,67,68,69,70,71,72,73,74,75,76,77,78,79,80,81,82,83,84,85,86,87,88,89,90,91,92,93,94,95,96,97,98,99,100,101,102,103,104,105,106,107,108,109,110,111,112,113,114,115,116,117,118,119,120,121,122,123,124,125,126,127,128,129,130,131,132,133,134,135,136,137,138,139,140,141,142,143]
theorem lt_of {l:List Nat} {n:Nat} (h:(l.all fun f=>decide (f < n)) = true) {f:Nat} (hf:f ∈ l):f < n:=by
 have:=List.all_eq_true.1 h f hf
 simpa using this
theorem sub_of {l k:List Nat} (h:(l.all fun f=>k.contains f) = true) {f:Nat} (hf:f ∈ l):k.contains f = true:=List.all_eq_true.1 h f hf
abbrev calM (n:Nat):Cal:=mkCal lM [] n (by decide +kernel) (by decide +kernel)
abbrev calC:Cal:=mkCal lC [66] 0 (by decide +kernel) (by decide +kernel)
abbrev calA:Cal:=mkCal lA [66] 0 (by decide +kernel) (by decide +kernel)
def X:Cs:=⟨calA,calC⟩
def K (f:FuncId):Prop:=kl.contains f = true
def KT (f:FuncId):Prop:=(163 :: kl).contains f = true
theorem K_lt {f:FuncId} (h:K f):f < nfn:=lt_of (n:=nfn) (by decide +kernel:(kl.all fun f=>decide (f < nfn)) = true) (by simpa [K] using h)
theorem KT_lt {f:FuncId} (h:KT f):f < nfn + 2:=lt_of (n:=nfn + 2) (by decide +kernel:((163 :: kl).all fun f=>decide (f < nfn + 2)) = true) (by simpa [KT] using h)
theorem cut:Cut Try.prog sqp.prog 6 where
 twin:=sqp.twin
 eqg t:=(sqp.guard_eq t).symm
 glob:=by kernel_rfl
 bad:=by kernel_rfl
 size:=by kernel_rfl
 funcs:=⟨sqp.fOrb,sqp.fClo,sqp.fSnd,sqp.fGo,by kernel_rfl⟩
 orb:=⟨Try.f37,Try.func37,sqp.func37⟩
 clo:=⟨Try.f94,Try.func94,sqp.func94⟩
theorem ext1:Extern.findNext Try.f128 = none:=by kernel_rfl
theorem ext2:Extern.find Try.f128 = some Extern.BytealgIndexByte.indexByte:=by kernel_rfl
theorem ext:ExtOk Try.prog [128]:=by
 intro f hf
 obtain rfl:f = 128:=by simpa using hf
 refine ⟨by decide,by decide,fun F hF=>?_⟩
 rw [Try.func128] at hF
 cases hF
 exact ⟨ext1,ext2⟩
theorem fnA:(lX.all (fnB Try.prog [128])) = true:=by kernel_rfl
theorem fnM:(lM.all (fnB Try.prog [128])) = true:=by kernel_rfl
theorem fnC:((66 :: lC).all (fnB Try.prog [128])) = true:=by kernel_rfl
theorem codeA:(lX.all (@codeB calA sqp.prog sqp.prog fun o=>@spOp calA sqp.prog o.op)) = true:=by kernel_rfl
theorem codeM (n:Nat):((lM.filter fun f=>!(f == orbF || f == clsr)).all (@codeB (calM n) Try.prog sqp.prog fun _=>false)) = true:=by kernel_rfl
theorem codeMo (n:Nat):@codeB (calM n) Try.prog sqp.prog (pM 6) orbF = true:=by kernel_rfl
theorem codeC:(((66 :: lC).filter fun f=>!(f == orbF || f == clsr)).all (@codeB calC Try.prog sqp.prog fun o=>pP o && !(o.op matches .send _ _))) = true:=by kernel_rfl
theorem codeCc:@codeB calC Try.prog sqp.prog pP clsr = true:=by kernel_rfl
theorem codeCC:((66 :: lC).all (@codeB calC sqp.prog sqp.prog (@childOp calC))) = true:=by kernel_rfl
theorem entM {n:Nat} {f:FuncId} (h:@Ent (calM n) f):f ∈ lM:=by
 rcases h with z | z
 ·exact List.contains_iff_mem.1 z
 ·cases z
theorem entC {f:FuncId} (h:@Ent calC f):f ∈ 66 :: lC:=by
 rcases h with z | z
 ·exact List.mem_cons_of_mem _ (List.contains_iff_mem.1 z)
 ·obtain rfl:f = 66:=List.mem_singleton.1 (List.contains_iff_mem.1 z)
  exact List.mem_cons_self
theorem entA {f:FuncId} (h:@Ent calA f):f ∈ lX:=by
 rcases h with z | z
 ·exact List.contains_iff_mem.1 (sub_of (by decide +kernel:(lA.all fun f=>lX.contains f) = true) (List.contains_iff_mem.1 z))
 ·obtain rfl:f = 66:=List.mem_singleton.1 (List.contains_iff_mem.1 z)
  decide +kernel
theorem texM (n:Nat):@Texts (calM n) K sqp.prog Try.prog SpM:=@Cut.texts Try.prog sqp.prog 6 (calM n) K SpM [128] lM (fun _=>false) cut ext (fun f=>entM) (fun f=>K_lt) (fun f hf=>sub_of (by decide +kernel:(lM.all fun f=>kl.contains f) = true) hf) fnM (fun o h=>by cases h) (codeM n)
 (pM 6) (fun _=>false) (fun _=>⟨fun o=>pM_sp,codeMo n⟩) (fun h=>absurd h (by decide +kernel))
theorem texP:@Texts calC K sqp.prog Try.prog SpP:=@Cut.texts Try.prog sqp.prog 6 calC K SpP [128] (66 :: lC) (fun o=>pP o && !(o.op matches .send _ _)) cut ext (fun f=>entC) (fun f=>K_lt) (fun f hf=>sub_of (by decide +kernel:((66 :: lC).all fun f=>kl.contains f) = true) hf) fnC
 (fun o h=>by
  simp only [Bool.and_eq_true] at h
  exact pP_same h.1 fun x y e=>by rw [e] at h;simp at h) codeC
 (fun _=>false) pP (fun h=>absurd h (by decide +kernel)) (fun _=>⟨fun o=>pP_sp,codeCc⟩)
theorem texC:@Texts calC K sqp.prog sqp.prog (@SpC calC):=@Cut.textsA Try.prog sqp.prog 6 calC K (@SpC calC) [128] (66 :: lC) (@childOp calC) cut ext (fun f=>entC) (fun f h=>Nat.lt_of_lt_of_le (K_lt h) (by omega)) (fun f hf=>sub_of (by decide +kernel:((66 :: lC).all fun f=>kl.contains f) = true) hf)
 (fun f hf=>lt_of (by decide +kernel:((66 :: lC).all fun f=>decide (f < nfn)) = true) hf) fnC (fun o h=>⟨rfl,h⟩) codeCC
theorem texA:@Texts calA KT sqp.prog sqp.prog (@SpA calA sqp.prog):=@Cut.textsA Try.prog sqp.prog 6 calA KT (@SpA calA sqp.prog) [128] lX (fun o=>@spOp calA sqp.prog o.op) cut ext (fun f=>entA) (fun f=>KT_lt) (fun f hf=>sub_of (by decide +kernel:(lX.all fun f=>(163 :: kl).contains f) = true) hf)
 (fun f hf=>lt_of (by decide +kernel:(lX.all fun f=>decide (f < nfn)) = true) hf) fnA (fun o h=>⟨rfl,h⟩) codeA
noncomputable def bO:Code:=sqp.fOrb.body.getD .skip
noncomputable def c5:Code:=sndC (sndC (sndC (sndC bO)))
noncomputable def D:LoopT:=loopOf c5 6 19 20 21
noncomputable def id5:Nat:=idC (fstC c5)
theorem bO_eq:bO = .seq (fstC bO) (.seq (fstC (sndC bO)) (.seq (fstC (sndC (sndC bO))) (.seq (fstC (sndC (sndC (sndC bO)))) (.seq (.region id5 D.ops5 false) D.C6)))):=by kernel_rfl
theorem n0:noG (fstC bO) = true:=by kernel_rfl
theorem n1:noG (fstC (sndC bO)) = true:=by kernel_rfl
theorem n2:noG (fstC (sndC (sndC bO))) = true:=by kernel_rfl
theorem n3:noG (fstC (sndC (sndC (sndC bO)))) = true:=by kernel_rfl
theorem spine:Spine D (.region id5 D.ops5 false) bO:=by
 rw [bO_eq]
 exact .seq n0 (.seq n1 (.seq n2 (.seq n3 .here)))
theorem o6:D.ops6.all (calmOp D.tc) = true:=by kernel_rfl
theorem o7:D.ops7 = #[{ dst:=some D.tx,op:=.move (.tmp D.tc),type:=(opN D.ops7 0).type,pos:=(opN D.ops7 0).pos,after:=(opN D.ops7 0).after,guard:=none }]:=by kernel_rfl
theorem o8:D.ops8 = #[{ dst:=some D.tv,op:=.recv (typeN (opN D.ops8 0)) (.tmp D.tx) true,type:=(opN D.ops8 0).type,pos:=(opN D.ops8 0).pos,after:=(opN D.ops8 0).after,guard:=none },{ dst:=some D.tb,op:=.extract (.tmp D.tv) 1,type:=(opN D.ops8 1).type,pos:=(opN D.ops8 1).pos,after:=(opN D.ops8 1).after,guard:=none }]:=by kernel_rfl
theorem or:calmC D.tx D.R = true:=by kernel_rfl
theorem ok:D.Ok:=⟨o6,⟨_,_,_,o7⟩,⟨_,_,_,_,_,_,_,o8⟩,or,by decide +kernel,by decide +kernel⟩
theorem g1:(D.ops5.all fun o=>!isGo o || goArgB D.tc o) = true:=by kernel_rfl
theorem g2:lastG D.ops5 (List.range D.ops5.size) = true:=by kernel_rfl
theorem g3:noG D.C6 = true:=by kernel_rfl
theorem goT:GoT D:=goT_of g1 g2 g3
theorem noGs:((lM.filter fun f=>!(f == orbF)).all (noGB sqp.prog)) = true:=by kernel_rfl
theorem bodyO:sqp.fOrb.body = some bO:=by kernel_rfl
theorem txt (n:Nat):@TextG (calM n) D id5 sqp.prog:=@textG_of (calM n) D id5 sqp.prog lM (fun f hf=>entM (.inl hf)) noGs (fun F c hF hc=>by
 rw [show sqp.prog.funcs[orbF]? = some sqp.fOrb from sqp.func37] at hF
 cases hF
 rw [bodyO] at hc
 cases hc
 exact spine)
theorem noCs:(lC.all (noCB sqp.prog)) = true:=by kernel_rfl
theorem calm:@sq.Calm calC sqp.prog:=@calm_of calC sqp.prog lC (fun f hf=>List.contains_iff_mem.1 hf) noCs
theorem inis:(kl.all fun f=>(Try.prog.inits.idxOf? f).isNone) = true:=by kernel_rfl
theorem bS:Try.f66.body = some (Try.f66.body.getD .skip):=by kernel_rfl
theorem tS:tailC (Try.f66.body.getD .skip) = true:=by kernel_rfl
theorem rS:Try.f66.results = #[]:=by kernel_rfl
theorem nS:(Try.f66.name == "runtime.NumGoroutine") = false:=by kernel_rfl
theorem iS:Try.f66.body.isNone = false:=by kernel_rfl
theorem env (n:Nat):@Env (calM n) X K sqp.prog Try.prog D id5 :=
 @Env.mk (calM n) X K sqp.prog Try.prog D id5 (texM n) texP texC calm (txt n) goT ok (by decide +kernel) (by show kl.contains _ = true;decide +kernel) ⟨_,_,sqp.func66,bS,tS⟩ ⟨_,Try.func66,rS,iS,nS⟩
  (fun f hf=>by
   have:=List.all_eq_true.1 inis f (List.contains_iff_mem.1 hf)
   simpa using this) ⟨_,sqp.func163,sqp.results163⟩
theorem sB:sqp.fSnd.body = some (sendC 65 55 65):=by kernel_rfl
theorem gB:sqp.fGo.body = some (goC 62 90 62 103):=by kernel_rfl
noncomputable def uT (t:TypeId):TypeDesc:=(sqp.prog.underlying t).getD (.int .i64)
theorem sendOk:@SendOk calA sqp.prog 65 55 65 :=
 @SendOk.mk calA sqp.prog 65 55 65 ⟨_,sqp.func162,sB,by decide +kernel,sqp.results162,by kernel_rfl,by kernel_rfl⟩ (by kernel_rfl) (by kernel_rfl)
  ⟨10,51,uT 65,by kernel_rfl,by kernel_rfl,by decide,by kernel_rfl,by kernel_rfl,by kernel_rfl⟩ (by kernel_rfl) (by kernel_rfl) (by kernel_rfl)
theorem goOk:@GoOk calA sqp.prog 62 90 62 103 :=
 @GoOk.mk calA sqp.prog 62 90 62 103 ⟨_,sqp.func163,gB,by decide +kernel,sqp.results163,by kernel_rfl,by kernel_rfl⟩ ⟨_,sqp.func66,iS,nS⟩ (by kernel_rfl) (by kernel_rfl)
  ⟨10,49,uT 62,by kernel_rfl,by kernel_rfl,by decide,by kernel_rfl,by kernel_rfl,by kernel_rfl⟩ (by kernel_rfl) (by kernel_rfl) (by kernel_rfl) ⟨_,_,sqp.underlying103⟩ (by kernel_rfl) (fun d el h=>by
   rw [sqp.underlying103] at h
   cases h
   kernel_rfl)
end Go.Proofs.Ytgcnemkhppkkcaa.sqo

namespace Go.Proofs.Ytgcnemkhppkkcaa.sqw
open Go.ChangeShapes Go.WideShapes Go.ChangeAt Go.RowKit
open Go mem ints sf sq
set_option linter.unusedVariables false
set_option maxRecDepth 100000
theorem slot_of {P:Program} {W:World} {r:Reach} {base:Nat} {t e:TypeId} {A:Option Addr} {n c:Nat} {xs:List Value} (ht:P.underlying t = some (.slice e)) (h:Cell.okWide P W r base t (.slice A n c)) (rd:Rd W W.heap.size A n xs) :
  A = none\/∃ b off c' e fz,A = some ⟨b,off,none⟩/\W.heap[b]? = some (.cells c' e fz)/\∀ (i:Nat) v,xs[i]? = some v->c'[off + i]? = some v:=by
 cases A with
 | none=>exact .inl rfl
 | some a =>
  right
  obtain ⟨b,off,sp⟩:=a
  obtain ⟨h1,c',e',fz,h2⟩:=cell_block ht h
  simp only at h1 h2
  subst h1
  refine ⟨b,off,c',e',fz,rfl,h2,fun i v hv=>?_⟩
  have hi:i < n:=by rw [<-rd.1];exact (List.getElem?_eq_some_iff.1 hv).1
  obtain ⟨g,off',e1,_,h3⟩:=rd.2.2 (by omega)
  simp only [Option.some.injEq,Addr.mk.injEq] at e1
  obtain ⟨rfl,rfl,_⟩:=e1
  have h4:=h3 i hi
  simp only [World.cell?,h2] at h4
  rw [hv] at h4
  simpa using h4
theorem rd_slot {W:World} {ws:Array Wn} {A A':Option Addr} {n:Nat} {xs:List Value} (h:Slot ws xs A' A) (hn:xs.length = n) (h0:A = none->n = 0):Rd (wnW W ws) ws.size A' n xs:=by
 refine ⟨hn,by simp [wnW],fun hp=>?_⟩
 rcases h.addr with rfl | ⟨i,rfl,hi⟩
 ·cases h
  exact absurd (h0 rfl) (by omega)
 ·exact ⟨i,0,rfl,hi,fun j _=>h.cell j⟩
theorem run {g:FuncId} (hg:(sqo.lM.contains g && sqo.lA.contains g) = true) {args args':Array Value} {W:World} {ws:Array Wn} (hw:WnOk W ws) (ha:∀ C:Cal,@AR C (wnB ws) args args') (haA:∀ C:Cal,@AR C (wnB (wnS ws)) args args)
  (h:∀ τ,Calls sqp.prog g args (retape τ (wnW W ws)) fun e _=>e = .returned (.bool true)) :
  ∃ M last o w' t',runNT Try.prog (M + 1) (Conc.solo (Conc.G (Frame.enter Try.prog g args' .normal) []) W) #[] = (.ended o w',t')/\runN Try.prog M (Conc.solo (Conc.G (Frame.enter Try.prog g args' .normal) []) W) = .next last/\step Try.prog last = .ended o w' ∧
   Conc.Good Try.prog (fun v W'=>v = .bool true/\Below W.heap.size W W') last o w' t':=by
 simp only [Bool.and_eq_true] at hg
 exact @sound (sqo.calM W.heap.size) sqo.X sqo.K sqo.KT sqp.prog Try.prog sqo.D sqo.id5 _ _ _ _ _ _ _ (sqo.env W.heap.size) sqo.texA sqo.sendOk sqo.goOk (by show List.contains _ _ = true;decide +kernel) (by decide +kernel) g args args' W ws hg.1 hg.2 hw (ha _) (haA _) rfl h
end Go.Proofs.Ytgcnemkhppkkcaa.sqw
