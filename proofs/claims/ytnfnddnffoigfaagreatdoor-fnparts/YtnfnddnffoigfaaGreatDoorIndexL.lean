/- bytes.Index laid at this program: written by the kit's lay-plain.mjs at the seat Ytnfnddnffoigfaa.ZD of 9f5eabb (at another seat: lay it anew: NOTES.md). -/
import Derived.Shelf.Bytes.SlIndexWhole
import Derived.Test.YtnfnddnffoigfaaGreatDoorUqag
namespace Go.Proofs
set_option maxHeartbeats 2000000
open Go.Shelf
def Tryz.indexL_ren:Go.Shelf.Ren:=⟨fun | 185=>369 | 187=>368 | 115=>389 | 253=>390 | 224=>391 | 254=>392 | 255=>388 | 291=>410 | n=>n,fun | 37=>22 | 3=>3 | 4=>4 | 0=>0 | 5=>5 | 46=>222 | 9=>9 | 146=>349 | 51=>217 | n=>n,fun | 1=>5 | n=>n⟩
theorem Tryz.indexL:Go.Proofs.Lays.n185 Tryz.prog Tryz.indexL_ren:={
 mixed:=by kernel_rfl
 f115:=Tryz.func389.trans (congrArg some (by kernel_rfl))
 f185:=Tryz.func369.trans (congrArg some (by kernel_rfl))
 f187:=Tryz.func368.trans (congrArg some (by kernel_rfl))
 f224:=Tryz.func391.trans (congrArg some (by kernel_rfl))
 f253:=Tryz.func390.trans (congrArg some (by kernel_rfl))
 f254:=Tryz.func392.trans (congrArg some (by kernel_rfl))
 f255:=Tryz.func388.trans (congrArg some (by kernel_rfl))
 f291:=Tryz.func410.trans (congrArg some (by kernel_rfl))
 t0:=Tryz.underlying0
 a0:=Tryz.isAgg0
 z0:=Tryz.sizeOf0
 v0:=Tryz.zeroValue0
 t3:=Tryz.underlying3
 a3:=Tryz.isAgg3
 z3:=Tryz.sizeOf3
 v3:=Tryz.zeroValue3
 t4:=Tryz.underlying4
 a4:=Tryz.isAgg4
 z4:=Tryz.sizeOf4
 v4:=Tryz.zeroValue4
 t5:=Tryz.underlying5
 a5:=Tryz.isAgg5
 z5:=Tryz.sizeOf5
 v5:=Tryz.zeroValue5
 t9:=Tryz.underlying9
 a9:=Tryz.isAgg9
 z9:=Tryz.sizeOf9
 v9:=Tryz.zeroValue9
 t37:=Tryz.underlying22
 a37:=Tryz.isAgg22
 z37:=Tryz.sizeOf22
 v37:=Tryz.zeroValue22
 t46:=Tryz.underlying222
 a46:=Tryz.isAgg222
 z46:=Tryz.sizeOf222
 v46:=Tryz.zeroValue222
 t51:=Tryz.underlying217
 a51:=Tryz.isAgg217
 z51:=Tryz.sizeOf217
 v51:=Tryz.zeroValue217
 t146:=Tryz.underlying349
 a146:=Tryz.isAgg349
 z146:=Tryz.sizeOf349
 v146:=Tryz.zeroValue349
 g1:=by kernel_rfl }
end Go.Proofs
