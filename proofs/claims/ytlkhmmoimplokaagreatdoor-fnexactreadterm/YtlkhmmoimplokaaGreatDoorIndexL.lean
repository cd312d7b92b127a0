/- bytes.Index laid at this program: written by the kit's lay-plain.mjs at the seat Ytlkhmmoimplokaa.ZD of 9f5eabb (at another seat: lay it anew: NOTES.md). -/
import Derived.Shelf.Bytes.SlIndexWhole
import Derived.Test.YtlkhmmoimplokaaGreatDoorUqaw
namespace Go.Proofs
set_option maxHeartbeats 2000000
open Go.Shelf
def Tryz.indexL_ren:Go.Shelf.Ren:=⟨fun | 185=>204 | 187=>203 | 115=>211 | 253=>212 | 224=>213 | 254=>214 | 255=>210 | 291=>220 | n=>n,fun | 37=>23 | 3=>3 | 4=>4 | 0=>0 | 5=>5 | 46=>183 | 9=>9 | 146=>278 | 51=>222 | n=>n,fun | 1=>2 | n=>n⟩
theorem Tryz.indexL:Go.Proofs.Lays.n185 Tryz.prog Tryz.indexL_ren:={
 mixed:=by kernel_rfl
 f115:=Tryz.func211.trans (congrArg some (by kernel_rfl))
 f185:=Tryz.func204.trans (congrArg some (by kernel_rfl))
 f187:=Tryz.func203.trans (congrArg some (by kernel_rfl))
 f224:=Tryz.func213.trans (congrArg some (by kernel_rfl))
 f253:=Tryz.func212.trans (congrArg some (by kernel_rfl))
 f254:=Tryz.func214.trans (congrArg some (by kernel_rfl))
 f255:=Tryz.func210.trans (congrArg some (by kernel_rfl))
 f291:=Tryz.func220.trans (congrArg some (by kernel_rfl))
 t0:=Tryz.underlying0
 a0:=Tryz.isAgg0
 z0:=Tryz.sizeOf0
 v0:=Tryz.zeroValue0
 t3:=Tryz.underlying3
 a3:=Tryz.isAgg3
 z3:=Tryz.sizeOf3
 v3:=Tryz.zeroValue3
 t4:=Tryz.underlying4
 a4:=Tryz.isAgg4
 z4:=Tryz.sizeOf4
 v4:=Tryz.zeroValue4
 t5:=Tryz.underlying5
 a5:=Tryz.isAgg5
 z5:=Tryz.sizeOf5
 v5:=Tryz.zeroValue5
 t9:=Tryz.underlying9
 a9:=Tryz.isAgg9
 z9:=Tryz.sizeOf9
 v9:=Tryz.zeroValue9
 t37:=Tryz.underlying23
 a37:=Tryz.isAgg23
 z37:=Tryz.sizeOf23
 v37:=Tryz.zeroValue23
 t46:=Tryz.underlying183
 a46:=Tryz.isAgg183
 z46:=Tryz.sizeOf183
 v46:=Tryz.zeroValue183
 t51:=Tryz.underlying222
 a51:=Tryz.isAgg222
 z51:=Tryz.sizeOf222
 v51:=Tryz.zeroValue222
 t146:=Tryz.underlying278
 a146:=Tryz.isAgg278
 z146:=Tryz.sizeOf278
 v146:=Tryz.zeroValue278
 g1:=by kernel_rfl }
end Go.Proofs
