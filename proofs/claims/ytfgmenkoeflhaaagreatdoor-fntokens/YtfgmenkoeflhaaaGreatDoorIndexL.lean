/- bytes.Index laid at this program: written by the kit's lay-plain.mjs at the seat Ytfgmenkoeflhaaa.ZD of 9f5eabb (at another seat: lay it anew: NOTES.md). -/
import Derived.Shelf.Bytes.SlIndexWhole
import Derived.Test.YtfgmenkoeflhaaaGreatDoorUqbp
namespace Go.Proofs
open Go.Shelf
def Tryz.indexL_ren : Go.Shelf.Ren := ⟨fun | 185 => 91 | 187 => 90 | 115 => 78 | 253 => 107 | 224 => 108 | 254 => 109 | 255 => 106 | 291 => 118 | n => n, fun | 37 => 22 | 3 => 3 | 4 => 4 | 0 => 0 | 5 => 5 | 46 => 72 | 9 => 9 | 146 => 151 | 51 => 150 | n => n, fun | 1 => 2 | n => n⟩
theorem Tryz.indexL : Go.Proofs.Lays.n185 Tryz.prog Tryz.indexL_ren := {
 mixed := by kernel_rfl
 f115 := Tryz.func78.trans (congrArg some (by kernel_rfl))
 f185 := Tryz.func91.trans (congrArg some (by kernel_rfl))
 f187 := Tryz.func90.trans (congrArg some (by kernel_rfl))
 f224 := Tryz.func108.trans (congrArg some (by kernel_rfl))
 f253 := Tryz.func107.trans (congrArg some (by kernel_rfl))
 f254 := Tryz.func109.trans (congrArg some (by kernel_rfl))
 f255 := Tryz.func106.trans (congrArg some (by kernel_rfl))
 f291 := Tryz.func118.trans (congrArg some (by kernel_rfl))
 t0 := Tryz.underlying0
 a0 := Tryz.isAgg0
 z0 := Tryz.sizeOf0
 v0 := Tryz.zeroValue0
 t3 := Tryz.underlying3
 a3 := Tryz.isAgg3
 z3 := Tryz.sizeOf3
 v3 := Tryz.zeroValue3
 t4 := Tryz.underlying4
 a4 := Tryz.isAgg4
 z4 := Tryz.sizeOf4
 v4 := Tryz.zeroValue4
 t5 := Tryz.underlying5
 a5 := Tryz.isAgg5
 z5 := Tryz.sizeOf5
 v5 := Tryz.zeroValue5
 t9 := Tryz.underlying9
 a9 := Tryz.isAgg9
 z9 := Tryz.sizeOf9
 v9 := Tryz.zeroValue9
 t37 := Tryz.underlying22
 a37 := Tryz.isAgg22
 z37 := Tryz.sizeOf22
 v37 := Tryz.zeroValue22
 t46 := Tryz.underlying72
 a46 := Tryz.isAgg72
 z46 := Tryz.sizeOf72
 v46 := Tryz.zeroValue72
 t51 := Tryz.underlying150
 a51 := Tryz.isAgg150
 z51 := Tryz.sizeOf150
 v51 := Tryz.zeroValue150
 t146 := Tryz.underlying151
 a146 := Tryz.isAgg151
 z146 := Tryz.sizeOf151
 v146 := Tryz.zeroValue151
 g1 := by kernel_rfl }
end Go.Proofs
