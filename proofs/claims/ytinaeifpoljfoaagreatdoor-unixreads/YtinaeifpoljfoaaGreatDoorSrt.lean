import Derived.Test.YtinaeifpoljfoaaGreatDoorRows
import Derived.Shelf.Sort.Plain
import Derived.Shelf.Slices.CompactI
import Derived.Shelf.Slices.In.SortNone
set_option linter.all false
set_option maxRecDepth 100000
set_option maxHeartbeats 16000000
namespace Go.Proofs.YtinaeifpoljfoaaGreatDoor
open Go.Shelf
def lays189_ren : Go.Shelf.Ren := ⟨fun | 189 => 167 | 125 => 225 | 257 => 224 | 128 => 279 | 129 => 280 | 294 => 270 | 295 => 271 | 296 => 272 | 297 => 273 | 298 => 274 | 299 => 275 | 216 => 276 | 300 => 277 | 301 => 278 | 328 => 314 | 329 => 315 | 330 => 316 | 331 => 317 | 332 => 318 | 215 => 319 | 343 => 336 | n => n, fun | 28 => 50 | 3 => 3 | 46 => 146 | 0 => 0 | 51 => 403 | 53 => 45 | 4 => 4 | 183 => 397 | 182 => 396 | 131 => 115 | 5 => 5 | 9 => 9 | 218 => 432 | 222 => 436 | 228 => 455 | 229 => 183 | n => n, fun | n => n⟩
theorem lays189 : Go.Proofs.Lays.n189 Tryz.prog lays189_ren := {
  mixed := by kernel_rfl
  f125 := Tryz.func225.trans (congrArg some (by kernel_rfl))
  f128 := Tryz.func279.trans (congrArg some (by kernel_rfl))
  f129 := Tryz.func280.trans (congrArg some (by kernel_rfl))
  f189 := Tryz.func167.trans (congrArg some (by kernel_rfl))
  f215 := Tryz.func319.trans (congrArg some (by kernel_rfl))
  f216 := Tryz.func276.trans (congrArg some (by kernel_rfl))
  f257 := Tryz.func224.trans (congrArg some (by kernel_rfl))
  f294 := Tryz.func270.trans (congrArg some (by kernel_rfl))
  f295 := Tryz.func271.trans (congrArg some (by kernel_rfl))
  f296 := Tryz.func272.trans (congrArg some (by kernel_rfl))
  f297 := Tryz.func273.trans (congrArg some (by kernel_rfl))
  f298 := Tryz.func274.trans (congrArg some (by kernel_rfl))
  f299 := Tryz.func275.trans (congrArg some (by kernel_rfl))
  f300 := Tryz.func277.trans (congrArg some (by kernel_rfl))
  f301 := Tryz.func278.trans (congrArg some (by kernel_rfl))
  f328 := Tryz.func314.trans (congrArg some (by kernel_rfl))
  f329 := Tryz.func315.trans (congrArg some (by kernel_rfl))
  f330 := Tryz.func316.trans (congrArg some (by kernel_rfl))
  f331 := Tryz.func317.trans (congrArg some (by kernel_rfl))
  f332 := Tryz.func318.trans (congrArg some (by kernel_rfl))
  f343 := Tryz.func336.trans (congrArg some (by kernel_rfl))
  t0 := Tryz.underlying0
  a0 := Tryz.isAgg0
  z0 := Tryz.sizeOf0
  v0 := Tryz.zeroValue0
  t3 := Tryz.underlying3
  a3 := Tryz.isAgg3
  z3 := Tryz.sizeOf3
  v3 := Tryz.zeroValue3
  t4 := Tryz.underlying4
  a4 := Tryz.isAgg4
  z4 := Tryz.sizeOf4
  v4 := Tryz.zeroValue4
  t5 := Tryz.underlying5
  a5 := Tryz.isAgg5
  z5 := Tryz.sizeOf5
  v5 := Tryz.zeroValue5
  t9 := Tryz.underlying9
  a9 := Tryz.isAgg9
  z9 := Tryz.sizeOf9
  v9 := Tryz.zeroValue9
  t28 := Tryz.underlying50
  a28 := Tryz.isAgg50
  z28 := Tryz.sizeOf50
  v28 := Tryz.zeroValue50
  t46 := Tryz.underlying146
  a46 := Tryz.isAgg146
  z46 := Tryz.sizeOf146
  v46 := Tryz.zeroValue146
  t51 := Tryz.underlying403
  a51 := Tryz.isAgg403
  z51 := Tryz.sizeOf403
  v51 := Tryz.zeroValue403
  t53 := Tryz.underlying45
  a53 := Tryz.isAgg45
  z53 := Tryz.sizeOf45
  v53 := Tryz.zeroValue45
  t131 := Tryz.underlying115
  a131 := Tryz.isAgg115
  z131 := Tryz.sizeOf115
  v131 := Tryz.zeroValue115
  t182 := Tryz.underlying396
  a182 := Tryz.isAgg396
  z182 := Tryz.sizeOf396
  v182 := Tryz.zeroValue396
  t183 := Tryz.underlying397
  a183 := Tryz.isAgg397
  z183 := Tryz.sizeOf397
  v183 := Tryz.zeroValue397
  t218 := Tryz.underlying432
  a218 := Tryz.isAgg432
  z218 := Tryz.sizeOf432
  v218 := Tryz.zeroValue432
  t222 := Tryz.underlying436
  a222 := Tryz.isAgg436
  z222 := Tryz.sizeOf436
  v222 := Tryz.zeroValue436
  t228 := Tryz.underlying455
  a228 := Tryz.isAgg455
  z228 := Tryz.sizeOf455
  v228 := Tryz.zeroValue455
  t229 := Tryz.underlying183
  a229 := Tryz.isAgg183
  z229 := Tryz.sizeOf183
  v229 := Tryz.zeroValue183 }
def laysNm220_ren : Go.Shelf.Ren := ⟨fun | 20 => 267 | n => n, fun | 22 => 50 | 3 => 3 | 4 => 4 | 0 => 0 | n => n, fun | n => n⟩
theorem laysNm220 : Go.Proofs.Lays2.n20 Tryz.prog laysNm220_ren := {
  mixed := by kernel_rfl
  f20 := Tryz.func267.trans (congrArg some (by kernel_rfl))
  t0 := Tryz.underlying0
  a0 := Tryz.isAgg0
  z0 := Tryz.sizeOf0
  v0 := Tryz.zeroValue0
  t3 := Tryz.underlying3
  a3 := Tryz.isAgg3
  z3 := Tryz.sizeOf3
  v3 := Tryz.zeroValue3
  t4 := Tryz.underlying4
  a4 := Tryz.isAgg4
  z4 := Tryz.sizeOf4
  v4 := Tryz.zeroValue4
  t22 := Tryz.underlying50
  a22 := Tryz.isAgg50
  z22 := Tryz.sizeOf50
  v22 := Tryz.zeroValue50
  i3 := by kernel_rfl }
open Go.Sort Go.RowKit in
theorem slices_Sort_int (blk off cap : Nat) (zs : List Int) (w : World) (hH : Holds (Value.int .i64) w blk off zs.toArray) (hblk : blk < w.heap.size) (hsz : zs.length < 4611686018427387904) :
  Calls Tryz.prog 167 #[.slice (some ⟨blk, off, none⟩) zs.length cap] w fun e w' =>
   e = .returned (.tuple #[]) ∧ ∃ n os, w' = grow (putRow (Value.int .i64) (Sort.ahead w n) blk off (zs.mergeSort fun x y => decide (x ≤ y)).toArray) os := Any.slices_Sort_int lays189 blk off cap zs w hH hblk hsz
open Go.RowKit Go.Lib Go.Sort in
open Go.RowKit Go.Lib Go.Sort in
theorem slices_Compact_int (blk off cap : Nat) (zs : List Int) (w : World) (hH : Holds (Value.int .i64) w blk off zs.toArray) (hsz : zs.length ≤ 9223372036854775807) (hcap : zs.length ≤ cap) :
  Calls Tryz.prog 267 #[.slice (some ⟨blk, off, none⟩) zs.length cap] w fun e w' => e = .returned (.slice (some ⟨blk, off, none⟩) (Lib.compact zs).length cap) ∧ ∃ q, w' = putRow (Value.int .i64) (Sort.ahead w q) blk off (Lib.compact zs ++ List.replicate (zs.length - (Lib.compact zs).length) 0).toArray := Any.slices_Compact_int laysNm220 blk off cap zs w hH hsz hcap
open Go.RowKit Go.Lib Go.Sort in
theorem slices_Compact_int_empty (a : Option Addr) (cap : Nat) (w : World) :
  Calls Tryz.prog 267 #[.slice a 0 cap] w fun e w' => e = .returned (.slice a 0 cap) ∧ w' = w := Any.slices_Compact_int_empty laysNm220 a cap w
open Go.RowKit Go.Sort in
theorem slices_Sort_int_none (p : Option Addr) (cap : Nat) (w : World) :
  Calls Tryz.prog 167 #[.slice p 0 cap] w fun e w' => e = .returned (.tuple #[]) ∧ w' = w := Any.slices_Sort_int_none lays189 p cap w
end Go.Proofs.YtinaeifpoljfoaaGreatDoor
