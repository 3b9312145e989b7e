/-
  DERIVED: THE SHELF's CONTRACTS AT THIS DUMP, IN PLAIN WORDS (tools/lay-plain.mjs out of 'YtdkomlgkkepioaaDoorSortL.lean', which tools/lay-shelf.mjs wrote): THE SAME DECLARATIONS UNDER THE SAME NAMES: 'import', 'namespace', 'open', 'def', 'theorem' AND NOTHING ELSE: no command of the shelf's: FOR A HAND-IN. Each laying: the table of numbers ('.._ren') and one theorem, a field a fact of the dump's own or the kernel's comparison; each contract: ONE APPLICATION.
-/
import Derived.Shelf.SlSortCmp.WholeK
import Derived.Shelf.SlGeneric
import Derived.Ground.SlsfProg
import Derived.Test.YtdkomlgkkepioaaDoorProg
namespace Go.Proofs
open Go.Shelf
def Tryd.sortSp_ren : Go.Shelf.Ren := ⟨fun | 6 => 121 | 15 => 155 | 14 => 154 | 28 => 189 | 29 => 190 | 20 => 181 | 21 => 182 | 22 => 183 | 23 => 184 | 24 => 185 | 25 => 186 | 26 => 187 | 27 => 188 | 46 => 200 | 47 => 201 | 48 => 202 | 49 => 203 | 50 => 204 | 57 => 216 | n => n, fun | 22 => 48 | 24 => 136 | 25 => 209 | 3 => 3 | 39 => 181 | 0 => 0 | 53 => 107 | 55 => 189 | 4 => 4 | 46 => 305 | 45 => 304 | 50 => 207 | 5 => 5 | 9 => 9 | 66 => 322 | 70 => 326 | 76 => 333 | 77 => 270 | n => n, fun | n => n⟩
theorem Tryd.sortSp : Go.Proofs.SlLaysF0.n6 Tryd.prog Tryd.sortSp_ren := {
  mixed := by kernel_rfl
  f6 := ⟨Tryd.f121.name, by decide, Tryd.func121.trans (congrArg some (by kernel_rfl))⟩
  f14 := ⟨Tryd.f154.name, by decide, Tryd.func154.trans (congrArg some (by kernel_rfl))⟩
  f15 := Tryd.func155.trans (congrArg some (by kernel_rfl))
  f20 := ⟨Tryd.f181.name, by decide, Tryd.func181.trans (congrArg some (by kernel_rfl))⟩
  f21 := ⟨Tryd.f182.name, by decide, Tryd.func182.trans (congrArg some (by kernel_rfl))⟩
  f22 := ⟨Tryd.f183.name, by decide, Tryd.func183.trans (congrArg some (by kernel_rfl))⟩
  f23 := ⟨Tryd.f184.name, by decide, Tryd.func184.trans (congrArg some (by kernel_rfl))⟩
  f24 := ⟨Tryd.f185.name, by decide, Tryd.func185.trans (congrArg some (by kernel_rfl))⟩
  f25 := ⟨Tryd.f186.name, by decide, Tryd.func186.trans (congrArg some (by kernel_rfl))⟩
  f26 := ⟨Tryd.f187.name, by decide, Tryd.func187.trans (congrArg some (by kernel_rfl))⟩
  f27 := ⟨Tryd.f188.name, by decide, Tryd.func188.trans (congrArg some (by kernel_rfl))⟩
  f28 := Tryd.func189.trans (congrArg some (by kernel_rfl))
  f29 := Tryd.func190.trans (congrArg some (by kernel_rfl))
  f46 := ⟨Tryd.f200.name, by decide, Tryd.func200.trans (congrArg some (by kernel_rfl))⟩
  f47 := Tryd.func201.trans (congrArg some (by kernel_rfl))
  f48 := Tryd.func202.trans (congrArg some (by kernel_rfl))
  f49 := ⟨Tryd.f203.name, by decide, Tryd.func203.trans (congrArg some (by kernel_rfl))⟩
  f50 := ⟨Tryd.f204.name, by decide, Tryd.func204.trans (congrArg some (by kernel_rfl))⟩
  f57 := ⟨Tryd.f216.name, by decide, Tryd.func216.trans (congrArg some (by kernel_rfl))⟩
  t0 := Tryd.underlying0
  a0 := Tryd.isAgg0
  z0 := Tryd.sizeOf0
  v0 := Tryd.zeroValue0
  t3 := Tryd.underlying3
  a3 := Tryd.isAgg3
  z3 := Tryd.sizeOf3
  v3 := Tryd.zeroValue3
  t4 := Tryd.underlying4
  a4 := Tryd.isAgg4
  z4 := Tryd.sizeOf4
  v4 := Tryd.zeroValue4
  t5 := Tryd.underlying5
  a5 := Tryd.isAgg5
  z5 := Tryd.sizeOf5
  v5 := Tryd.zeroValue5
  t9 := Tryd.underlying9
  a9 := Tryd.isAgg9
  z9 := Tryd.sizeOf9
  v9 := Tryd.zeroValue9
  t22 := Tryd.underlying48
  a22 := Tryd.isAgg48
  z22 := Tryd.sizeOf48
  v22 := Tryd.zeroValue48
  t25 := Tryd.underlying209
  a25 := Tryd.isAgg209
  z25 := Tryd.sizeOf209
  v25 := Tryd.zeroValue209
  t39 := Tryd.underlying181
  a39 := Tryd.isAgg181
  z39 := Tryd.sizeOf181
  v39 := Tryd.zeroValue181
  t45 := Tryd.underlying304
  a45 := Tryd.isAgg304
  z45 := Tryd.sizeOf304
  v45 := Tryd.zeroValue304
  t46 := Tryd.underlying305
  a46 := Tryd.isAgg305
  z46 := Tryd.sizeOf305
  v46 := Tryd.zeroValue305
  t50 := Tryd.underlying207
  a50 := Tryd.isAgg207
  z50 := Tryd.sizeOf207
  v50 := Tryd.zeroValue207
  t53 := Tryd.underlying107
  a53 := Tryd.isAgg107
  z53 := Tryd.sizeOf107
  v53 := Tryd.zeroValue107
  t55 := Tryd.underlying189
  a55 := Tryd.isAgg189
  z55 := Tryd.sizeOf189
  v55 := Tryd.zeroValue189
  t66 := Tryd.underlying322
  a66 := Tryd.isAgg322
  z66 := Tryd.sizeOf322
  v66 := Tryd.zeroValue322
  t70 := Tryd.underlying326
  a70 := Tryd.isAgg326
  z70 := Tryd.sizeOf326
  v70 := Tryd.zeroValue326
  t76 := Tryd.underlying333
  a76 := Tryd.isAgg333
  z76 := Tryd.sizeOf333
  v76 := Tryd.zeroValue333
  t77 := Tryd.underlying270
  a77 := Tryd.isAgg270
  z77 := Tryd.sizeOf270
  v77 := Tryd.zeroValue270 }
end Go.Proofs
