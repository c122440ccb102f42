/-
  DERIVED: THE SHELF's CONTRACTS AT THIS DUMP, IN PLAIN WORDS (tools/lay-plain.mjs out of 'YtimfjoinjfecjaaGreatShelf.lean', which tools/lay-shelf.mjs wrote): THE SAME DECLARATIONS UNDER THE SAME NAMES: 'import', 'namespace', 'open', 'def', 'theorem' AND NOTHING ELSE: no command of the shelf's: FOR A HAND-IN. Each laying: the table of numbers ('.._ren') and one theorem, a field a fact of the dump's own or the kernel's comparison; each contract: ONE APPLICATION.
  Which of two literals comes first in what is learned.
  The closure that tells which of two literals comes first; the order that it tells.
-/
import Derived.Shelf.Sort.Plain
import Derived.Ground.Names2Prog
import Derived.Shelf.Slices.In.SortNone
import Derived.Ground.SlsfProg
import Derived.Shelf.SlSortCmp.NoneTotal
import Derived.Test.YtimfjoinjfecjaaGreatProg
import Derived.Test.YtimfjoinjfecjaaGreatG13

namespace Go.Proofs
open Go.Shelf
def Tryz.lays189_ren : Go.Shelf.Ren := ⟨fun | 189 => 84 | 125 => 109 | 257 => 126 | 128 => 136 | 129 => 137 | 294 => 145 | 295 => 146 | 296 => 147 | 297 => 148 | 298 => 149 | 299 => 150 | 216 => 151 | 300 => 152 | 301 => 153 | 328 => 163 | 329 => 164 | 330 => 165 | 331 => 166 | 332 => 167 | 215 => 144 | 343 => 171 | n => n, fun | 28 => 42 | 3 => 3 | 46 => 71 | 0 => 0 | 51 => 166 | 53 => 168 | 4 => 4 | 183 => 174 | 182 => 173 | 131 => 64 | 5 => 5 | 9 => 9 | 218 => 185 | 222 => 141 | 228 => 192 | 229 => 35 | n => n, fun | n => n⟩
theorem Tryz.lays189 : Go.Proofs.Lays.n189 Tryz.prog Tryz.lays189_ren := {
  mixed := by kernel_rfl
  f125 := Tryz.func109.trans (congrArg some (by kernel_rfl))
  f128 := Tryz.func136.trans (congrArg some (by kernel_rfl))
  f129 := Tryz.func137.trans (congrArg some (by kernel_rfl))
  f189 := Tryz.func84.trans (congrArg some (by kernel_rfl))
  f215 := Tryz.func144.trans (congrArg some (by kernel_rfl))
  f216 := Tryz.func151.trans (congrArg some (by kernel_rfl))
  f257 := Tryz.func126.trans (congrArg some (by kernel_rfl))
  f294 := Tryz.func145.trans (congrArg some (by kernel_rfl))
  f295 := Tryz.func146.trans (congrArg some (by kernel_rfl))
  f296 := Tryz.func147.trans (congrArg some (by kernel_rfl))
  f297 := Tryz.func148.trans (congrArg some (by kernel_rfl))
  f298 := Tryz.func149.trans (congrArg some (by kernel_rfl))
  f299 := Tryz.func150.trans (congrArg some (by kernel_rfl))
  f300 := Tryz.func152.trans (congrArg some (by kernel_rfl))
  f301 := Tryz.func153.trans (congrArg some (by kernel_rfl))
  f328 := Tryz.func163.trans (congrArg some (by kernel_rfl))
  f329 := Tryz.func164.trans (congrArg some (by kernel_rfl))
  f330 := Tryz.func165.trans (congrArg some (by kernel_rfl))
  f331 := Tryz.func166.trans (congrArg some (by kernel_rfl))
  f332 := Tryz.func167.trans (congrArg some (by kernel_rfl))
  f343 := Tryz.func171.trans (congrArg some (by kernel_rfl))
  t0 := Tryz.underlying0
  a0 := Tryz.isAgg0
  z0 := Tryz.sizeOf0
  v0 := Tryz.zeroValue0
  t3 := Tryz.underlying3
  a3 := Tryz.isAgg3
  z3 := Tryz.sizeOf3
  v3 := Tryz.zeroValue3
  t4 := Tryz.underlying4
  a4 := Tryz.isAgg4
  z4 := Tryz.sizeOf4
  v4 := Tryz.zeroValue4
  t5 := Tryz.underlying5
  a5 := Tryz.isAgg5
  z5 := Tryz.sizeOf5
  v5 := Tryz.zeroValue5
  t9 := Tryz.underlying9
  a9 := Tryz.isAgg9
  z9 := Tryz.sizeOf9
  v9 := Tryz.zeroValue9
  t28 := Tryz.underlying42
  a28 := Tryz.isAgg42
  z28 := Tryz.sizeOf42
  v28 := Tryz.zeroValue42
  t46 := Tryz.underlying71
  a46 := Tryz.isAgg71
  z46 := Tryz.sizeOf71
  v46 := Tryz.zeroValue71
  t51 := Tryz.underlying166
  a51 := Tryz.isAgg166
  z51 := Tryz.sizeOf166
  v51 := Tryz.zeroValue166
  t53 := Tryz.underlying168
  a53 := Tryz.isAgg168
  z53 := Tryz.sizeOf168
  v53 := Tryz.zeroValue168
  t131 := Tryz.underlying64
  a131 := Tryz.isAgg64
  z131 := Tryz.sizeOf64
  v131 := Tryz.zeroValue64
  t182 := Tryz.underlying173
  a182 := Tryz.isAgg173
  z182 := Tryz.sizeOf173
  v182 := Tryz.zeroValue173
  t183 := Tryz.underlying174
  a183 := Tryz.isAgg174
  z183 := Tryz.sizeOf174
  v183 := Tryz.zeroValue174
  t218 := Tryz.underlying185
  a218 := Tryz.isAgg185
  z218 := Tryz.sizeOf185
  v218 := Tryz.zeroValue185
  t222 := Tryz.underlying141
  a222 := Tryz.isAgg141
  z222 := Tryz.sizeOf141
  v222 := Tryz.zeroValue141
  t228 := Tryz.underlying192
  a228 := Tryz.isAgg192
  z228 := Tryz.sizeOf192
  v228 := Tryz.zeroValue192
  t229 := Tryz.underlying35
  a229 := Tryz.isAgg35
  z229 := Tryz.sizeOf35
  v229 := Tryz.zeroValue35 }
open Go.Sort Go.RowKit in
theorem Tryz.slices_Sort_int (blk off cap : Nat) (zs : List Int) (w : World) (hH : Holds (Value.int .i64) w blk off zs.toArray) (hblk : blk < w.heap.size) (hsz : zs.length < 4611686018427387904) :
    Calls Tryz.prog 84 #[.slice (some ⟨blk, off, none⟩) zs.length cap] w fun e w' =>
      e = .returned (.tuple #[]) ∧ ∃ n os, w' = grow (putRow (Value.int .i64) (Sort.ahead w n) blk off (zs.mergeSort fun x y => decide (x ≤ y)).toArray) os := Any.slices_Sort_int Tryz.lays189 blk off cap zs w hH hblk hsz
open Go.RowKit Go.Sort in
theorem Tryz.slices_Sort_int_none (p : Option Addr) (cap : Nat) (w : World) :
    Calls Tryz.prog 84 #[.slice p 0 cap] w fun e w' => e = .returned (.tuple #[]) ∧ w' = w := Any.slices_Sort_int_none Tryz.lays189 p cap w
def Tryz.laysSlF6_f54_ren : Go.Shelf.Ren := ⟨fun | 6 => 121 | 15 => 109 | 14 => 143 | 28 => 136 | 29 => 137 | 20 => 155 | 21 => 156 | 22 => 157 | 23 => 158 | 24 => 159 | 25 => 160 | 26 => 161 | 27 => 162 | 46 => 168 | 47 => 164 | 48 => 165 | 49 => 169 | 50 => 170 | 57 => 172 | n => n, fun | 22 => 42 | 24 => 3 | 25 => 154 | 3 => 3 | 39 => 71 | 0 => 0 | 53 => 166 | 55 => 168 | 4 => 4 | 46 => 174 | 45 => 173 | 50 => 64 | 5 => 5 | 9 => 9 | 66 => 185 | 70 => 141 | 76 => 192 | 77 => 35 | n => n, fun | n => n⟩
theorem Tryz.laysSlF6_f54 : Go.Proofs.SlLaysF.n6 Tryz.prog Tryz.laysSlF6_f54_ren := {
  mixed := by kernel_rfl
  f6 := ⟨Tryz.f121.name, by decide, Tryz.func121.trans (congrArg some (by kernel_rfl))⟩
  f14 := ⟨Tryz.f143.name, by decide, Tryz.func143.trans (congrArg some (by kernel_rfl))⟩
  f15 := Tryz.func109.trans (congrArg some (by kernel_rfl))
  f20 := ⟨Tryz.f155.name, by decide, Tryz.func155.trans (congrArg some (by kernel_rfl))⟩
  f21 := ⟨Tryz.f156.name, by decide, Tryz.func156.trans (congrArg some (by kernel_rfl))⟩
  f22 := ⟨Tryz.f157.name, by decide, Tryz.func157.trans (congrArg some (by kernel_rfl))⟩
  f23 := ⟨Tryz.f158.name, by decide, Tryz.func158.trans (congrArg some (by kernel_rfl))⟩
  f24 := ⟨Tryz.f159.name, by decide, Tryz.func159.trans (congrArg some (by kernel_rfl))⟩
  f25 := ⟨Tryz.f160.name, by decide, Tryz.func160.trans (congrArg some (by kernel_rfl))⟩
  f26 := ⟨Tryz.f161.name, by decide, Tryz.func161.trans (congrArg some (by kernel_rfl))⟩
  f27 := ⟨Tryz.f162.name, by decide, Tryz.func162.trans (congrArg some (by kernel_rfl))⟩
  f28 := Tryz.func136.trans (congrArg some (by kernel_rfl))
  f29 := Tryz.func137.trans (congrArg some (by kernel_rfl))
  f46 := ⟨Tryz.f168.name, by decide, Tryz.func168.trans (congrArg some (by kernel_rfl))⟩
  f47 := Tryz.func164.trans (congrArg some (by kernel_rfl))
  f48 := Tryz.func165.trans (congrArg some (by kernel_rfl))
  f49 := ⟨Tryz.f169.name, by decide, Tryz.func169.trans (congrArg some (by kernel_rfl))⟩
  f50 := ⟨Tryz.f170.name, by decide, Tryz.func170.trans (congrArg some (by kernel_rfl))⟩
  f57 := ⟨Tryz.f172.name, by decide, Tryz.func172.trans (congrArg some (by kernel_rfl))⟩
  t0 := Tryz.underlying0
  a0 := Tryz.isAgg0
  z0 := Tryz.sizeOf0
  v0 := Tryz.zeroValue0
  t3 := Tryz.underlying3
  a3 := Tryz.isAgg3
  z3 := Tryz.sizeOf3
  v3 := Tryz.zeroValue3
  t4 := Tryz.underlying4
  a4 := Tryz.isAgg4
  z4 := Tryz.sizeOf4
  v4 := Tryz.zeroValue4
  t5 := Tryz.underlying5
  a5 := Tryz.isAgg5
  z5 := Tryz.sizeOf5
  v5 := Tryz.zeroValue5
  t9 := Tryz.underlying9
  a9 := Tryz.isAgg9
  z9 := Tryz.sizeOf9
  v9 := Tryz.zeroValue9
  t22 := Tryz.underlying42
  a22 := Tryz.isAgg42
  z22 := Tryz.sizeOf42
  v22 := Tryz.zeroValue42
  a24 := Tryz.isAgg3
  z24 := Tryz.sizeOf3
  t25 := Tryz.underlying154
  a25 := Tryz.isAgg154
  z25 := Tryz.sizeOf154
  v25 := Tryz.zeroValue154
  t39 := Tryz.underlying71
  a39 := Tryz.isAgg71
  z39 := Tryz.sizeOf71
  v39 := Tryz.zeroValue71
  t45 := Tryz.underlying173
  a45 := Tryz.isAgg173
  z45 := Tryz.sizeOf173
  v45 := Tryz.zeroValue173
  t46 := Tryz.underlying174
  a46 := Tryz.isAgg174
  z46 := Tryz.sizeOf174
  v46 := Tryz.zeroValue174
  t50 := Tryz.underlying64
  a50 := Tryz.isAgg64
  z50 := Tryz.sizeOf64
  v50 := Tryz.zeroValue64
  t53 := Tryz.underlying166
  a53 := Tryz.isAgg166
  z53 := Tryz.sizeOf166
  v53 := Tryz.zeroValue166
  t55 := Tryz.underlying168
  a55 := Tryz.isAgg168
  z55 := Tryz.sizeOf168
  v55 := Tryz.zeroValue168
  t66 := Tryz.underlying185
  a66 := Tryz.isAgg185
  z66 := Tryz.sizeOf185
  v66 := Tryz.zeroValue185
  t70 := Tryz.underlying141
  a70 := Tryz.isAgg141
  z70 := Tryz.sizeOf141
  v70 := Tryz.zeroValue141
  t76 := Tryz.underlying192
  a76 := Tryz.isAgg192
  z76 := Tryz.sizeOf192
  v76 := Tryz.zeroValue192
  t77 := Tryz.underlying35
  a77 := Tryz.isAgg35
  z77 := Tryz.sizeOf35
  v77 := Tryz.zeroValue35 }
def Tryz.laysSlF06_f54_ren : Go.Shelf.Ren := ⟨fun | 6 => 121 | 15 => 109 | 14 => 143 | 28 => 136 | 29 => 137 | 20 => 155 | 21 => 156 | 22 => 157 | 23 => 158 | 24 => 159 | 25 => 160 | 26 => 161 | 27 => 162 | 46 => 168 | 47 => 164 | 48 => 165 | 49 => 169 | 50 => 170 | 57 => 172 | n => n, fun | 22 => 42 | 24 => 3 | 25 => 154 | 3 => 3 | 39 => 71 | 0 => 0 | 53 => 166 | 55 => 168 | 4 => 4 | 46 => 174 | 45 => 173 | 50 => 64 | 5 => 5 | 9 => 9 | 66 => 185 | 70 => 141 | 76 => 192 | 77 => 35 | n => n, fun | n => n⟩
theorem Tryz.laysSlF06_f54 : Go.Proofs.SlLaysF0.n6 Tryz.prog Tryz.laysSlF06_f54_ren := {
  mixed := by kernel_rfl
  f6 := ⟨Tryz.f121.name, by decide, Tryz.func121.trans (congrArg some (by kernel_rfl))⟩
  f14 := ⟨Tryz.f143.name, by decide, Tryz.func143.trans (congrArg some (by kernel_rfl))⟩
  f15 := Tryz.func109.trans (congrArg some (by kernel_rfl))
  f20 := ⟨Tryz.f155.name, by decide, Tryz.func155.trans (congrArg some (by kernel_rfl))⟩
  f21 := ⟨Tryz.f156.name, by decide, Tryz.func156.trans (congrArg some (by kernel_rfl))⟩
  f22 := ⟨Tryz.f157.name, by decide, Tryz.func157.trans (congrArg some (by kernel_rfl))⟩
  f23 := ⟨Tryz.f158.name, by decide, Tryz.func158.trans (congrArg some (by kernel_rfl))⟩
  f24 := ⟨Tryz.f159.name, by decide, Tryz.func159.trans (congrArg some (by kernel_rfl))⟩
  f25 := ⟨Tryz.f160.name, by decide, Tryz.func160.trans (congrArg some (by kernel_rfl))⟩
  f26 := ⟨Tryz.f161.name, by decide, Tryz.func161.trans (congrArg some (by kernel_rfl))⟩
  f27 := ⟨Tryz.f162.name, by decide, Tryz.func162.trans (congrArg some (by kernel_rfl))⟩
  f28 := Tryz.func136.trans (congrArg some (by kernel_rfl))
  f29 := Tryz.func137.trans (congrArg some (by kernel_rfl))
  f46 := ⟨Tryz.f168.name, by decide, Tryz.func168.trans (congrArg some (by kernel_rfl))⟩
  f47 := Tryz.func164.trans (congrArg some (by kernel_rfl))
  f48 := Tryz.func165.trans (congrArg some (by kernel_rfl))
  f49 := ⟨Tryz.f169.name, by decide, Tryz.func169.trans (congrArg some (by kernel_rfl))⟩
  f50 := ⟨Tryz.f170.name, by decide, Tryz.func170.trans (congrArg some (by kernel_rfl))⟩
  f57 := ⟨Tryz.f172.name, by decide, Tryz.func172.trans (congrArg some (by kernel_rfl))⟩
  t0 := Tryz.underlying0
  a0 := Tryz.isAgg0
  z0 := Tryz.sizeOf0
  v0 := Tryz.zeroValue0
  t3 := Tryz.underlying3
  a3 := Tryz.isAgg3
  z3 := Tryz.sizeOf3
  v3 := Tryz.zeroValue3
  t4 := Tryz.underlying4
  a4 := Tryz.isAgg4
  z4 := Tryz.sizeOf4
  v4 := Tryz.zeroValue4
  t5 := Tryz.underlying5
  a5 := Tryz.isAgg5
  z5 := Tryz.sizeOf5
  v5 := Tryz.zeroValue5
  t9 := Tryz.underlying9
  a9 := Tryz.isAgg9
  z9 := Tryz.sizeOf9
  v9 := Tryz.zeroValue9
  t22 := Tryz.underlying42
  a22 := Tryz.isAgg42
  z22 := Tryz.sizeOf42
  v22 := Tryz.zeroValue42
  t25 := Tryz.underlying154
  a25 := Tryz.isAgg154
  z25 := Tryz.sizeOf154
  v25 := Tryz.zeroValue154
  t39 := Tryz.underlying71
  a39 := Tryz.isAgg71
  z39 := Tryz.sizeOf71
  v39 := Tryz.zeroValue71
  t45 := Tryz.underlying173
  a45 := Tryz.isAgg173
  z45 := Tryz.sizeOf173
  v45 := Tryz.zeroValue173
  t46 := Tryz.underlying174
  a46 := Tryz.isAgg174
  z46 := Tryz.sizeOf174
  v46 := Tryz.zeroValue174
  t50 := Tryz.underlying64
  a50 := Tryz.isAgg64
  z50 := Tryz.sizeOf64
  v50 := Tryz.zeroValue64
  t53 := Tryz.underlying166
  a53 := Tryz.isAgg166
  z53 := Tryz.sizeOf166
  v53 := Tryz.zeroValue166
  t55 := Tryz.underlying168
  a55 := Tryz.isAgg168
  z55 := Tryz.sizeOf168
  v55 := Tryz.zeroValue168
  t66 := Tryz.underlying185
  a66 := Tryz.isAgg185
  z66 := Tryz.sizeOf185
  v66 := Tryz.zeroValue185
  t70 := Tryz.underlying141
  a70 := Tryz.isAgg141
  z70 := Tryz.sizeOf141
  v70 := Tryz.zeroValue141
  t76 := Tryz.underlying192
  a76 := Tryz.isAgg192
  z76 := Tryz.sizeOf192
  v76 := Tryz.zeroValue192
  t77 := Tryz.underlying35
  a77 := Tryz.isAgg35
  z77 := Tryz.sizeOf35
  v77 := Tryz.zeroValue35 }
open Go.RowKit Go.Lib Go.Sort in
theorem Tryz.slices_SortFunc_none {α : Type} [Inhabited α] (p : Option Addr) (cap : Nat) (fv : Value) (w : World) :
    Calls Tryz.prog 121 #[.slice p 0 cap, fv] w fun e w' => e = .returned (.tuple #[]) ∧ w' = w := AnyF.slices_SortFunc_none Tryz.laysSlF06_f54 p cap fv w
open Go.RowKit Go.Lib Go.Sort in
theorem Tryz.slices_SortFunc_total {α : Type} [Inhabited α] (enc : α → Value) (h1 : OneCell enc) (cf : α → α → Int) (hO : SWO (ltOf cf)) (g : Nat) (cb : Array Value) (blk off cap : Nat) (d : Array α) (w : World) (eg : ∀ args w, (callFunc g args).run Tryz.prog w = .ok (.enter g args) w) (hcmp : CmpLays1 Tryz.prog g cb enc cf blk off d.size w) (hH : Holds enc w blk off d) (hblk : blk < w.heap.size) (hsz : d.size < 4611686018427387904) (hT : ∀ x y, (ltOf cf) x y = false → (ltOf cf) y x = false → x = y) :
    Calls Tryz.prog 121 #[.slice (some ⟨blk, off, none⟩) d.size cap, .func (.func g) #[] cb] w fun e w' =>
      e = .returned (.tuple #[]) ∧ ∃ n os, w' = sortWorld enc w blk off n (d.toList.mergeSort fun x y => !(ltOf cf) y x).toArray os := Any.slices_SortFunc_total Tryz.laysSlF6_f54 enc h1 cf hO g cb blk off cap d w eg hcmp hH hblk hsz hT
end Go.Proofs

namespace Go.Proofs.YtimfjoinjfecjaaGreat
open Go.RowKit Go.Sort
set_option linter.unusedVariables false

/-- So many draws, and blocks more behind all. -/
def Gr (w w' : World) : Prop := ∃ q os, w' = grow (w.drewN q) os

theorem Gr.refl (w : World) : Gr w w := ⟨0, #[], by rw [grow_empty]; rfl⟩
theorem Gr.trans {a b c : World} (h : Gr a b) (k : Gr b c) : Gr a c := by
  obtain ⟨q, os, rfl⟩ := h
  obtain ⟨q', os', rfl⟩ := k
  refine ⟨q + q', os ++ os', ?_⟩
  show grow (grow ((a.drewN q).drewN q') os) os' = _
  rw [grow_grow, World.drewN_drewN]
theorem Gr.alloc (w : World) (o : Obj) : Gr w (w.alloc o) := ⟨0, #[o], by rw [alloc_eq_grow]; rfl⟩
theorem Gr.drew (w : World) : Gr w w.drew := ⟨1, #[], by rw [grow_empty]; rfl⟩
theorem Gr.below {w w' : World} (h : Gr w w') : Below w.heap.size w w' := by
  obtain ⟨q, os, rfl⟩ := h
  exact ⟨rfl, rfl, rfl, by rw [size_grow]; exact Nat.le_add_right _ _, fun j hj => heap_grow_old (w.drewN q) os hj⟩

theorem split_gr (l : Int) (h : ¬ l < 0) (hu : l ≤ 9223372036854775807) (w : World) : Calls Tryz.prog 41 #[.int .i64 l] w fun e w' => e = .returned (.agg #[.int .i64 (l / 2), .bool (l % 2 == 1)]) ∧ Gr w w' := by
  go_enter Tryz.func41, Tryz.ntmps41
  go_wp2
  go_returns
  exact ⟨rfl, Gr.alloc _ _⟩

theorem var_gr (m u : Nat) (hm : m / 2 = u) (hu : (m : Int) ≤ 9223372036854775807) (w : World) : Calls Tryz.prog 24 #[.int .i64 m] w fun e w' => e = .returned (.int .i64 u) ∧ Hid (Gr w w') := by
  have HE : Hid ((m : Int) / 2 = u) := hid (by omega)
  have f0 := field0
  have h0 : ¬ ((m : Int) < 0) := by omega
  clear hm
  go_enter Tryz.func24, Tryz.ntmps24
  go_wp2_with (go_at_call 41; refine (split_gr _ h0 hu _).mono ?_; rintro e w' ⟨rfl, hb⟩)
  go_returns
  exact ⟨by rw [HE.out]; rfl, hb⟩

/-- Where the way's block and the trail stand. -/
structure Lv (k : SK) (kt : K) (L : List E) (lev : Nat) (p : V) (w : World) : Prop where
  c0 : w.cell? ⟨k.SB, 0, none⟩ = some (.pointer (some ⟨kt.OB, 0, none⟩))
  t : Trl kt w L lev p

theorem Lv.below {k : SK} {kt : K} {L : List E} {lev : Nat} {p : V} {w w' : World} (h : Lv k kt L lev p w) (b : Below w.heap.size w w') : Lv k kt L lev p w' := ⟨(b.cell (cell_lt h.c0)).trans h.c0, h.t.below b⟩

section
variable {k : SK} {w0 w w1 w' : World} {kt : K} {L : List E} {lev : Nat} {p : V} {cls : List (List Int)} {s s' : PS} {v v' : SV} {n : Nat}

theorem Cm.lvl (c : Cm k w0 kt L lev p cls) (h : Rn k w0 n w s v) : Lv k kt L lev p w := ⟨(c.cell h).1, c.trl h⟩

theorem levelOf_is (h : Lv k kt L lev p w) (m : Nat) (hx : (m : Int) ≤ 9223372036854775807) {y : Int} (hy : levelF L ((m / 2 : Nat) : Int) = y) :
    Calls Tryz.prog 125 #[.pointer (some ⟨k.SB, 0, none⟩), .int .i64 m] w fun e w' => e = .returned (.int .i64 y) ∧ Hid (Gr w w') := by
  obtain ⟨u, hu⟩ : ∃ u, m / 2 = u := ⟨_, rfl⟩
  rw [hu] at hy
  have HU := hid hu
  have HY := hid hy
  have HL := hid (h.below (below_drew w))
  have c0 := h.c0
  clear h hu hy
  go_enter Tryz.func125, Tryz.ntmps125
  go_upto_region 1 with fail
  go_region_with (first
    | (go_at_call 24; with_reducible (refine (var_gr _ _ HU.out hx _).mono ?_); rintro e w2 ⟨rfl, b2⟩; have L2 := hid (HL.out.below b2.out.below); have c02 := L2.out.c0)
    | (go_at_call 88; with_reducible (refine (level_is L2.out.t _ HY.out).mono ?_); rintro e w2 ⟨rfl, rfl⟩))
  all_goals go_wp2_with fail
  all_goals go_ret
  all_goals exact ⟨rfl, (Gr.drew w).trans b2.out⟩

def cmpI (a b : Int) : Int := if a < b then -1 else if b < a then 1 else 0

theorem isNaN_is (x : Int) (w : World) : Calls Tryz.prog 144 #[.int .i64 x] w fun e w' => e = .returned (.bool false) ∧ w' = w := by
  have hx : (x != x) = false := by simp
  go_enter Tryz.func144, Tryz.ntmps144
  go_wp2
  go_ret
  exact ⟨rfl, rfl⟩

theorem compare_is (a b : Int) (w : World) {y : Int} (hy : cmpI a b = y) : Calls Tryz.prog 124 #[.int .i64 a, .int .i64 b] w fun e w' => e = .returned (.int .i64 y) ∧ w' = w := by
  subst hy
  by_cases h1 : a < b
  · have e1 : cmpI a b = -1 := by unfold cmpI; rw [if_pos h1]
    rw [e1]
    go_enter Tryz.func124, Tryz.ntmps124
    go_wp2_with (go_at_call 144; with_reducible (refine (isNaN_is _ _).mono ?_); rintro e w ⟨rfl, rfl⟩)
    go_ret
    exact ⟨rfl, rfl⟩
  · by_cases h2 : b < a
    · have e1 : cmpI a b = 1 := by unfold cmpI; rw [if_neg h1, if_pos h2]
      rw [e1]
      go_enter Tryz.func124, Tryz.ntmps124
      go_wp2_with (go_at_call 144; with_reducible (refine (isNaN_is _ _).mono ?_); rintro e w ⟨rfl, rfl⟩)
      go_ret
      exact ⟨rfl, rfl⟩
    · have e1 : cmpI a b = 0 := by unfold cmpI; rw [if_neg h1, if_neg h2]
      rw [e1]
      go_enter Tryz.func124, Tryz.ntmps124
      go_wp2_with (go_at_call 144; with_reducible (refine (isNaN_is _ _).mono ?_); rintro e w ⟨rfl, rfl⟩)
      go_ret
      exact ⟨rfl, rfl⟩

def orI (a b : Int) : Int := if a ≠ 0 then a else b

theorem or_is (a b : Int) (g : Nat) (w : World) (h0 : w.cell? ⟨g, 0, none⟩ = some (.int .i64 a)) (h1 : w.cell? ⟨g, 1, none⟩ = some (.int .i64 b)) {y : Int} (hy : orI a b = y) :
    Calls Tryz.prog 123 #[.slice (some ⟨g, 0, none⟩) 2 2] w fun e w' => e = .returned (.int .i64 y) ∧ w' = w := by
  subst hy
  by_cases ha : a = 0
  · have e1 : orI a b = b := by unfold orI; rw [if_neg (by simpa using ha)]
    rw [e1]
    subst ha
    by_cases hb : b = 0
    · subst hb
      go_enter Tryz.func123, Tryz.ntmps123
      go_wp2
      refine wp_loop_rounds 3 ?_
      rw [rounds_succ]
      go_wp2
      rw [rounds_succ]
      go_wp2
      rw [rounds_succ]
      go_wp2
      go_ret
      exact ⟨rfl, rfl⟩
    · have hbn : (b != 0) = true := by simpa using hb
      go_enter Tryz.func123, Tryz.ntmps123
      go_wp2
      refine wp_loop_rounds 3 ?_
      rw [rounds_succ]
      go_wp2
      rw [rounds_succ]
      go_wp2
      go_ret
      exact ⟨rfl, rfl⟩
  · have e1 : orI a b = a := by unfold orI; rw [if_pos ha]
    rw [e1]
    have han : (a != 0) = true := by simpa using ha
    go_enter Tryz.func123, Tryz.ntmps123
    go_wp2
    refine wp_loop_rounds 3 ?_
    rw [rounds_succ]
    go_wp2
    go_ret
    exact ⟨rfl, rfl⟩
end

end Go.Proofs.YtimfjoinjfecjaaGreat

namespace Go.Proofs.YtimfjoinjfecjaaGreat
open Go.RowKit Go.Sort
set_option linter.unusedVariables false

def cmpF (L : List E) (x y : Nat) : Int := orI (cmpI (levelF L ((y / 2 : Nat) : Int)) (levelF L ((x / 2 : Nat) : Int))) (cmpI (x : Int) (y : Int))

section
variable {k : SK} {w0 w w1 w' : World} {kt : K} {L : List E} {lev : Nat} {p : V} {cls : List (List Int)} {s s' : PS} {v v' : SV} {n : Nat}

theorem two_new (W : World) (a b : Int) : (W.alloc (.cells #[.int .i64 a, .int .i64 b] 3)).cell? ⟨W.heap.size, 0, none⟩ = some (.int .i64 a) ∧ (W.alloc (.cells #[.int .i64 a, .int .i64 b] 3)).cell? ⟨W.heap.size, 1, none⟩ = some (.int .i64 b) := by
  have h := new_same W (.cells #[.int .i64 a, .int .i64 b] 3)
  exact ⟨(cell_of h).trans rfl, (cell_of h).trans rfl⟩

theorem lv_step (h : Lv k kt L lev p w) {BX : Nat} (hbx : w.cell? ⟨BX, 0, none⟩ = some (.pointer (some ⟨k.SB, 0, none⟩))) (g : Gr w w1) : Lv k kt L lev p w1 ∧ w1.cell? ⟨BX, 0, none⟩ = some (.pointer (some ⟨k.SB, 0, none⟩)) :=
  ⟨h.below g.below, (g.below.cell (cell_lt hbx)).trans hbx⟩

theorem gr_step {w2 : World} (g : Gr w.drew w2) : Gr w w2 := (Gr.drew w).trans g

set_option maxHeartbeats 2000000 in
theorem closure_is (h : Lv k kt L lev p w) {BX : Nat} (hbx : w.cell? ⟨BX, 0, none⟩ = some (.pointer (some ⟨k.SB, 0, none⟩))) (x y : Nat) (hx : (x : Int) ≤ 9223372036854775807) (hy : (y : Int) ≤ 9223372036854775807) :
    Calls Tryz.prog 122 #[.int .i64 x, .int .i64 y, .pointer (some ⟨BX, 0, none⟩)] w fun e w' => e = .returned (.int .i64 (cmpF L x y)) ∧ Gr w w' := by
  obtain ⟨a, ha⟩ : ∃ a, levelF L ((x / 2 : Nat) : Int) = a := ⟨_, rfl⟩
  obtain ⟨b, hb⟩ : ∃ b, levelF L ((y / 2 : Nat) : Int) = b := ⟨_, rfl⟩
  obtain ⟨c1, h1⟩ : ∃ c1, cmpI b a = c1 := ⟨_, rfl⟩
  obtain ⟨c2, h2⟩ : ∃ c2, cmpI (x : Int) (y : Int) = c2 := ⟨_, rfl⟩
  obtain ⟨o, ho⟩ : ∃ o, orI c1 c2 = o := ⟨_, rfl⟩
  have HF : Hid (cmpF L x y = o) := hid (by unfold cmpF; rw [ha, hb, h1, h2, ho])
  have HA := hid ha
  have HB := hid hb
  have H1 := hid h1
  have H2 := hid h2
  have HO := hid ho
  have HL := hid (h.below (below_drew w))
  have hbx0 : w.drew.cell? ⟨BX, 0, none⟩ = some (.pointer (some ⟨k.SB, 0, none⟩)) := hbx
  have HN := hid (fun W => two_new W c1 c2)
  clear h ha hb h1 h2 ho
  go_enter Tryz.func122, Tryz.ntmps122
  go_upto_region 1 with fail
  go_region_with (first
    | (go_at_call 125; with_reducible (refine (levelOf_is HL.out _ hx HA.out).mono ?_); rintro e w2 ⟨rfl, b2⟩; have s2 := lv_step HL.out hbx0 b2.out; obtain ⟨l2, x2⟩ := s2; have L2 := hid l2; clear l2; have G2 := hid (gr_step b2.out))
    | (go_at_call 125; with_reducible (refine (levelOf_is HL.out _ hy HB.out).mono ?_); rintro e w2 ⟨rfl, b2⟩; have s2 := lv_step HL.out hbx0 b2.out; obtain ⟨l2, x2⟩ := s2; have L2 := hid l2; clear l2; have G2 := hid (gr_step b2.out))
    | (go_at_call 125; with_reducible (refine (levelOf_is L2.out _ hx HA.out).mono ?_); rintro e w3 ⟨rfl, b3⟩; have G3 := hid (G2.out.trans b3.out))
    | (go_at_call 125; with_reducible (refine (levelOf_is L2.out _ hy HB.out).mono ?_); rintro e w3 ⟨rfl, b3⟩; have G3 := hid (G2.out.trans b3.out))
    | (go_at_call 124; with_reducible (refine (compare_is _ _ _ H1.out).mono ?_); rintro e w9 ⟨rfl, rfl⟩)
    | (go_at_call 124; with_reducible (refine (compare_is _ _ _ H2.out).mono ?_); rintro e w9 ⟨rfl, rfl⟩)
    | (go_at_call 123; with_reducible (refine (or_is c1 c2 _ _ (HN.out _).1 (HN.out _).2 HO.out).mono ?_); rintro e w9 ⟨rfl, rfl⟩))
  all_goals go_wp2_with fail
  all_goals go_ret
  all_goals exact ⟨by rw [HF.out]; rfl, G3.out.trans (Gr.alloc _ _)⟩
end

end Go.Proofs.YtimfjoinjfecjaaGreat
