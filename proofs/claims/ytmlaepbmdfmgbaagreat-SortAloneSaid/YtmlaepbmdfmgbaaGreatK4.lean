/- slices.Sort at numbers, slices.SortFunc at rows of numbers: laid off the shelf. -/
import Derived.Shelf.Sort.Plain
import Derived.Ground.SlsfProg
import Derived.Shelf.SlSortCmp.Whole1
import Derived.Shelf.SlSortCmp.NoneTotal
import Derived.Test.YtmlaepbmdfmgbaaGreatK3
set_option linter.unusedSimpArgs false
set_option linter.unusedVariables false
namespace Go.Proofs.YtmlaepbmdfmgbaaGreat
open Go Go.Proofs Go.Shelf Go.RowKit Go.Lib Go.Sort
def Tryz.lays189_ren : Go.Shelf.Ren := ⟨fun | 189 => 121 | 125 => 123 | 257 => 138 | 128 => 147 | 129 => 148 | 294 => 153 | 295 => 154 | 296 => 155 | 297 => 156 | 298 => 157 | 299 => 158 | 216 => 159 | 300 => 160 | 301 => 161 | 328 => 167 | 329 => 163 | 330 => 164 | 331 => 168 | 332 => 169 | 215 => 149 | 343 => 171 | n => n, fun | 28 => 36 | 3 => 3 | 46 => 184 | 0 => 0 | 51 => 201 | 53 => 56 | 4 => 4 | 183 => 194 | 182 => 193 | 131 => 198 | 5 => 5 | 9 => 9 | 218 => 209 | 222 => 213 | 228 => 217 | 229 => 218 | n => n, fun | n => n⟩
theorem Tryz.lays189 : Go.Proofs.Lays.n189 Tryz.prog Tryz.lays189_ren := {
  mixed := by kernel_rfl
  f125 := Tryz.func123.trans (congrArg some (by kernel_rfl))
  f128 := Tryz.func147.trans (congrArg some (by kernel_rfl))
  f129 := Tryz.func148.trans (congrArg some (by kernel_rfl))
  f189 := Tryz.func121.trans (congrArg some (by kernel_rfl))
  f215 := Tryz.func149.trans (congrArg some (by kernel_rfl))
  f216 := Tryz.func159.trans (congrArg some (by kernel_rfl))
  f257 := Tryz.func138.trans (congrArg some (by kernel_rfl))
  f294 := Tryz.func153.trans (congrArg some (by kernel_rfl))
  f295 := Tryz.func154.trans (congrArg some (by kernel_rfl))
  f296 := Tryz.func155.trans (congrArg some (by kernel_rfl))
  f297 := Tryz.func156.trans (congrArg some (by kernel_rfl))
  f298 := Tryz.func157.trans (congrArg some (by kernel_rfl))
  f299 := Tryz.func158.trans (congrArg some (by kernel_rfl))
  f300 := Tryz.func160.trans (congrArg some (by kernel_rfl))
  f301 := Tryz.func161.trans (congrArg some (by kernel_rfl))
  f328 := Tryz.func167.trans (congrArg some (by kernel_rfl))
  f329 := Tryz.func163.trans (congrArg some (by kernel_rfl))
  f330 := Tryz.func164.trans (congrArg some (by kernel_rfl))
  f331 := Tryz.func168.trans (congrArg some (by kernel_rfl))
  f332 := Tryz.func169.trans (congrArg some (by kernel_rfl))
  f343 := Tryz.func171.trans (congrArg some (by kernel_rfl))
  t0 := Tryz.underlying0
  a0 := Tryz.isAgg0
  z0 := Tryz.sizeOf0
  v0 := Tryz.zeroValue0
  t3 := Tryz.underlying3
  a3 := Tryz.isAgg3
  z3 := Tryz.sizeOf3
  v3 := Tryz.zeroValue3
  t4 := Tryz.underlying4
  a4 := Tryz.isAgg4
  z4 := Tryz.sizeOf4
  v4 := Tryz.zeroValue4
  t5 := Tryz.underlying5
  a5 := Tryz.isAgg5
  z5 := Tryz.sizeOf5
  v5 := Tryz.zeroValue5
  t9 := Tryz.underlying9
  a9 := Tryz.isAgg9
  z9 := Tryz.sizeOf9
  v9 := Tryz.zeroValue9
  t28 := Tryz.underlying36
  a28 := Tryz.isAgg36
  z28 := Tryz.sizeOf36
  v28 := Tryz.zeroValue36
  t46 := Tryz.underlying184
  a46 := Tryz.isAgg184
  z46 := Tryz.sizeOf184
  v46 := Tryz.zeroValue184
  t51 := Tryz.underlying201
  a51 := Tryz.isAgg201
  z51 := Tryz.sizeOf201
  v51 := Tryz.zeroValue201
  t53 := Tryz.underlying56
  a53 := Tryz.isAgg56
  z53 := Tryz.sizeOf56
  v53 := Tryz.zeroValue56
  t131 := Tryz.underlying198
  a131 := Tryz.isAgg198
  z131 := Tryz.sizeOf198
  v131 := Tryz.zeroValue198
  t182 := Tryz.underlying193
  a182 := Tryz.isAgg193
  z182 := Tryz.sizeOf193
  v182 := Tryz.zeroValue193
  t183 := Tryz.underlying194
  a183 := Tryz.isAgg194
  z183 := Tryz.sizeOf194
  v183 := Tryz.zeroValue194
  t218 := Tryz.underlying209
  a218 := Tryz.isAgg209
  z218 := Tryz.sizeOf209
  v218 := Tryz.zeroValue209
  t222 := Tryz.underlying213
  a222 := Tryz.isAgg213
  z222 := Tryz.sizeOf213
  v222 := Tryz.zeroValue213
  t228 := Tryz.underlying217
  a228 := Tryz.isAgg217
  z228 := Tryz.sizeOf217
  v228 := Tryz.zeroValue217
  t229 := Tryz.underlying218
  a229 := Tryz.isAgg218
  z229 := Tryz.sizeOf218
  v229 := Tryz.zeroValue218 }
theorem Tryz.slices_Sort_int (blk off cap : Nat) (zs : List Int) (w : World) (hH : Holds (Value.int .i64) w blk off zs.toArray) (hblk : blk < w.heap.size) (hsz : zs.length < 4611686018427387904) :
    Calls Tryz.prog 121 #[.slice (some ⟨blk, off, none⟩) zs.length cap] w fun e w' =>
      e = .returned (.tuple #[]) ∧ ∃ n os, w' = grow (putRow (Value.int .i64) (Sort.ahead w n) blk off (zs.mergeSort fun x y => decide (x ≤ y)).toArray) os := Any.slices_Sort_int Tryz.lays189 blk off cap zs w hH hblk hsz
def Tryz.laysSlF6_f32_ren : Go.Shelf.Ren := ⟨fun | 6 => 104 | 15 => 123 | 14 => 122 | 28 => 147 | 29 => 148 | 20 => 139 | 21 => 140 | 22 => 141 | 23 => 142 | 24 => 143 | 25 => 144 | 26 => 145 | 27 => 146 | 46 => 162 | 47 => 163 | 48 => 164 | 49 => 165 | 50 => 166 | 57 => 170 | n => n, fun | 22 => 39 | 24 => 36 | 25 => 159 | 3 => 3 | 39 => 184 | 0 => 0 | 53 => 201 | 55 => 56 | 4 => 4 | 46 => 194 | 45 => 193 | 50 => 198 | 5 => 5 | 9 => 9 | 66 => 209 | 70 => 213 | 76 => 217 | 77 => 218 | n => n, fun | n => n⟩
theorem Tryz.laysSlF6_f32 : Go.Proofs.SlLaysF.n6 Tryz.prog Tryz.laysSlF6_f32_ren := {
  mixed := by kernel_rfl
  f6 := ⟨Tryz.f104.name, by decide, Tryz.func104.trans (congrArg some (by kernel_rfl))⟩
  f14 := ⟨Tryz.f122.name, by decide, Tryz.func122.trans (congrArg some (by kernel_rfl))⟩
  f15 := Tryz.func123.trans (congrArg some (by kernel_rfl))
  f20 := ⟨Tryz.f139.name, by decide, Tryz.func139.trans (congrArg some (by kernel_rfl))⟩
  f21 := ⟨Tryz.f140.name, by decide, Tryz.func140.trans (congrArg some (by kernel_rfl))⟩
  f22 := ⟨Tryz.f141.name, by decide, Tryz.func141.trans (congrArg some (by kernel_rfl))⟩
  f23 := ⟨Tryz.f142.name, by decide, Tryz.func142.trans (congrArg some (by kernel_rfl))⟩
  f24 := ⟨Tryz.f143.name, by decide, Tryz.func143.trans (congrArg some (by kernel_rfl))⟩
  f25 := ⟨Tryz.f144.name, by decide, Tryz.func144.trans (congrArg some (by kernel_rfl))⟩
  f26 := ⟨Tryz.f145.name, by decide, Tryz.func145.trans (congrArg some (by kernel_rfl))⟩
  f27 := ⟨Tryz.f146.name, by decide, Tryz.func146.trans (congrArg some (by kernel_rfl))⟩
  f28 := Tryz.func147.trans (congrArg some (by kernel_rfl))
  f29 := Tryz.func148.trans (congrArg some (by kernel_rfl))
  f46 := ⟨Tryz.f162.name, by decide, Tryz.func162.trans (congrArg some (by kernel_rfl))⟩
  f47 := Tryz.func163.trans (congrArg some (by kernel_rfl))
  f48 := Tryz.func164.trans (congrArg some (by kernel_rfl))
  f49 := ⟨Tryz.f165.name, by decide, Tryz.func165.trans (congrArg some (by kernel_rfl))⟩
  f50 := ⟨Tryz.f166.name, by decide, Tryz.func166.trans (congrArg some (by kernel_rfl))⟩
  f57 := ⟨Tryz.f170.name, by decide, Tryz.func170.trans (congrArg some (by kernel_rfl))⟩
  t0 := Tryz.underlying0
  a0 := Tryz.isAgg0
  z0 := Tryz.sizeOf0
  v0 := Tryz.zeroValue0
  t3 := Tryz.underlying3
  a3 := Tryz.isAgg3
  z3 := Tryz.sizeOf3
  v3 := Tryz.zeroValue3
  t4 := Tryz.underlying4
  a4 := Tryz.isAgg4
  z4 := Tryz.sizeOf4
  v4 := Tryz.zeroValue4
  t5 := Tryz.underlying5
  a5 := Tryz.isAgg5
  z5 := Tryz.sizeOf5
  v5 := Tryz.zeroValue5
  t9 := Tryz.underlying9
  a9 := Tryz.isAgg9
  z9 := Tryz.sizeOf9
  v9 := Tryz.zeroValue9
  t22 := Tryz.underlying39
  a22 := Tryz.isAgg39
  z22 := Tryz.sizeOf39
  v22 := Tryz.zeroValue39
  a24 := Tryz.isAgg36
  z24 := Tryz.sizeOf36
  t25 := Tryz.underlying159
  a25 := Tryz.isAgg159
  z25 := Tryz.sizeOf159
  v25 := Tryz.zeroValue159
  t39 := Tryz.underlying184
  a39 := Tryz.isAgg184
  z39 := Tryz.sizeOf184
  v39 := Tryz.zeroValue184
  t45 := Tryz.underlying193
  a45 := Tryz.isAgg193
  z45 := Tryz.sizeOf193
  v45 := Tryz.zeroValue193
  t46 := Tryz.underlying194
  a46 := Tryz.isAgg194
  z46 := Tryz.sizeOf194
  v46 := Tryz.zeroValue194
  t50 := Tryz.underlying198
  a50 := Tryz.isAgg198
  z50 := Tryz.sizeOf198
  v50 := Tryz.zeroValue198
  t53 := Tryz.underlying201
  a53 := Tryz.isAgg201
  z53 := Tryz.sizeOf201
  v53 := Tryz.zeroValue201
  t55 := Tryz.underlying56
  a55 := Tryz.isAgg56
  z55 := Tryz.sizeOf56
  v55 := Tryz.zeroValue56
  t66 := Tryz.underlying209
  a66 := Tryz.isAgg209
  z66 := Tryz.sizeOf209
  v66 := Tryz.zeroValue209
  t70 := Tryz.underlying213
  a70 := Tryz.isAgg213
  z70 := Tryz.sizeOf213
  v70 := Tryz.zeroValue213
  t76 := Tryz.underlying217
  a76 := Tryz.isAgg217
  z76 := Tryz.sizeOf217
  v76 := Tryz.zeroValue217
  t77 := Tryz.underlying218
  a77 := Tryz.isAgg218
  z77 := Tryz.sizeOf218
  v77 := Tryz.zeroValue218 }
theorem Tryz.slices_SortFunc {α : Type} [Inhabited α] (enc : α → Value) (h1 : OneCell enc) (cf : α → α → Int) (hO : SWO (ltOf cf)) (g : Nat) (cb : Array Value) (blk off cap : Nat) (d : Array α) (w : World) (eg : ∀ args w, (callFunc g args).run Tryz.prog w = .ok (.enter g args) w) (hcmp : CmpLays1 Tryz.prog g cb enc cf blk off d.size w) (hH : Holds enc w blk off d) (hblk : blk < w.heap.size) (hsz : d.size < 4611686018427387904) :
    Calls Tryz.prog 104 #[.slice (some ⟨blk, off, none⟩) d.size cap, .func (.func g) #[] cb] w fun e w' =>
      e = .returned (.tuple #[]) ∧ ∃ d' n os, PermIn 0 d.size d d' ∧ SortedIn (ltOf cf) 0 d.size d' ∧ w' = sortWorld enc w blk off n d' os := Any.slices_SortFunc Tryz.laysSlF6_f32 enc h1 cf hO g cb blk off cap d w eg hcmp hH hblk hsz
def Tryz.laysSlF06_f32_ren : Go.Shelf.Ren := ⟨fun | 6 => 104 | 15 => 123 | 14 => 122 | 28 => 147 | 29 => 148 | 20 => 139 | 21 => 140 | 22 => 141 | 23 => 142 | 24 => 143 | 25 => 144 | 26 => 145 | 27 => 146 | 46 => 162 | 47 => 163 | 48 => 164 | 49 => 165 | 50 => 166 | 57 => 170 | n => n, fun | 22 => 39 | 24 => 36 | 25 => 159 | 3 => 3 | 39 => 184 | 0 => 0 | 53 => 201 | 55 => 56 | 4 => 4 | 46 => 194 | 45 => 193 | 50 => 198 | 5 => 5 | 9 => 9 | 66 => 209 | 70 => 213 | 76 => 217 | 77 => 218 | n => n, fun | n => n⟩
theorem Tryz.laysSlF06_f32 : Go.Proofs.SlLaysF0.n6 Tryz.prog Tryz.laysSlF06_f32_ren := {
  mixed := by kernel_rfl
  f6 := ⟨Tryz.f104.name, by decide, Tryz.func104.trans (congrArg some (by kernel_rfl))⟩
  f14 := ⟨Tryz.f122.name, by decide, Tryz.func122.trans (congrArg some (by kernel_rfl))⟩
  f15 := Tryz.func123.trans (congrArg some (by kernel_rfl))
  f20 := ⟨Tryz.f139.name, by decide, Tryz.func139.trans (congrArg some (by kernel_rfl))⟩
  f21 := ⟨Tryz.f140.name, by decide, Tryz.func140.trans (congrArg some (by kernel_rfl))⟩
  f22 := ⟨Tryz.f141.name, by decide, Tryz.func141.trans (congrArg some (by kernel_rfl))⟩
  f23 := ⟨Tryz.f142.name, by decide, Tryz.func142.trans (congrArg some (by kernel_rfl))⟩
  f24 := ⟨Tryz.f143.name, by decide, Tryz.func143.trans (congrArg some (by kernel_rfl))⟩
  f25 := ⟨Tryz.f144.name, by decide, Tryz.func144.trans (congrArg some (by kernel_rfl))⟩
  f26 := ⟨Tryz.f145.name, by decide, Tryz.func145.trans (congrArg some (by kernel_rfl))⟩
  f27 := ⟨Tryz.f146.name, by decide, Tryz.func146.trans (congrArg some (by kernel_rfl))⟩
  f28 := Tryz.func147.trans (congrArg some (by kernel_rfl))
  f29 := Tryz.func148.trans (congrArg some (by kernel_rfl))
  f46 := ⟨Tryz.f162.name, by decide, Tryz.func162.trans (congrArg some (by kernel_rfl))⟩
  f47 := Tryz.func163.trans (congrArg some (by kernel_rfl))
  f48 := Tryz.func164.trans (congrArg some (by kernel_rfl))
  f49 := ⟨Tryz.f165.name, by decide, Tryz.func165.trans (congrArg some (by kernel_rfl))⟩
  f50 := ⟨Tryz.f166.name, by decide, Tryz.func166.trans (congrArg some (by kernel_rfl))⟩
  f57 := ⟨Tryz.f170.name, by decide, Tryz.func170.trans (congrArg some (by kernel_rfl))⟩
  t0 := Tryz.underlying0
  a0 := Tryz.isAgg0
  z0 := Tryz.sizeOf0
  v0 := Tryz.zeroValue0
  t3 := Tryz.underlying3
  a3 := Tryz.isAgg3
  z3 := Tryz.sizeOf3
  v3 := Tryz.zeroValue3
  t4 := Tryz.underlying4
  a4 := Tryz.isAgg4
  z4 := Tryz.sizeOf4
  v4 := Tryz.zeroValue4
  t5 := Tryz.underlying5
  a5 := Tryz.isAgg5
  z5 := Tryz.sizeOf5
  v5 := Tryz.zeroValue5
  t9 := Tryz.underlying9
  a9 := Tryz.isAgg9
  z9 := Tryz.sizeOf9
  v9 := Tryz.zeroValue9
  t22 := Tryz.underlying39
  a22 := Tryz.isAgg39
  z22 := Tryz.sizeOf39
  v22 := Tryz.zeroValue39
  t25 := Tryz.underlying159
  a25 := Tryz.isAgg159
  z25 := Tryz.sizeOf159
  v25 := Tryz.zeroValue159
  t39 := Tryz.underlying184
  a39 := Tryz.isAgg184
  z39 := Tryz.sizeOf184
  v39 := Tryz.zeroValue184
  t45 := Tryz.underlying193
  a45 := Tryz.isAgg193
  z45 := Tryz.sizeOf193
  v45 := Tryz.zeroValue193
  t46 := Tryz.underlying194
  a46 := Tryz.isAgg194
  z46 := Tryz.sizeOf194
  v46 := Tryz.zeroValue194
  t50 := Tryz.underlying198
  a50 := Tryz.isAgg198
  z50 := Tryz.sizeOf198
  v50 := Tryz.zeroValue198
  t53 := Tryz.underlying201
  a53 := Tryz.isAgg201
  z53 := Tryz.sizeOf201
  v53 := Tryz.zeroValue201
  t55 := Tryz.underlying56
  a55 := Tryz.isAgg56
  z55 := Tryz.sizeOf56
  v55 := Tryz.zeroValue56
  t66 := Tryz.underlying209
  a66 := Tryz.isAgg209
  z66 := Tryz.sizeOf209
  v66 := Tryz.zeroValue209
  t70 := Tryz.underlying213
  a70 := Tryz.isAgg213
  z70 := Tryz.sizeOf213
  v70 := Tryz.zeroValue213
  t76 := Tryz.underlying217
  a76 := Tryz.isAgg217
  z76 := Tryz.sizeOf217
  v76 := Tryz.zeroValue217
  t77 := Tryz.underlying218
  a77 := Tryz.isAgg218
  z77 := Tryz.sizeOf218
  v77 := Tryz.zeroValue218 }
theorem Tryz.slices_SortFunc_none {α : Type} [Inhabited α] (p : Option Addr) (cap : Nat) (fv : Value) (w : World) :
    Calls Tryz.prog 104 #[.slice p 0 cap, fv] w fun e w' => e = .returned (.tuple #[]) ∧ w' = w := AnyF.slices_SortFunc_none Tryz.laysSlF06_f32 p cap fv w
end Go.Proofs.YtmlaepbmdfmgbaaGreat
namespace Go.Proofs.YtmlaepbmdfmgbaaGreat
open Go Go.Proofs Go.Shelf Go.RowKit Go.Lib Go.Maps
theorem sorted_heap {α : Type} [Inhabited α] (enc : α → Value) (w : World) (g m : Nat) (d : Array α) (os : Array Obj) (k : Nat) (hk : k < w.heap.size) :
    (Go.Sort.grow (Go.Sort.putRow enc (Go.Sort.ahead w m) g 0 d) os).heap[k]? = if k = g then (w.heap[k]?).map (Go.Sort.onCells (Go.Sort.putCells enc 0 d)) else w.heap[k]? := by
  unfold Go.Sort.putRow
  rw [Go.Sort.heap_grow_old _ _ (by simpa [Go.Sort.mapBlock] using hk)]
  simp only [Go.Sort.mapBlock, Array.getElem?_modify]
  by_cases h : g = k
  · subst h; simp
  · rw [if_neg h, if_neg (Ne.symm h)]; rfl
theorem sorted_grown {α : Type} [Inhabited α] (enc : α → Value) (w : World) (g m : Nat) (d : Array α) (os : Array Obj) : w.grownBy (Go.Sort.grow (Go.Sort.putRow enc (Go.Sort.ahead w m) g 0 d) os) (some g) := by
  refine ⟨rfl, rfl, rfl, ?_, fun k hk hne => ?_⟩
  · unfold Go.Sort.putRow
    simp [Go.Sort.mapBlock, Go.Sort.ahead]
  · rw [sorted_heap _ _ _ _ _ _ _ hk, if_neg (fun e => hne (by rw [e]))]
theorem own_sorted {α : Type} [Inhabited α] (enc : α → Value) {w : World} {base e g cap n m : Nat} {xs : List Value} {d : Array α} {os : Array Obj} (h : w.ownsRow base e 1 (.slice (some ⟨g, 0, none⟩) n cap) n xs) (hn : d.size = n) :
    (Go.Sort.grow (Go.Sort.putRow enc (Go.Sort.ahead w m) g 0 d) os).ownsRow base e 1 (.slice (some ⟨g, 0, none⟩) n cap) n (d.toList.map enc) := by
  refine ⟨by simp [hn], ?_⟩
  rcases h.2 with ⟨h0, _⟩ | ⟨g', cap', cur, h1, h2, h3, h4, h5, h6, h7⟩
  · cases h0
  · cases h1
    have hg : g < w.heap.size := (Array.getElem?_eq_some_iff.1 h3).1
    refine .inr ⟨g, cap, Go.Sort.putCells enc 0 d cur, rfl, h2, ?_, h4, h5, ?_, ?_⟩
    · rw [sorted_heap _ _ _ _ _ _ _ hg, if_pos rfl, h3]; rfl
    · simp [Go.Sort.putCells, h6]
    · apply List.ext_getElem?
      intro j
      rw [List.getElem?_take]
      split
      · rename_i hj
        have hj2 : j < d.size := by omega
        have hc : j < cur.size := by rw [h6]; omega
        simp only [Go.Sort.putCells, Array.getElem?_toList, Array.getElem?_mapIdx, Array.getElem?_eq_getElem hc, Option.map_some, Nat.zero_le, true_and, Nat.zero_add, if_pos hj2, Nat.sub_zero, List.getElem?_map]
        rw [Array.getElem?_eq_getElem hj2, getElem!_pos d j hj2]
        rfl
      · rename_i hj
        rw [List.getElem?_eq_none]
        simp; omega
theorem holds_own {α : Type} [Inhabited α] (enc : α → Value) {w : World} {base e g cap : Nat} {d : Array α} (h : w.ownsRow base e 1 (.slice (some ⟨g, 0, none⟩) d.size cap) d.size (d.toList.map enc)) : Go.Sort.Holds enc w g 0 d := by
  intro j hj
  rw [Nat.zero_add]
  refine ⟨?_, h.frozenAt j⟩
  rw [h.cellAt j (by omega), List.getElem?_map, Array.getElem?_toList, Array.getElem?_eq_getElem hj, getElem!_pos d j hj]
  rfl
def srt (l : List Int) : List Int := l.mergeSort fun x y => decide (x ≤ y)
theorem sort_ints (base g cap : Nat) (xs : List Int) (w : World) (hl : xs.length ≤ 100000) (h : w.ownsRow base 3 1 (.slice (some ⟨g, 0, none⟩) xs.length cap) xs.length (ints xs)) :
    Calls Tryz.prog 121 #[.slice (some ⟨g, 0, none⟩) xs.length cap] w fun e w' => (∃ u, e = .returned u) ∧ w'.ownsRow base 3 1 (.slice (some ⟨g, 0, none⟩) xs.length cap) xs.length (ints (srt xs)) ∧ w.grownBy w' (some g) := by
  have hcon := Tryz.slices_Sort_int g 0 cap xs w (holds_own (.int .i64) (base := base) (e := 3) (cap := cap) (by simpa [ints] using h)) (h.lt g rfl).2 (by omega)
  refine hcon.mono ?_
  rintro e w' ⟨rfl, m, os, rfl⟩
  refine ⟨⟨_, rfl⟩, ?_, sorted_grown _ _ _ _ _ _⟩
  have := own_sorted (.int .i64) (m := m) (os := os) (d := (xs.mergeSort fun x y => decide (x ≤ y)).toArray) h (by simp)
  simpa [ints, srt] using this
/-- Compare, as rows of numbers. -/
def cmpL : List Int → List Int → Int
  | [], [] => 0
  | [], _ :: _ => -1
  | _ :: _, [] => 1
  | a :: l, b :: k => if a < b then -1 else if b < a then 1 else cmpL l k
theorem isNaN_any (a : Int) (w : World) : Calls Tryz.prog 149 #[.int .i64 a] w fun e w' => e = .returned (.bool false) ∧ w' = w := by
  go_enter Tryz.func149, Tryz.ntmps149
  go_wp2_with fail
  all_goals go_ret
  all_goals exact ⟨ret_bool (by simp), rfl⟩
theorem cmpInt_any (a b : Int) (w : World) : Calls Tryz.prog 124 #[.int .i64 a, .int .i64 b] w fun e w' => e = .returned (.int .i64 (if a < b then -1 else if b < a then 1 else 0)) ∧ w' = w := by
  have N := Lib.hid (fun x => isNaN_any x w)
  by_cases h1 : a < b
  · rw [if_pos h1]
    go_enter Tryz.func124, Tryz.ntmps124
    go_wp2_with (go_at_call 149; (with_reducible refine (N.out _).mono ?_); rintro e w1 ⟨rfl, rfl⟩)
    go_ret
    exact ⟨rfl, rfl⟩
  · rw [if_neg h1]
    by_cases h2 : b < a
    · rw [if_pos h2]
      go_enter Tryz.func124, Tryz.ntmps124
      go_wp2_with (go_at_call 149; (with_reducible refine (N.out _).mono ?_); rintro e w1 ⟨rfl, rfl⟩)
      go_ret
      exact ⟨rfl, rfl⟩
    · rw [if_neg h2]
      go_enter Tryz.func124, Tryz.ntmps124
      go_wp2_with (go_at_call 149; (with_reducible refine (N.out _).mono ?_); rintro e w1 ⟨rfl, rfl⟩)
      go_ret
      exact ⟨rfl, rfl⟩
set_option maxRecDepth 100000 in
set_option maxHeartbeats 2000000 in
theorem compare_any (A B : Option Addr) (c d : Nat) (a b : List Int) (ha : a.length ≤ 140737488351232) (hb : b.length ≤ 140737488351232) (w : World) (hA : Lies w A (ints a)) (hB : Lies w B (ints b)) :
    Calls Tryz.prog 105 #[.slice A a.length c, .slice B b.length d] w fun e w' => e = .returned (.int .i64 (cmpL a b)) ∧ w' = w := by
  obtain ⟨n, en⟩ : ∃ n, n = a.length := ⟨_, rfl⟩
  obtain ⟨m, em⟩ : ∃ m, m = b.length := ⟨_, rfl⟩
  have CA := Lib.hid (fun k (hk : k < n) => lies_cell hA (k := k) (by rw [← en]; exact hk))
  have CB := Lib.hid (fun k (hk : k < m) => lies_cell hB (k := k) (by rw [← em]; exact hk))
  have DA := Lib.hid (fun k (hk : k < n) => drop_getD (l := a) (j := k) (d := 0) (by rw [← en]; exact hk))
  have DB := Lib.hid (fun k (hk : k < m) => drop_getD (l := b) (j := k) (d := 0) (by rw [← em]; exact hk))
  have EA := Lib.hid (fun k (hk : n ≤ k) => show a.drop k = [] from List.drop_eq_nil_of_le (by rw [← en]; exact hk))
  have EB := Lib.hid (fun k (hk : m ≤ k) => show b.drop k = [] from List.drop_eq_nil_of_le (by rw [← em]; exact hk))
  obtain ⟨R, eR⟩ : ∃ R, R = cmpL a b := ⟨_, rfl⟩
  have ER := Lib.hid eR
  have CI := Lib.hid (fun x y w' => cmpInt_any x y w')
  rw [← en, ← em, ← eR]
  rw [← en] at ha
  rw [← em] at hb
  clear hA hB en em eR
  go_enter Tryz.func105, Tryz.ntmps105
  go_wp2_with fail
  go_loopw [11, 5, 6, 7, 8] (fun i _ _ _ _ wr => ∃ (k : Nat), k ≤ n ∧ k ≤ m ∧ i = .int .i64 k ∧ cmpL (a.drop k) (b.drop k) = R ∧ wr = w) (fun i _ _ _ _ _ => n - (intOf i).toNat)
  case atStart => exact ⟨0, by omega, by omega, rfl, by rw [ER.out]; rfl, rfl⟩
  case round =>
    obtain ⟨k, hk, hkm, rfl, hr, rfl⟩ := hrel
    by_cases hlt : k < n
    · have hlt2 : (k : Int) < n := by omega
      obtain ⟨b1, o1, eA, hb1, c1⟩ := CA.out k hlt
      rw [DA.out k hlt] at hr
      rw [eA]
      clear eA
      by_cases hlm : k < m
      · have hlm2 : (k : Int) < m := by omega
        obtain ⟨b2, o2, eB, hb2, c2⟩ := CB.out k hlm
        rw [DB.out k hlm] at hr
        rw [eB]
        clear eB
        generalize a.getD k 0 = x at c1 hr
        generalize b.getD k 0 = y at c2 hr
        have hr2 : (if x < y then (-1 : Int) else if y < x then 1 else cmpL (a.drop (k + 1)) (b.drop (k + 1))) = R := hr
        have C0 := Lib.hid (CI.out x y wr)
        clear hr
        by_cases h1 : x < y
        · rw [if_pos h1] at hr2 C0
          have HR := Lib.hid hr2
          clear hr2
          go_wp2_with (go_at_call 124; (with_reducible refine C0.out.mono ?_); rintro e w1 ⟨rfl, rfl⟩)
          go_ret
          exact ⟨by rw [← HR.out]; rfl, rfl⟩
        · rw [if_neg h1] at hr2 C0
          by_cases h2 : y < x
          · rw [if_pos h2] at hr2 C0
            have HR := Lib.hid hr2
            clear hr2
            go_wp2_with (go_at_call 124; (with_reducible refine C0.out.mono ?_); rintro e w1 ⟨rfl, rfl⟩)
            go_ret
            exact ⟨by rw [← HR.out]; rfl, rfl⟩
          · rw [if_neg h2] at hr2 C0
            have HR := Lib.hid hr2
            clear hr2
            go_wp2_with (go_at_call 124; (with_reducible refine C0.out.mono ?_); rintro e w1 ⟨rfl, rfl⟩)
            go_roundw
            case rel => exact ⟨k + 1, by omega, by omega, by go_num, HR.out, by first | rfl | trivial⟩
            case measure => simp [intOf]; omega
      · have hlm2 : ¬ (k : Int) < m := by omega
        have hlm3 : (m : Int) ≤ k := by omega
        rw [EB.out k (by omega)] at hr
        have hr2 : (1 : Int) = R := hr
        have HR := Lib.hid hr2
        clear hr hr2
        go_wp2_with fail
        go_ret
        exact ⟨by rw [← HR.out]; rfl, rfl⟩
    · obtain rfl : k = n := by omega
      have hlt2 : ¬ (k : Int) < k := by omega
      rw [EA.out k (Nat.le_refl _)] at hr
      by_cases hlm : k < m
      · have hlm2 : (k : Int) < m := by omega
        rw [DB.out k hlm] at hr
        have hr2 : (-1 : Int) = R := hr
        have HR := Lib.hid hr2
        clear hr hr2
        go_wp2_with fail
        go_ret
        exact ⟨by rw [← HR.out]; rfl, rfl⟩
      · have hlm2 : ¬ (k : Int) < m := by omega
        rw [EB.out k (by omega)] at hr
        have hr2 : (0 : Int) = R := hr
        have HR := Lib.hid hr2
        clear hr hr2
        go_wp2_with fail
        go_ret
        exact ⟨by rw [← HR.out]; rfl, rfl⟩
end Go.Proofs.YtmlaepbmdfmgbaaGreat
namespace Go.Proofs.YtmlaepbmdfmgbaaGreat
open Go Go.Proofs Go.Shelf Go.RowKit Go.Lib Go.Maps
theorem cmp_heads {l k : List Nat} (hl : l ≠ []) (hk : k ≠ []) (h : l = k ∨ l.getD 0 0 ≠ k.getD 0 0) : decide (cmpL (nums l) (nums k) < 0) = decide (l.getD 0 0 < k.getD 0 0) := by
  have self : ∀ x : List Int, cmpL x x = 0 := fun x => by
    induction x with
    | nil => rfl
    | cons a x ih => simp [cmpL, ih]
  rcases h with rfl | h
  · rw [self]; simp
  · cases l with
    | nil => exact absurd rfl hl
    | cons a l =>
      cases k with
      | nil => exact absurd rfl hk
      | cons b k =>
        have hab : a ≠ b := by simpa using h
        simp only [nums, List.map_cons, cmpL]
        by_cases h1 : a < b
        · rw [if_pos (by omega)]
          simp [h1]
        · rw [if_neg (by omega), if_pos (by omega)]
          simp; omega
theorem perm_getD {α : Type} (l : List α) (d : α) : (List.range l.length).map (fun i => l.getD i d) = l := by
  refine List.ext_getElem (by simp) fun i h1 h2 => ?_
  simp [List.getD, List.getElem?_eq_getElem h2]
/-- Rows in another order. -/
theorem RowsO.order {B : Nat} {W : World} {vs : List Value} {L : List (List Nat)} {s : List Nat} (h : RowsO B W vs L) (hs : s.Nodup) (hl : ∀ i ∈ s, i < L.length) : RowsO B W (s.map fun i => vs.getD i undef) (s.map fun i => L.getD i []) := by
  have e : ∀ i, (hi : i < s.length) → (s.map fun i => vs.getD i undef).getD i undef = vs.getD s[i] undef ∧ (s.map fun i => L.getD i []).getD i [] = L.getD s[i] [] ∧ s[i] < L.length := fun i hi => by
    refine ⟨?_, ?_, hl _ (List.getElem_mem hi)⟩ <;> simp [List.getD, List.getElem?_eq_getElem hi]
  refine ⟨by simp, fun i hi => ?_, fun i j k hi hj hij hk => ?_⟩
  · have hi' : i < s.length := by simpa using hi
    obtain ⟨e1, e2, e3⟩ := e i hi'
    rw [e1, e2]
    exact h.row _ e3
  · have hi' : i < s.length := by simpa using hi
    have hj' : j < s.length := by simpa using hj
    obtain ⟨e1, _, e3⟩ := e i hi'
    obtain ⟨f1, _, f3⟩ := e j hj'
    rw [e1] at hk
    rw [f1]
    exact h.apart _ _ k e3 f3 (fun e => hij ((List.getElem_inj hs).1 e)) hk
set_option maxRecDepth 100000 in
set_option maxHeartbeats 1000000 in
theorem sort_rows (B B' g cap k : Nat) (vs : List Value) (L : List (List Nat)) (w : World) (hk : k = L.length) (h0 : 0 < k) (hm : k ≤ 1000) (hms : ∀ i, i < L.length → (L.getD i []).length ≤ 1000) (hne : ∀ i, i < L.length → L.getD i [] ≠ []) (hd : ∀ i j, i < L.length → j < L.length → i ≠ j → (L.getD i []).getD 0 0 ≠ (L.getD j []).getD 0 0)
    (ho : w.ownsRow B 36 1 (.slice (some ⟨g, 0, none⟩) k cap) k vs) (hR : RowsO B' w vs L) :
    Calls Tryz.prog 104 #[.slice (some ⟨g, 0, none⟩) k cap, .func (.func 105) #[] #[]] w fun e w' => ∃ vs' L', (∃ u, e = .returned u) ∧ L'.Perm L ∧ (L'.Pairwise fun p q => p.getD 0 0 ≤ q.getD 0 0) ∧ w'.ownsRow B 36 1 (.slice (some ⟨g, 0, none⟩) k cap) k vs' ∧ RowsO B' w' vs' L' ∧ w.grownBy w' (some g) := by
  let cl : Nat → Nat := fun i => if i < k then i else 0
  have hcl : ∀ i, cl i < k := fun i => by simp only [cl]; split <;> omega
  have hcl2 : ∀ i, i < k → cl i = i := fun i hi => by simp only [cl]; rw [if_pos hi]
  let enc : Nat → Value := fun i => vs.getD (cl i) undef
  let cf : Nat → Nat → Int := fun i j => cmpL (nums (L.getD (cl i) [])) (nums (L.getD (cl j) []))
  let hdd : Nat → Nat := fun i => (L.getD (cl i) []).getD 0 0
  have hlv := hR.len
  have hrows : ∀ i, ∃ A c, enc i = .slice A (nums (L.getD (cl i) [])).length c ∧ w.ownsRow B' 3 1 (.slice A (nums (L.getD (cl i) [])).length c) (nums (L.getD (cl i) [])).length (ints (nums (L.getD (cl i) []))) := fun i => by
    have := hR.row (cl i) (by have := hcl i; omega)
    obtain ⟨A, c, e, _, _⟩ := own_slice this
    rw [e] at this
    exact ⟨A, c, by rw [nums_len]; exact e, by rw [nums_len]; exact this⟩
  have hone : OneCell enc := fun x => by
    obtain ⟨A, c, e, _⟩ := hrows x
    show (enc x).oneCell' = true
    rw [e]; rfl
  have hlt : ∀ i j, ltOf cf i j = decide (hdd i < hdd j) := fun i j => by
    have h1 := hcl i
    have h2 := hcl j
    refine cmp_heads (hne _ (by omega)) (hne _ (by omega)) ?_
    by_cases e : cl i = cl j
    · exact .inl (by rw [e])
    · exact .inr (hd _ _ (by omega) (by omega) e)
  have hswo : Go.Sort.SWO (ltOf cf) := by
    refine ⟨fun x => ?_, fun x y z h1 h2 => ?_, fun x y z h1 h2 => ?_⟩
    · rw [hlt]; simp
    · rw [hlt, decide_eq_true_eq] at *; omega
    · rw [hlt, decide_eq_false_iff_not] at *; omega
  have eg : ∀ args w, (callFunc 105 args).run Tryz.prog w = .ok (.enter 105 args) w := enters_of Tryz.func105 (by kernel_rfl) rfl
  have emap : (Array.range k).toList.map enc = vs := by
    rw [Array.toList_range]
    conv => rhs; rw [← perm_getD vs undef]
    rw [hlv, ← hk]
    refine List.map_congr_left fun i hi => ?_
    show vs.getD (cl i) undef = _
    rw [hcl2 i (List.mem_range.1 hi)]
  have hgt : ∀ i q, i < L.length → (vs.getD i undef).ownBlock = some q → q ≠ g := fun i q hi hq e => by
    subst e
    obtain ⟨g', cap', e1, _, _, _, _⟩ := own_shape ho h0
    rcases ho.2 with ⟨e2, _⟩ | ⟨g2, cap2, cur2, e2, _, hg2, _⟩
    · cases e2
    · simp only [Value.slice.injEq, Option.some.injEq, Addr.mk.injEq, and_true, true_and] at e2
      obtain ⟨rfl, rfl⟩ := e2
      exact own_ne (hR.row i hi) (b := q) (vs := cur2) (T := 36) hg2 (by decide) hq
  have hcmp : CmpLays1 Tryz.prog 105 #[] enc cf g 0 (Array.range k).size w := by
    intro m os dk _ x y
    obtain ⟨A1, c1, e1, o1⟩ := hrows x
    obtain ⟨A2, c2, e2, o2⟩ := hrows y
    have hgr := sorted_grown enc w g m dk os
    have keepS : ∀ {n : Nat} {v : Value} {xs : List Value} (i : Nat), i < L.length → v = vs.getD i undef → w.ownsRow B' 3 1 v n xs → (Go.Sort.grow (Go.Sort.putRow enc (Go.Sort.ahead w m) g 0 dk) os).ownsRow B' 3 1 v n xs := fun {n v xs} i hi ev o =>
      own_kept o fun q hq => hgr.block q (o.lt q hq).2 (fun e => hgt i q hi (by rw [← ev]; exact hq) (Option.some.inj e))
    have l1 := own_lies1 (keepS (cl x) (by have := hcl x; omega) e1.symm o1)
    have l2 := own_lies1 (keepS (cl y) (by have := hcl y; omega) e2.symm o2)
    rw [show (#[enc x, enc y] ++ #[] : Array Value) = #[enc x, enc y] from rfl, e1, e2]
    refine (compare_any A1 A2 c1 c2 _ _ (by rw [nums_len]; have := hms (cl x) (by have := hcl x; omega); omega) (by rw [nums_len]; have := hms (cl y) (by have := hcl y; omega); omega) _ l1 l2).mono ?_
    rintro e w' ⟨rfl, rfl⟩
    exact ⟨rfl, 0, #[], by rw [Go.Sort.grow_empty]; rfl⟩
  have hcon := Tryz.slices_SortFunc enc hone cf hswo 105 #[] g 0 cap (Array.range k) w eg hcmp (holds_own enc (by rw [emap]; simpa using ho)) (ho.lt g rfl).2 (by simp; omega)
  rw [Array.size_range] at hcon
  refine hcon.mono ?_
  rintro e w' ⟨rfl, d', m, os, hp, hs, rfl⟩
  have hz : d'.size = k := by simpa using hp.1
  have hpm : d'.toList.Perm (List.range k) := by
    have h3 := hp.2.2
    have e1 : (d'.extract 0 k).toList = d'.toList := by rw [← hz]; simp
    have e2 : ((Array.range k).extract 0 k).toList = List.range k := by
      have := Array.extract_size (xs := Array.range k)
      rw [Array.size_range] at this
      rw [this, Array.toList_range]
    rw [e1, e2] at h3
    exact h3
  have hnd : d'.toList.Nodup := (hpm.nodup_iff).2 List.nodup_range
  have hlt' : ∀ i ∈ d'.toList, i < k := fun i hi => List.mem_range.1 (hpm.mem_iff.1 hi)
  have hgr := sorted_grown enc w g m d' os
  have hown := own_sorted enc (m := m) (os := os) (d := d') ho hz
  have ev : d'.toList.map enc = d'.toList.map fun i => vs.getD i undef := List.map_congr_left fun i hi => by
    show vs.getD (cl i) undef = _
    rw [hcl2 i (hlt' i hi)]
  have hR2 : RowsO B' (Go.Sort.grow (Go.Sort.putRow enc (Go.Sort.ahead w m) g 0 d') os) vs L := hR.kept fun i q hi hq => hgr.block q ((hR.row i hi).lt q hq).2 (fun e => hgt i q hi hq (Option.some.inj e))
  refine ⟨d'.toList.map enc, d'.toList.map fun i => L.getD i [], ⟨_, rfl⟩, ?_, ?_, hown, ?_, hgr⟩
  · have h3 := hpm.map fun i => L.getD i []
    rw [hk, perm_getD L []] at h3
    exact h3
  · rw [List.pairwise_map]
    rw [List.pairwise_iff_getElem]
    intro i j hi hj hij
    have h4 := hs i j (Nat.zero_le _) hij (by rw [← hz]; simpa using hj)
    have hi2 : i < d'.size := by simpa using hi
    have hj2 : j < d'.size := by simpa using hj
    rw [hlt, decide_eq_false_iff_not, getElem!_pos d' i hi2, getElem!_pos d' j hj2] at h4
    simp only [hdd] at h4
    rw [hcl2 _ (hlt' _ (by simp)), hcl2 _ (hlt' _ (by simp))] at h4
    simp only [Array.getElem_toList]
    omega
  · rw [ev]
    exact hR2.order hnd (fun i hi => by rw [← hk]; exact hlt' i hi)
end Go.Proofs.YtmlaepbmdfmgbaaGreat
namespace Go.Proofs.YtmlaepbmdfmgbaaGreat
open Go Go.Proofs Go.Shelf Go.RowKit Go.Lib Go.Maps
noncomputable def rG (G : List (List Nat)) : Nat → Nat → Bool := fun a b => by classical exact decide (Reach (adjG G) a b)
theorem rG_is (G : List (List Nat)) (n : Nat) : IsR (adjG G) n (rG G) := fun a b _ _ => by unfold rG; simp
def srtN (l : List Nat) : List Nat := l.mergeSort fun x y => decide (x ≤ y)
theorem srtN_nums (l : List Nat) : srt (nums l) = nums (srtN l) := by
  unfold srt srtN nums
  rw [List.map_mergeSort (s := fun x y : Int => decide (x ≤ y))]
  intro a _ b _
  simp
theorem srtN_perm (l : List Nat) : (srtN l).Perm l := List.mergeSort_perm _ _
theorem srtN_rises (l : List Nat) : (srtN l).Pairwise (· ≤ ·) := by
  have := List.pairwise_mergeSort (le := fun x y : Nat => decide (x ≤ y)) (fun a b c h1 h2 => by simp at *; omega) (fun a b => by simp; omega) l
  exact this.imp fun h => by simpa using h
/-- What the loop back stands on: the stack, the search back, the parts so far. -/
structure LS (B : Nat) (w3 W : World) (sb b : Nat) (gv va lv : Value) (Q : List Nat) (M : Nat → Bool) (vsP : List Value) (P : List (List Nat)) : Prop where
  size : w3.heap.size ≤ W.heap.size
  keep : ∀ j, j < w3.heap.size → j ≠ sb → j ≠ b → W.heap[j]? = w3.heap[j]?
  stk : Stk B W sb va Q
  old : ∀ k, va.ownBlock = some k → k < w3.heap.size
  blk : Blk W b (searchCells gv M).toArray 178
  lrow : W.ownsRow w3.heap.size 36 1 lv P.length vsP
  rows : RowsO w3.heap.size W vsP P
  sl : sb < w3.heap.size
  bl : b < w3.heap.size
def lenAt (sb : Nat) (W : World) : Nat := match W.cell? ⟨sb, 0, none⟩ with | some (.slice _ n _) => n | _ => 0
theorem LS.len {B : Nat} {w3 W : World} {sb b : Nat} {gv va lv : Value} {Q : List Nat} {M : Nat → Bool} {vsP : List Value} {P : List (List Nat)} (h : LS B w3 W sb b gv va lv Q M vsP P) : lenAt sb W = Q.length := by
  obtain ⟨A, c, rfl, _, _⟩ := own_slice h.stk.own
  unfold lenAt
  rw [h.stk.box.cell 0]
  rfl
/-- All but what is new and the search is kept. -/
theorem LS.later {B : Nat} {w3 W W' : World} {sb b : Nat} {gv va lv : Value} {Q : List Nat} {M M' : Nat → Bool} {vsP : List Value} {P : List (List Nat)} (h : LS B w3 W sb b gv va lv Q M vsP P) (hs : W.heap.size ≤ W'.heap.size) (hk : ∀ j, j < W.heap.size → j ≠ b → W'.heap[j]? = W.heap[j]?)
    (hb : Blk W' b (searchCells gv M').toArray 178) : LS B w3 W' sb b gv va lv Q M' vsP P := by
  have hlt : ∀ j, j < w3.heap.size → j < W.heap.size := fun j hj => Nat.lt_of_lt_of_le hj h.size
  have hsb : sb ≠ b := fun e => by
    subst e
    have := h.blk.symm.trans h.stk.box
    simp at this
  exact ⟨Nat.le_trans h.size hs, fun j hj h1 h2 => (hk j (hlt j hj) h2).trans (h.keep j hj h1 h2), ⟨(hk sb (hlt sb h.sl) hsb).trans h.stk.box, own_kept h.stk.own (fun k e => hk k (h.stk.own.lt k e).2 (fun e2 => own_ne h.stk.own h.blk (by decide) (by rw [e, e2])))⟩, h.old, hb,
    own_kept h.lrow (fun k e => hk k (h.lrow.lt k e).2 (fun e2 => own_ne h.lrow h.blk (by decide) (by rw [e, e2]))), h.rows.kept (fun i k hi e => hk k ((h.rows.row i hi).lt k e).2 (fun e2 => own_ne (h.rows.row i hi) h.blk (by decide) (by rw [e, e2]))), h.sl, h.bl⟩
theorem LS.later8 {B : Nat} {w3 W W' : World} {sb b s8 : Nat} {gv va lv : Value} {Q : List Nat} {M M' : Nat → Bool} {vsP : List Value} {P : List (List Nat)} (h : LS B w3 W sb b gv va lv Q M vsP P) {cs : Array Value} (h8 : Blk W s8 cs 175) (h38 : w3.heap.size ≤ s8)
    (hs : W.heap.size ≤ W'.heap.size) (hk : ∀ j, j < W.heap.size → j ≠ b → j ≠ s8 → W'.heap[j]? = W.heap[j]?)
    (hb : Blk W' b (searchCells gv M').toArray 178) : LS B w3 W' sb b gv va lv Q M' vsP P := by
  have hlt : ∀ j, j < w3.heap.size → j < W.heap.size := fun j hj => Nat.lt_of_lt_of_le hj h.size
  have hsb : sb ≠ b := fun e => by
    subst e
    have := h.blk.symm.trans h.stk.box
    simp at this
  have old : ∀ j, j < w3.heap.size → j ≠ s8 := fun j hj e => by omega
  exact ⟨Nat.le_trans h.size hs, fun j hj h1 h2 => (hk j (hlt j hj) h2 (old j hj)).trans (h.keep j hj h1 h2), ⟨(hk sb (hlt sb h.sl) hsb (old sb h.sl)).trans h.stk.box, own_kept h.stk.own (fun k e => hk k (h.stk.own.lt k e).2 (fun e2 => own_ne h.stk.own h.blk (by decide) (by rw [e, e2])) (old k (h.old k e)))⟩, h.old, hb,
    own_kept h.lrow (fun k e => hk k (h.lrow.lt k e).2 (fun e2 => own_ne h.lrow h.blk (by decide) (by rw [e, e2])) (fun e2 => own_ne h.lrow h8 (by decide) (by rw [e, e2]))), h.rows.kept (fun i k hi e => hk k ((h.rows.row i hi).lt k e).2 (fun e2 => own_ne (h.rows.row i hi) h.blk (by decide) (by rw [e, e2])) (fun e2 => own_ne (h.rows.row i hi) h8 (by decide) (by rw [e, e2]))), h.sl, h.bl⟩
theorem LS.taken {B : Nat} {w3 W W' : World} {sb b : Nat} {gv va va' lv : Value} {Q Q' : List Nat} {M : Nat → Bool} {vsP : List Value} {P : List (List Nat)} (h : LS B w3 W sb b gv va lv Q M vsP P) (hs : Stk B W' sb va' Q') (ho : OffS sb sb va W W') (hw : ∀ k, k < W.heap.size → k ≠ sb → W'.heap[k]? = W.heap[k]?) (he : va'.ownBlock = va.ownBlock) : LS B w3 W' sb b gv va' lv Q' M vsP P := by
  have hlt : ∀ j, j < w3.heap.size → j < W.heap.size := fun j hj => Nat.lt_of_lt_of_le hj h.size
  have hsb : b ≠ sb := fun e => by
    subst e
    have := h.blk.symm.trans h.stk.box
    simp at this
  exact ⟨Nat.le_trans h.size ho.size, fun j hj h1 h2 => (hw j (hlt j hj) h1).trans (h.keep j hj h1 h2), hs, fun k e => h.old k (by rw [← he]; exact e), (hw b (hlt b h.bl) hsb).trans h.blk,
    own_kept h.lrow (fun k e => hw k (h.lrow.lt k e).2 (fun e2 => own_ne h.lrow h.stk.box (by decide) (by rw [e, e2]))), h.rows.kept (fun i k hi e => hw k ((h.rows.row i hi).lt k e).2 (fun e2 => own_ne (h.rows.row i hi) h.stk.box (by decide) (by rw [e, e2]))), h.sl, h.bl⟩
/-- One part more. -/
theorem LS.push {B : Nat} {w3 W W' : World} {sb b : Nat} {gv va lv lv' pv : Value} {Q : List Nat} {M : Nat → Bool} {vsP : List Value} {P : List (List Nat)} {S : List Nat} (h : LS B w3 W sb b gv va lv Q M vsP P) (hp : W.ownsRow w3.heap.size 3 1 pv S.length (ints (nums S))) (hpn : ∀ k, pv.ownBlock = some k → ∀ i, i < P.length → (vsP.getD i undef).ownBlock ≠ some k)
    (ho : W'.ownsRow w3.heap.size 36 1 lv' (P.length + 1) (vsP ++ [pv])) (hg : W.grownBy W' lv.ownBlock) : LS B w3 W' sb b gv va lv' Q M (vsP ++ [pv]) (P ++ [S]) := by
  have hlt : ∀ j, j < w3.heap.size → j < W.heap.size := fun j hj => Nat.lt_of_lt_of_le hj h.size
  have old : ∀ j, j < w3.heap.size → lv.ownBlock ≠ some j := fun j hj e => by have := (h.lrow.lt j e).1; omega
  have kept : ∀ j, j < w3.heap.size → W'.heap[j]? = W.heap[j]? := fun j hj => hg.block j (hlt j hj) (fun e => old j hj e.symm)
  have r3 : ∀ {n : Nat} {v : Value} {xs : List Value}, W.ownsRow w3.heap.size 3 1 v n xs → ∀ k, v.ownBlock = some k → W'.heap[k]? = W.heap[k]? := fun {n v xs} hr k hk => hg.block k (hr.lt k hk).2 (fun e => by
    rcases h.lrow.2 with ⟨e1, _⟩ | ⟨g, cap, cur, e1, _, hgb, _⟩
    · rw [e1] at e; simp [Value.ownBlock] at e
    · rw [e1] at e
      simp only [Value.ownBlock, Option.some.injEq] at e
      subst e
      exact own_ne hr (b := k) (vs := cur) (T := 36) hgb (by decide) hk)
  refine ⟨Nat.le_trans h.size hg.size, fun j hj h1 h2 => (kept j hj).trans (h.keep j hj h1 h2), ⟨(kept sb h.sl).trans h.stk.box, own_kept h.stk.own (fun k e => kept k (h.old k e))⟩, h.old, (kept b h.bl).trans h.blk, by rw [List.length_append]; exact ho, ?_, h.sl, h.bl⟩
  exact h.rows.push (own_kept hp (r3 hp)) (fun i k hi e => r3 (h.rows.row i hi) k e) hpn
end Go.Proofs.YtmlaepbmdfmgbaaGreat
namespace Go.Proofs.YtmlaepbmdfmgbaaGreat
open Go Go.Proofs Go.Shelf Go.RowKit Go.Lib Go.Maps
set_option maxRecDepth 100000 in
set_option maxHeartbeats 8000000 in
theorem loose_any (A : Option Addr) (c : Nat) (vs : List Value) (G : List (List Nat)) (hR : RG G) (w : World) (hG : Gph w A vs (G.map nums)) :
    Calls Tryz.prog 103 #[.slice A G.length c] w fun e w' => ∃ lv vsP P, e = .returned lv ∧ P.Perm (sccs (rG G) G.length) ∧ w'.ownsRow w.heap.size 36 1 lv P.length vsP ∧ RowsO w.heap.size w' vsP P ∧ Below w.heap.size w w' := by
  obtain ⟨sb, esb⟩ : ∃ u, u = w.heap.size := ⟨_, rfl⟩
  have hn := hR.most
  have TH := Lib.hid (fun w1 v1 m O a ha (hd : O.length + c_unmet m ≤ 1000) (h : Sch (fun j => j < w.heap.size) w (w.heap.size + 1) w.heap.size (.slice A G.length c) w.heap.size w1 v1 m O) =>
    through_any hR (GT.of_gph hG) (w.heap.size + 1) w.heap.size w.heap.size 64 w1 v1 m O a ha (Nat.le_trans List.countP_le_length (by simp)) hd h)
  have HG := Lib.hid hG
  have HR := Lib.hid hR
  have TU := Lib.hid (fun w' (b : Below w.heap.size w w') => turned_any A c vs G hR w' (hG.below b))
  have UN := Lib.hid (fun l N m' (hl : ∀ a ∈ l, a < G.length) (h : Thr (adjG G) (fun _ => false) l N m') => Thr.unmet hR.inR hR.most h hl)
  obtain ⟨n, en⟩ : ∃ n, n = G.length := ⟨_, rfl⟩
  have EN := Lib.hid en
  rw [← en] at TH TU UN hn ⊢
  clear hR hG en
  go_enter Tryz.func103, Tryz.ntmps103
  go_upto_region 4 with (refine wpList_store_whole rfl 178 (.tmp 4) (.tmp 10) rfl (w.heap.size + 1) (searchCells (.slice A n c) fun _ => false).toArray rfl (congrArg Value.agg (Tryz.made_search (.slice A n c))) 178 Tryz.zeroCells178 (by have := Blk.new (w.alloc (.cells #[.slice none 0 0] 175)) Tryz.zeroCells178 178; rw [World.size_alloc] at this; exact this) (by kernel_rfl) (by kernel_rfl) (Tryz.ones_search _) ?_; intro w1 kb hg1)
  have hb1 : Below w.heap.size w w1 := grown_below (B2 w _ _) (by simp; omega) hg1 (fun k e => by cases e; omega)
  have ks : Blk w1 w.heap.size #[.slice none 0 0] 175 := ((Blk.new w _ _).alloc _).grown hg1 (fun e => by have := Option.some.inj e; omega)
  have S0 : RowKit.Hid (Sch (fun j => j < w.heap.size) w (w.heap.size + 1) w.heap.size (.slice A n c) w.heap.size w1 (.slice none 0 0) (fun _ => false) []) := Lib.hid ⟨kb, ⟨ks, World.ownsRow_nil _ _ _ _⟩, hb1.size, fun j hj => hb1.block j hj, by omega, by omega, fun j _ => by simp [Value.ownBlock], hb1.size, fun j h => h⟩
  have HB1 := Lib.hid hb1
  have ESB := Lib.hid esb
  have RT := Lib.hid (fun k (hk : k < n) => show List.range (k + 1) = List.range k ++ [k] from List.range_succ)
  clear hb1 ks kb hg1 esb
  go_loopw [13, 5] (fun i _ wr => ∃ (k : Nat) (v : Value) (N : List Nat) (m : Nat → Bool), k ≤ n ∧ i = .int .i64 k ∧ Thr (adjG G) (fun _ => false) (List.range k) N m ∧ Sch (fun j => j < w.heap.size) w (w.heap.size + 1) w.heap.size (.slice A n c) w.heap.size wr v m N ∧ Below w.heap.size w wr) (fun i _ _ => n - (intOf i).toNat)
  case atStart => exact ⟨0, _, [], _, by omega, rfl, .nil _, S0.out, HB1.out⟩
  case round =>
    obtain ⟨k, v, N, m, hk, rfl, hth, hsc, hbl⟩ := hrel
    have HTH := Lib.hid hth
    have HSC := Lib.hid hsc
    have HBL := Lib.hid hbl
    have hun := UN.out _ N m (fun x hx => by have := List.mem_range.1 hx; have := EN.out; omega) hth
    rw [unmet_none] at hun
    by_cases hlt : k < n
    · have hlt2 : (k : Int) < n := by omega
      have HC := Lib.hid (TH.out wr v m N k hlt (by omega) hsc)
      have RTK := Lib.hid (RT.out k hlt)
      clear hth hsc hbl hun
      go_wp2_with fail
      refine HC.out.mono ?_
      rintro e w4 ⟨v4, N4, m4, ⟨u4, rfl⟩, ht4, hs4, ho4, hf4⟩
      have H4 := Lib.hid (And.intro ht4 (And.intro hs4 (And.intro ho4 hf4)))
      clear ht4 hs4 ho4 hf4 HC
      go_wp2_with fail
      go_roundw
      case rel =>
        obtain ⟨ht4, hs4, ho4, hf4⟩ := H4.out
        exact ⟨k + 1, v4, N ++ N4, m4, by omega, by go_num, by rw [RTK.out]; exact HTH.out.app ht4, hs4, ho4.below HBL.out (by omega) (Nat.le_refl _) (fun q hq => (HSC.out.stk.own.lt q hq).1) HBL.out.size⟩
      case measure => simp [intOf]; omega
    · obtain rfl : k = n := by omega
      have hlt2 : ¬ (k : Int) < k := by omega
      have T0 := Lib.hid (TU.out wr hbl)
      clear hth hsc hbl
      go_upto_region 9 with (first | (go_at_call 102; (with_reducible refine T0.out.mono ?_); rintro e w2 ⟨gb, vs', rfl, kgb, hrows, hgb, hb2⟩; have HR2 := Lib.hid hrows; have KGB := Lib.hid kgb; have HGB := Lib.hid hgb; have HB2 := Lib.hid hb2; clear hrows kgb hgb hb2) | (refine wpList_store_whole rfl 178 (.tmp 6) (.tmp 22) rfl w2.heap.size (searchCells (.slice (some ⟨gb, 0, none⟩) k k) fun _ => false).toArray rfl (congrArg Value.agg (Tryz.made_search (.slice (some ⟨gb, 0, none⟩) k k))) 178 Tryz.zeroCells178 (Blk.new _ _ _) (by kernel_rfl) (by kernel_rfl) (Tryz.ones_search _) ?_; intro w3 kb3 hg3))
      obtain ⟨b1, eb1⟩ : ∃ u, u = w2.heap.size := ⟨_, rfl⟩
      have WB1 : w.heap.size ≤ b1 := by rw [eb1]; exact (HBL.out.trans (HB2.out.mono HBL.out.size)).size
      have hb1l : b1 < w3.heap.size := by rw [eb1]; exact kb3.lt
      have hb3 : Below w2.heap.size w2 w3 := grown_below (B1 w2 _) (by simp) hg3 (fun q e => by cases e; exact Nat.le_refl _)
      have hwr2 : Below w.heap.size w w2 := HBL.out.trans (HB2.out.mono HBL.out.size)
      have hwr3 : Below w.heap.size w w3 := hwr2.trans (hb3.mono hwr2.size)
      have hlt2' : ∀ q, q < w2.heap.size → q < w3.heap.size := fun q hq => Nat.lt_of_lt_of_le hq hb3.size
      have hs2 := (HSC.out.stk.own.lt)
      have SL0 : RowKit.Hid (LS w.heap.size w3 w3 sb b1 (.slice (some ⟨gb, 0, none⟩) k k) v (.slice none 0 0) N (fun _ => false) [] []) := Lib.hid
        ⟨Nat.le_refl _, fun _ _ _ _ => rfl, ⟨by rw [ESB.out]; exact (HSC.out.stk.box.below' HB2.out).below' hb3, own_below (own_below HSC.out.stk.own HB2.out) hb3⟩, fun q hq => hlt2' q (Nat.lt_of_lt_of_le (HSC.out.stk.own.lt q hq).2 HB2.out.size), by rw [eb1]; exact kb3, World.ownsRow_nil _ _ _ _, RowsO.nil _ _, by rw [ESB.out]; exact hlt2' _ (Nat.lt_of_lt_of_le HSC.out.stk.box.lt HB2.out.size), hb1l⟩
      have KOS0 := Lib.hid (Kos.start (adjG G) G.length (rG G) N)
      have GT0 : RowKit.Hid (GT w3 (fun j => j = gb ∨ ∃ i, i < k ∧ (vs'.getD i undef).ownBlock = some j) (some ⟨gb, 0, none⟩) k vs' (trnG G)) := Lib.hid ⟨fun W' hs hk => by
        have r3 := HR2.out.below hb3
        have kg3 := KGB.out.below' hb3
        have kg : Blk W' gb vs'.toArray 36 := (hk gb (.inl rfl)).trans kg3
        have rr : RowsO wr.heap.size W' vs' (trnG G) := r3.kept fun i q hi hq => hk q (.inr ⟨i, by rw [trnG_len, ← EN.out] at hi; exact hi, hq⟩)
        have hl := HR2.out.len
        refine rr.gph (fun h0 => ⟨gb, 0, rfl, kg.lt, fun i hi => by rw [Nat.zero_add, kg.cell, List.getElem?_toArray]⟩) (by rw [trnG_len]; have := EN.out; omega) (fun i hi => ?_)
        have := HR.out.turned.len i
        exact Nat.le_trans this (by omega), fun j hj => by
        rcases hj with rfl | ⟨i, hi, hq⟩
        · exact hlt2' _ KGB.out.lt
        · exact hlt2' _ ((HR2.out.row i (by rw [trnG_len, ← EN.out]; exact hi)).lt j hq).2⟩
      have TNE : RowKit.Hid (∀ j, (j = gb ∨ ∃ i, i < k ∧ (vs'.getD i undef).ownBlock = some j) → j ≠ sb ∧ j ≠ b1 ∧ j < w3.heap.size) := Lib.hid fun j hj => by
        have hlt := GT0.out.lt j hj
        have hsb : sb < wr.heap.size := by rw [ESB.out]; exact HSC.out.stk.box.lt
        rcases hj with rfl | ⟨i, hi, hq⟩
        · have h1 := HGB.out
          have h2 := KGB.out.lt
          exact ⟨by omega, by omega, hlt⟩
        · have h1 := (HR2.out.row i (by rw [trnG_len, ← EN.out]; exact hi)).lt j hq
          exact ⟨by omega, by omega, hlt⟩
      have HW3 := Lib.hid hwr3
      have THB := Lib.hid (fun sb8 w' v' m' O a (ha : a < k) (hd : O.length + c_unmet m' ≤ 1000) (h : Sch (fun j => j = gb ∨ ∃ i, i < k ∧ (vs'.getD i undef).ownBlock = some j) w3 b1 sb8 (.slice (some ⟨gb, 0, none⟩) k k) w3.heap.size w' v' m' O) => (show Calls Tryz.prog 117 #[.pointer (some ⟨b1, 0, none⟩), .int .i64 a, .func (.func 118) #[.pointer (some ⟨sb8, 0, none⟩)] #[]] w' fun e w'' =>
          ∃ v'' N' m'', (∃ u, e = .returned u) ∧ Thr (adjG (trnG G)) m' [a] N' m'' ∧ Sch (fun j => j = gb ∨ ∃ i, i < k ∧ (vs'.getD i undef).ownBlock = some j) w3 b1 sb8 (.slice (some ⟨gb, 0, none⟩) k k) w3.heap.size w'' v'' m'' (O ++ N') ∧ OffS b1 sb8 v' w' w'' ∧ c_Fresh w' v' v'' from by
        have e : (trnG G).length = k := by rw [trnG_len, ← EN.out]
        have h1 := through_any HR.out.turned GT0.out b1 sb8 w3.heap.size 64 w' v' m' O a (by rw [e]; exact ha) (Nat.le_trans List.countP_le_length (by simp)) hd
        rw [e] at h1
        exact h1 h))
      have KST := Lib.hid (fun kk M M' P N' (h : Kos (adjG G) G.length (rG G) N (kk + 1) M P) hk hT => Kos.step (radj := adjG (trnG G)) (mf := m) (N := N') (M' := M') HR.out.inR (rG_is G _) HR.out.trn (by rw [← EN.out]; exact HTH.out) h hk hT)
      have KEN := Lib.hid (fun M P (h : Kos (adjG G) G.length (rG G) N 0 M P) => h.perm (mf := m) (rG_is G _) (by rw [← EN.out]; exact HTH.out))
      have UNB := Lib.hid (fun M' a N' m'' (ha : a < k) (h : Thr (adjG (trnG G)) M' [a] N' m'') => Thr.unmet HR.out.turned.inR (by rw [trnG_len]; have := EN.out; omega) h (by rw [trnG_len, ← EN.out]; simpa using ha))
      have NLT := Lib.hid (fun q (hq : q < N.length) => show N.getD q 0 < k from by
        have hm : N.getD q 0 ∈ N := by simp [List.getD, List.getElem?_eq_getElem hq]
        obtain ⟨x, hx, hp⟩ := (HTH.out.iff _).1 hm
        rw [EN.out]
        exact hp.reach.lt HR.out.inR (by rw [← EN.out]; exact List.mem_range.1 hx))
      have TKN := Lib.hid (fun q (hq : q < N.length) => take_oneN (a := N) (k := q) hq)
      have hN64 : N.length ≤ 64 := by omega
      obtain ⟨i0, hi, hz0, hz1, hz2⟩ := info_parts Tryz.info_s
      have EB1 := Lib.hid eb1
      have ESB2 := Lib.hid (show w.heap.size = sb from ESB.out.symm)
      rw [← eb1, ESB2.out]
      clear hb1l hb3 hwr2 hwr3 hlt2' hs2 kb3 hg3 eb1 hun
      go_wp2_with fail
      go_loopw [7, 8] (fun lx _ wr' => ∃ (va lv : Value) (kk : Nat) (M : Nat → Bool) (vsP : List Value) (P : List (List Nat)), lx = lv ∧ kk ≤ N.length ∧ LS w.heap.size w3 wr' sb b1 (.slice (some ⟨gb, 0, none⟩) k k) va lv (N.take kk) M vsP P ∧ Kos (adjG G) G.length (rG G) N kk M P ∧ P.length + kk ≤ N.length ∧ Below w.heap.size w wr') (fun _ _ wr' => lenAt sb wr')
      case atStart => exact ⟨v, .slice none 0 0, N.length, _, [], [], rfl, Nat.le_refl _, by rw [List.take_length]; exact SL0.out, KOS0.out, by simp, HW3.out⟩
      case round =>
        obtain ⟨va, lv, kk, M, vsP, P, rfl, hkk, hls, hko, hpl, hbl⟩ := hrel
        have HLS := Lib.hid hls
        have HKO := Lib.hid hko
        have HBL2 := Lib.hid hbl
        have C1 := Lib.hid (c_some_any w.heap.size sb va (N.take kk) _ hls.stk (by rw [List.length_take]; omega))
        rw [List.length_take, Nat.min_eq_left hkk] at C1
        have MU := Lib.hid (show lenAt sb _ = kk from by rw [hls.len, List.length_take, Nat.min_eq_left hkk])
        clear hls hko hbl
        cases kk with
        | zero =>
          go_wp2_with fail
          refine C1.out.mono ?_
          rintro e w4 ⟨rfl, rfl⟩
          go_wp2_with fail
          go_ret
          refine ⟨_, vsP, P, rfl, ?_, own_lower HLS.out.lrow HW3.out.size, HLS.out.rows.lower HW3.out.size, HBL2.out⟩
          rw [EN.out]
          exact KEN.out M P HKO.out
        | succ kk =>
          go_wp2_with fail
          refine C1.out.mono ?_
          rintro e w4 ⟨rfl, rfl⟩
          go_upto_region 12 with fail
          obtain ⟨s8, es8⟩ : ∃ u, u = w4.heap.size := ⟨_, rfl⟩
          obtain ⟨wa, ewa⟩ : ∃ u, u = w4.alloc (.cells #[.slice none 0 0] 175) := ⟨_, rfl⟩
          have hba : Below w4.heap.size w4 wa := by rw [ewa]; exact B1 _ _
          have k8 : Blk wa s8 #[.slice none 0 0] 175 := by rw [ewa, es8]; exact Blk.new _ _ _
          have LSA := Lib.hid (HLS.out.later hba.size (fun j hj _ => hba.block j hj) (HLS.out.blk.below' hba))
          have HBA := Lib.hid (HBL2.out.trans (hba.mono HBL2.out.size))
          have K8 := Lib.hid k8
          have hs38 : w3.heap.size ≤ s8 := by rw [es8]; exact HLS.out.size
          obtain ⟨x, ex⟩ : ∃ x, x = N.getD kk 0 := ⟨_, rfl⟩
          have EX := Lib.hid ex
          have hxk : x < k := by rw [ex]; exact NLT.out kk (by omega)
          have CT := Lib.hid (take_any w.heap.size sb sb va (N.take kk) x wa (by have := LSA.out.stk; rw [TKN.out kk (by omega)] at this; rw [ex]; exact this) (by rw [List.length_take]; omega))
          rw [← es8, ← ewa]
          have h8w : s8 < wa.heap.size := k8.lt
          clear ewa hba k8 ex es8
          go_wp2_with fail
          refine CT.out.mono ?_
          rintro e w5 ⟨va', rfl, hs5, ho5, hw5, he5⟩
          have L5 := Lib.hid (LSA.out.taken hs5 ⟨ho5.os, ho5.tape, ho5.output, ho5.size, fun j hj h1 h2 h3 => ho5.block j hj h1 h2 h3⟩ (fun j _ h => hw5 j h) he5)
          have hsb8 : s8 ≠ sb := by have := L5.out.sl; omega
          have K85 := Lib.hid (show Blk w5 s8 #[.slice none 0 0] 175 from (hw5 s8 hsb8).trans K8.out)
          have HB5 := Lib.hid (ho5.below HBA.out (by rw [← ESB2.out]; exact Nat.le_refl _) (by rw [← ESB2.out]; exact Nat.le_refl _) (fun q hq => (LSA.out.stk.own.lt q hq).1) HBA.out.size)
          have SC := Lib.hid (THB.out s8 w5 (.slice none 0 0) M [] x hxk (by have h64 : c_unmet M ≤ 64 := (Nat.le_trans List.countP_le_length (by simp)); simp only [List.length_nil]; omega)
            ⟨L5.out.blk, ⟨K85.out, World.ownsRow_nil _ _ _ _⟩, L5.out.size, fun j hj => by obtain ⟨h1, h2, h3⟩ := TNE.out j hj; exact L5.out.keep j h3 h1 h2, fun h => (TNE.out b1 h).2.1 rfl, fun h => (by have h9 := (TNE.out s8 h).2.2; omega), fun j _ => by simp [Value.ownBlock], L5.out.size, fun j hj => (TNE.out j hj).2.2⟩)
          clear CT hs5 ho5 hw5 he5
          go_wp2_with fail
          refine SC.out.mono ?_
          rintro e w6 ⟨v6, N6, M6, ⟨u6, rfl⟩, ht6, hs6, ho6, hf6⟩
          rw [List.nil_append] at hs6
          have h58 : s8 < w5.heap.size := K85.out.lt
          have L6 := Lib.hid (L5.out.later8 (M' := M6) K85.out hs38 ho6.size (fun j hj hb h8 => ho6.block j hj hb h8 (by simp [Value.ownBlock])) hs6.blk)
          have HT6 := Lib.hid ht6
          have KP56 := Lib.hid (And.intro ho6.size (fun j (hj : j < w5.heap.size) (hb : j ≠ b1) (h8 : j ≠ s8) => ho6.block j hj hb h8 (by simp [Value.ownBlock])))
          have HS6 := Lib.hid hs6
          have HF6 := Lib.hid (fun q (hq : v6.ownBlock = some q) => show w5.heap.size ≤ q from by
            rcases hf6 q hq with h | h
            · simp [Value.ownBlock] at h
            · exact h)
          have HB6 := Lib.hid (ho6.below HB5.out WB1 (Nat.le_trans HW3.out.size hs38) (fun q h => by simp [Value.ownBlock] at h) HB5.out.size)
          have hun6 := UNB.out M x N6 M6 hxk ht6
          have h64 : c_unmet M ≤ 64 := (Nat.le_trans List.countP_le_length (by simp))
          have C6 := Lib.hid (c_some_any w3.heap.size s8 v6 N6 w6 hs6.stk (by omega))
          have hN6 : N6.length ≤ 64 := by omega
          have KS := Lib.hid (KST.out kk M M6 P N6 HKO.out (by omega) (by rw [← EX.out]; exact ht6))
          obtain ⟨A6, c6, rfl, _, _⟩ := own_slice hs6.stk.own
          have c8 := hs6.stk.box.cell 0
          simp only [List.getElem?_toArray, List.getElem?_cons_zero] at c8
          clear ht6 hs6 ho6 hf6 SC hun6 h64
          go_wp2_with fail
          refine C6.out.mono ?_
          rintro e w7 ⟨rfl, rfl⟩
          clear C6
          by_cases hN0 : N6 = []
          · subst hN0
            go_wp2_with fail
            go_roundw
            case rel => exact ⟨va', _, kk, M6, vsP, P, rfl, by omega, L6.out, KS.out.1 (by first | rfl | trivial), by omega, HB6.out⟩
            case measure => rw [MU.out, L6.out.len, List.length_take]; omega
          · have hNl : 0 < N6.length := List.length_pos_iff.2 hN0
            obtain ⟨g6, cc6, e6, hg61, hg62, hg63, hg64⟩ := own_shape HS6.out.stk.own hNl
            simp only [Value.slice.injEq] at e6
            obtain ⟨rfl, _, rfl⟩ := e6
            have hg5 : w5.heap.size ≤ g6 := HF6.out g6 rfl
            have SI := Lib.hid (sort_ints w3.heap.size g6 c6 (nums N6) _ (by rw [nums_len]; omega) (by rw [nums_len]; exact HS6.out.stk.own))
            rw [nums_len, srtN_nums] at SI
            have hsl : (srtN N6).length = N6.length := (srtN_perm N6).length_eq
            have KS2 := Lib.hid (KS.out.2 hN0 (srtN N6) (srtN_perm N6) (srtN_rises N6))
            have HSL := Lib.hid hsl
            obtain ⟨n6, en6⟩ : ∃ u, u = N6.length := ⟨_, rfl⟩
            have EN6 := Lib.hid en6
            rw [← en6] at SI c8 hNl hsl hN6 ⊢
            clear en6 hsl hN0
            obtain ⟨Al, clc, rfl, _, _⟩ := own_slice L6.out.lrow
            obtain ⟨pl, epl⟩ : ∃ u, u = P.length := ⟨_, rfl⟩
            have EPL := Lib.hid epl
            rw [← epl]
            have hpl64 : pl ≤ 64 := by omega
            have SZ := Lib.hid (Nat.le_trans L5.out.size KP56.out.1)
            clear epl
            go_wp2_with (first | (go_at_call 121; (with_reducible refine SI.out.mono ?_); rintro e w8 ⟨⟨u8', rfl⟩, ho8, hg8⟩; have O8 := Lib.hid ho8; have G8 := Lib.hid hg8; have b8 : Blk w8 s8 #[.slice (some ⟨g6, 0, none⟩) n6 c6] 175 := ((by rw [EN6.out]; exact HS6.out.stk.box : Blk _ s8 #[.slice (some ⟨g6, 0, none⟩) n6 c6] 175)).grown hg8 (fun e => own_ne HS6.out.stk.own HS6.out.stk.box (by decide) e.symm); have c88 : w8.cell? ⟨s8, 0, none⟩ = some (.slice (some ⟨g6, 0, none⟩) n6 c6) := (b8.cell 0).trans rfl; have L8 := Lib.hid (L5.out.later8 (M' := M6) K85.out hs38 (Nat.le_trans KP56.out.1 hg8.size) (fun j hj hb h8 => (hg8.block j (Nat.lt_of_lt_of_le hj KP56.out.1) (fun e => by have := Option.some.inj e; omega)).trans (KP56.out.2 j hj hb h8)) (HS6.out.blk.grown hg8 (fun e => own_ne HS6.out.stk.own HS6.out.blk (by decide) e.symm))); have OR8 := Lib.hid (show (w8.alloc (.cells #[.slice (some ⟨g6, 0, none⟩) n6 c6] 36)).ownsRow w3.heap.size 36 1 (.slice Al pl clc) pl vsP from by rw [EPL.out]; exact own_below L8.out.lrow (B1 _ _)); clear ho8 hg8 b8) | (at_builtin; refine wpList_append_onto _ rfl _ _ 39 rfl w3.heap.size 36 i0 (.slice none 0 0) 1 24 Tryz.underlying39 hi hz0 hz1 hz2 rfl (by decide) _ _ _ rfl OR8.out (some ⟨w8.heap.size, 0, none⟩) 1 1 [.slice (some ⟨g6, 0, none⟩) n6 c6] rfl rfl (fun ad had => by cases had; exact cell_one_new _ _ _) (fun h => by cases h) (by simp [Value.oneCell']) (by unfold maxLen; omega) (by omega) (by have h1 := G8.out.size; have h2 := SZ.out; simp; omega) ?_; intro v9 w9 hown9 hgrow9 hfr9; have O9 := Lib.hid hown9; have G9 := Lib.hid (show World.grownBy _ w9 (Value.slice Al pl clc).ownBlock from hgrow9); clear hown9 hgrow9 hfr9))
            have HWS := HW3.out.size
            have LP : RowKit.Hid (LS w.heap.size w3 w9 sb b1 (.slice (some ⟨gb, 0, none⟩) k k) va' v9 (N.take kk) M6 (vsP ++ [.slice (some ⟨g6, 0, none⟩) n6 c6]) (P ++ [srtN N6])) := Lib.hid (by
              have hba := B1 w8 (.cells #[.slice (some ⟨g6, 0, none⟩) n6 c6] 36)
              refine (L8.out.later hba.size (fun j hj _ => hba.block j hj) (L8.out.blk.below' hba)).push ?_ (fun q hq i hi e => ?_) (by rw [← EPL.out]; exact O9.out) (by rw [← EPL.out]; exact G9.out)
              · rw [HSL.out, ← EN6.out]
                exact own_below O8.out hba
              · have h1 := ((L5.out.rows.row i hi).lt q e).2
                simp only [Value.ownBlock, Option.some.injEq] at hq
                omega)
            have HB9 : RowKit.Hid (Below w.heap.size w w9) := Lib.hid (by
              have h1 := HB6.out.size
              have h2 := G8.out.size
              have b8 : Below w.heap.size w w8 := grown_below HB6.out h1 G8.out (fun q e => by cases e; omega)
              exact grown_below (b8.trans ((B1 w8 _).mono b8.size)) (by simp; omega) G9.out (fun q e => Nat.le_trans HWS (OR8.out.lt q e).1))
            go_roundw
            case rel => exact ⟨va', v9, kk, M6, _, _, rfl, by omega, LP.out, KS2.out, by rw [List.length_append]; simp; omega, HB9.out⟩
            case measure => rw [MU.out, LP.out.len, List.length_take]; omega
end Go.Proofs.YtmlaepbmdfmgbaaGreat
namespace Go.Proofs.YtmlaepbmdfmgbaaGreat
open Go Go.Proofs Go.Shelf Go.RowKit Go.Lib Go.Maps
def lineCells (gv pv : Value) (of : Nat → Nat) (W : Nat → Int) : List Value := gv :: pv :: (((List.range 64).map fun k => Value.int .i64 (of k : Nat)) ++ (List.range 64).map fun k => Value.int .i64 (W k))
theorem lineCells_len (gv pv : Value) (of : Nat → Nat) (W : Nat → Int) : (lineCells gv pv of W).length = 130 := by simp [lineCells]
theorem lineCells_of {gv pv : Value} {of : Nat → Nat} {W : Nat → Int} {k : Nat} (h : k < 64) : (lineCells gv pv of W)[2 + k]? = some (.int .i64 (of k : Nat)) := by
  rw [show 2 + k = k + 1 + 1 by omega]
  simp only [lineCells, List.getElem?_cons_succ]
  rw [List.getElem?_append_left (by simp; omega)]
  simp [h]
theorem lineCells_wait {gv pv : Value} {of : Nat → Nat} {W : Nat → Int} {k : Nat} (h : k < 64) : (lineCells gv pv of W)[66 + k]? = some (.int .i64 (W k)) := by
  rw [show 66 + k = (64 + k) + 1 + 1 by omega]
  simp only [lineCells, List.getElem?_cons_succ]
  rw [List.getElem?_append_right (by simp)]
  simp [h]
def upd {α : Type} (f : Nat → α) (k : Nat) (v : α) : Nat → α := fun q => if q = k then v else f q
theorem range_upd {α : Type} (f : Nat → α) (k : Nat) (v : α) (g : α → Value) (h : k < 64) : ((List.range 64).map fun q => g (f q)).set k (g v) = (List.range 64).map fun q => g (upd f k v q) := by
  refine List.ext_getElem (by simp) fun i h1 h2 => ?_
  rw [List.getElem_set]
  by_cases e : k = i
  · subst e; simp [upd]
  · rw [if_neg e]
    have : ¬ i = k := fun h => e h.symm
    simp [upd, this]
theorem lineCells_setOf {gv pv : Value} {of : Nat → Nat} {W : Nat → Int} {k p : Nat} (h : k < 64) : (lineCells gv pv of W).set (2 + k) (.int .i64 p) = lineCells gv pv (upd of k p) W := by
  rw [show 2 + k = k + 1 + 1 by omega]
  simp only [lineCells, List.set_cons_succ]
  rw [List.set_append_left _ _ (by simp; omega), range_upd of k p (fun x => Value.int .i64 (x : Nat)) h]
theorem lineCells_setWait {gv pv : Value} {of : Nat → Nat} {W : Nat → Int} {k : Nat} {x : Int} (h : k < 64) : (lineCells gv pv of W).set (66 + k) (.int .i64 x) = lineCells gv pv of (upd W k x) := by
  rw [show 66 + k = (64 + k) + 1 + 1 by omega]
  simp only [lineCells, List.set_cons_succ]
  rw [List.set_append_right _ _ (by simp)]
  simp only [List.length_map, List.length_range, Nat.add_sub_cancel_left]
  rw [range_upd W k x (fun x => Value.int .i64 x) h]
set_option maxRecDepth 100000 in
theorem Tryz.made_line (gv pv : Value) : (Tryz.zeroCells157.setIfInBounds 0 gv).setIfInBounds 1 pv = (lineCells gv pv (fun _ => 0) (fun _ => 0)).toArray := by rfl
set_option maxRecDepth 100000 in
set_option maxHeartbeats 1000000 in
/-- A row of parts sorted; none, too. -/
theorem sort_parts (B B' cap k : Nat) (A : Option Addr) (vs : List Value) (L : List (List Nat)) (w : World) (hk : k = L.length) (hm : k ≤ 1000) (hms : ∀ i, i < L.length → (L.getD i []).length ≤ 1000) (hne : ∀ i, i < L.length → L.getD i [] ≠ []) (hd : ∀ i j, i < L.length → j < L.length → i ≠ j → (L.getD i []).getD 0 0 ≠ (L.getD j []).getD 0 0)
    (ho : w.ownsRow B 36 1 (.slice A k cap) k vs) (hR : RowsO B' w vs L) :
    Calls Tryz.prog 104 #[.slice A k cap, .func (.func 105) #[] #[]] w fun e w' => ∃ vs' L', (∃ u, e = .returned u) ∧ L'.Perm L ∧ (L'.Pairwise fun p q => p.getD 0 0 ≤ q.getD 0 0) ∧ w'.ownsRow B 36 1 (.slice A k cap) k vs' ∧ RowsO B' w' vs' L' ∧ w.grownBy w' (Value.slice A k cap).ownBlock := by
  by_cases h0 : 0 < k
  · obtain ⟨g, cap', e, _, _, _, _⟩ := own_shape ho h0
    simp only [Value.slice.injEq] at e
    obtain ⟨rfl, _, rfl⟩ := e
    exact sort_rows B B' g cap k vs L w hk h0 hm hms hne hd ho hR
  · obtain rfl : k = 0 := by omega
    have hL : L = [] := List.length_eq_zero_iff.1 hk.symm
    subst hL
    refine (Tryz.slices_SortFunc_none (α := Nat) A cap _ w).mono ?_
    rintro e w' ⟨rfl, rfl⟩
    exact ⟨vs, [], ⟨_, rfl⟩, .refl _, List.Pairwise.nil, ho, hR, World.grownBy.refl _ _⟩
/-- The line in memory. -/
structure Ln (w W : World) (lb : Nat) (gv pv : Value) (gb : Nat) (vsT vsP : List Value) (G : List (List Nat)) (S : List (List Nat)) (of : Nat → Nat) (Wt : Nat → Int) : Prop where
  blk : Blk W lb (lineCells gv pv of Wt).toArray 157
  tg : Blk W gb vsT.toArray 36
  trows : RowsO w.heap.size W vsT (trnG G)
  own : W.ownsRow w.heap.size 36 1 pv S.length vsP
  rows : RowsO w.heap.size W vsP S
  low : Below w.heap.size w W
  gve : gv = .slice (some ⟨gb, 0, none⟩) G.length G.length
  lo : w.heap.size ≤ lb
/-- Only the line's own block has turned. -/
theorem Ln.turn {w W W' : World} {lb gb : Nat} {gv pv : Value} {vsT vsP : List Value} {G S : List (List Nat)} {of of' : Nat → Nat} {Wt Wt' : Nat → Int} (h : Ln w W lb gv pv gb vsT vsP G S of Wt) (hb : Blk W' lb (lineCells gv pv of' Wt').toArray 157) (hg : W.grownBy W' (some lb)) : Ln w W' lb gv pv gb vsT vsP G S of' Wt' := by
  have keep : ∀ {B e n : Nat} {v : Value} {xs : List Value}, e ≠ 157 → W.ownsRow B e 1 v n xs → ∀ k, v.ownBlock = some k → W'.heap[k]? = W.heap[k]? := fun {B e n v xs} he ho k hk => hg.block k (ho.lt k hk).2 (fun e2 => own_ne ho h.blk (fun h => he h.symm) (by rw [hk]; exact e2))
  have hgl : gb ≠ lb := fun e => by
    have h1 := h.tg
    rw [e] at h1
    have := h1.symm.trans h.blk
    simp at this
  exact ⟨hb, (hg.block gb h.tg.lt (fun e => hgl (Option.some.inj e))).trans h.tg, h.trows.kept (fun i k hi e => keep (by decide) (h.trows.row i hi) k e), own_kept h.own (fun k e => keep (by decide) h.own k e), h.rows.kept (fun i k hi e => keep (by decide) (h.rows.row i hi) k e), grown_below h.low h.low.size hg (fun k e => by cases e; exact h.lo), h.gve, h.lo⟩
theorem Ln.below {w W W' : World} {lb gb : Nat} {gv pv : Value} {vsT vsP : List Value} {G S : List (List Nat)} {of : Nat → Nat} {Wt : Nat → Int} (h : Ln w W lb gv pv gb vsT vsP G S of Wt) (hb : Below W.heap.size W W') : Ln w W' lb gv pv gb vsT vsP G S of Wt :=
  ⟨h.blk.below' hb, h.tg.below' hb, h.trows.below hb, own_below h.own hb, h.rows.below hb, h.low.trans (hb.mono h.low.size), h.gve, h.lo⟩
theorem Ln.set {w W : World} {lb gb : Nat} {gv pv : Value} {vsT vsP : List Value} {G S : List (List Nat)} {of : Nat → Nat} {Wt : Nat → Int} (h : Ln w W lb gv pv gb vsT vsP G S of Wt) {k : Nat} {x : Int} (hk : k < 64) : Ln w (W.setCell ⟨lb, 66 + k, none⟩ (.int .i64 x)) lb gv pv gb vsT vsP G S of (upd Wt k x) := by
  refine h.turn ?_ ⟨rfl, rfl, rfl, by simp [World.setCell], fun j _ hj => heap_setCell_other W ⟨lb, 66 + k, none⟩ j _ (fun e => hj (by rw [show j = lb from e]))⟩
  have := heap_setCell_same W lb (66 + k) _ _ (.int .i64 x) h.blk
  unfold Blk
  rw [this, List.setIfInBounds_toArray, lineCells_setWait hk]
theorem Ln.setOf {w W : World} {lb gb : Nat} {gv pv : Value} {vsT vsP : List Value} {G S : List (List Nat)} {of : Nat → Nat} {Wt : Nat → Int} (h : Ln w W lb gv pv gb vsT vsP G S of Wt) {k p : Nat} (hk : k < 64) : Ln w (W.setCell ⟨lb, 2 + k, none⟩ (.int .i64 p)) lb gv pv gb vsT vsP G S (upd of k p) Wt := by
  refine h.turn ?_ ⟨rfl, rfl, rfl, by simp [World.setCell], fun j _ hj => heap_setCell_other W ⟨lb, 2 + k, none⟩ j _ (fun e => hj (by rw [show j = lb from e]))⟩
  have := heap_setCell_same W lb (2 + k) _ _ (.int .i64 p) h.blk
  unfold Blk
  rw [this, List.setIfInBounds_toArray, lineCells_setOf hk]
end Go.Proofs.YtmlaepbmdfmgbaaGreat
