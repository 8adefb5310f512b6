/- Contracts that the claim stands on, several texts in one: Shelf, LexClone, LtlWorkI, LtlIa, LtlKids. -/
import Derived.Shelf.LaysM
import Derived.Shelf.Strconv.Itoa3
import Derived.Shelf.Strconv.Clone
import Derived.Shelf.LaysC
import Derived.Shelf.Strconv.AtoiAll
import Derived.Test.YtgnflnfajkoibaaDoorProg
import Derived.Deep.RegionHeld3
import Derived.Shelf.Abstract
import Derived.Laws.CopyOwn
import Derived.Test.YtgnflnfajkoibaaDoorPut1
import Derived.Test.YtgnflnfajkoibaaDoorPut2
import Derived.Test.YtgnflnfajkoibaaDoorPut3
import Derived.Test.YtgnflnfajkoibaaDoorPut4
namespace Go.Proofs
open Go.Shelf
def Tryd.laysM171_ren : Go.Shelf.Ren := ⟨fun | 171 => 75 | 243 => 84 | 246 => 87 | 283 => 90 | 284 => 91 | 285 => 92 | 286 => 93 | 129 => 95 | 317 => 94 | 318 => 96 | 319 => 97 | 320 => 98 | 337 => 99 | 338 => 100 | n => n, fun | 3 => 3 | 9 => 9 | 2 => 2 | 4 => 4 | 171 => 131 | 0 => 0 | 53 => 119 | 37 => 35 | 5 => 5 | 173 => 134 | 212 => 137 | 51 => 138 | 20 => 20 | 213 => 139 | 46 => 122 | 232 => 143 | 233 => 144 | n => n, fun | 17 => 4 | 18 => 5 | 19 => 6 | n => n⟩
theorem Tryd.laysM171 : Go.Proofs.LaysM.n171 Tryd.prog Tryd.laysM171_ren := {
  mixed := by kernel_rfl
  f129 := Tryd.func95.trans (congrArg some (by kernel_rfl))
  f171 := Tryd.func75.trans (congrArg some (by kernel_rfl))
  f243 := Tryd.func84.trans (congrArg some (by kernel_rfl))
  f246 := Tryd.func87.trans (congrArg some (by kernel_rfl))
  f283 := Tryd.func90.trans (congrArg some (by kernel_rfl))
  f284 := Tryd.func91.trans (congrArg some (by kernel_rfl))
  f285 := Tryd.func92.trans (congrArg some (by kernel_rfl))
  f286 := Tryd.func93.trans (congrArg some (by kernel_rfl))
  f317 := Tryd.func94.trans (congrArg some (by kernel_rfl))
  f318 := Tryd.func96.trans (congrArg some (by kernel_rfl))
  f319 := Tryd.func97.trans (congrArg some (by kernel_rfl))
  f320 := Tryd.func98.trans (congrArg some (by kernel_rfl))
  f337 := Tryd.func99.trans (congrArg some (by kernel_rfl))
  f338 := Tryd.func100.trans (congrArg some (by kernel_rfl))
  t0 := Tryd.underlying0
  a0 := Tryd.isAgg0
  z0 := Tryd.sizeOf0
  v0 := Tryd.zeroValue0
  t2 := Tryd.underlying2
  a2 := Tryd.isAgg2
  z2 := Tryd.sizeOf2
  v2 := Tryd.zeroValue2
  t3 := Tryd.underlying3
  a3 := Tryd.isAgg3
  z3 := Tryd.sizeOf3
  v3 := Tryd.zeroValue3
  t4 := Tryd.underlying4
  a4 := Tryd.isAgg4
  z4 := Tryd.sizeOf4
  v4 := Tryd.zeroValue4
  t5 := Tryd.underlying5
  a5 := Tryd.isAgg5
  z5 := Tryd.sizeOf5
  v5 := Tryd.zeroValue5
  t9 := Tryd.underlying9
  a9 := Tryd.isAgg9
  z9 := Tryd.sizeOf9
  v9 := Tryd.zeroValue9
  t20 := Tryd.underlying20
  a20 := Tryd.isAgg20
  z20 := Tryd.sizeOf20
  v20 := Tryd.zeroValue20
  t37 := Tryd.underlying35
  a37 := Tryd.isAgg35
  z37 := Tryd.sizeOf35
  v37 := Tryd.zeroValue35
  t46 := Tryd.underlying122
  a46 := Tryd.isAgg122
  z46 := Tryd.sizeOf122
  v46 := Tryd.zeroValue122
  t51 := Tryd.underlying138
  a51 := Tryd.isAgg138
  z51 := Tryd.sizeOf138
  v51 := Tryd.zeroValue138
  t53 := Tryd.underlying119
  a53 := Tryd.isAgg119
  z53 := Tryd.sizeOf119
  v53 := Tryd.zeroValue119
  t171 := Tryd.underlying131
  a171 := Tryd.isAgg131
  z171 := Tryd.sizeOf131
  v171 := Tryd.zeroValue131
  t173 := Tryd.underlying134
  a173 := Tryd.isAgg134
  z173 := Tryd.sizeOf134
  v173 := Tryd.zeroValue134
  t212 := Tryd.underlying137
  a212 := Tryd.isAgg137
  z212 := Tryd.sizeOf137
  v212 := Tryd.zeroValue137
  t213 := Tryd.underlying139
  a213 := Tryd.isAgg139
  z213 := Tryd.sizeOf139
  t232 := Tryd.underlying143
  a232 := Tryd.isAgg143
  z232 := Tryd.sizeOf143
  v232 := Tryd.zeroValue143
  t233 := Tryd.underlying144
  a233 := Tryd.isAgg144
  z233 := Tryd.sizeOf144
  v233 := Tryd.zeroValue144
  g17 := by kernel_rfl
  g18 := by kernel_rfl
  g19 := by kernel_rfl
  i0 := by kernel_rfl
  i2 := by kernel_rfl
  i3 := by kernel_rfl
  i4 := by kernel_rfl
  i5 := by kernel_rfl
  i9 := by kernel_rfl
  i20 := by kernel_rfl
  i37 := by kernel_rfl
  i46 := by kernel_rfl
  i51 := by kernel_rfl
  i53 := by kernel_rfl
  i171 := by kernel_rfl
  i173 := by kernel_rfl
  i212 := by kernel_rfl
  i232 := by kernel_rfl
  i233 := by kernel_rfl
  m17 := by kernel_rfl
  m18 := by kernel_rfl
  m19 := by kernel_rfl }
open Go.RowKit Go.Sort Go.Lib in
/-- strconv.Itoa: "Itoa is equivalent to FormatInt(int64(i), 10).": i's DECIMAL NUMERAL ('Lib.itoa': a '-' where i is negative, then the digits), FOR EVERY int. The world behind the call: the world before it, new blocks behind the heap (the library's 'var a [24]byte'), draws. (LAID: no walk: one application.) -/
theorem Tryd.strconv_Itoa (n : Int) (h0 : -9223372036854775808 ≤ n) (h1 : n ≤ 9223372036854775807) (w : World) (htab : Lib.TabIs Tryd.prog w "internal/strconv.uint64pow10" .u64 Lib.pow10Tab) :
    Calls Tryd.prog 75 #[.int .i64 n] w fun e w' => e = .returned (.string ⟨(Lib.itoa n).toArray⟩) ∧ ∃ k os, w' = grow (w.drewN k) os := Any.strconv_Itoa Tryd.laysM171 n h0 h1 w htab
def Tryd.laysM316_ren : Go.Shelf.Ren := ⟨fun | 316 => 44 | n => n, fun | 9 => 9 | 3 => 3 | 4 => 4 | 37 => 35 | 0 => 0 | 127 => 97 | 5 => 5 | n => n, fun | n => n⟩
theorem Tryd.laysM316 : Go.Proofs.LaysM.n316 Tryd.prog Tryd.laysM316_ren := {
  mixed := by kernel_rfl
  f316 := Tryd.func44.trans (congrArg some (by kernel_rfl))
  t0 := Tryd.underlying0
  a0 := Tryd.isAgg0
  z0 := Tryd.sizeOf0
  v0 := Tryd.zeroValue0
  t3 := Tryd.underlying3
  a3 := Tryd.isAgg3
  z3 := Tryd.sizeOf3
  v3 := Tryd.zeroValue3
  t4 := Tryd.underlying4
  a4 := Tryd.isAgg4
  z4 := Tryd.sizeOf4
  v4 := Tryd.zeroValue4
  t9 := Tryd.underlying9
  a9 := Tryd.isAgg9
  z9 := Tryd.sizeOf9
  v9 := Tryd.zeroValue9
  t37 := Tryd.underlying35
  a37 := Tryd.isAgg35
  z37 := Tryd.sizeOf35
  v37 := Tryd.zeroValue35
  t127 := Tryd.underlying97
  a127 := Tryd.isAgg97
  z127 := Tryd.sizeOf97
  v127 := Tryd.zeroValue97
  t5 := Tryd.underlying5
  a5 := Tryd.isAgg5
  z5 := Tryd.sizeOf5
  v5 := Tryd.zeroValue5
  i0 := by kernel_rfl
  i3 := by kernel_rfl
  i4 := by kernel_rfl
  i5 := by kernel_rfl
  i9 := by kernel_rfl
  i37 := by kernel_rfl
  i127 := by kernel_rfl }
open Go.RowKit in
/-- internal/stringslite.Clone (what strings.Clone calls): "Clone returns a fresh copy of s.": THE SAME BYTES. Of what was there nothing has turned (a new row is laid, and frozen, where s is not empty). (LAID: no walk: one application.) -/
theorem Tryd.stringslite_Clone (s : ByteArray) (w : World) (hlim : s.size ≤ 281474976710656) :
    Calls Tryd.prog 44 #[.string s] w fun e w' => e = .returned (.string s) ∧ Below w.heap.size w w' := Any.stringslite_Clone Tryd.laysM316 s w hlim
def Tryd.laysC172_ren : Go.Shelf.Ren := ⟨fun | 172 => 67 | 244 => 73 | 245 => 74 | 247 => 79 | 279 => 80 | 280 => 81 | 281 => 82 | 282 => 83 | 287 => 85 | 316 => 44 | 171 => 75 | 205 => 86 | 321 => 88 | 322 => 89 | 243 => 84 | 246 => 87 | 283 => 90 | 284 => 91 | 285 => 92 | 286 => 93 | 129 => 95 | 317 => 94 | 318 => 96 | 319 => 97 | 320 => 98 | 337 => 99 | 338 => 100 | n => n, fun | 9 => 9 | 3 => 3 | 75 => 104 | 76 => 105 | 4 => 4 | 5 => 5 | 167 => 113 | 37 => 35 | 0 => 0 | 85 => 114 | 2 => 2 | 168 => 116 | 53 => 119 | 175 => 120 | 46 => 122 | 210 => 124 | 127 => 97 | 145 => 130 | 143 => 128 | 21 => 21 | 171 => 131 | 173 => 134 | 212 => 137 | 51 => 138 | 20 => 20 | 213 => 139 | 232 => 143 | 233 => 144 | 80 => 145 | n => n, fun | 15 => 2 | 16 => 3 | 17 => 4 | 18 => 5 | 19 => 6 | n => n⟩
theorem Tryd.laysC172 : Go.Proofs.LaysC.n172 Tryd.prog Tryd.laysC172_ren := {
  mixed := by kernel_rfl
  f129 := Tryd.func95.trans (congrArg some (by kernel_rfl))
  f171 := Tryd.func75.trans (congrArg some (by kernel_rfl))
  f172 := Tryd.func67.trans (congrArg some (by kernel_rfl))
  f205 := Tryd.func86.trans (congrArg some (by kernel_rfl))
  f243 := Tryd.func84.trans (congrArg some (by kernel_rfl))
  f244 := Tryd.func73.trans (congrArg some (by kernel_rfl))
  f245 := Tryd.func74.trans (congrArg some (by kernel_rfl))
  f246 := Tryd.func87.trans (congrArg some (by kernel_rfl))
  f247 := Tryd.func79.trans (congrArg some (by kernel_rfl))
  f279 := Tryd.func80.trans (congrArg some (by kernel_rfl))
  f280 := Tryd.func81.trans (congrArg some (by kernel_rfl))
  f281 := Tryd.func82.trans (congrArg some (by kernel_rfl))
  f282 := Tryd.func83.trans (congrArg some (by kernel_rfl))
  f283 := Tryd.func90.trans (congrArg some (by kernel_rfl))
  f284 := Tryd.func91.trans (congrArg some (by kernel_rfl))
  f285 := Tryd.func92.trans (congrArg some (by kernel_rfl))
  f286 := Tryd.func93.trans (congrArg some (by kernel_rfl))
  f287 := Tryd.func85.trans (congrArg some (by kernel_rfl))
  f316 := Tryd.func44.trans (congrArg some (by kernel_rfl))
  f317 := Tryd.func94.trans (congrArg some (by kernel_rfl))
  f318 := Tryd.func96.trans (congrArg some (by kernel_rfl))
  f319 := Tryd.func97.trans (congrArg some (by kernel_rfl))
  f320 := Tryd.func98.trans (congrArg some (by kernel_rfl))
  f321 := Tryd.func88.trans (congrArg some (by kernel_rfl))
  f322 := Tryd.func89.trans (congrArg some (by kernel_rfl))
  f337 := Tryd.func99.trans (congrArg some (by kernel_rfl))
  f338 := Tryd.func100.trans (congrArg some (by kernel_rfl))
  t0 := Tryd.underlying0
  a0 := Tryd.isAgg0
  z0 := Tryd.sizeOf0
  v0 := Tryd.zeroValue0
  t2 := Tryd.underlying2
  a2 := Tryd.isAgg2
  z2 := Tryd.sizeOf2
  v2 := Tryd.zeroValue2
  t3 := Tryd.underlying3
  a3 := Tryd.isAgg3
  z3 := Tryd.sizeOf3
  v3 := Tryd.zeroValue3
  t4 := Tryd.underlying4
  a4 := Tryd.isAgg4
  z4 := Tryd.sizeOf4
  v4 := Tryd.zeroValue4
  t5 := Tryd.underlying5
  a5 := Tryd.isAgg5
  z5 := Tryd.sizeOf5
  v5 := Tryd.zeroValue5
  t9 := Tryd.underlying9
  a9 := Tryd.isAgg9
  z9 := Tryd.sizeOf9
  v9 := Tryd.zeroValue9
  t20 := Tryd.underlying20
  a20 := Tryd.isAgg20
  z20 := Tryd.sizeOf20
  v20 := Tryd.zeroValue20
  t21 := Tryd.underlying21
  a21 := Tryd.isAgg21
  z21 := Tryd.sizeOf21
  v21 := Tryd.zeroValue21
  t37 := Tryd.underlying35
  a37 := Tryd.isAgg35
  z37 := Tryd.sizeOf35
  v37 := Tryd.zeroValue35
  t46 := Tryd.underlying122
  a46 := Tryd.isAgg122
  z46 := Tryd.sizeOf122
  v46 := Tryd.zeroValue122
  t51 := Tryd.underlying138
  a51 := Tryd.isAgg138
  z51 := Tryd.sizeOf138
  v51 := Tryd.zeroValue138
  t53 := Tryd.underlying119
  a53 := Tryd.isAgg119
  z53 := Tryd.sizeOf119
  v53 := Tryd.zeroValue119
  t75 := Tryd.underlying104
  a75 := Tryd.isAgg104
  z75 := Tryd.sizeOf104
  v75 := Tryd.zeroValue104
  t76 := Tryd.underlying105
  a76 := Tryd.isAgg105
  z76 := Tryd.sizeOf105
  v76 := Tryd.zeroValue105
  t85 := Tryd.underlying114
  a85 := Tryd.isAgg114
  z85 := Tryd.sizeOf114
  v85 := Tryd.zeroValue114
  t127 := Tryd.underlying97
  a127 := Tryd.isAgg97
  z127 := Tryd.sizeOf97
  v127 := Tryd.zeroValue97
  t143 := Tryd.underlying128
  a143 := Tryd.isAgg128
  z143 := Tryd.sizeOf128
  v143 := Tryd.zeroValue128
  t145 := Tryd.underlying130
  a145 := Tryd.isAgg130
  z145 := Tryd.sizeOf130
  v145 := Tryd.zeroValue130
  t167 := Tryd.underlying113
  a167 := Tryd.isAgg113
  z167 := Tryd.sizeOf113
  v167 := Tryd.zeroValue113
  t168 := Tryd.underlying116
  a168 := Tryd.isAgg116
  z168 := Tryd.sizeOf116
  v168 := Tryd.zeroValue116
  t171 := Tryd.underlying131
  a171 := Tryd.isAgg131
  z171 := Tryd.sizeOf131
  v171 := Tryd.zeroValue131
  t173 := Tryd.underlying134
  a173 := Tryd.isAgg134
  z173 := Tryd.sizeOf134
  v173 := Tryd.zeroValue134
  t175 := Tryd.underlying120
  a175 := Tryd.isAgg120
  z175 := Tryd.sizeOf120
  v175 := Tryd.zeroValue120
  t210 := Tryd.underlying124
  a210 := Tryd.isAgg124
  z210 := Tryd.sizeOf124
  v210 := Tryd.zeroValue124
  t212 := Tryd.underlying137
  a212 := Tryd.isAgg137
  z212 := Tryd.sizeOf137
  v212 := Tryd.zeroValue137
  t213 := Tryd.underlying139
  a213 := Tryd.isAgg139
  z213 := Tryd.sizeOf139
  t232 := Tryd.underlying143
  a232 := Tryd.isAgg143
  z232 := Tryd.sizeOf143
  v232 := Tryd.zeroValue143
  t233 := Tryd.underlying144
  a233 := Tryd.isAgg144
  z233 := Tryd.sizeOf144
  v233 := Tryd.zeroValue144
  g15 := by kernel_rfl
  g16 := by kernel_rfl
  g17 := by kernel_rfl
  g18 := by kernel_rfl
  g19 := by kernel_rfl
  t80 := Tryd.underlying145
  a80 := Tryd.isAgg145
  z80 := Tryd.sizeOf145
  v80 := Tryd.zeroValue145
  i0 := by kernel_rfl
  i2 := by kernel_rfl
  i3 := by kernel_rfl
  i4 := by kernel_rfl
  i5 := by kernel_rfl
  i9 := by kernel_rfl
  i20 := by kernel_rfl
  i21 := by kernel_rfl
  i37 := by kernel_rfl
  i46 := by kernel_rfl
  i51 := by kernel_rfl
  i53 := by kernel_rfl
  i75 := by kernel_rfl
  i76 := by kernel_rfl
  i80 := by kernel_rfl
  i85 := by kernel_rfl
  i127 := by kernel_rfl
  i143 := by kernel_rfl
  i145 := by kernel_rfl
  i167 := by kernel_rfl
  i168 := by kernel_rfl
  i171 := by kernel_rfl
  i173 := by kernel_rfl
  i175 := by kernel_rfl
  i210 := by kernel_rfl
  i212 := by kernel_rfl
  i232 := by kernel_rfl
  i233 := by kernel_rfl
  m15 := by kernel_rfl
  m16 := by kernel_rfl
  m17 := by kernel_rfl
  m18 := by kernel_rfl
  m19 := by kernel_rfl
  c0 := by kernel_rfl
  c2 := by kernel_rfl
  c3 := by kernel_rfl
  c4 := by kernel_rfl
  c5 := by kernel_rfl
  c9 := by kernel_rfl
  c20 := by kernel_rfl
  c21 := by kernel_rfl
  c37 := by kernel_rfl
  c46 := by kernel_rfl
  c51 := by kernel_rfl
  c53 := by kernel_rfl
  c75 := by kernel_rfl
  c76 := by kernel_rfl
  c80 := by kernel_rfl
  c85 := by kernel_rfl
  c127 := by kernel_rfl
  c143 := by kernel_rfl
  c145 := by kernel_rfl
  c167 := by kernel_rfl
  c168 := by kernel_rfl
  c171 := by kernel_rfl
  c173 := by kernel_rfl
  c175 := by kernel_rfl
  c210 := by kernel_rfl
  c212 := by kernel_rfl
  c213 := by kernel_rfl
  c232 := by kernel_rfl
  c233 := by kernel_rfl }
open Go.RowKit in
/-- strconv.Atoi, AT EVERY STRING THAT SPELLS AN int ('Lib.atoiAll .. = .ok v'; of whatever length: leading zeros count): v, AND NO ERROR. The world: as it was, or with the one new row that '[]byte(..)' lays. (LAID: no walk: one application.) -/
theorem Tryd.strconv_Atoi_ok (s : ByteArray) (hmax : s.size ≤ 9223372036854775806) (v : Int) (h : Lib.atoiAll s.data.toList = .ok v) (w : World) :
    Calls Tryd.prog 67 #[.string s] w fun e w' => e = .returned (.tuple #[.int .i64 v, .nilIface]) ∧ (w' = w ∨ ∃ t, w' = Lib.bytesWorld w 5 t) := Any.strconv_Atoi_ok Tryd.laysC172 s hmax v h w
open Go.RowKit in
/-- strconv.Atoi, at every string that is no decimal numeral. -/
theorem Tryd.strconv_Atoi_fault (s : ByteArray) (hlim : s.size ≤ 281474976710656) (h1 : ∀ v, Lib.atoiAll s.data.toList ≠ .ok v) (h2 : Lib.atoiAll s.data.toList ≠ .range) (ev : Value) (w : World) (hv : w.cell? ⟨2, 0, none⟩ = some ev) (hev : ev = .nilIface ∨ ∃ te pe, ev = .iface te pe) :
    Calls Tryd.prog 67 #[.string s] w fun e w' => ∃ N, e = .returned (.tuple #[.int .i64 (0), .iface 116 (.pointer (some ⟨N, 0, none⟩))]) ∧ w.heap.size ≤ N ∧ w'.heap[N]? = some (.cells #[.string ⟨#[65, 116, 111, 105]⟩, .string s, ev] 124 (0, 0)) ∧ Below w.heap.size w w' := by
  rcases ha : Lib.atoiAll s.data.toList with v | _ | _
  · exact absurd ha (h1 v)
  · exact Any.strconv_Atoi_syntax Tryd.laysC172 s hlim ha ev w hv hev
  · exact absurd ha h2
open Go.RowKit in
/-- strconv.Atoi, AT EVERY NUMERAL THAT NO int HOLDS ('.range'): THE GREATEST OR THE LEAST int, BY THE SIGN ('Lib.atoiSat'), AND AN ERROR THAT IS NOT nil: a *NumError in a new block N: {Func: "Atoi", Num: s's bytes, Err: what the variable ErrRange holds}. Of what was there nothing has turned. (LAID: no walk: one application.) -/
theorem Tryd.strconv_Atoi_range (s : ByteArray) (hlim : s.size ≤ 281474976710656) (h : Lib.atoiAll s.data.toList = .range) (ev : Value) (w : World) (hv : w.cell? ⟨3, 0, none⟩ = some ev) (hev : ev = .nilIface ∨ ∃ te pe, ev = .iface te pe) :
    Calls Tryd.prog 67 #[.string s] w fun e w' => ∃ N, e = .returned (.tuple #[.int .i64 (Lib.atoiSat s.data.toList), .iface 116 (.pointer (some ⟨N, 0, none⟩))]) ∧ w.heap.size ≤ N ∧ w'.heap[N]? = some (.cells #[.string ⟨#[65, 116, 111, 105]⟩, .string s, ev] 124 (0, 0)) ∧ Below w.heap.size w w' := Any.strconv_Atoi_range Tryd.laysC172 s hlim h ev w hv hev
end Go.Proofs
namespace Go.Proofs.YtgnflnfajkoibaaDoor.lx
open Go.ChangeShapes Go.WideShapes Go.ChangeAt Go.RowKit Go.Deep

theorem clone_any (s : ByteArray) (w : World) (hs : s.size ≤ 281474976710656) : Calls Tryd.prog 28 #[.string s] w fun e w' => e = .returned (.string s) ∧ Below w.heap.size w w' := by
  go_enter Tryd.func28, Tryd.ntmps28
  go_wp2_with fail
  refine (Tryd.stringslite_Clone s _ hs).mono ?_
  rintro e w' ⟨rfl, hb⟩
  go_wp2
  go_ret
  exact ⟨rfl, hb⟩
end Go.Proofs.YtgnflnfajkoibaaDoor.lx
namespace Go.Proofs.YtgnflnfajkoibaaDoor.lt.wi
open Go.ChangeShapes Go.WideShapes Go.ChangeAt Go.RowKit sr

def enc (x : Int) : List Value := [.int .i64 x]
theorem enc_len (x : Int) : (enc x).length = 1 := rfl
theorem enc_one (x : Int) : ∀ u ∈ enc x, u.oneCell' = true := fun u hu => by
  simp [enc] at hu
  subst hu
  rfl
theorem info : (Tryd.prog.info? 3).map (fun i => (i.zero, i.size, i.bytes)) = some (some (.int .i64 0), 1, 8) := by kernel_rfl
theorem rs_at {w : World} {A : Option Addr} {l : List Int} (h : RS enc 1 w A l) {i : Nat} (hi : i < l.length) : ∃ b off, A = some ⟨b, off, none⟩ ∧ b < w.heap.size ∧ w.cell? ⟨b, off + i, none⟩ = some (.int .i64 (l.getD i default)) := by
  obtain ⟨b, off, e, hb, hc⟩ := h (by omega)
  refine ⟨b, off, e, hb, ?_⟩
  have := hc i hi 0 (by omega)
  rw [Nat.mul_one, Nat.add_zero] at this
  exact this
theorem tail_rs {w : World} {A : Option Addr} {l : List Int} {n c : Nat} (h : RS enc 1 w A l) (hn : l.length ≤ c) : RS enc 1 w (if c = n then A else A.map (·.add n)) (l.drop n) := fun h0 => by
  have h1 : n < l.length := by simp at h0; omega
  obtain ⟨b, off, rfl, hb, hc⟩ := h (by omega)
  rw [if_neg (by omega)]
  refine ⟨b, off + n, by simp [Addr.add], hb, fun i hi j hj => ?_⟩
  have h2 : n + i < l.length := by simp at hi; omega
  have h3 := hc _ h2 j hj
  rw [show off + n + i * 1 + j = off + (n + i) * 1 + j by omega, h3]
  simp [List.getD]

set_option maxRecDepth 20000 in
/-- The tail of a slice, in one way. -/
theorem tail_run (B : Option Addr) (left t d : Nat) : ∃ B2, B2 = (if d = left then B else B.map (·.add left)) ∧ ∀ W, (Instr.sliceAt 37 (.slice B (left + t) d) (some (.int .i64 (left : Int))) none none).run Tryd.prog W = .ok (.slice B2 t (d - left)) W := by
  refine ⟨_, rfl, fun W => ?_⟩
  have hsz : (sizeOf (Tryd.prog.elem 37)).run Tryd.prog W = .ok 1 W := by simp [go_sem]
  rw [run_sliceAt_slice (P := Tryd.prog) W 37 _ _ _ _ Tryd.underlying37, run_slice_l (P := Tryd.prog) W 37 B (left + t) d Tryd.underlying37 .i64 left (by omega) (by omega), hsz]
  simp [Result.andThen, sliced]
set_option maxRecDepth 20000 in
/-- The head of a slice. -/
theorem head_run (B : Option Addr) (left t d : Nat) (h : left + t ≤ d) (W : World) : (Instr.sliceAt 37 (.slice B (left + t) d) none (some (.int .i64 (left : Int))) none).run Tryd.prog W = .ok (.slice B left d) W := by
  have hsz : (sizeOf (Tryd.prog.elem 37)).run Tryd.prog W = .ok 1 W := by simp [go_sem]
  rw [run_sliceAt_slice (P := Tryd.prog) W 37 _ _ _ _ Tryd.underlying37, run_slice_h (P := Tryd.prog) W 37 B (left + t) d Tryd.underlying37 .i64 left (by omega) (by omega), hsz]
  cases B <;> simp [Result.andThen, sliced, Addr.add]
/-- The head of a row of the call's own. -/
theorem or_head {base : Nat} {w : World} {A : Option Addr} {c m : Nat} {l : List Int} (h : OR enc 1 base 3 w (.slice A m c) l) (n : Nat) (hn : n ≤ l.length) : OR enc 1 base 3 w (.slice A n c) (l.take n) := by
  obtain ⟨h1, h2⟩ := h
  rcases h2 with ⟨e, h0⟩ | ⟨g, cap, cur, e, hb, hg, h3, h4, h5, h6⟩
  · have hn0 : n = 0 := by omega
    injection e with e1 e2 e3
    subst e1 e3 hn0
    exact World.ownsRow_nil _ _ _ _
  · injection e with e1 e2 e3
    subst e1 e3
    have hl : (l.take n).length = n := by simp; omega
    have hfl : flatR enc (l.take n) = (flatR enc l).take n := by
      have e : ∀ q : List Int, flatR enc q = q.map (fun x => .int .i64 x) := fun q => by
        unfold flatR enc
        induction q with
        | nil => rfl
        | cons x q ih => simp [List.flatMap_cons, ih]
      rw [e, e, List.map_take]
    refine ⟨by rw [flatR_length enc_len], .inr ⟨g, c, cur, by rw [hl], hb, hg, by rw [hl]; omega, h4, h5, ?_⟩⟩
    rw [hl, hfl, ← h6, List.take_take]
    congr 1
    omega
/-- A row of the call's own stays where its block does. -/
theorem or_turn {T : Nat → Prop} {base : Nat} {w w' : World} {v : Value} {l : List Int} (h : OR enc 1 base 3 w v l) (k : Turn T w w') (hT : ∀ q, T q → q < base) : OR enc 1 base 3 w' v l := by
  obtain ⟨h1, h2⟩ := h
  refine ⟨h1, ?_⟩
  rcases h2 with h2 | ⟨g, cap, cur, e, hb, hg, r⟩
  · exact .inl h2
  · refine .inr ⟨g, cap, cur, e, hb, ?_, r⟩
    have hlt : g < w.heap.size := by
      rcases Nat.lt_or_ge g w.heap.size with hlt | hge
      · exact hlt
      · rw [Array.getElem?_eq_none hge] at hg; cases hg
    rw [k.block g hlt (fun hq => by have := hT g hq; omega)]
    exact hg
theorem or_cap {base : Nat} {w : World} {A : Option Addr} {c m : Nat} {l : List Int} (h : OR enc 1 base 3 w (.slice A m c) l) : m = l.length ∧ m ≤ c ∧ (∀ a, A = some a → base ≤ a.block) ∧ RS enc 1 w A l := by
  have hb := World.ownsRow.lt h
  obtain ⟨A', c', e, hr⟩ := OR.rs enc_len h
  injection e with e1 e2 e3
  subst e1 e2 e3
  refine ⟨rfl, ?_, fun a e => (hb a.block (by rw [e]; rfl)).1, hr⟩
  rcases h.2 with ⟨e, h0⟩ | ⟨g, cap, cur, e, _, _, h3, _⟩
  · injection e with e1 e2 e3
    omega
  · injection e with e1 e2 e3
    subst e3
    omega

/-- What the function value leaves: of node number k. -/
def MadeP (T : Nat → Prop) (I : Nat → List Int → World → Prop) (k : Nat) (st : List Int) (t : Nat) (W : World) (x : Ending) (W' : World) : Prop :=
  ∃ r : Int, x = .returned (.int .i64 r) ∧ I (k + 1) (st.take (st.length - t) ++ [r]) W' ∧ Turn T W W'
/-- What it is asked. -/
def MadeK (gf : Nat) (lb : Array Value) (T : Nat → Prop) (e : List (Int × Int)) (I : Nat → List Int → World → Prop) (w : World) : Prop :=
  ∀ (k : Nat) (st : List Int) (W : World) (B : Option Addr) (t c : Nat), k < e.length → I k st W → Turn T w W → ndW st.length (e.getD k (0, 0)) = 0 → kT (e.getD k (0, 0)).1 = t → t ≤ st.length → RS enc 1 W B (st.drop (st.length - t)) → (∀ a, B = some a → w.heap.size ≤ a.block) →
    Calls Tryd.prog gf (#[.int .i64 k, .slice B t c] ++ lb) W (MadeP T I k st t W)
/-- What work leaves. -/
def WorkP (T : Nat → Prop) (e : List (Int × Int)) (I : Nat → List Int → World → Prop) (w : World) (x : Ending) (W' : World) : Prop :=
  ∃ r : Int, x = .returned (.tuple #[.int .i64 r, .int .i64 (wrF 0 e)]) ∧ (wrF 0 e = 0 → I e.length [r] W') ∧ (wrF 0 e ≠ 0 → r = 0) ∧ Turn T w W'
/-- What the call of the function value leaves, for work. -/
def CallP (T : Nat → Prop) (I : Nat → List Int → World → Prop) (k : Nat) (st : List Int) (B : Option Addr) (left d : Nat) (w : World) (x : Ending) (W' : World) : Prop :=
  ∃ r : Int, x = .returned (.int .i64 r) ∧ I (k + 1) (st.take left ++ [r]) W' ∧ Turn T w W' ∧ OR enc 1 w.heap.size 3 W' (.slice B left d) (st.take left)

set_option maxRecDepth 20000 in
set_option maxHeartbeats 4000000 in
theorem work_any (gf : Nat) (lb : Array Value) (T : Nat → Prop) (e : List (Int × Int)) (I : Nat → List Int → World → Prop) (A : Option Addr) (c m : Nat) (w : World)
    (hm : m = e.length) (hA : PA w A e) (hlm : m ≤ 1000) (hT : ∀ k, T k → k < w.heap.size) (hTA : ∀ a, A = some a → ¬ T a.block)
    (eg : ∀ args w, (callFunc gf args).run Tryd.prog w = .ok (.enter gf args) w) (hI : ∀ k st W W', I k st W → Turn T w W → Below w.heap.size W W' → I k st W') (hP : MadeK gf lb T e I w) (h0 : I 0 [] w) :
    Calls Tryd.prog 61 #[.slice A m c, .func (.func gf) #[] lb] w (WorkP T e I w) := by
  have HM := Lib.hid hm
  have HA := Lib.hid hA
  have HTT := Lib.hid hT
  have HTA := Lib.hid hTA
  have HI := Lib.hid hI
  have HP := Lib.hid hP
  have H0 := Lib.hid h0
  clear hm hA hT hTA hI hP h0
  go_enter Tryd.func61, Tryd.ntmps61
  go_wp2
  go_loopw [7, 14] (fun s i wr => ∃ (k n : Nat) (B : Option Addr) (d : Nat) (st : List Int), k ≤ m ∧ i = .int .i64 k ∧ s = .slice B n d ∧ Hid (n = st.length) ∧ n ≤ k ∧ Hid (OR enc 1 w.heap.size 3 wr (.slice B n d) st) ∧ Hid (Turn T w wr) ∧ Hid (I k st wr) ∧
    Hid (wrF 0 e = wrF n (e.drop k))) (fun _ i _ => m - (intOf i).toNat)
  case atStart => exact ⟨0, 0, none, 0, [], Nat.zero_le _, rfl, rfl, Lib.hid rfl, Nat.le_refl _, Lib.hid (World.ownsRow_nil _ _ _ _), Lib.hid (Turn.refl _ _), H0, Lib.hid rfl⟩
  case round =>
    obtain ⟨k, n, B, d, st, hk, rfl, rfl, HN, hn, HS, HW, HIK, HR⟩ := hrel
    have HC := Lib.hid (or_cap HS.out)
    by_cases hlt : k < m
    · obtain ⟨b, o, rfl, hb, hc⟩ := (HA.out.turn HW.out HTA.out) (by rw [← HM.out]; omega)
      obtain ⟨c1, c2⟩ := hc k (by rw [← HM.out]; exact hlt)
      have HK : Hid (k < e.length) := Lib.hid (by rw [← HM.out]; exact hlt)
      obtain ⟨op, q, HND⟩ : ∃ op q, Hid (e.getD k (0, 0) = (op, q)) := ⟨_, _, Lib.hid rfl⟩
      rw [HND.out] at c1 c2
      clear hc
      go_wp2_with fail
      refine (left_any op q n _ (by omega)).mono ?_
      rintro x w1 ⟨rfl, hb1⟩
      have HB1W : Hid (Below wr.heap.size wr w1) := Lib.hid (((Below.refl _ _).alloc (Nat.le_refl _) _).trans (hb1.mono (by simp)))
      clear hb1 c1 c2
      by_cases hw : ndW n (op, q) = 0
      · obtain ⟨h1, h2, _⟩ := ndW_ok hw
        obtain ⟨t, HT⟩ : ∃ t : Nat, Hid (kT op = t) := ⟨(kT op).toNat, Lib.hid (by simp at h1; omega)⟩
        have htn : t ≤ n := by have := HT.out; simp at h2; omega
        have ht2 : t ≤ 2 := by have := kT_range op; have := HT.out; omega
        obtain ⟨left, rfl⟩ : ∃ left, n = left + t := ⟨n - t, by omega⟩
        have HLV : Hid (leftV (left + t) (op, q) = (left : Int)) := Lib.hid (by unfold leftV; rw [if_pos hw]; show ((left + t : Nat) : Int) - kT op = _; rw [HT.out]; omega)
        have HW0 := Lib.hid hw
        rw [HLV.out, HW0.out]
        have EH := head_run B left t d (by have := HC.out.2.1; omega)
        obtain ⟨B2, HB2, ET⟩ := tail_run B left t d
        have HBB := Lib.hid HB2
        have HN2 : Hid (st.length - t = left) := Lib.hid (by have := HN.out; omega)
        have HCALL : Hid (∀ W, Below wr.heap.size wr W → Calls Tryd.prog gf (#[.int .i64 k, .slice B2 t (d - left)] ++ lb) W (CallP T I k st B left d w)) := Lib.hid (fun W hW => by
          have hTW : Turn T w W := HW.out.then_below (hW.mono HW.out.size)
          have hOR : OR enc 1 w.heap.size 3 W (.slice B (left + t) d) st := HS.out.below hW
          refine (HP.out k st W B2 t (d - left) HK.out (HI.out k st wr W HIK.out HW.out (hW.mono HW.out.size)) hTW (by rw [← HN.out, HND.out]; exact HW0.out) (by rw [HND.out]; exact HT.out) (by have := HN.out; omega) ?_ ?_).mono ?_
          · rw [HN2.out, HBB.out]
            exact tail_rs (or_cap hOR).2.2.2 (by have := HC.out.2.1; have := HN.out; omega)
          · intro a ha
            rw [HBB.out] at ha
            split at ha
            · exact HC.out.2.2.1 a ha
            · obtain ⟨a', h', rfl⟩ := Option.map_eq_some_iff.1 ha
              rw [show (a'.add left).block = a'.block from by first | rfl | (simp [Addr.add]; done) | (unfold Addr.add; split <;> rfl)]
              exact HC.out.2.2.1 a' h'
          · rintro x W' ⟨r, rfl, hi, ht⟩
            rw [HN2.out] at hi
            exact ⟨r, rfl, hi, hTW.trans ht, or_head (or_turn hOR ht HTT.out) left (by have := HN.out; omega)⟩)
        have HLT : Hid ((st.take left).length = left) := Lib.hid (by have := HN.out; simp; omega)
        have HBW : Hid (∀ W, Below w1.heap.size w1 W → Below wr.heap.size wr W) := Lib.hid (fun W h => HB1W.out.trans (h.mono HB1W.out.size))
        clear HB2 h1 h2 hw
        go_wp2_with fail
        go_region_held3 (fun _ => True) (trivial)
          (first
            | (refine (HCALL.out _ (HBW.out _ (by first | exact (Below.refl _ _).drew | exact Below.refl _ _))).mono ?_; rintro x w3 ⟨r, rfl, hx1, hx2, hx3⟩; have HX1 := Lib.hid hx1; have HX2 := Lib.hid hx2; have HX3 := Lib.hid hx3; clear hx1 hx2 hx3)
            | (refine step_append_own enc_len enc_one Tryd.underlying37 info rfl (by decide) (by decide) w.heap.size _ (by rfl) (.tmp 32) (.tmp 39) (by rfl) (by rfl) _ (st.take left) (by rfl) (World.ownsRow.alloc HX3.out _) r _ (by rfl) (by rfl) (by have := HLT.out; omega) (by have := HX2.out.size; simp; omega) _ (by first | exact World.alloc_heap_new _ _) ?_; intro v4 w4 ho4 hb4 _; have HO4 := Lib.hid ho4; have HB4 : Hid (Below w.heap.size w3 w4) := Lib.hid (((Below.refl _ _).alloc HX2.out.size _).trans hb4); clear ho4 hb4)
            | fail)
        clear EH ET
        have HLX : Hid ((st.take left ++ [r]).length = left + 1) := Lib.hid (by rw [List.length_append, HLT.out]; rfl)
        obtain ⟨A4, c4, hv4, _⟩ := OR.rs enc_len HO4.out
        rw [HLX.out] at hv4
        subst hv4
        have HE : Hid (wrF 0 e = wrF (left + 1) (e.drop (k + 1))) := Lib.hid (by
          rw [HR.out, wr_next HK.out (by rw [HND.out]; exact HW0.out), HND.out]
          show wrF (left + t - (kT op).toNat + 1) _ = _
          rw [HT.out]
          congr 1
          simp)
        clear HCALL HBW
        go_wp2
        go_roundw
        case rel => exact ⟨k + 1, left + 1, A4, c4, st.take left ++ [r], by omega, by go_num, rfl, Lib.hid HLX.out.symm, by omega, HO4, Lib.hid (HX2.out.then_below HB4.out), Lib.hid (HI.out (k + 1) _ w3 w4 HX1.out HX2.out HB4.out), HE⟩
        case measure => simp [intOf]; omega
      · obtain ⟨z, HZ⟩ : ∃ z, Hid (ndW n (op, q) = z) := ⟨_, Lib.hid rfl⟩
        have HE : Hid (wrF 0 e = z) := Lib.hid (by rw [HR.out, wr_stop HK.out (by rw [HND.out]; exact hw), HND.out, HZ.out])
        have HLV : Hid (leftV n (op, q) = 0) := Lib.hid (by unfold leftV; rw [if_neg hw])
        rw [HLV.out, HZ.out]
        rw [HZ.out] at hw
        have hz : (z != 0) = true := by simpa using hw
        go_wp2
        go_ret2
        refine ⟨0, by rw [HE.out]; rfl, fun h => absurd h (by rw [HE.out]; exact hw), fun _ => rfl, ?_⟩
        exact HW.out.then_below (HB1W.out.mono HW.out.size)
    · obtain rfl : k = m := by omega
      have HE : Hid (wrF 0 e = if n = 0 then 4 else if 1 < n then 5 else 0) := Lib.hid (by rw [HR.out, wr_end (by rw [HM.out]; exact Nat.le_refl _)])
      by_cases n0 : n = 0
      · subst n0
        have HE2 : Hid (wrF 0 e = 4) := Lib.hid (HE.out.trans (if_pos rfl))
        clear HE
        go_wp2
        go_ret2
        exact ⟨0, by rw [HE2.out]; rfl, fun h => absurd h (by rw [HE2.out]; decide), fun _ => rfl, HW.out⟩
      · by_cases n1 : 1 < n
        · have HE2 : Hid (wrF 0 e = 5) := Lib.hid (HE.out.trans ((if_neg n0).trans (if_pos n1)))
          clear HE
          go_wp2
          go_ret2
          exact ⟨0, by rw [HE2.out]; rfl, fun h => absurd h (by rw [HE2.out]; decide), fun _ => rfl, HW.out⟩
        · obtain rfl : n = 1 := by omega
          have HE2 : Hid (wrF 0 e = 0) := Lib.hid (HE.out.trans ((if_neg n0).trans (if_neg n1)))
          obtain ⟨b, o, rfl, hb, c1⟩ := rs_at (i := 0) HC.out.2.2.2 (by have := HN.out; omega)
          have HL1 : Hid (st = [st.getD 0 default]) := Lib.hid (by
            have h := HN.out
            match st, h with
            | [a], _ => rfl)
          have HIK2 : Hid (I e.length [st.getD 0 default] wr) := Lib.hid (by rw [← HL1.out, ← HM.out]; exact HIK.out)
          rw [Nat.add_zero] at c1
          generalize st.getD 0 default = y at c1 HIK2
          clear HE n0 n1 HL1
          go_wp2
          go_ret2
          exact ⟨y, by rw [HE2.out]; rfl, fun _ => HIK2.out, fun h => absurd HE2.out h, HW.out⟩
end Go.Proofs.YtgnflnfajkoibaaDoor.lt.wi
namespace Go.Proofs.YtgnflnfajkoibaaDoor.lt
open Go.ChangeShapes Go.WideShapes Go.ChangeAt Go.RowKit sr wi

theorem ia_rs {w : World} {A : Option Addr} {l : List Int} (h : RS enc 1 w A l) : IA w A l := fun hn => by
  obtain ⟨b, off, e, hb, hc⟩ := h hn
  refine ⟨b, off, e, hb, fun i hi => ?_⟩
  have := hc i hi 0 (by omega)
  rw [Nat.mul_one, Nat.add_zero] at this
  exact this
end Go.Proofs.YtgnflnfajkoibaaDoor.lt
namespace Go.Proofs.YtgnflnfajkoibaaDoor.lt
open Go.ChangeShapes Go.WideShapes Go.ChangeAt Go.RowKit sr wi

/-- What stands while Kids works. -/
def KdI (e : List (Int × Int)) (at_ : Int) (ab kb : Nat) (k : Nat) (st : List Int) (W : World) : Prop :=
  Ok e k st ∧ W.heap[kb]? = some (.cells #[.int .i64 (kidsK e at_ k).1, .int .i64 (kidsK e at_ k).2] 98) ∧ W.cell? ⟨ab, 0, none⟩ = some (.int .i64 at_) ∧ ab < W.heap.size ∧ kb < W.heap.size

theorem turn_row {w : World} {g : Nat} (cs : Array Value) : Turn (· = g) w (w.setRow g cs) := ⟨rfl, rfl, rfl, by simp, fun k _ hT => setRow_other w g k cs hT⟩
set_option maxHeartbeats 1000000 in
theorem kids1_other (ab kb k : Nat) (at_ : Int) (v : Value) (W : World) (h : at_ ≠ k) (hA : W.cell? ⟨ab, 0, none⟩ = some (.int .i64 at_)) :
    Calls Tryd.prog 62 #[.int .i64 k, v, .pointer (some ⟨ab, 0, none⟩), .pointer (some ⟨kb, 0, none⟩)] W fun x W' => x = .returned (.int .i64 k) ∧ W = W' := by
  have hk : ((k : Int) == at_) = false := by rw [beq_eq_false_iff_ne]; exact fun e => h e.symm
  have hk2 : ¬ (k : Int) = at_ := fun e => h e.symm
  go_enter Tryd.func62, Tryd.ntmps62
  go_wp2
  go_ret
  exact ⟨rfl, rfl⟩
set_option maxRecDepth 20000 in
set_option maxHeartbeats 1000000 in
theorem kids1_here (ab kb k t c : Nat) (x0 y0 x1 y1 : Int) (B : Option Addr) (ps : List Int) (W : World) (ht : t = ps.length) (hB : IA W B ps) (hG : W.heap[kb]? = some (.cells #[.int .i64 x0, .int .i64 y0] 98))
    (hps : (ps = [] ∧ x1 = x0 ∧ y1 = y0) ∨ (ps = [x1] ∧ y1 = y0) ∨ ps = [x1, y1]) (hA : W.cell? ⟨ab, 0, none⟩ = some (.int .i64 (k : Int))) :
    Calls Tryd.prog 62 #[.int .i64 k, .slice B t c, .pointer (some ⟨ab, 0, none⟩), .pointer (some ⟨kb, 0, none⟩)] W fun x W' => x = .returned (.int .i64 k) ∧ W'.heap[kb]? = some (.cells #[.int .i64 x1, .int .i64 y1] 98) ∧ Turn (· = kb) W W' := by
  have HG := Lib.hid hG
  rcases hps with ⟨rfl, rfl, rfl⟩ | ⟨rfl, rfl⟩ | rfl
  · subst ht
    clear hB hG
    go_enter Tryd.func62, Tryd.ntmps62
    go_wp2_with (with_reducible refine wpList_copy_nothing rfl (.tmp 10) (.tmp 11) 37 37 rfl 3 Tryd.underlying37 (by kernel_rfl) _ _ _ _ _ _ rfl rfl rfl ?_)
    go_ret
    exact ⟨rfl, HG.out, Turn.refl _ _⟩
  · subst ht
    obtain ⟨b, o, rfl, hb, hc⟩ := hB (by simp)
    have c0 := hc 0 (by simp)
    have HC : Hid (∀ (j : Nat) (v : Value), [Value.int .i64 x1][j]? = some v → W.cell? ((⟨b, o, none⟩ : Addr).add j) = some v) := Lib.hid (fun j v hj => by
      rcases j with _ | j
      · rw [add_plain, c0]; simpa using hj
      · simp at hj)
    clear hB hG hc c0
    go_enter Tryd.func62, Tryd.ntmps62
    go_wp2_with (with_reducible show wpList _ _ _ (⟨some 12, _, _, _, _, _⟩ :: _) _ _; go_loud (refine wpList_copy_own rfl (.tmp 10) (.tmp 11) 37 37 rfl 3 Tryd.underlying37 (by kernel_rfl) kb 0 _ _ ⟨b, o, none⟩ _ _ rfl rfl _ _ HG.out [.int .i64 x1] rfl HC.out (by simp) (by simp [Value.oneCell']) ?_))
    go_ret
    exact ⟨rfl, setRow_heap W kb _ _ _ _ HG.out, turn_row _⟩
  · subst ht
    obtain ⟨b, o, rfl, hb, hc⟩ := hB (by simp)
    have c0 := hc 0 (by simp)
    have c1 := hc 1 (by simp)
    have HC : Hid (∀ (j : Nat) (v : Value), [Value.int .i64 x1, Value.int .i64 y1][j]? = some v → W.cell? ((⟨b, o, none⟩ : Addr).add j) = some v) := Lib.hid (fun j v hj => by
      rcases j with _ | _ | j
      · rw [add_plain, c0]; simpa using hj
      · rw [add_plain, c1]; simpa using hj
      · simp at hj)
    clear hB hG hc c0 c1
    go_enter Tryd.func62, Tryd.ntmps62
    go_wp2_with (with_reducible show wpList _ _ _ (⟨some 12, _, _, _, _, _⟩ :: _) _ _; go_loud (refine wpList_copy_own rfl (.tmp 10) (.tmp 11) 37 37 rfl 3 Tryd.underlying37 (by kernel_rfl) kb 0 _ _ ⟨b, o, none⟩ _ _ rfl rfl _ _ HG.out [.int .i64 x1, .int .i64 y1] rfl HC.out (by simp) (by simp [Value.oneCell']) ?_))
    go_ret
    exact ⟨rfl, setRow_heap W kb _ _ _ _ HG.out, turn_row _⟩

set_option maxRecDepth 20000 in
set_option maxHeartbeats 4000000 in
theorem kids_any (e : List (Int × Int)) (at_ : Int) (A : Option Addr) (c m : Nat) (w : World) (hm : m = e.length) (hm2 : m ≤ 1000) (hA : PA w A e) :
    Calls Tryd.prog 45 #[.slice A m c, .int .i64 at_] w fun x w' => x = .returned (.tuple #[.int .i64 (kidsF e at_).1, .int .i64 (kidsF e at_).2]) ∧ Below w.heap.size w w' := by
  have hmf : ∀ (fn : Fn) (first cap : Array Value) (w : World), (Instr.makeFunc fn first cap).run Tryd.prog w = .ok (.func fn first cap) w := fun _ _ _ _ => rfl
  have HM := Lib.hid hm
  have HA := Lib.hid hA
  clear hm hA
  obtain ⟨z, HZW⟩ : ∃ z, Hid (wrF 0 e = z) := ⟨_, Lib.hid rfl⟩
  obtain ⟨x1, y1, HXY⟩ : ∃ x1 y1, Hid (kidsF e at_ = (x1, y1)) := ⟨_, _, Lib.hid rfl⟩
  rw [HXY.out]
  go_enter Tryd.func45, Tryd.ntmps45
  go_wp2_with fail
  obtain ⟨w2, HW2, hG, hX, hB2, hz⟩ : ∃ w2, w2 = (w.alloc (.cells #[.int .i64 at_] 3)).alloc (.cells #[.int .i64 (-1), .int .i64 (-1)] 98) ∧ w2.heap[w.heap.size + 1]? = some (.cells #[.int .i64 (-1), .int .i64 (-1)] 98) ∧
      w2.cell? ⟨w.heap.size, 0, none⟩ = some (.int .i64 at_) ∧ Below w.heap.size w w2 ∧ w2.heap.size = w.heap.size + 2 :=
    ⟨_, rfl, heap_next _ _ _, ((below_one _ _).cell (p := ⟨w.heap.size, 0, none⟩) (by simp)).trans (World.cell?_alloc_at _ _ _ _ rfl), ((below_one w _).alloc (by simp) _), by simp⟩
  rw [← HW2]
  have HG := Lib.hid hG
  have HX := Lib.hid hX
  have HB2 := Lib.hid hB2
  have HZ := Lib.hid hz
  clear HW2 hG hX hB2 hz
  have HWK : Hid (Calls Tryd.prog 61 #[.slice A m c, .func (.func 62) #[] #[.pointer (some ⟨w.heap.size, 0, none⟩), .pointer (some ⟨w.heap.size + 1, 0, none⟩)]] w2 (WorkP (· = w.heap.size + 1) e (KdI e at_ w.heap.size (w.heap.size + 1)) w2)) := Lib.hid (by
    by_cases h0 : m = 0
    · have he : e = [] := List.eq_nil_of_length_eq_zero (by rw [← HM.out]; exact h0)
      subst he
      subst h0
      refine (work_any 62 #[.pointer (some ⟨w.heap.size, 0, none⟩), .pointer (some ⟨w.heap.size + 1, 0, none⟩)] (fun _ => False) [] (KdI [] at_ w.heap.size (w.heap.size + 1)) A c 0 w2 rfl (fun h => absurd h (by simp)) (by omega) (fun _ h => h.elim) (fun _ _ h => h)
        (enters_of Tryd.func62 (by kernel_rfl) rfl) (fun k st W W' ⟨h1, h2, h3, h4, h5⟩ hT hB => ⟨h1, (hB.block _ (by have := HZ.out; omega)).trans h2, (hB.cell (p := ⟨w.heap.size, 0, none⟩) (by have := HZ.out; show w.heap.size < w2.heap.size; omega)).trans h3, Nat.lt_of_lt_of_le h4 hB.size, Nat.lt_of_lt_of_le h5 hB.size⟩) (fun k st W B t c hk => absurd hk (by simp))
        ⟨Ok.zero _, by rw [show kidsK [] at_ 0 = (-1, -1) from by unfold kidsK; rw [if_neg (by omega)]]; exact HG.out, HX.out, by rw [HZ.out]; omega, by rw [HZ.out]; omega⟩).mono ?_
      rintro x W' ⟨r, h1, h2, h3, h4⟩
      exact ⟨r, h1, h2, h3, ⟨h4.os, h4.tape, h4.output, h4.size, fun k hk _ => h4.block k hk (fun h => h)⟩⟩
    · refine work_any 62 _ (· = w.heap.size + 1) e (KdI e at_ w.heap.size (w.heap.size + 1)) A c m w2 HM.out (HA.out.below HB2.out) hm2 (fun k hk => by have := HZ.out; omega) (fun a ha => ?_)
        (enters_of Tryd.func62 (by kernel_rfl) rfl) ?_ ?_ ?_
      · obtain ⟨b, o, hb, hlt, _⟩ := HA.out (by rw [← HM.out]; omega)
        rw [ha] at hb
        injection hb with hb
        subst hb
        show ¬ b = w.heap.size + 1
        omega
      · rintro k st W W' ⟨h1, h2, h3, h4, h5⟩ hT hB
        exact ⟨h1, (hB.block _ (by have := HZ.out; omega)).trans h2, (hB.cell (p := ⟨w.heap.size, 0, none⟩) (by have := HZ.out; show w.heap.size < w2.heap.size; omega)).trans h3, Nat.lt_of_lt_of_le h4 hB.size, Nat.lt_of_lt_of_le h5 hB.size⟩
      · rintro k st W B t d hk ⟨h1, h2, h3, h4, h5⟩ hT hnd hkt htl hRS hBl
        have hnx := h1.next hk hnd
        rw [hkt, Int.toNat_natCast] at hnx
        by_cases hat : at_ = k
        · subst hat
          have hp := prt_of hk h1.1 hkt htl
          rw [kidsK_before] at h2
          refine (kids1_here w.heap.size (w.heap.size + 1) k t d (-1) (-1) (prt e k).1 (prt e k).2 B (st.drop (st.length - t)) W (by simp; omega) (ia_rs hRS) h2 ?_ h3).mono ?_
          · rcases hp with ⟨_, e1, e2⟩ | ⟨a, _, e1, e2⟩ | ⟨a, b, _, e1, e2⟩
            · rw [e1, e2]; exact .inl ⟨rfl, rfl, rfl⟩
            · rw [e1, e2]; exact .inr (.inl ⟨rfl, rfl⟩)
            · rw [e1, e2]; exact .inr (.inr rfl)
          · rintro x W' ⟨rfl, hG', hT'⟩
            exact ⟨_, rfl, ⟨hnx, by rw [kidsK_here]; exact hG', (hT'.cell (p := ⟨w.heap.size, 0, none⟩) h4 (by show ¬ w.heap.size = w.heap.size + 1; omega)).trans h3, Nat.lt_of_lt_of_le h4 hT'.size, Nat.lt_of_lt_of_le h5 hT'.size⟩, hT'⟩
        · refine (kids1_other w.heap.size (w.heap.size + 1) k at_ _ W hat h3).mono ?_
          rintro x W' ⟨rfl, rfl⟩
          exact ⟨_, rfl, ⟨hnx, by rw [kidsK_other hat]; exact h2, h3, h4, h5⟩, Turn.refl _ _⟩
      · exact ⟨Ok.zero _, by rw [show kidsK e at_ 0 = (-1, -1) from by unfold kidsK; rw [if_neg (by omega)]]; exact HG.out, HX.out, by rw [HZ.out]; omega, by rw [HZ.out]; omega⟩)
  refine HWK.out.mono ?_
  rintro x w3 ⟨r, rfl, hI, _, hT⟩
  have HB3 : Hid (Below w.heap.size w w3) := Lib.hid (HB2.out.trans (hT.below (fun k hk => by rw [hk]; omega) HB2.out.size))
  have HII := Lib.hid hI
  clear hI hT HWK
  rw [HZW.out]
  by_cases hz : z = 0
  · subst hz
    obtain ⟨_, g2, _, _, _⟩ := HII.out HZW.out
    rw [← kidsF_is HZW.out, HXY.out] at g2
    have k0 : w3.cell? ⟨w.heap.size + 1, 0, none⟩ = some (.int .i64 x1) := by simp [World.cell?, g2]
    have k1 : w3.cell? ⟨w.heap.size + 1, 1, none⟩ = some (.int .i64 y1) := by simp [World.cell?, g2]
    clear g2 HII
    go_wp2
    go_quiet (fail)
    go_wp2
    go_ret2
    exact ⟨rfl, below_drewN HB3.out _⟩
  · have hz2 : (z != 0) = true := by simpa using hz
    have HE : Hid (x1 = -1 ∧ y1 = -1) := Lib.hid (by
      have h := kidsF_not (e := e) (at_ := at_) (by rw [HZW.out]; exact hz)
      rw [HXY.out] at h
      exact ⟨congrArg Prod.fst h, congrArg Prod.snd h⟩)
    clear HII hz
    go_wp2
    go_ret2
    exact ⟨by rw [HE.out.1, HE.out.2]; rfl, HB3.out⟩
end Go.Proofs.YtgnflnfajkoibaaDoor.lt
