/- Contracts that the claim stands on, several texts in one: Shelf, LexDec, LexNum. -/
import Derived.Shelf.LaysM
import Derived.Shelf.Strconv.Itoa3
import Derived.Shelf.Strconv.Clone
import Derived.Shelf.LaysC
import Derived.Shelf.Strconv.AtoiAll
import Derived.Test.YtmnigdphikoljaaGreatDoorProg
import Derived.RangeFuncRecord
import Derived.Lib.AtoiErrMem
import Derived.Test.YtmnigdphikoljaaGreatDoorPut1
import Derived.Test.YtmnigdphikoljaaGreatDoorPut2
import Derived.Test.YtmnigdphikoljaaGreatDoorPut3
import Derived.Test.YtmnigdphikoljaaGreatDoorPut4
import Derived.Test.YtmnigdphikoljaaGreatDoorPut5
import Derived.Test.YtmnigdphikoljaaGreatDoorPut6
import Derived.Test.YtmnigdphikoljaaGreatDoorPut7
import Derived.Test.YtmnigdphikoljaaGreatDoorPut8
import Derived.Test.YtmnigdphikoljaaGreatDoorPut9
import Derived.Test.YtmnigdphikoljaaGreatDoorPut10
import Derived.Test.YtmnigdphikoljaaGreatDoorPut11
namespace Go.Proofs
open Go.Shelf
def Tryz.laysM171_ren : Go.Shelf.Ren := ⟨fun | 171 => 88 | 243 => 135 | 246 => 159 | 283 => 166 | 284 => 167 | 285 => 168 | 286 => 169 | 129 => 177 | 317 => 176 | 318 => 178 | 319 => 179 | 320 => 180 | 337 => 183 | 338 => 184 | n => n, fun | 3 => 3 | 9 => 9 | 2 => 2 | 4 => 4 | 171 => 185 | 0 => 0 | 53 => 186 | 37 => 145 | 5 => 5 | 173 => 189 | 212 => 198 | 51 => 199 | 20 => 20 | 213 => 200 | 46 => 201 | 232 => 213 | 233 => 214 | n => n, fun | 17 => 1 | 18 => 4 | 19 => 5 | n => n⟩
theorem Tryz.laysM171 : Go.Proofs.LaysM.n171 Tryz.prog Tryz.laysM171_ren := {
  mixed := by kernel_rfl
  f129 := Tryz.func177.trans (congrArg some (by kernel_rfl))
  f171 := Tryz.func88.trans (congrArg some (by kernel_rfl))
  f243 := Tryz.func135.trans (congrArg some (by kernel_rfl))
  f246 := Tryz.func159.trans (congrArg some (by kernel_rfl))
  f283 := Tryz.func166.trans (congrArg some (by kernel_rfl))
  f284 := Tryz.func167.trans (congrArg some (by kernel_rfl))
  f285 := Tryz.func168.trans (congrArg some (by kernel_rfl))
  f286 := Tryz.func169.trans (congrArg some (by kernel_rfl))
  f317 := Tryz.func176.trans (congrArg some (by kernel_rfl))
  f318 := Tryz.func178.trans (congrArg some (by kernel_rfl))
  f319 := Tryz.func179.trans (congrArg some (by kernel_rfl))
  f320 := Tryz.func180.trans (congrArg some (by kernel_rfl))
  f337 := Tryz.func183.trans (congrArg some (by kernel_rfl))
  f338 := Tryz.func184.trans (congrArg some (by kernel_rfl))
  t0 := Tryz.underlying0
  a0 := Tryz.isAgg0
  z0 := Tryz.sizeOf0
  v0 := Tryz.zeroValue0
  t2 := Tryz.underlying2
  a2 := Tryz.isAgg2
  z2 := Tryz.sizeOf2
  v2 := Tryz.zeroValue2
  t3 := Tryz.underlying3
  a3 := Tryz.isAgg3
  z3 := Tryz.sizeOf3
  v3 := Tryz.zeroValue3
  t4 := Tryz.underlying4
  a4 := Tryz.isAgg4
  z4 := Tryz.sizeOf4
  v4 := Tryz.zeroValue4
  t5 := Tryz.underlying5
  a5 := Tryz.isAgg5
  z5 := Tryz.sizeOf5
  v5 := Tryz.zeroValue5
  t9 := Tryz.underlying9
  a9 := Tryz.isAgg9
  z9 := Tryz.sizeOf9
  v9 := Tryz.zeroValue9
  t20 := Tryz.underlying20
  a20 := Tryz.isAgg20
  z20 := Tryz.sizeOf20
  v20 := Tryz.zeroValue20
  t37 := Tryz.underlying145
  a37 := Tryz.isAgg145
  z37 := Tryz.sizeOf145
  v37 := Tryz.zeroValue145
  t46 := Tryz.underlying201
  a46 := Tryz.isAgg201
  z46 := Tryz.sizeOf201
  v46 := Tryz.zeroValue201
  t51 := Tryz.underlying199
  a51 := Tryz.isAgg199
  z51 := Tryz.sizeOf199
  v51 := Tryz.zeroValue199
  t53 := Tryz.underlying186
  a53 := Tryz.isAgg186
  z53 := Tryz.sizeOf186
  v53 := Tryz.zeroValue186
  t171 := Tryz.underlying185
  a171 := Tryz.isAgg185
  z171 := Tryz.sizeOf185
  v171 := Tryz.zeroValue185
  t173 := Tryz.underlying189
  a173 := Tryz.isAgg189
  z173 := Tryz.sizeOf189
  v173 := Tryz.zeroValue189
  t212 := Tryz.underlying198
  a212 := Tryz.isAgg198
  z212 := Tryz.sizeOf198
  v212 := Tryz.zeroValue198
  t213 := Tryz.underlying200
  a213 := Tryz.isAgg200
  z213 := Tryz.sizeOf200
  t232 := Tryz.underlying213
  a232 := Tryz.isAgg213
  z232 := Tryz.sizeOf213
  v232 := Tryz.zeroValue213
  t233 := Tryz.underlying214
  a233 := Tryz.isAgg214
  z233 := Tryz.sizeOf214
  v233 := Tryz.zeroValue214
  g17 := by kernel_rfl
  g18 := by kernel_rfl
  g19 := by kernel_rfl
  i0 := by kernel_rfl
  i2 := by kernel_rfl
  i3 := by kernel_rfl
  i4 := by kernel_rfl
  i5 := by kernel_rfl
  i9 := by kernel_rfl
  i20 := by kernel_rfl
  i37 := by kernel_rfl
  i46 := by kernel_rfl
  i51 := by kernel_rfl
  i53 := by kernel_rfl
  i171 := by kernel_rfl
  i173 := by kernel_rfl
  i212 := by kernel_rfl
  i232 := by kernel_rfl
  i233 := by kernel_rfl
  m17 := by kernel_rfl
  m18 := by kernel_rfl
  m19 := by kernel_rfl }
open Go.RowKit Go.Sort Go.Lib in
/-- strconv.Itoa: "Itoa is equivalent to FormatInt(int64(i), 10).": i's DECIMAL NUMERAL ('Lib.itoa': a '-' where i is negative, then the digits), FOR EVERY int. The world behind the call: the world before it, new blocks behind the heap (the library's 'var a [24]byte'), draws. (LAID: no walk: one application.) -/
theorem Tryz.strconv_Itoa (n : Int) (h0 : -9223372036854775808 ≤ n) (h1 : n ≤ 9223372036854775807) (w : World) (htab : Lib.TabIs Tryz.prog w "internal/strconv.uint64pow10" .u64 Lib.pow10Tab) :
    Calls Tryz.prog 88 #[.int .i64 n] w fun e w' => e = .returned (.string ⟨(Lib.itoa n).toArray⟩) ∧ ∃ k os, w' = grow (w.drewN k) os := Any.strconv_Itoa Tryz.laysM171 n h0 h1 w htab
def Tryz.laysM316_ren : Go.Shelf.Ren := ⟨fun | 316 => 136 | n => n, fun | 9 => 9 | 3 => 3 | 4 => 4 | 37 => 145 | 0 => 0 | 127 => 181 | 5 => 5 | n => n, fun | n => n⟩
theorem Tryz.laysM316 : Go.Proofs.LaysM.n316 Tryz.prog Tryz.laysM316_ren := {
  mixed := by kernel_rfl
  f316 := Tryz.func136.trans (congrArg some (by kernel_rfl))
  t0 := Tryz.underlying0
  a0 := Tryz.isAgg0
  z0 := Tryz.sizeOf0
  v0 := Tryz.zeroValue0
  t3 := Tryz.underlying3
  a3 := Tryz.isAgg3
  z3 := Tryz.sizeOf3
  v3 := Tryz.zeroValue3
  t4 := Tryz.underlying4
  a4 := Tryz.isAgg4
  z4 := Tryz.sizeOf4
  v4 := Tryz.zeroValue4
  t9 := Tryz.underlying9
  a9 := Tryz.isAgg9
  z9 := Tryz.sizeOf9
  v9 := Tryz.zeroValue9
  t37 := Tryz.underlying145
  a37 := Tryz.isAgg145
  z37 := Tryz.sizeOf145
  v37 := Tryz.zeroValue145
  t127 := Tryz.underlying181
  a127 := Tryz.isAgg181
  z127 := Tryz.sizeOf181
  v127 := Tryz.zeroValue181
  t5 := Tryz.underlying5
  a5 := Tryz.isAgg5
  z5 := Tryz.sizeOf5
  v5 := Tryz.zeroValue5
  i0 := by kernel_rfl
  i3 := by kernel_rfl
  i4 := by kernel_rfl
  i5 := by kernel_rfl
  i9 := by kernel_rfl
  i37 := by kernel_rfl
  i127 := by kernel_rfl }
open Go.RowKit in
/-- internal/stringslite.Clone (what strings.Clone calls): "Clone returns a fresh copy of s.": THE SAME BYTES. Of what was there nothing has turned (a new row is laid, and frozen, where s is not empty). (LAID: no walk: one application.) -/
theorem Tryz.stringslite_Clone (s : ByteArray) (w : World) (hlim : s.size ≤ 281474976710656) :
    Calls Tryz.prog 136 #[.string s] w fun e w' => e = .returned (.string s) ∧ Below w.heap.size w w' := Any.stringslite_Clone Tryz.laysM316 s w hlim
def Tryz.laysC172_ren : Go.Shelf.Ren := ⟨fun | 172 => 138 | 244 => 160 | 245 => 161 | 247 => 170 | 279 => 171 | 280 => 172 | 281 => 173 | 282 => 174 | 287 => 181 | 316 => 136 | 171 => 88 | 205 => 182 | 321 => 185 | 322 => 186 | 243 => 135 | 246 => 159 | 283 => 166 | 284 => 167 | 285 => 168 | 286 => 169 | 129 => 177 | 317 => 176 | 318 => 178 | 319 => 179 | 320 => 180 | 337 => 183 | 338 => 184 | n => n, fun | 9 => 9 | 3 => 3 | 75 => 167 | 76 => 168 | 4 => 4 | 5 => 5 | 167 => 191 | 37 => 145 | 0 => 0 | 85 => 192 | 2 => 2 | 168 => 194 | 53 => 186 | 175 => 203 | 46 => 201 | 210 => 206 | 127 => 181 | 145 => 212 | 143 => 210 | 21 => 21 | 171 => 185 | 173 => 189 | 212 => 198 | 51 => 199 | 20 => 20 | 213 => 200 | 232 => 213 | 233 => 214 | 80 => 215 | n => n, fun | 15 => 2 | 16 => 3 | 17 => 1 | 18 => 4 | 19 => 5 | n => n⟩
theorem Tryz.laysC172 : Go.Proofs.LaysC.n172 Tryz.prog Tryz.laysC172_ren := {
  mixed := by kernel_rfl
  f129 := Tryz.func177.trans (congrArg some (by kernel_rfl))
  f171 := Tryz.func88.trans (congrArg some (by kernel_rfl))
  f172 := Tryz.func138.trans (congrArg some (by kernel_rfl))
  f205 := Tryz.func182.trans (congrArg some (by kernel_rfl))
  f243 := Tryz.func135.trans (congrArg some (by kernel_rfl))
  f244 := Tryz.func160.trans (congrArg some (by kernel_rfl))
  f245 := Tryz.func161.trans (congrArg some (by kernel_rfl))
  f246 := Tryz.func159.trans (congrArg some (by kernel_rfl))
  f247 := Tryz.func170.trans (congrArg some (by kernel_rfl))
  f279 := Tryz.func171.trans (congrArg some (by kernel_rfl))
  f280 := Tryz.func172.trans (congrArg some (by kernel_rfl))
  f281 := Tryz.func173.trans (congrArg some (by kernel_rfl))
  f282 := Tryz.func174.trans (congrArg some (by kernel_rfl))
  f283 := Tryz.func166.trans (congrArg some (by kernel_rfl))
  f284 := Tryz.func167.trans (congrArg some (by kernel_rfl))
  f285 := Tryz.func168.trans (congrArg some (by kernel_rfl))
  f286 := Tryz.func169.trans (congrArg some (by kernel_rfl))
  f287 := Tryz.func181.trans (congrArg some (by kernel_rfl))
  f316 := Tryz.func136.trans (congrArg some (by kernel_rfl))
  f317 := Tryz.func176.trans (congrArg some (by kernel_rfl))
  f318 := Tryz.func178.trans (congrArg some (by kernel_rfl))
  f319 := Tryz.func179.trans (congrArg some (by kernel_rfl))
  f320 := Tryz.func180.trans (congrArg some (by kernel_rfl))
  f321 := Tryz.func185.trans (congrArg some (by kernel_rfl))
  f322 := Tryz.func186.trans (congrArg some (by kernel_rfl))
  f337 := Tryz.func183.trans (congrArg some (by kernel_rfl))
  f338 := Tryz.func184.trans (congrArg some (by kernel_rfl))
  t0 := Tryz.underlying0
  a0 := Tryz.isAgg0
  z0 := Tryz.sizeOf0
  v0 := Tryz.zeroValue0
  t2 := Tryz.underlying2
  a2 := Tryz.isAgg2
  z2 := Tryz.sizeOf2
  v2 := Tryz.zeroValue2
  t3 := Tryz.underlying3
  a3 := Tryz.isAgg3
  z3 := Tryz.sizeOf3
  v3 := Tryz.zeroValue3
  t4 := Tryz.underlying4
  a4 := Tryz.isAgg4
  z4 := Tryz.sizeOf4
  v4 := Tryz.zeroValue4
  t5 := Tryz.underlying5
  a5 := Tryz.isAgg5
  z5 := Tryz.sizeOf5
  v5 := Tryz.zeroValue5
  t9 := Tryz.underlying9
  a9 := Tryz.isAgg9
  z9 := Tryz.sizeOf9
  v9 := Tryz.zeroValue9
  t20 := Tryz.underlying20
  a20 := Tryz.isAgg20
  z20 := Tryz.sizeOf20
  v20 := Tryz.zeroValue20
  t21 := Tryz.underlying21
  a21 := Tryz.isAgg21
  z21 := Tryz.sizeOf21
  v21 := Tryz.zeroValue21
  t37 := Tryz.underlying145
  a37 := Tryz.isAgg145
  z37 := Tryz.sizeOf145
  v37 := Tryz.zeroValue145
  t46 := Tryz.underlying201
  a46 := Tryz.isAgg201
  z46 := Tryz.sizeOf201
  v46 := Tryz.zeroValue201
  t51 := Tryz.underlying199
  a51 := Tryz.isAgg199
  z51 := Tryz.sizeOf199
  v51 := Tryz.zeroValue199
  t53 := Tryz.underlying186
  a53 := Tryz.isAgg186
  z53 := Tryz.sizeOf186
  v53 := Tryz.zeroValue186
  t75 := Tryz.underlying167
  a75 := Tryz.isAgg167
  z75 := Tryz.sizeOf167
  v75 := Tryz.zeroValue167
  t76 := Tryz.underlying168
  a76 := Tryz.isAgg168
  z76 := Tryz.sizeOf168
  v76 := Tryz.zeroValue168
  t85 := Tryz.underlying192
  a85 := Tryz.isAgg192
  z85 := Tryz.sizeOf192
  v85 := Tryz.zeroValue192
  t127 := Tryz.underlying181
  a127 := Tryz.isAgg181
  z127 := Tryz.sizeOf181
  v127 := Tryz.zeroValue181
  t143 := Tryz.underlying210
  a143 := Tryz.isAgg210
  z143 := Tryz.sizeOf210
  v143 := Tryz.zeroValue210
  t145 := Tryz.underlying212
  a145 := Tryz.isAgg212
  z145 := Tryz.sizeOf212
  v145 := Tryz.zeroValue212
  t167 := Tryz.underlying191
  a167 := Tryz.isAgg191
  z167 := Tryz.sizeOf191
  v167 := Tryz.zeroValue191
  t168 := Tryz.underlying194
  a168 := Tryz.isAgg194
  z168 := Tryz.sizeOf194
  v168 := Tryz.zeroValue194
  t171 := Tryz.underlying185
  a171 := Tryz.isAgg185
  z171 := Tryz.sizeOf185
  v171 := Tryz.zeroValue185
  t173 := Tryz.underlying189
  a173 := Tryz.isAgg189
  z173 := Tryz.sizeOf189
  v173 := Tryz.zeroValue189
  t175 := Tryz.underlying203
  a175 := Tryz.isAgg203
  z175 := Tryz.sizeOf203
  v175 := Tryz.zeroValue203
  t210 := Tryz.underlying206
  a210 := Tryz.isAgg206
  z210 := Tryz.sizeOf206
  v210 := Tryz.zeroValue206
  t212 := Tryz.underlying198
  a212 := Tryz.isAgg198
  z212 := Tryz.sizeOf198
  v212 := Tryz.zeroValue198
  t213 := Tryz.underlying200
  a213 := Tryz.isAgg200
  z213 := Tryz.sizeOf200
  t232 := Tryz.underlying213
  a232 := Tryz.isAgg213
  z232 := Tryz.sizeOf213
  v232 := Tryz.zeroValue213
  t233 := Tryz.underlying214
  a233 := Tryz.isAgg214
  z233 := Tryz.sizeOf214
  v233 := Tryz.zeroValue214
  g15 := by kernel_rfl
  g16 := by kernel_rfl
  g17 := by kernel_rfl
  g18 := by kernel_rfl
  g19 := by kernel_rfl
  t80 := Tryz.underlying215
  a80 := Tryz.isAgg215
  z80 := Tryz.sizeOf215
  v80 := Tryz.zeroValue215
  i0 := by kernel_rfl
  i2 := by kernel_rfl
  i3 := by kernel_rfl
  i4 := by kernel_rfl
  i5 := by kernel_rfl
  i9 := by kernel_rfl
  i20 := by kernel_rfl
  i21 := by kernel_rfl
  i37 := by kernel_rfl
  i46 := by kernel_rfl
  i51 := by kernel_rfl
  i53 := by kernel_rfl
  i75 := by kernel_rfl
  i76 := by kernel_rfl
  i80 := by kernel_rfl
  i85 := by kernel_rfl
  i127 := by kernel_rfl
  i143 := by kernel_rfl
  i145 := by kernel_rfl
  i167 := by kernel_rfl
  i168 := by kernel_rfl
  i171 := by kernel_rfl
  i173 := by kernel_rfl
  i175 := by kernel_rfl
  i210 := by kernel_rfl
  i212 := by kernel_rfl
  i232 := by kernel_rfl
  i233 := by kernel_rfl
  m15 := by kernel_rfl
  m16 := by kernel_rfl
  m17 := by kernel_rfl
  m18 := by kernel_rfl
  m19 := by kernel_rfl
  c0 := by kernel_rfl
  c2 := by kernel_rfl
  c3 := by kernel_rfl
  c4 := by kernel_rfl
  c5 := by kernel_rfl
  c9 := by kernel_rfl
  c20 := by kernel_rfl
  c21 := by kernel_rfl
  c37 := by kernel_rfl
  c46 := by kernel_rfl
  c51 := by kernel_rfl
  c53 := by kernel_rfl
  c75 := by kernel_rfl
  c76 := by kernel_rfl
  c80 := by kernel_rfl
  c85 := by kernel_rfl
  c127 := by kernel_rfl
  c143 := by kernel_rfl
  c145 := by kernel_rfl
  c167 := by kernel_rfl
  c168 := by kernel_rfl
  c171 := by kernel_rfl
  c173 := by kernel_rfl
  c175 := by kernel_rfl
  c210 := by kernel_rfl
  c212 := by kernel_rfl
  c213 := by kernel_rfl
  c232 := by kernel_rfl
  c233 := by kernel_rfl }
open Go.RowKit in
/-- strconv.Atoi, AT EVERY STRING THAT SPELLS AN int ('Lib.atoiAll .. = .ok v'; of whatever length: leading zeros count): v, AND NO ERROR. The world: as it was, or with the one new row that '[]byte(..)' lays. (LAID: no walk: one application.) -/
theorem Tryz.strconv_Atoi_ok (s : ByteArray) (hmax : s.size ≤ 9223372036854775806) (v : Int) (h : Lib.atoiAll s.data.toList = .ok v) (w : World) :
    Calls Tryz.prog 138 #[.string s] w fun e w' => e = .returned (.tuple #[.int .i64 v, .nilIface]) ∧ (w' = w ∨ ∃ t, w' = Lib.bytesWorld w 5 t) := Any.strconv_Atoi_ok Tryz.laysC172 s hmax v h w
open Go.RowKit in
/-- strconv.Atoi, at every string that is no decimal numeral. -/
theorem Tryz.strconv_Atoi_fault (s : ByteArray) (hlim : s.size ≤ 281474976710656) (h1 : ∀ v, Lib.atoiAll s.data.toList ≠ .ok v) (h2 : Lib.atoiAll s.data.toList ≠ .range) (ev : Value) (w : World) (hv : w.cell? ⟨2, 0, none⟩ = some ev) (hev : ev = .nilIface ∨ ∃ te pe, ev = .iface te pe) :
    Calls Tryz.prog 138 #[.string s] w fun e w' => ∃ N, e = .returned (.tuple #[.int .i64 (0), .iface 194 (.pointer (some ⟨N, 0, none⟩))]) ∧ w.heap.size ≤ N ∧ w'.heap[N]? = some (.cells #[.string ⟨#[65, 116, 111, 105]⟩, .string s, ev] 206 (0, 0)) ∧ Below w.heap.size w w' := by
  rcases ha : Lib.atoiAll s.data.toList with v | _ | _
  · exact absurd ha (h1 v)
  · exact Any.strconv_Atoi_syntax Tryz.laysC172 s hlim ha ev w hv hev
  · exact absurd ha h2
open Go.RowKit in
/-- strconv.Atoi, AT EVERY NUMERAL THAT NO int HOLDS ('.range'): THE GREATEST OR THE LEAST int, BY THE SIGN ('Lib.atoiSat'), AND AN ERROR THAT IS NOT nil: a *NumError in a new block N: {Func: "Atoi", Num: s's bytes, Err: what the variable ErrRange holds}. Of what was there nothing has turned. (LAID: no walk: one application.) -/
theorem Tryz.strconv_Atoi_range (s : ByteArray) (hlim : s.size ≤ 281474976710656) (h : Lib.atoiAll s.data.toList = .range) (ev : Value) (w : World) (hv : w.cell? ⟨3, 0, none⟩ = some ev) (hev : ev = .nilIface ∨ ∃ te pe, ev = .iface te pe) :
    Calls Tryz.prog 138 #[.string s] w fun e w' => ∃ N, e = .returned (.tuple #[.int .i64 (Lib.atoiSat s.data.toList), .iface 194 (.pointer (some ⟨N, 0, none⟩))]) ∧ w.heap.size ≤ N ∧ w'.heap[N]? = some (.cells #[.string ⟨#[65, 116, 111, 105]⟩, .string s, ev] 206 (0, 0)) ∧ Below w.heap.size w w' := Any.strconv_Atoi_range Tryz.laysC172 s hlim h ev w hv hev
end Go.Proofs
namespace Go.Proofs.YtmnigdphikoljaaGreatDoor
open Go.ChangeShapes Go.WideShapes Go.ChangeAt Go.RowKit Go.Lib Go.Sort

/-- A decimal, as a text. -/
def dS (n : Int) : ByteArray := ⟨(itoa n).toArray⟩
def decZ (u : Nat) : List UInt8 := if u = 0 then [] else decDigits u
theorem decZ_step {u : Nat} (h : u ≠ 0) : decZ u = decZ (u / 10) ++ [UInt8.ofNat (48 + u % 10)] := by
  unfold decZ
  rw [if_neg h]
  by_cases h1 : u < 10
  · rw [if_pos (by omega), decDigits_one h1, show u % 10 = u by omega]; rfl
  · rw [if_neg (by omega), decDigits_big h1]
theorem wrap_id {x : Int} (h1 : -9223372036854775808 ≤ x) (h2 : x ≤ 9223372036854775807) : wrap64 x = x := by unfold wrap64; omega
theorem mod_dg {dg : Nat} (h : dg < 10) : (48 + (dg : Int)) % 256 = 48 + (dg : Int) := by omega
theorem abs_neg {a b : Nat} (h : a < b) : (-(a : Int)).natAbs < (-(b : Int)).natAbs := by omega
theorem abs_pos {a b : Nat} (h : a < b) : (a : Int).natAbs < (b : Int).natAbs := by omega
theorem tmod_pos {u dg : Nat} (h : u % 10 = dg) : (u : Int).tmod 10 = (dg : Int) := by rw [Int.tmod_eq_emod_of_nonneg (by omega)]; omega
theorem tdiv_pos {u d : Nat} (h : u / 10 = d) : (u : Int).tdiv 10 = (d : Int) := by rw [Int.tdiv_eq_ediv_of_nonneg (by omega)]; omega
theorem str_cons (c : UInt8) (l : List UInt8) : (⟨#[c]⟩ : ByteArray) ++ ⟨l.toArray⟩ = ⟨(c :: l).toArray⟩ := by
  apply ByteArray.ext
  simp [ByteArray.data_append]
theorem conv_one (w : World) (dg : Nat) (h : dg < 10) : (convert 145 9 (.slice (some ⟨w.heap.size, 0, none⟩) 1 1)).run Tryz.prog (w.alloc (.cells #[.int .u8 (48 + (dg : Int))] 5)) = .ok (.string ⟨#[UInt8.ofNat (48 + dg)]⟩) (w.alloc (.cells #[.int .u8 (48 + (dg : Int))] 5)) := by
  have h := World.alloc_heap_new w (.cells #[.int .u8 (48 + (dg : Int))] 5)
  generalize w.alloc (.cells #[.int .u8 (48 + (dg : Int))] 5) = W at h ⊢
  have hr := run_convert_bytes_arg W 145 5 Tryz.underlying145 Tryz.underlying5 w.heap.size 0 1 1 [48 + (dg : Int)] (by simp) (fun i hi => by
    obtain rfl : i = 0 := by omega
    simp [World.cell?, h]) 9 Tryz.underlying9
  rw [hr]
  have e : strOfNums [48 + (dg : Int)] = ⟨#[UInt8.ofNat (48 + dg)]⟩ := by
    show (⟨([UInt8.ofNat ((48 + (dg : Int)).toNat)] : List UInt8).toArray⟩ : ByteArray) = _
    rw [show (48 + (dg : Int)).toNat = 48 + dg by omega]
  rw [e]
theorem decZ_len {u : Nat} (h : u ≤ 9223372036854775808) : (decZ u).length ≤ 20 := by
  unfold decZ
  split
  · simp
  · rw [decDigits_length]; exact nDigits_le (k := 19) (Nat.lt_of_le_of_lt h (by decide))
set_option maxRecDepth 20000 in
set_option maxHeartbeats 2000000 in
theorem refDecimal_any (n : Int) (w : World) (h0 : -9223372036854775808 ≤ n) (h1 : n ≤ 9223372036854775807) :
    Calls Tryz.prog 57 #[.int .i64 n] w fun e w' => e = .returned (.string (dS n)) ∧ Below w.heap.size w w' := by
  go_enter Tryz.func57, Tryz.ntmps57
  go_wp2
  go_loopw [3, 4] (fun s k wr => ∃ (u : Nat) (l : List UInt8) (z : Int), s = .string ⟨l.toArray⟩ ∧ k = .int .i64 z ∧ Hid (z = (if n < 0 then -(u : Int) else (u : Int)) ∧ decZ u ++ l = decZ n.natAbs ∧ u ≤ n.natAbs) ∧ Hid (Below w.heap.size w wr)) (fun _ k _ => (RowKit.intOf k).natAbs)
  case atStart => exact ⟨n.natAbs, [], n, rfl, rfl, Lib.hid ⟨by split <;> omega, by simp, Nat.le_refl _⟩, Lib.hid (Below.refl _ _)⟩
  case round =>
    obtain ⟨u, l, z, rfl, rfl, HU, HW⟩ := hrel
    by_cases hz : z = 0
    · subst hz
      obtain ⟨hzu, hdd, hun⟩ := HU.out
      have hu0 : u = 0 := by
        by_cases hn : n < 0
        · rw [if_pos hn] at hzu; clear hdd hun; omega
        · rw [if_neg hn] at hzu; clear hdd hun; omega
      subst hu0
      have hl : l = decZ n.natAbs := hdd
      have hll : ¬ 9223372036854775807 < 1 + l.length := by
        rw [hl]
        have h4 := decZ_len (u := n.natAbs) (by omega)
        omega
      by_cases hn0 : n = 0
      · subst hn0
        have HE : Hid (dS 0 = ⟨#[48]⟩) := Lib.hid (by unfold dS itoa; rw [if_neg (by omega), decDigits_one (by decide)]; rfl)
        clear hzu hdd hun HU hl hll
        go_wp2
        go_ret
        exact ⟨by rw [← HE.out]; rfl, HW.out⟩
      · have hnb : (n == 0) = false := by simpa using hn0
        by_cases hn : n < 0
        · have HE : Hid ((⟨#[45]⟩ : ByteArray) ++ ⟨l.toArray⟩ = dS n) := Lib.hid (by
            rw [str_cons, hl]
            unfold dS itoa decZ
            rw [if_pos hn, if_neg (by omega)])
          have hnd : decide (n < 0) = true := decide_eq_true hn
          clear hzu hdd hun HU hl
          go_wp2
          go_ret
          exact ⟨by rw [← HE.out]; rfl, HW.out⟩
        · have HE : Hid ((⟨l.toArray⟩ : ByteArray) = dS n) := Lib.hid (by
            rw [hl]
            unfold dS itoa decZ
            rw [if_neg hn, if_neg (by omega), show n.natAbs = n.toNat by omega])
          have hnd : decide (n < 0) = false := decide_eq_false hn
          clear hzu hdd hun HU hl
          go_wp2
          go_ret
          exact ⟨by rw [← HE.out]; rfl, HW.out⟩
    · have hzb : (z != 0) = true := by simpa using hz
      obtain ⟨hzu, hdd, hun⟩ := HU.out
      have hu0 : u ≠ 0 := fun e => hz (by rw [hzu, e]; split <;> rfl)
      have hub : u ≤ 9223372036854775808 := by clear hzu hdd; omega
      have hsg : n < 0 ∨ u ≤ 9223372036854775807 := by clear hzu hdd; omega
      have HZU := Lib.hid hzu
      have HDD := Lib.hid hdd
      have HUN := Lib.hid hun
      have hnz : n.natAbs ≤ 9223372036854775808 := by clear hzu hdd hun; omega
      have HNZ := Lib.hid hnz
      have HSG := Lib.hid hsg
      clear hzu hdd hun HU hnz hsg
      have hll : ¬ 9223372036854775807 < 1 + l.length := by
        have h3 := congrArg List.length HDD.out
        rw [List.length_append] at h3
        have h4 := decZ_len (u := n.natAbs) HNZ.out
        omega
      obtain ⟨dg, HDG⟩ : ∃ dg, Hid (u % 10 = dg) := ⟨_, Lib.hid rfl⟩
      have hdg : dg < 10 := by have := HDG.out; omega
      obtain ⟨u2, HU2⟩ : ∃ u2, Hid (u / 10 = u2) := ⟨_, Lib.hid rfl⟩
      have hlt : u2 < u := by have := HU2.out; omega
      obtain ⟨c, HCC⟩ : ∃ c, Hid (UInt8.ofNat (48 + dg) = c) := ⟨_, Lib.hid rfl⟩
      have HST : Hid (decZ u2 ++ (c :: l) = decZ n.natAbs ∧ u2 ≤ n.natAbs) := Lib.hid (by
        rw [← HDD.out, decZ_step hu0, ← HCC.out, ← HDG.out, ← HU2.out, List.append_assoc]
        exact ⟨rfl, by have := HUN.out; omega⟩)
      have hcv : (convert 145 9 (.slice (some ⟨wr.heap.size, 0, none⟩) 1 1)).run Tryz.prog (wr.alloc (.cells #[.int .u8 (48 + (dg : Int))] 5)) = .ok (.string ⟨#[c]⟩) (wr.alloc (.cells #[.int .u8 (48 + (dg : Int))] 5)) := by rw [← HCC.out]; exact conv_one wr dg hdg
      have HSA : Hid ((⟨#[c]⟩ : ByteArray) ++ ⟨l.toArray⟩ = ⟨(c :: l).toArray⟩) := Lib.hid (str_cons _ _)
      have hwz : w.heap.size ≤ wr.heap.size := HW.out.size
      have HW2 : Hid (Below w.heap.size w (wr.alloc (.cells #[.int .u8 (48 + (dg : Int))] 5))) := Lib.hid (HW.out.alloc hwz _)
      have hw1 : wrap64 (48 + (dg : Int)) = 48 + (dg : Int) := wrap_id (by omega) (by omega)
      have hw2 : wrap64 (dg : Int) = (dg : Int) := wrap_id (by omega) (by omega)
      have hw3 : (48 + (dg : Int)) % 256 = 48 + (dg : Int) := mod_dg hdg
      by_cases hn : n < 0
      · have hzn : z = -(u : Int) := by rw [HZU.out, if_pos hn]
        subst hzn
        have hq : (-(u : Int)).tdiv 10 = -(u2 : Int) := by rw [Int.neg_tdiv, tdiv_pos HU2.out]
        have hw5 : wrap64 (-(u2 : Int)) = -(u2 : Int) := wrap_id (by omega) (by omega)
        have HSZ : Hid (-(u2 : Int) = (if n < 0 then -(u2 : Int) else (u2 : Int)) ∧ decZ u2 ++ (c :: l) = decZ n.natAbs ∧ u2 ≤ n.natAbs) := Lib.hid ⟨(if_pos hn).symm, HST.out⟩
        have hm0 : (-(u : Int)).tmod 10 = -(dg : Int) := by rw [Int.neg_tmod, tmod_pos HDG.out]
        clear HCC
        by_cases hd0 : dg = 0
        · subst hd0
          have hm : (-(u : Int)).tmod 10 = 0 := hm0
          have hcv : (convert 145 9 (.slice (some ⟨wr.heap.size, 0, none⟩) 1 1)).run Tryz.prog (wr.alloc (.cells #[.int .u8 48] 5)) = .ok (.string ⟨#[c]⟩) (wr.alloc (.cells #[.int .u8 48] 5)) := hcv
          have HWX : Hid (Below w.heap.size w (wr.alloc (.cells #[.int .u8 48] 5))) := HW2
          clear hm0 hw1 hw2 hw3 HW2
          go_wp2
          refine ⟨⟨u2, c :: l, -(u2 : Int), ?_, ?_, HSZ, HWX⟩, ?_⟩
          · show Value.string _ = Value.string _
            rw [HSA.out]
          · show Value.int _ _ = Value.int _ _
            first | rfl | rw [hw5]
          · try rw [hw5]
            exact abs_neg hlt
        · have hd1 : decide (-(dg : Int) < 0) = true := decide_eq_true (by omega)
          have hd2 : decide (0 < dg) = true := decide_eq_true (by omega)
          have hd3 : 0 < dg := by omega
          have HWX := HW2
          go_wp2
          refine ⟨⟨u2, c :: l, -(u2 : Int), ?_, ?_, HSZ, HWX⟩, ?_⟩
          · show Value.string _ = Value.string _
            rw [HSA.out]
          · show Value.int _ _ = Value.int _ _
            first | rfl | rw [hw5]
          · try rw [hw5]
            exact abs_neg hlt
      · have hzn : z = (u : Int) := by rw [HZU.out, if_neg hn]
        have hq : z.tdiv 10 = (u2 : Int) := by rw [hzn]; exact tdiv_pos HU2.out
        have hw5 : wrap64 (u2 : Int) = (u2 : Int) := wrap_id (by omega) (by have := HSG.out; omega)
        have HSZ : Hid ((u2 : Int) = (if n < 0 then -(u2 : Int) else (u2 : Int)) ∧ decZ u2 ++ (c :: l) = decZ n.natAbs ∧ u2 ≤ n.natAbs) := Lib.hid ⟨(if_neg hn).symm, HST.out⟩
        have hm : z.tmod 10 = (dg : Int) := by rw [hzn]; exact tmod_pos HDG.out
        have hd1 : decide (z.tmod 10 < 0) = false := decide_eq_false (by rw [hm]; exact Int.not_lt.2 (Int.natCast_nonneg _))
        have hw6 : wrap64 (48 + z.tmod 10) = 48 + (dg : Int) := by rw [hm]; exact hw1
        have hw7 : wrap64 (z.tdiv 10) = (u2 : Int) := by rw [hq]; exact hw5
        have HWX := HW2
        have HZN := Lib.hid hzn
        have HLT := Lib.hid hlt
        clear HCC hzn hm hq hw1 hw2 hw5 hu0 hlt hub hdg
        go_wp2
        refine ⟨⟨u2, c :: l, (u2 : Int), ?_, ?_, HSZ, HWX⟩, ?_⟩
        · show Value.string _ = Value.string _
          rw [HSA.out]
        · show Value.int _ _ = Value.int _ _
          first | rfl | rw [hw7]
        · try rw [hw7]
          rw [HZN.out]; exact abs_pos HLT.out

/-- The table and the two variables that the library's calls read. -/
structure Tabs (w : World) : Prop where
  tab : TabIs Tryz.prog w "internal/strconv.uint64pow10" .u64 pow10Tab
  syn : ∃ te pe, w.cell? ⟨2, 0, none⟩ = some (.iface te pe)
  rng : ∃ te pe, w.cell? ⟨3, 0, none⟩ = some (.iface te pe)
theorem tabIs_below {w w' : World} {name : String} {k : IntKind} {zs : List Int} (h : TabIs Tryz.prog w name k zs) (hb : Below w.heap.size w w') : TabIs Tryz.prog w' name k zs := by
  unfold TabIs World.var? at *
  cases hg : Tryz.prog.globalNamed name with
  | none => rw [hg] at h; cases h
  | some g =>
    rw [hg] at h
    simp only [Option.bind_some] at h ⊢
    have hlt : g < w.heap.size := by
      rcases Nat.lt_or_ge g w.heap.size with h1 | h1
      · exact h1
      · rw [Array.getElem?_eq_none h1] at h; cases h
    rw [hb.block g hlt]
    exact h
theorem Tabs.below {w w' : World} (h : Tabs w) (hb : Below w.heap.size w w') : Tabs w' := by
  obtain ⟨t1, p1, h1⟩ := h.syn
  obtain ⟨t2, p2, h2⟩ := h.rng
  exact ⟨tabIs_below h.tab hb, ⟨t1, p1, (hb.cell (p := ⟨2, 0, none⟩) (World.block_lt_of_cell? _ _ h1)).trans h1⟩, ⟨t2, p2, (hb.cell (p := ⟨3, 0, none⟩) (World.block_lt_of_cell? _ _ h2)).trans h2⟩⟩
theorem below_grow (w : World) (k : Nat) (os : Array Obj) : Below w.heap.size w (grow (w.drewN k) os) :=
  ⟨rfl, rfl, rfl, by show w.heap.size ≤ (w.heap ++ os).size; simp, fun q hq => by show (w.heap ++ os)[q]? = w.heap[q]?; rw [Array.getElem?_append_left hq]⟩
theorem decimal_any (n : Int) (w : World) (h0 : -9223372036854775808 ≤ n) (h1 : n ≤ 9223372036854775807) (ht : Tabs w) :
    Calls Tryz.prog 45 #[.int .i64 n] w fun e w' => e = .returned (.string (dS n)) ∧ Below w.heap.size w w' := by
  have HT := Lib.hid ht
  clear ht
  go_enter Tryz.func45, Tryz.ntmps45
  go_wp2_with fail
  refine (Tryz.strconv_Itoa n h0 h1 _ HT.out.tab).mono ?_
  rintro e w' ⟨rfl, k, os, rfl⟩
  go_wp2
  go_ret
  exact ⟨rfl, below_grow _ _ _⟩
theorem fits_yes (n lo hi : Int) (w : World) (h1 : lo ≤ n) (h2 : n ≤ hi) : Calls Tryz.prog 85 #[.int .i64 n, .int .i64 lo, .int .i64 hi] w fun e w' => e = .returned (.bool true) ∧ w = w' := by
  have h := lx.fits_any n lo hi w
  rw [show lx.fitB n lo hi = true from decide_eq_true ⟨h1, h2⟩] at h
  exact h
theorem fits_no (n lo hi : Int) (w : World) (h1 : n < lo ∨ hi < n) : Calls Tryz.prog 85 #[.int .i64 n, .int .i64 lo, .int .i64 hi] w fun e w' => e = .returned (.bool false) ∧ w = w' := by
  have h := lx.fits_any n lo hi w
  rw [show lx.fitB n lo hi = false from decide_eq_false (by omega)] at h
  exact h
theorem within_one (n : Int) (w : World) (b : Nat) (hc : w.cell? ⟨b, 0, none⟩ = some (.int .i64 n)) :
    Calls Tryz.prog 139 #[.slice (some ⟨b, 0, none⟩) 1 1] w fun e w' => e = .returned (.bool (decide (-1048576 ≤ n ∧ n ≤ 1048576))) ∧ w = w' := by
  by_cases hn : -1048576 ≤ n ∧ n ≤ 1048576
  · rw [decide_eq_true hn]
    go_enter Tryz.func139, Tryz.ntmps139
    go_wp2_with fail
    go_loop [7] (fun i => ∃ k : Nat, k ≤ 1 ∧ i = .int .i64 k) (fun i => 1 - (RowKit.intOf i).toNat)
    case atStart => exact ⟨0, by omega, rfl⟩
    case round =>
      obtain ⟨k, hk, rfl⟩ := hrel
      by_cases h0 : k = 0
      · subst h0
        go_wp2_with fail
        refine (fits_yes n (-1048576) 1048576 _ hn.1 hn.2).mono ?_
        rintro e w' ⟨rfl, rfl⟩
        go_wp2
        go_round
        case rel => exact ⟨1, by omega, rfl⟩
        case measure => simp [RowKit.intOf]
      · obtain rfl : k = 1 := by omega
        go_wp2
        go_ret
        exact ⟨rfl, rfl⟩
  · rw [decide_eq_false hn]
    go_enter Tryz.func139, Tryz.ntmps139
    go_wp2_with fail
    go_loop [7] (fun i => i = .int .i64 0) (fun i => 1)
    case atStart => rfl
    case round =>
      subst hrel
      go_wp2_with fail
      refine (fits_no n (-1048576) 1048576 _ (by omega)).mono ?_
      rintro e w' ⟨rfl, rfl⟩
      go_wp2
      go_ret
      exact ⟨rfl, rfl⟩
/-- The number that a text is. -/
def numD (l : List UInt8) : Int × Bool := if (docFold l).2 ≤ 7 ∧ (-1048576 ≤ docNum l ∧ docNum l ≤ 1048576) ∧ itoa (docNum l) = l then (docNum l, true) else (0, false)
theorem numD_some {l : List UInt8} {v : Int} (h0 : -1048576 ≤ v) (h1 : v ≤ 1048576) (h : itoa v = l) : numD l = (v, true) := by
  obtain ⟨a, b⟩ := doc_itoa h0 h1
  rw [h] at a b
  unfold numD
  rw [a, if_pos ⟨b, ⟨h0, h1⟩, h⟩]
theorem numD_none {l : List UInt8} (h : ∀ v, -1048576 ≤ v → v ≤ 1048576 → itoa v ≠ l) : numD l = (0, false) := by
  unfold numD
  rw [if_neg (fun h2 => h _ h2.2.1.1 h2.2.1.2 h2.2.2)]
theorem itoa_len8 {v : Int} (h0 : -1048576 ≤ v) (h1 : v ≤ 1048576) : (itoa v).length ≤ 8 := by
  unfold itoa
  split
  · have := nDigits_le (k := 6) (u := v.natAbs) (by omega)
    rw [List.length_cons, decDigits_length]; omega
  · have := nDigits_le (k := 6) (u := v.toNat) (by omega)
    rw [decDigits_length]; omega
theorem dS_iff {v : Int} {s : ByteArray} : s = dS v ↔ itoa v = s.data.toList := by
  unfold dS
  constructor
  · rintro rfl; simp
  · intro h
    apply ByteArray.ext
    show s.data = (itoa v).toArray
    rw [h]
end Go.Proofs.YtmnigdphikoljaaGreatDoor
namespace Go.Proofs.YtmnigdphikoljaaGreatDoor
open Go.ChangeShapes Go.WideShapes Go.ChangeAt Go.RowKit Go.Lib Go.Sort

theorem dS_ne {v : Int} {s : ByteArray} (h : dS v ≠ s) (h0 : -1048576 ≤ v) (h1 : v ≤ 1048576) (ha : Lib.atoiAll s.data.toList = .ok v) : numD s.data.toList = (0, false) :=
  numD_none (fun v2 g0 g1 e => by
    have := atoi_itoa (n := v2) (by omega) (by omega)
    rw [e, ha] at this
    obtain rfl : v = v2 := by injection this
    exact h (dS_iff.2 e).symm)
theorem numD_out {v : Int} {l : List UInt8} (ha : Lib.atoiAll l = .ok v) (hn : ¬ (-1048576 ≤ v ∧ v ≤ 1048576)) : numD l = (0, false) :=
  numD_none (fun v2 g0 g1 e => by
    have := atoi_itoa (n := v2) (by omega) (by omega)
    rw [e, ha] at this
    obtain rfl : v = v2 := by injection this
    exact hn ⟨g0, g1⟩)
theorem numD_bad {l : List UInt8} (ha : ∀ v, Lib.atoiAll l ≠ .ok v) : numD l = (0, false) :=
  numD_none (fun v2 g0 g1 e => by
    have := atoi_itoa (n := v2) (by omega) (by omega)
    rw [e] at this
    exact ha _ this)
theorem numD_long {l : List UInt8} (h : 8 < l.length) : numD l = (0, false) :=
  numD_none (fun v2 g0 g1 e => by
    have := itoa_len8 g0 g1
    rw [e] at this; omega)
theorem str_ne {a b : ByteArray} (h : a ≠ b) : (a.toList == b.toList) = false := by
  cases e : (a.toList == b.toList)
  · rfl
  · exfalso; apply h
    have h2 := beq_iff_eq.1 e
    rw [ByteArray.toList_eq, ByteArray.toList_eq] at h2
    exact bytes_inj h2
theorem below_conv {w w' : World} (h : w' = w ∨ ∃ t, w' = Lib.bytesWorld w 5 t) : Below w.heap.size w w' := by
  rcases h with rfl | ⟨t, rfl⟩
  · exact Below.refl _ _
  · exact Lib.bytesWorld_below _ _ _
set_option maxRecDepth 20000 in
set_option maxHeartbeats 2000000 in
theorem number_any (s : ByteArray) (w : World) (hs : s.size ≤ 20000) (ht : Tabs w) :
    Calls Tryz.prog 97 #[.string s] w fun e w' => e = .returned (.tuple #[.int .i64 (numD s.data.toList).1, .bool (numD s.data.toList).2]) ∧ Below w.heap.size w w' := by
  have HS := Lib.hid hs
  have HT := Lib.hid ht
  clear hs ht
  go_enter Tryz.func97, Tryz.ntmps97
  by_cases hb : 8 < s.size
  · have hR := Lib.hid (numD_long (l := s.data.toList) (by rw [Array.length_toList]; exact hb))
    have e : ¬ (s.size : Int) ≤ 8 := by omega
    clear hb
    go_wp2
    go_ret2
    rw [hR.out]
    exact ⟨rfl, Below.refl _ _⟩
  · have e : ¬ (8 : Int) < (s.size : Int) := by omega
    go_wp2_with fail
    rcases hA : Lib.atoiAll s.data.toList with v | _ | _
    · refine (Tryz.strconv_Atoi_ok s (by have := HS.out; omega) v hA _).mono ?_
      rintro e1 w1 ⟨rfl, hw1⟩
      have HA := Lib.hid hA
      have H1 : Hid (Below w.heap.size w w1) := Lib.hid (below_conv hw1)
      have HT1 : Hid (Tabs w1) := Lib.hid (HT.out.below H1.out)
      clear hA hw1
      by_cases hn : -1048576 ≤ v ∧ v ≤ 1048576
      · have HN := Lib.hid hn
        by_cases hd : dS v = s
        · have hR : Hid (numD s.data.toList = (v, true)) := Lib.hid (numD_some hn.1 hn.2 (dS_iff.1 hd.symm))
          have HD := Lib.hid hd
          clear hn hd
          go_wp2_with fail
          refine (within_one v _ w1.heap.size (by show (match (w1.alloc (Obj.cells #[Value.int IntKind.i64 v] 3)).heap[w1.heap.size]? with | some (Obj.cells c elem frozen) => c[0]? | x => none) = _; rw [World.alloc_heap_new]; rfl)).mono ?_
          rw [decide_eq_true HN.out]
          rintro e2 w2 ⟨rfl, rfl⟩
          have H2 : Hid (Below w.heap.size w (w1.alloc (Obj.cells #[Value.int IntKind.i64 v] 3))) := Lib.hid (H1.out.alloc H1.out.size _)
          have HT2 : Hid (Tabs (w1.alloc (Obj.cells #[Value.int IntKind.i64 v] 3))) := Lib.hid (HT.out.below H2.out)
          generalize (w1.alloc (Obj.cells #[Value.int IntKind.i64 v] 3)) = w2 at H2 HT2 ⊢
          go_wp2_with fail
          refine (decimal_any v _ (by have := HN.out; omega) (by have := HN.out; omega) HT2.out).mono ?_
          rintro e3 w3 ⟨rfl, hw3⟩
          have H3 : Hid (Below w.heap.size w w3) := Lib.hid (H2.out.trans (hw3.mono H2.out.size))
          rw [HD.out]
          clear hw3
          go_wp2
          go_ret2
          rw [hR.out]
          exact ⟨rfl, H3.out⟩
        · have hR : Hid (numD s.data.toList = (0, false)) := Lib.hid (dS_ne hd hn.1 hn.2 HA.out)
          clear hn
          go_wp2_with fail
          refine (within_one v _ w1.heap.size (by show (match (w1.alloc (Obj.cells #[Value.int IntKind.i64 v] 3)).heap[w1.heap.size]? with | some (Obj.cells c elem frozen) => c[0]? | x => none) = _; rw [World.alloc_heap_new]; rfl)).mono ?_
          rw [decide_eq_true HN.out]
          rintro e2 w2 ⟨rfl, rfl⟩
          have H2 : Hid (Below w.heap.size w (w1.alloc (Obj.cells #[Value.int IntKind.i64 v] 3))) := Lib.hid (H1.out.alloc H1.out.size _)
          have HT2 : Hid (Tabs (w1.alloc (Obj.cells #[Value.int IntKind.i64 v] 3))) := Lib.hid (HT.out.below H2.out)
          generalize (w1.alloc (Obj.cells #[Value.int IntKind.i64 v] 3)) = w2 at H2 HT2 ⊢
          go_wp2_with fail
          refine (decimal_any v _ (by have := HN.out; omega) (by have := HN.out; omega) HT2.out).mono ?_
          rintro e3 w3 ⟨rfl, hw3⟩
          have H3 : Hid (Below w.heap.size w w3) := Lib.hid (H2.out.trans (hw3.mono H2.out.size))
          have hq := str_ne hd
          clear hw3 hd
          generalize dS v = q at hq ⊢
          go_wp2
          go_ret2
          rw [hR.out]
          exact ⟨rfl, H3.out⟩
      · have hR : Hid (numD s.data.toList = (0, false)) := Lib.hid (numD_out HA.out hn)
        have HN := Lib.hid hn
        clear hn
        go_wp2_with fail
        refine (within_one v _ w1.heap.size (by show (match (w1.alloc (Obj.cells #[Value.int IntKind.i64 v] 3)).heap[w1.heap.size]? with | some (Obj.cells c elem frozen) => c[0]? | x => none) = _; rw [World.alloc_heap_new]; rfl)).mono ?_
        rw [decide_eq_false HN.out]
        rintro e2 w2 ⟨rfl, rfl⟩
        have H2 : Hid (Below w.heap.size w (w1.alloc (Obj.cells #[Value.int IntKind.i64 v] 3))) := Lib.hid (H1.out.alloc H1.out.size _)
        generalize (w1.alloc (Obj.cells #[Value.int IntKind.i64 v] 3)) = w2 at H2 ⊢
        go_wp2
        go_ret2
        rw [hR.out]
        exact ⟨rfl, H2.out⟩
    · obtain ⟨te, pe, hc⟩ := HT.out.syn
      refine (Tryz.strconv_Atoi_fault s (by have := HS.out; omega) (fun v h => by rw [hA] at h; cases h) (by rw [hA]; exact fun h => by cases h) _ _ hc (.inr ⟨te, pe, rfl⟩)).mono ?_
      rintro e1 w1 ⟨N, rfl, _, _, hw1⟩
      have hR := Lib.hid (numD_bad (l := s.data.toList) (fun v => by rw [hA]; exact fun h => by cases h))
      have HA := Lib.hid hA
      have H1 : Hid (Below w.heap.size w w1) := Lib.hid hw1
      clear hA hw1
      go_wp2
      go_ret2
      rw [hR.out]
      exact ⟨rfl, H1.out⟩
    · obtain ⟨te, pe, hc⟩ := HT.out.rng
      refine (Tryz.strconv_Atoi_range s (by have := HS.out; omega) hA _ _ hc (.inr ⟨te, pe, rfl⟩)).mono ?_
      rintro e1 w1 ⟨N, rfl, _, _, hw1⟩
      have hR := Lib.hid (numD_bad (l := s.data.toList) (fun v => by rw [hA]; exact fun h => by cases h))
      have HA := Lib.hid hA
      have H1 : Hid (Below w.heap.size w w1) := Lib.hid hw1
      clear hA hw1
      go_wp2
      go_ret2
      rw [hR.out]
      exact ⟨rfl, H1.out⟩
end Go.Proofs.YtmnigdphikoljaaGreatDoor
