/-
  Contracts of the library's functions, laid at this seat.
-/
import Derived.Shelf.Strings.Builder1
import Derived.Shelf.Strings.Builder2
import Derived.Shelf.Small.Bits
import Derived.Shelf.Strings.BuilderF
import Derived.Shelf.Strings.BuilderK
import Derived.Shelf.Strings.Builder2Cap
import Derived.Shelf.Strconv.Itoa0
import Derived.Shelf.LaysM
import Derived.Shelf.Strconv.Clone
import Derived.Shelf.Strconv.SyntaxError
import Derived.Shelf.LaysC
import Derived.Shelf.Strconv.ToError
import Derived.Shelf.Strconv.Lower
import Derived.Shelf.Strconv.RangeError
import Derived.Shelf.Strconv.ToErrorRange
import Derived.Shelf.Strings.Prefix
import Derived.Shelf.Bits.Mul64
import Derived.Shelf.Strings.Repeat
import Derived.Shelf.Strings.BuilderCap
import Derived.Ground.SlgmProg
import Derived.Shelf.SortM.Plain
import Derived.Shelf.SortM.SortNone
import Derived.Shelf.Bytes.SlSmallAll
import Derived.Shelf.Bytes.SlEqualAll
import Derived.Shelf.Bytes.Small
import Derived.Test.YthjikbhjciphiaaGreatDoorProg
import Derived.Test.YthjikbhjciphiaaGreatDoorZz6
import Derived.Test.YthjikbhjciphiaaGreatDoorZz7
import Derived.Test.YthjikbhjciphiaaGreatDoorZz16
namespace Go.Proofs
open Go.Shelf
def Tryz.lays125_ren : Go.Shelf.Ren := ⟨fun | 125 => 69 | 128 => 111 | 129 => 112 | n => n, fun | 46 => 113 | 3 => 3 | 51 => 158 | 53 => 23 | 4 => 4 | 5 => 5 | 9 => 9 | n => n, fun | n => n⟩
theorem Tryz.lays125 : Go.Proofs.Lays.n125 Tryz.prog Tryz.lays125_ren := {
  mixed := by kernel_rfl
  f125 := Tryz.func69.trans (congrArg some (by kernel_rfl))
  f128 := Tryz.func111.trans (congrArg some (by kernel_rfl))
  f129 := Tryz.func112.trans (congrArg some (by kernel_rfl))
  t3 := Tryz.underlying3
  a3 := Tryz.isAgg3
  z3 := Tryz.sizeOf3
  v3 := Tryz.zeroValue3
  t4 := Tryz.underlying4
  a4 := Tryz.isAgg4
  z4 := Tryz.sizeOf4
  v4 := Tryz.zeroValue4
  t5 := Tryz.underlying5
  a5 := Tryz.isAgg5
  z5 := Tryz.sizeOf5
  v5 := Tryz.zeroValue5
  t9 := Tryz.underlying9
  a9 := Tryz.isAgg9
  z9 := Tryz.sizeOf9
  v9 := Tryz.zeroValue9
  t46 := Tryz.underlying113
  a46 := Tryz.isAgg113
  z46 := Tryz.sizeOf113
  v46 := Tryz.zeroValue113
  t51 := Tryz.underlying158
  a51 := Tryz.isAgg158
  z51 := Tryz.sizeOf158
  v51 := Tryz.zeroValue158
  t53 := Tryz.underlying23
  a53 := Tryz.isAgg23
  z53 := Tryz.sizeOf23
  v53 := Tryz.zeroValue23 }
theorem Tryz.bits_Len (x : Int) (w : World) (h0 : 0 ≤ x) (h1 : x ≤ 18446744073709551615) :
    Calls Tryz.prog 69 #[.int .u64 x] w fun e w' => e = .returned (.int .i64 (Lib.bitLen x.toNat)) ∧ w' = w := Any.bits_Len Tryz.lays125 x w h0 h1
def Tryz.laysM279_ren : Go.Shelf.Ren := ⟨fun | 279 => 147 | 316 => 186 | n => n, fun | 9 => 9 | 168 => 188 | 75 => 107 | 210 => 224 | 3 => 3 | 4 => 4 | 37 => 70 | 0 => 0 | 127 => 185 | 80 => 146 | 5 => 5 | n => n, fun | 15 => 1 | n => n⟩
theorem Tryz.laysM279 : Go.Proofs.LaysM.n279 Tryz.prog Tryz.laysM279_ren := {
  mixed := by kernel_rfl
  f279 := Tryz.func147.trans (congrArg some (by kernel_rfl))
  f316 := Tryz.func186.trans (congrArg some (by kernel_rfl))
  t0 := Tryz.underlying0
  a0 := Tryz.isAgg0
  z0 := Tryz.sizeOf0
  v0 := Tryz.zeroValue0
  t3 := Tryz.underlying3
  a3 := Tryz.isAgg3
  z3 := Tryz.sizeOf3
  v3 := Tryz.zeroValue3
  t4 := Tryz.underlying4
  a4 := Tryz.isAgg4
  z4 := Tryz.sizeOf4
  v4 := Tryz.zeroValue4
  t9 := Tryz.underlying9
  a9 := Tryz.isAgg9
  z9 := Tryz.sizeOf9
  v9 := Tryz.zeroValue9
  t37 := Tryz.underlying70
  a37 := Tryz.isAgg70
  z37 := Tryz.sizeOf70
  v37 := Tryz.zeroValue70
  t75 := Tryz.underlying107
  a75 := Tryz.isAgg107
  z75 := Tryz.sizeOf107
  v75 := Tryz.zeroValue107
  t127 := Tryz.underlying185
  a127 := Tryz.isAgg185
  z127 := Tryz.sizeOf185
  v127 := Tryz.zeroValue185
  t168 := Tryz.underlying188
  a168 := Tryz.isAgg188
  z168 := Tryz.sizeOf188
  v168 := Tryz.zeroValue188
  t210 := Tryz.underlying224
  a210 := Tryz.isAgg224
  z210 := Tryz.sizeOf224
  v210 := Tryz.zeroValue224
  g15 := by kernel_rfl
  t5 := Tryz.underlying5
  a5 := Tryz.isAgg5
  z5 := Tryz.sizeOf5
  v5 := Tryz.zeroValue5
  t80 := Tryz.underlying146
  a80 := Tryz.isAgg146
  z80 := Tryz.sizeOf146
  v80 := Tryz.zeroValue146
  i0 := by kernel_rfl
  i3 := by kernel_rfl
  i4 := by kernel_rfl
  i5 := by kernel_rfl
  i9 := by kernel_rfl
  i37 := by kernel_rfl
  i75 := by kernel_rfl
  i80 := by kernel_rfl
  i127 := by kernel_rfl
  i168 := by kernel_rfl
  i210 := by kernel_rfl
  m15 := by kernel_rfl }
open Go.RowKit in
theorem Tryz.strconv_syntaxError (fn s : ByteArray) (ev : Value) (w : World) (hlim : s.size ≤ 281474976710656) (hv : w.cell? ⟨1, 0, none⟩ = some ev) (hev : ev = .nilIface ∨ ∃ te pe, ev = .iface te pe) :
    Calls Tryz.prog 147 #[.string fn, .string s] w fun e w' => ∃ N, e = .returned (.pointer (some ⟨N, 0, none⟩)) ∧ w.heap.size ≤ N ∧ w'.heap[N]? = some (.cells #[.string fn, .string s, ev] 224 (0, 0)) ∧ Below w.heap.size w w' := Any.strconv_syntaxError Tryz.laysM279 fn s ev w hlim hv hev
def Tryz.laysC245_ren : Go.Shelf.Ren := ⟨fun | 245 => 100 | 279 => 147 | 280 => 148 | 281 => 149 | 282 => 150 | 316 => 186 | 171 => 188 | 205 => 187 | 243 => 201 | 246 => 207 | 283 => 136 | 284 => 137 | 285 => 138 | 286 => 139 | 129 => 112 | 317 => 180 | 318 => 181 | 319 => 182 | 320 => 183 | 337 => 200 | 338 => 176 | n => n, fun | 9 => 9 | 3 => 3 | 75 => 107 | 167 => 186 | 4 => 4 | 168 => 188 | 210 => 224 | 37 => 70 | 0 => 0 | 127 => 185 | 145 => 237 | 143 => 235 | 2 => 2 | 171 => 177 | 53 => 23 | 5 => 5 | 173 => 179 | 212 => 218 | 51 => 158 | 20 => 20 | 213 => 219 | 46 => 113 | 232 => 242 | 233 => 233 | 80 => 146 | n => n, fun | 15 => 1 | 16 => 2 | 17 => 0 | 18 => 6 | 19 => 4 | n => n⟩
theorem Tryz.laysC245 : Go.Proofs.LaysC.n245 Tryz.prog Tryz.laysC245_ren := {
  mixed := by kernel_rfl
  f129 := Tryz.func112.trans (congrArg some (by kernel_rfl))
  f171 := Tryz.func188.trans (congrArg some (by kernel_rfl))
  f205 := Tryz.func187.trans (congrArg some (by kernel_rfl))
  f243 := Tryz.func201.trans (congrArg some (by kernel_rfl))
  f245 := Tryz.func100.trans (congrArg some (by kernel_rfl))
  f246 := Tryz.func207.trans (congrArg some (by kernel_rfl))
  f279 := Tryz.func147.trans (congrArg some (by kernel_rfl))
  f280 := Tryz.func148.trans (congrArg some (by kernel_rfl))
  f281 := Tryz.func149.trans (congrArg some (by kernel_rfl))
  f282 := Tryz.func150.trans (congrArg some (by kernel_rfl))
  f283 := Tryz.func136.trans (congrArg some (by kernel_rfl))
  f284 := Tryz.func137.trans (congrArg some (by kernel_rfl))
  f285 := Tryz.func138.trans (congrArg some (by kernel_rfl))
  f286 := Tryz.func139.trans (congrArg some (by kernel_rfl))
  f316 := Tryz.func186.trans (congrArg some (by kernel_rfl))
  f317 := Tryz.func180.trans (congrArg some (by kernel_rfl))
  f318 := Tryz.func181.trans (congrArg some (by kernel_rfl))
  f319 := Tryz.func182.trans (congrArg some (by kernel_rfl))
  f320 := Tryz.func183.trans (congrArg some (by kernel_rfl))
  f337 := Tryz.func200.trans (congrArg some (by kernel_rfl))
  f338 := Tryz.func176.trans (congrArg some (by kernel_rfl))
  t0 := Tryz.underlying0
  a0 := Tryz.isAgg0
  z0 := Tryz.sizeOf0
  v0 := Tryz.zeroValue0
  t2 := Tryz.underlying2
  a2 := Tryz.isAgg2
  z2 := Tryz.sizeOf2
  v2 := Tryz.zeroValue2
  t3 := Tryz.underlying3
  a3 := Tryz.isAgg3
  z3 := Tryz.sizeOf3
  v3 := Tryz.zeroValue3
  t4 := Tryz.underlying4
  a4 := Tryz.isAgg4
  z4 := Tryz.sizeOf4
  v4 := Tryz.zeroValue4
  t5 := Tryz.underlying5
  a5 := Tryz.isAgg5
  z5 := Tryz.sizeOf5
  v5 := Tryz.zeroValue5
  t9 := Tryz.underlying9
  a9 := Tryz.isAgg9
  z9 := Tryz.sizeOf9
  v9 := Tryz.zeroValue9
  t20 := Tryz.underlying20
  a20 := Tryz.isAgg20
  z20 := Tryz.sizeOf20
  v20 := Tryz.zeroValue20
  t37 := Tryz.underlying70
  a37 := Tryz.isAgg70
  z37 := Tryz.sizeOf70
  v37 := Tryz.zeroValue70
  t46 := Tryz.underlying113
  a46 := Tryz.isAgg113
  z46 := Tryz.sizeOf113
  v46 := Tryz.zeroValue113
  t51 := Tryz.underlying158
  a51 := Tryz.isAgg158
  z51 := Tryz.sizeOf158
  v51 := Tryz.zeroValue158
  t53 := Tryz.underlying23
  a53 := Tryz.isAgg23
  z53 := Tryz.sizeOf23
  v53 := Tryz.zeroValue23
  t75 := Tryz.underlying107
  a75 := Tryz.isAgg107
  z75 := Tryz.sizeOf107
  v75 := Tryz.zeroValue107
  t127 := Tryz.underlying185
  a127 := Tryz.isAgg185
  z127 := Tryz.sizeOf185
  v127 := Tryz.zeroValue185
  t143 := Tryz.underlying235
  a143 := Tryz.isAgg235
  z143 := Tryz.sizeOf235
  v143 := Tryz.zeroValue235
  t145 := Tryz.underlying237
  a145 := Tryz.isAgg237
  z145 := Tryz.sizeOf237
  v145 := Tryz.zeroValue237
  t167 := Tryz.underlying186
  a167 := Tryz.isAgg186
  z167 := Tryz.sizeOf186
  v167 := Tryz.zeroValue186
  t168 := Tryz.underlying188
  a168 := Tryz.isAgg188
  z168 := Tryz.sizeOf188
  v168 := Tryz.zeroValue188
  t171 := Tryz.underlying177
  a171 := Tryz.isAgg177
  z171 := Tryz.sizeOf177
  v171 := Tryz.zeroValue177
  t173 := Tryz.underlying179
  a173 := Tryz.isAgg179
  z173 := Tryz.sizeOf179
  v173 := Tryz.zeroValue179
  t210 := Tryz.underlying224
  a210 := Tryz.isAgg224
  z210 := Tryz.sizeOf224
  v210 := Tryz.zeroValue224
  t212 := Tryz.underlying218
  a212 := Tryz.isAgg218
  z212 := Tryz.sizeOf218
  v212 := Tryz.zeroValue218
  t213 := Tryz.underlying219
  a213 := Tryz.isAgg219
  z213 := Tryz.sizeOf219
  t232 := Tryz.underlying242
  a232 := Tryz.isAgg242
  z232 := Tryz.sizeOf242
  v232 := Tryz.zeroValue242
  t233 := Tryz.underlying233
  a233 := Tryz.isAgg233
  z233 := Tryz.sizeOf233
  v233 := Tryz.zeroValue233
  g15 := by kernel_rfl
  g16 := by kernel_rfl
  g17 := by kernel_rfl
  g18 := by kernel_rfl
  g19 := by kernel_rfl
  t80 := Tryz.underlying146
  a80 := Tryz.isAgg146
  z80 := Tryz.sizeOf146
  v80 := Tryz.zeroValue146
  i0 := by kernel_rfl
  i2 := by kernel_rfl
  i3 := by kernel_rfl
  i4 := by kernel_rfl
  i5 := by kernel_rfl
  i9 := by kernel_rfl
  i20 := by kernel_rfl
  i37 := by kernel_rfl
  i46 := by kernel_rfl
  i51 := by kernel_rfl
  i53 := by kernel_rfl
  i75 := by kernel_rfl
  i80 := by kernel_rfl
  i127 := by kernel_rfl
  i143 := by kernel_rfl
  i145 := by kernel_rfl
  i167 := by kernel_rfl
  i168 := by kernel_rfl
  i171 := by kernel_rfl
  i173 := by kernel_rfl
  i210 := by kernel_rfl
  i212 := by kernel_rfl
  i232 := by kernel_rfl
  i233 := by kernel_rfl
  m15 := by kernel_rfl
  m16 := by kernel_rfl
  m17 := by kernel_rfl
  m18 := by kernel_rfl
  m19 := by kernel_rfl
  c0 := by kernel_rfl
  c2 := by kernel_rfl
  c3 := by kernel_rfl
  c4 := by kernel_rfl
  c5 := by kernel_rfl
  c9 := by kernel_rfl
  c20 := by kernel_rfl
  c37 := by kernel_rfl
  c46 := by kernel_rfl
  c51 := by kernel_rfl
  c53 := by kernel_rfl
  c75 := by kernel_rfl
  c80 := by kernel_rfl
  c127 := by kernel_rfl
  c143 := by kernel_rfl
  c145 := by kernel_rfl
  c167 := by kernel_rfl
  c168 := by kernel_rfl
  c171 := by kernel_rfl
  c173 := by kernel_rfl
  c210 := by kernel_rfl
  c212 := by kernel_rfl
  c213 := by kernel_rfl
  c232 := by kernel_rfl
  c233 := by kernel_rfl }
open Go.RowKit in
theorem Tryz.strconv_toError_syntax (fn s : ByteArray) (base bits : Int) (ev : Value) (w : World) (hlim : s.size ≤ 281474976710656) (hv : w.cell? ⟨1, 0, none⟩ = some ev) (hev : ev = .nilIface ∨ ∃ te pe, ev = .iface te pe) :
    Calls Tryz.prog 100 #[.string fn, .string s, .int .i64 base, .int .i64 bits, .iface 186 (.int .i64 2)] w fun e w' => ∃ N, e = .returned (.iface 188 (.pointer (some ⟨N, 0, none⟩))) ∧ w.heap.size ≤ N ∧ w'.heap[N]? = some (.cells #[.string fn, .string s, ev] 224 (0, 0)) ∧ Below w.heap.size w w' := Any.strconv_toError_syntax Tryz.laysC245 fn s base bits ev w hlim hv hev
def Tryz.lays321_ren : Go.Shelf.Ren := ⟨fun | 321 => 145 | n => n, fun | 5 => 5 | n => n, fun | n => n⟩
theorem Tryz.lays321 : Go.Proofs.Lays.n321 Tryz.prog Tryz.lays321_ren := {
  mixed := by kernel_rfl
  f321 := Tryz.func145.trans (congrArg some (by kernel_rfl))
  t5 := Tryz.underlying5
  a5 := Tryz.isAgg5
  z5 := Tryz.sizeOf5
  v5 := Tryz.zeroValue5 }
open Go.RowKit in
theorem Tryz.internal_strconv_lower (c : Int) (w : World) :
    Calls Tryz.prog 145 #[.int .u8 c] w fun e w' => e = .returned (.int .u8 (bits .or .u8 c 32)) ∧ w' = w := Any.internal_strconv_lower Tryz.lays321 c w
def Tryz.laysM280_ren : Go.Shelf.Ren := ⟨fun | 280 => 148 | 316 => 186 | n => n, fun | 9 => 9 | 168 => 188 | 75 => 107 | 210 => 224 | 3 => 3 | 4 => 4 | 37 => 70 | 0 => 0 | 127 => 185 | 80 => 146 | 5 => 5 | n => n, fun | 16 => 2 | n => n⟩
theorem Tryz.laysM280 : Go.Proofs.LaysM.n280 Tryz.prog Tryz.laysM280_ren := {
  mixed := by kernel_rfl
  f280 := Tryz.func148.trans (congrArg some (by kernel_rfl))
  f316 := Tryz.func186.trans (congrArg some (by kernel_rfl))
  t0 := Tryz.underlying0
  a0 := Tryz.isAgg0
  z0 := Tryz.sizeOf0
  v0 := Tryz.zeroValue0
  t3 := Tryz.underlying3
  a3 := Tryz.isAgg3
  z3 := Tryz.sizeOf3
  v3 := Tryz.zeroValue3
  t4 := Tryz.underlying4
  a4 := Tryz.isAgg4
  z4 := Tryz.sizeOf4
  v4 := Tryz.zeroValue4
  t9 := Tryz.underlying9
  a9 := Tryz.isAgg9
  z9 := Tryz.sizeOf9
  v9 := Tryz.zeroValue9
  t37 := Tryz.underlying70
  a37 := Tryz.isAgg70
  z37 := Tryz.sizeOf70
  v37 := Tryz.zeroValue70
  t75 := Tryz.underlying107
  a75 := Tryz.isAgg107
  z75 := Tryz.sizeOf107
  v75 := Tryz.zeroValue107
  t127 := Tryz.underlying185
  a127 := Tryz.isAgg185
  z127 := Tryz.sizeOf185
  v127 := Tryz.zeroValue185
  t168 := Tryz.underlying188
  a168 := Tryz.isAgg188
  z168 := Tryz.sizeOf188
  v168 := Tryz.zeroValue188
  t210 := Tryz.underlying224
  a210 := Tryz.isAgg224
  z210 := Tryz.sizeOf224
  v210 := Tryz.zeroValue224
  g16 := by kernel_rfl
  t5 := Tryz.underlying5
  a5 := Tryz.isAgg5
  z5 := Tryz.sizeOf5
  v5 := Tryz.zeroValue5
  t80 := Tryz.underlying146
  a80 := Tryz.isAgg146
  z80 := Tryz.sizeOf146
  v80 := Tryz.zeroValue146
  i0 := by kernel_rfl
  i3 := by kernel_rfl
  i4 := by kernel_rfl
  i5 := by kernel_rfl
  i9 := by kernel_rfl
  i37 := by kernel_rfl
  i75 := by kernel_rfl
  i80 := by kernel_rfl
  i127 := by kernel_rfl
  i168 := by kernel_rfl
  i210 := by kernel_rfl
  m16 := by kernel_rfl }
open Go.RowKit in
theorem Tryz.strconv_rangeError (fn s : ByteArray) (ev : Value) (w : World) (hlim : s.size ≤ 281474976710656) (hv : w.cell? ⟨2, 0, none⟩ = some ev) (hev : ev = .nilIface ∨ ∃ te pe, ev = .iface te pe) :
    Calls Tryz.prog 148 #[.string fn, .string s] w fun e w' => ∃ N, e = .returned (.pointer (some ⟨N, 0, none⟩)) ∧ w.heap.size ≤ N ∧ w'.heap[N]? = some (.cells #[.string fn, .string s, ev] 224 (0, 0)) ∧ Below w.heap.size w w' := Any.strconv_rangeError Tryz.laysM280 fn s ev w hlim hv hev
open Go.RowKit in
theorem Tryz.strconv_toError_range (fn s : ByteArray) (base bits : Int) (ev : Value) (w : World) (hlim : s.size ≤ 281474976710656) (hv : w.cell? ⟨2, 0, none⟩ = some ev) (hev : ev = .nilIface ∨ ∃ te pe, ev = .iface te pe) :
    Calls Tryz.prog 100 #[.string fn, .string s, .int .i64 base, .int .i64 bits, .iface 186 (.int .i64 1)] w fun e w' => ∃ N, e = .returned (.iface 188 (.pointer (some ⟨N, 0, none⟩))) ∧ w.heap.size ≤ N ∧ w'.heap[N]? = some (.cells #[.string fn, .string s, ev] 224 (0, 0)) ∧ Below w.heap.size w w' := Any.strconv_toError_range Tryz.laysC245 fn s base bits ev w hlim hv hev
def Tryz.lays101_ren : Go.Shelf.Ren := ⟨fun | 101 => 67 | 208 => 101 | 206 => 142 | n => n, fun | 9 => 9 | 4 => 4 | 3 => 3 | n => n, fun | n => n⟩
theorem Tryz.lays101 : Go.Proofs.Lays.n101 Tryz.prog Tryz.lays101_ren := {
  mixed := by kernel_rfl
  f101 := Tryz.func67.trans (congrArg some (by kernel_rfl))
  f206 := Tryz.func142.trans (congrArg some (by kernel_rfl))
  f208 := Tryz.func101.trans (congrArg some (by kernel_rfl))
  t3 := Tryz.underlying3
  a3 := Tryz.isAgg3
  z3 := Tryz.sizeOf3
  v3 := Tryz.zeroValue3
  t4 := Tryz.underlying4
  a4 := Tryz.isAgg4
  z4 := Tryz.sizeOf4
  v4 := Tryz.zeroValue4
  t9 := Tryz.underlying9
  a9 := Tryz.isAgg9
  z9 := Tryz.sizeOf9
  v9 := Tryz.zeroValue9 }
open Go.RowKit Go.Lib in
theorem Tryz.strings_TrimPrefix (s p : ByteArray) (w : World) :
    Calls Tryz.prog 67 #[.string s, .string p] w fun e w' => e = .returned (.string ⟨(Lib.trimPrefix s.data.toList p.data.toList).toArray⟩) ∧ w' = w := Any.strings_TrimPrefix Tryz.lays101 s p w
def Tryz.lays105_ren : Go.Shelf.Ren := ⟨fun | 105 => 65 | 212 => 93 | 99 => 94 | 165 => 95 | 166 => 96 | 170 => 97 | 169 => 98 | 263 => 140 | 264 => 141 | 206 => 142 | 240 => 143 | 241 => 144 | 276 => 184 | 277 => 185 | n => n, fun | 9 => 9 | 3 => 3 | 4 => 4 | 20 => 20 | 0 => 0 | 46 => 113 | 109 => 139 | 5 => 5 | 72 => 143 | 76 => 144 | 51 => 158 | 146 => 181 | 53 => 23 | 148 => 183 | 70 => 141 | 37 => 70 | 75 => 107 | 127 => 185 | 164 => 220 | 80 => 146 | n => n, fun | n => n⟩
theorem Tryz.lays105 : Go.Proofs.Lays.n105 Tryz.prog Tryz.lays105_ren := {
  mixed := by kernel_rfl
  f99 := Tryz.func94.trans (congrArg some (by kernel_rfl))
  f105 := Tryz.func65.trans (congrArg some (by kernel_rfl))
  f165 := Tryz.func95.trans (congrArg some (by kernel_rfl))
  f166 := Tryz.func96.trans (congrArg some (by kernel_rfl))
  f169 := Tryz.func98.trans (congrArg some (by kernel_rfl))
  f170 := Tryz.func97.trans (congrArg some (by kernel_rfl))
  f206 := Tryz.func142.trans (congrArg some (by kernel_rfl))
  f212 := Tryz.func93.trans (congrArg some (by kernel_rfl))
  f240 := Tryz.func143.trans (congrArg some (by kernel_rfl))
  f241 := Tryz.func144.trans (congrArg some (by kernel_rfl))
  f263 := Tryz.func140.trans (congrArg some (by kernel_rfl))
  f264 := Tryz.func141.trans (congrArg some (by kernel_rfl))
  f276 := Tryz.func184.trans (congrArg some (by kernel_rfl))
  f277 := Tryz.func185.trans (congrArg some (by kernel_rfl))
  t0 := Tryz.underlying0
  a0 := Tryz.isAgg0
  z0 := Tryz.sizeOf0
  v0 := Tryz.zeroValue0
  t3 := Tryz.underlying3
  a3 := Tryz.isAgg3
  z3 := Tryz.sizeOf3
  v3 := Tryz.zeroValue3
  t4 := Tryz.underlying4
  a4 := Tryz.isAgg4
  z4 := Tryz.sizeOf4
  v4 := Tryz.zeroValue4
  t5 := Tryz.underlying5
  a5 := Tryz.isAgg5
  z5 := Tryz.sizeOf5
  v5 := Tryz.zeroValue5
  t9 := Tryz.underlying9
  a9 := Tryz.isAgg9
  z9 := Tryz.sizeOf9
  v9 := Tryz.zeroValue9
  t20 := Tryz.underlying20
  a20 := Tryz.isAgg20
  z20 := Tryz.sizeOf20
  v20 := Tryz.zeroValue20
  t37 := Tryz.underlying70
  a37 := Tryz.isAgg70
  z37 := Tryz.sizeOf70
  v37 := Tryz.zeroValue70
  t46 := Tryz.underlying113
  a46 := Tryz.isAgg113
  z46 := Tryz.sizeOf113
  v46 := Tryz.zeroValue113
  t51 := Tryz.underlying158
  a51 := Tryz.isAgg158
  z51 := Tryz.sizeOf158
  v51 := Tryz.zeroValue158
  t53 := Tryz.underlying23
  a53 := Tryz.isAgg23
  z53 := Tryz.sizeOf23
  v53 := Tryz.zeroValue23
  t70 := Tryz.underlying141
  a70 := Tryz.isAgg141
  z70 := Tryz.sizeOf141
  v70 := Tryz.zeroValue141
  t72 := Tryz.underlying143
  a72 := Tryz.isAgg143
  z72 := Tryz.sizeOf143
  v72 := Tryz.zeroValue143
  t75 := Tryz.underlying107
  a75 := Tryz.isAgg107
  z75 := Tryz.sizeOf107
  v75 := Tryz.zeroValue107
  t76 := Tryz.underlying144
  a76 := Tryz.isAgg144
  z76 := Tryz.sizeOf144
  v76 := Tryz.zeroValue144
  t109 := Tryz.underlying139
  a109 := Tryz.isAgg139
  z109 := Tryz.sizeOf139
  v109 := Tryz.zeroValue139
  t127 := Tryz.underlying185
  a127 := Tryz.isAgg185
  z127 := Tryz.sizeOf185
  v127 := Tryz.zeroValue185
  t146 := Tryz.underlying181
  a146 := Tryz.isAgg181
  z146 := Tryz.sizeOf181
  v146 := Tryz.zeroValue181
  t148 := Tryz.underlying183
  a148 := Tryz.isAgg183
  z148 := Tryz.sizeOf183
  v148 := Tryz.zeroValue183
  t164 := Tryz.underlying220
  a164 := Tryz.isAgg220
  z164 := Tryz.sizeOf220
  v164 := Tryz.zeroValue220 }
theorem Tryz.Builder_Extra_105 : Builder.Extra Tryz.prog Tryz.lays105_ren := {
  sizeBuilder := by kernel_rfl
  liesBuilder := by kernel_rfl
  t5 := Tryz.underlying5
  a5 := Tryz.isAgg5
  z5 := Tryz.sizeOf5
  v5 := Tryz.zeroValue5
  infoByte := by kernel_rfl
  cellsByte := by kernel_rfl
  sizeByte := by kernel_rfl
  neB5 := by decide }
open Go.RowKit Go.Lib in
theorem Tryz.strings_Repeat_main (s : ByteArray) (c : Nat) (w : World) (hc2 : 2 ≤ c) (hc : c ≤ 9223372036854775807) (hlen : s.size * c ≤ 140737488355328) (h0 : 0 < s.size) :
    Calls Tryz.prog 65 #[.string s, .int .i64 c] w fun e w' => e = .returned (.string ⟨(Lib.repeatL s.data.toList c).toArray⟩) ∧ Below w.heap.size w w' := Any.strings_Repeat_main Tryz.lays105 Tryz.Builder_Extra_105 s c w hc2 hc hlen h0
open Go.RowKit Go.Lib in
theorem Tryz.strings_Repeat_zero (s : ByteArray) (w : World) :
    Calls Tryz.prog 65 #[.string s, .int .i64 0] w fun e w' => e = .returned (.string ⟨#[]⟩) ∧ w' = w := Any.strings_Repeat_zero Tryz.lays105 s w
open Go.RowKit Go.Lib in
theorem Tryz.strings_Repeat_one (s : ByteArray) (w : World) :
    Calls Tryz.prog 65 #[.string s, .int .i64 1] w fun e w' => e = .returned (.string s) ∧ w' = w := Any.strings_Repeat_one Tryz.lays105 s w
def Tryz.laysnb116_ren : Go.Shelf.Ren := ⟨fun | 116 => 90 | 115 => 133 | n => n, fun | 37 => 70 | 4 => 4 | 3 => 3 | 9 => 9 | 5 => 5 | n => n, fun | n => n⟩
theorem Tryz.laysnb116 : Go.Proofs.Lays.nb116 Tryz.prog Tryz.laysnb116_ren := {
  mixed := by kernel_rfl
  f115 := Tryz.func133.trans (congrArg some (by kernel_rfl))
  f116 := Tryz.func90.trans (congrArg some (by kernel_rfl))
  t3 := Tryz.underlying3
  a3 := Tryz.isAgg3
  z3 := Tryz.sizeOf3
  v3 := Tryz.zeroValue3
  t4 := Tryz.underlying4
  a4 := Tryz.isAgg4
  z4 := Tryz.sizeOf4
  v4 := Tryz.zeroValue4
  t9 := Tryz.underlying9
  a9 := Tryz.isAgg9
  z9 := Tryz.sizeOf9
  v9 := Tryz.zeroValue9
  t37 := Tryz.underlying70
  a37 := Tryz.isAgg70
  z37 := Tryz.sizeOf70
  v37 := Tryz.zeroValue70
  t5 := Tryz.underlying5
  a5 := Tryz.isAgg5
  z5 := Tryz.sizeOf5
  v5 := Tryz.zeroValue5 }
theorem Tryz.bytes_HasPrefix_e2 (p1 p2 : Option Addr) (n c d : Nat) (w : World) :
    Calls Tryz.prog 90 #[.slice p1 n c, .slice p2 0 d] w fun e w' => e = .returned (.bool true) ∧ w' = w := Any.bytes_HasPrefix_e2 Tryz.laysnb116 p1 p2 n c d w
end Go.Proofs

/-
  The library's digits of base 16, and the program's names of segments.
-/
namespace Go.Proofs.YthjikbhjciphiaaGreatDoor
open Go.RowKit
set_option linter.unusedVariables false
set_option linter.unusedSimpArgs false

/-- The library's variables that names of segments read. -/
def SV (W : World) : Prop := DK W ∧ (∃ ev, W.cell? ⟨1, 0, none⟩ = some ev ∧ (ev = .nilIface ∨ ∃ te pe, ev = .iface te pe)) ∧ ∃ ev, W.cell? ⟨2, 0, none⟩ = some ev ∧ (ev = .nilIface ∨ ∃ te pe, ev = .iface te pe)

theorem SV.below {W W' : World} (h : SV W) (b : Below W.heap.size W W') : SV W' := by
  obtain ⟨h1, ⟨e1, h2, h3⟩, e2, h4, h5⟩ := h
  refine ⟨fun k hk => ?_, ⟨e1, ?_, h3⟩, e2, ?_, h5⟩
  · rw [b.cell (by show _ < W.heap.size; exact Lib.lt_of_cell (h1 k hk))]; exact h1 k hk
  · rw [b.cell (by show _ < W.heap.size; exact Lib.lt_of_cell h2)]; exact h2
  · rw [b.cell (by show _ < W.heap.size; exact Lib.lt_of_cell h4)]; exact h4

theorem tz16_any (W : World) (hT : DK W) : Calls Tryz.prog 183 #[.int .u64 16] W fun e W' => e = .returned (.int .i64 4) ∧ W' = W := by
  have h := fun w hw => tz64_any 16 (by decide) (by decide) w hw
  rw [show Lib.ctz 64 16 = 4 by decide] at h
  go_enter Tryz.func183, Tryz.ntmps183
  go_wp2_with fail
  refine (h _ hT).mono ?_
  rintro e w1 ⟨rfl, rfl⟩
  go_wp2_with fail
  go_ret
  exact ⟨rfl, rfl⟩

theorem pow16_any (W : World) : Calls Tryz.prog 182 #[.int .i64 16] W fun e W' => e = .returned (.bool true) ∧ W' = W := by
  have h : bits .and .i64 16 15 = 0 := by decide
  go_enter Tryz.func182, Tryz.ntmps182
  go_wp2
  go_ret
  exact ⟨rfl, rfl⟩

/-- 65 zeros. -/
def zF : List UInt8 := List.replicate 65 0
theorem zF_len : zF.length = 65 := by unfold zF; rw [List.length_replicate]
/-- The array behind k digits. -/
def fillF (k u : Nat) : List UInt8 := List.replicate (65 - k) 0 ++ hexL k u
theorem fillF_len (k u : Nat) (h : k ≤ 65) : (fillF k u).length = 65 := by unfold fillF; rw [List.length_append, List.length_replicate, hexL_len]; omega
theorem hexL_mod (k : Nat) : ∀ j n, hexL j (n / 16 ^ 0) = hexL j n := by intro j n; simp
theorem fillF_step (k u : Nat) (h : k < 65) : ((fillF k u).map bv).set (64 - k) (bv (hd16 (u / 16 ^ k % 16))) = (fillF (k + 1) u).map bv := by
  rw [← List.map_set]
  congr 1
  unfold fillF
  have e : 65 - k = (64 - k) + 1 := by omega
  rw [e, List.replicate_succ', List.append_assoc, List.set_append_right _ _ (by rw [List.length_replicate]; exact Nat.le_refl _), List.length_replicate, Nat.sub_self, show 65 - (k + 1) = 64 - k by omega]
  rfl
theorem digit_at {P : Program} (w : World) (t : TypeId) (h : P.underlying t = some .string) (d : Nat) (hd : d < 16) :
    (Instr.index t (.string ⟨#[48, 49, 50, 51, 52, 53, 54, 55, 56, 57, 97, 98, 99, 100, 101, 102, 103, 104, 105, 106, 107, 108, 109, 110, 111, 112, 113, 114, 115, 116, 117, 118, 119, 120, 121, 122]⟩) (.int .u64 (d : Nat))).run P w = .ok (.int .u8 (((hd16 d).toNat : Nat) : Int)) w := by
  rw [run_index_string w t _ .u64 _ h, dif_pos ⟨by omega, by show _ < ((36 : Nat) : Int); omega⟩]
  have e : ∀ d : Fin 16, ((⟨#[48, 49, 50, 51, 52, 53, 54, 55, 56, 57, 97, 98, 99, 100, 101, 102, 103, 104, 105, 106, 107, 108, 109, 110, 111, 112, 113, 114, 115, 116, 117, 118, 119, 120, 121, 122]⟩ : ByteArray)[d.val]'(Nat.lt_of_lt_of_le d.isLt (by decide))) = hd16 d.val := by decide +kernel
  have := e ⟨d, hd⟩
  simp only [Int.toNat_natCast]
  simp only at this
  rw [this]

set_option maxRecDepth 100000 in
set_option maxHeartbeats 4000000 in
theorem formatBits_any (u : Nat) (hu : u < 18446744073709551616) (W : World) (hT : DK W) :
    Calls Tryz.prog 139 #[.slice none 0 0, .int .u64 u, .int .i64 16, .bool false, .bool false] W
      fun e W' => ∃ k, 1 ≤ k ∧ k ≤ 16 ∧ u < 16 ^ k ∧ e = .returned (.tuple #[.slice none 0 0, .string ⟨(hexL k u).toArray⟩]) ∧ Below W.heap.size W W' := by
  have z65 : Tryz.zeroCells219 = (zF.map bv).toArray := by unfold zF; rw [List.map_replicate]; rfl
  have hz := Blk.new (cs := zF.map bv) W 219 _ rfl
  have hb0 : Below W.heap.size W (W.alloc (.cells (zF.map bv).toArray 219)) := (Below.refl _ _).alloc (Nat.le_refl _) _
  have hT0 : DK (W.alloc (.cells (zF.map bv).toArray 219)) := fun k hk => by
    rw [World.cell?_alloc_lt _ _ _ (Lib.lt_of_cell (hT k hk))]; exact hT k hk
  have HZ := Lib.hid (And.intro hz (And.intro hb0 hT0))
  have HU := Lib.hid hu
  clear hz hb0 hT0 hu
  go_enter Tryz.func139, Tryz.ntmps139
  go_wp2_with fail
  obtain ⟨hz, hb0, hT0⟩ := HZ.out
  clear HZ hT
  generalize W.alloc (.cells (zF.map bv).toArray 219) = w0 at hz hb0 hT0 ⊢
  refine (pow16_any _).mono ?_
  rintro e w1 ⟨rfl, rfl⟩
  go_wp2_with fail
  refine (tz16_any _ hT0).mono ?_
  rintro e w2 ⟨rfl, rfl⟩
  clear hT0
  go_wp2_with fail
  go_loopw [1, 13] (fun uv i wr => ∃ (k m : Nat), k ≤ 15 ∧ i = .int .i64 ((65 - k : Nat) : Int) ∧ uv = .int .u64 m ∧ m = u / 16 ^ k ∧ Blk wr W.heap.size 219 ((fillF k u).map bv) ∧ Below W.heap.size W wr) (fun _ i _ => (intOf i).toNat)
  case atStart => exact ⟨0, u, by omega, rfl, rfl, by simp, hz, hb0⟩
  case round =>
    obtain ⟨k, m, hk, rfl, rfl, hm, hB, hb⟩ := hrel
    have hd16l := Nat.mod_lt m (show 0 < 16 by decide)
    have hst := fillF_step k u (by omega)
    rw [← hm] at hst
    have hms : m / 16 = u / 16 ^ (k + 1) := by rw [hm, Nat.div_div_eq_div_mul, Nat.pow_succ]
    have hml : m < 18446744073709551616 := by rw [hm]; exact Nat.lt_of_le_of_lt (Nat.div_le_self _ _) HU.out
    obtain ⟨j, hj⟩ : ∃ j, 64 - k = j := ⟨_, rfl⟩
    have hj1 : ((65 - k : Nat) : Int) - 1 = (j : Int) := by omega
    have hjl : j < 65 := by omega
    obtain ⟨i, hi⟩ : ∃ i, 65 - k = i := ⟨_, rfl⟩
    rw [hi] at hj1 ⊢
    have hil : i ≤ 65 := by omega
    have hk65 : k ≤ 65 := by omega
    rw [hj] at hst
    have HB := hB.set j (bv (hd16 (m % 16)))
    rw [hst] at HB
    have hb2 : Below W.heap.size W (wr.setCell ⟨W.heap.size, j, none⟩ (bv (hd16 (m % 16)))) := by
      rw [setCell_row hB]; exact below_row hb (Nat.le_refl _) _
    by_cases hlt : 16 ≤ m
    · obtain ⟨d, hd⟩ : ∃ d, m % 16 = d := ⟨_, rfl⟩
      obtain ⟨m2, hm2⟩ : ∃ d, m / 16 = d := ⟨_, rfl⟩
      rw [hd] at hd16l HB hb2
      have e1 : bits .and .u64 (m : Int) 15 = (d : Int) := by
        have h1 := u64_and_nat m 15 hml (by decide)
        rw [show (15 : Nat) = 2 ^ 4 - 1 by decide, Nat.and_two_pow_sub_one_eq_mod, show (2 : Nat) ^ 4 = 16 by decide, hd] at h1
        exact h1
      have e2 : (m : Int) / 16 = (m2 : Int) := by omega
      have e3 : (16 : Int) ≤ (m : Int) := by omega
      have hx := fun w => digit_at (P := Tryz.prog) w 9 Tryz.underlying9 d hd16l
      obtain ⟨y, hy⟩ : ∃ y, hd16 d = y := ⟨_, rfl⟩
      rw [hy] at hx HB hb2
      have hk15 : k < 15 := by
        rcases Nat.lt_or_ge k 15 with h | h
        · exact h
        · obtain rfl : k = 15 := by omega
          have := HU.out
          rw [show (16 : Nat) ^ 15 = 1152921504606846976 by decide] at hm
          omega
      have H := Lib.hid (show k + 1 ≤ 15 ∧ m2 = u / 16 ^ (k + 1) ∧ 65 - (k + 1) = j by refine ⟨by omega, by rw [← hm2, hms], by omega⟩)
      clear hm2 hd hy hst hms hm hj hi hk hk15
      have hfz := hB.frozen j
      have hcl : ∃ v, wr.cell? ⟨W.heap.size, j, none⟩ = some v := ⟨_, by rw [hB.cell, List.getElem?_eq_getElem (by rw [List.length_map, fillF_len _ _ hk65]; exact hjl)]⟩
      obtain ⟨v0, hcl⟩ := hcl
      go_wp2
      go_roundw
      case rel => exact ⟨k + 1, m2, H.out.1, by rw [H.out.2.2], rfl, H.out.2.1, HB, hb2⟩
      case measure => have := H.out; simp [intOf]; omega
    · have e3 : ¬ (16 : Int) ≤ (m : Int) := by omega
      have hmd : m % 16 = m := Nat.mod_eq_of_lt (by omega)
      rw [hmd] at hd16l HB hb2
      have hx := fun w => digit_at (P := Tryz.prog) w 9 Tryz.underlying9 m hd16l
      obtain ⟨y, hy⟩ : ∃ y, hd16 m = y := ⟨_, rfl⟩
      rw [hy] at hx HB hb2
      have H := Lib.hid (show k + 1 ≤ 16 ∧ u < 16 ^ (k + 1) by
        refine ⟨by omega, ?_⟩
        have h1 := Nat.lt_mul_div_succ u (Nat.pow_pos (n := k) (show 0 < 16 by decide))
        rw [Nat.pow_succ]
        refine Nat.lt_of_lt_of_le h1 (Nat.mul_le_mul_left _ ?_)
        rw [← hm]; omega)
      have hlen : (hexL (k + 1) u).length = k + 1 := hexL_len _ _
      have hdr : 65 - j = k + 1 := by omega
      have hS : Byt (wr.setCell ⟨W.heap.size, j, none⟩ (bv y)) (wr.setCell ⟨W.heap.size, j, none⟩ (bv y)).heap.size (some ⟨W.heap.size, j, none⟩) (65 - j) (hexL (k + 1) u) := by
        refine ⟨by omega, fun _ => ⟨W.heap.size, j, rfl, HB.lt, fun q x hq => ?_⟩⟩
        rw [HB.cell, List.getElem?_map]
        unfold fillF
        rw [List.getElem?_append_right (by rw [List.length_replicate]; omega), List.length_replicate, show j + q - (65 - (k + 1)) = q by omega, hq]
        rfl
      have hcv : (convert 70 9 (.slice (some ⟨W.heap.size, j, none⟩) (65 - j) (65 - j))).run Tryz.prog (wr.setCell ⟨W.heap.size, j, none⟩ (.int .u8 ((y.toNat : Nat) : Int))) = .ok (.string ⟨(hexL (k + 1) u).toArray⟩) (wr.setCell ⟨W.heap.size, j, none⟩ (.int .u8 ((y.toNat : Nat) : Int))) :=
        run_string_byt (P := Tryz.prog) (c := 65 - j) 70 9 5 Tryz.underlying70 Tryz.underlying5 Tryz.underlying9 hS
      have hfz := hB.frozen j
      have hcl : ∃ v, wr.cell? ⟨W.heap.size, j, none⟩ = some v := ⟨_, by rw [hB.cell, List.getElem?_eq_getElem (by rw [List.length_map, fillF_len _ _ hk65]; exact hjl)]⟩
      obtain ⟨v0, hcl⟩ := hcl
      have hal : Tryz.prog.arrayLen 219 = 65 := by kernel_rfl
      have hsl1 : ∀ W2, (Instr.sliceAt 219 (.pointer (some ⟨W.heap.size, 0, none⟩)) (some (.int .i64 (j : Int))) none none).run Tryz.prog W2 = .ok (.slice (some ⟨W.heap.size, j, none⟩) (65 - j) (65 - j)) W2 := fun W2 => by
        rw [run_sliceAt_array_l W2 219 ⟨W.heap.size, 0, none⟩ (by simp [Program.arrayLen, Program.elem, Tryz.underlying219]) .i64 (j : Int) (by omega) (by rw [hal]; omega)]
        rw [hal]
        go_simp
        omega
      clear hst hms hm hy hi hj hk hlen hdr hal
      go_wp2
      go_ret2
      exact ⟨k + 1, by omega, H.out.1, H.out.2, rfl, hb2⟩

set_option maxRecDepth 100000 in
theorem formatUint16_any (u : Nat) (hu : u < 18446744073709551616) (W : World) (hT : DK W) :
    Calls Tryz.prog 64 #[.int .u64 u, .int .i64 16] W fun e W' => ∃ k, 1 ≤ k ∧ k ≤ 16 ∧ u < 16 ^ k ∧ e = .returned (.string ⟨(hexL k u).toArray⟩) ∧ Below W.heap.size W W' := by
  have hF : Calls Tryz.prog 92 #[.int .u64 u, .int .i64 16] W fun e W' => ∃ k, 1 ≤ k ∧ k ≤ 16 ∧ u < 16 ^ k ∧ e = .returned (.string ⟨(hexL k u).toArray⟩) ∧ Below W.heap.size W W' := by
    go_enter Tryz.func92, Tryz.ntmps92
    go_wp2_with fail
    refine (formatBits_any u hu W hT).mono ?_
    rintro e w1 ⟨k, h1, h2, h3, rfl, hb⟩
    have H := Lib.hid (And.intro h1 (And.intro h2 h3))
    clear h1 h2 h3
    go_wp2_with fail
    go_ret
    exact ⟨k, H.out.1, H.out.2.1, H.out.2.2, rfl, hb⟩
  go_enter Tryz.func64, Tryz.ntmps64
  go_wp2_with fail
  refine hF.mono ?_
  rintro e w1 ⟨k, h1, h2, h3, rfl, hb⟩
  have H := Lib.hid (And.intro h1 (And.intro h2 h3))
  clear h1 h2 h3 hF
  go_wp2_with fail
  go_ret
  exact ⟨k, H.out.1, H.out.2.1, H.out.2.2, rfl, hb⟩

theorem hexL_pad (u : Nat) : ∀ d k, u < 16 ^ k → hexL (d + k) u = List.replicate d 48 ++ hexL k u := by
  intro d
  induction d with
  | zero => intro k h; rw [Nat.zero_add]; rfl
  | succ d ih =>
    intro k h
    rw [show d + 1 + k = (d + k) + 1 by omega]
    show hd16 (u / 16 ^ (d + k) % 16) :: hexL (d + k) u = _
    rw [Nat.div_eq_of_lt (Nat.lt_of_lt_of_le h (Nat.pow_le_pow_right (by decide) (by omega))), ih k h, List.replicate_succ]
    rfl

theorem repeat48_any (d : Nat) (hd : d ≤ 16) (W : World) : Calls Tryz.prog 65 #[.string ⟨#[48]⟩, .int .i64 d] W fun e W' => e = .returned (.string ⟨(List.replicate d (48 : UInt8)).toArray⟩) ∧ Below W.heap.size W W' := by
  have hrep : ∀ d : Nat, Lib.repeatL [(48 : UInt8)] d = List.replicate d 48 := by
    intro d
    induction d with
    | zero => rfl
    | succ d ih => show [(48 : UInt8)] ++ Lib.repeatL [48] d = _; rw [ih, List.replicate_succ]; rfl
  rcases Nat.lt_or_ge d 2 with h | h
  · rcases (show d = 0 ∨ d = 1 by omega) with rfl | rfl
    · exact (Tryz.strings_Repeat_zero _ W).mono fun e W' h => ⟨h.1, by rw [h.2]; exact Below.refl _ _⟩
    · exact (Tryz.strings_Repeat_one _ W).mono fun e W' h => ⟨h.1, by rw [h.2]; exact Below.refl _ _⟩
  · have := Tryz.strings_Repeat_main ⟨#[48]⟩ d W h (by omega) (by show 1 * d ≤ _; omega) (by show 0 < 1; omega)
    rw [show (⟨#[48]⟩ : ByteArray).data.toList = [(48 : UInt8)] from rfl, hrep] at this
    exact this

set_option maxRecDepth 100000 in
theorem sname_any (n : Nat) (W : World) (hn : n < 18446744073709551616) (hT : DK W) :
    Calls Tryz.prog 41 #[.int .u64 (n : Nat)] W fun e W' => e = .returned (.string ⟨(nameL n).toArray⟩) ∧ Below W.heap.size W W' := by
  go_enter Tryz.func41, Tryz.ntmps41
  go_wp2_with fail
  refine (formatUint16_any n hn W hT).mono ?_
  rintro e w1 ⟨k, h1, h2, h3, rfl, hb⟩
  have hlen := hexL_len k n
  obtain ⟨d, hd⟩ : ∃ d, 16 - k = d := ⟨_, rfl⟩
  have hdk : d ≤ 16 := by omega
  have HN := Lib.hid (show (nameL n) = 119 :: (List.replicate d 48 ++ hexL k n) by unfold nameL; rw [← hexL_pad n d k h3, show d + k = 16 by omega])
  obtain ⟨L, hL⟩ : ∃ L, hexL k n = L := ⟨_, rfl⟩
  rw [hL] at hlen HN ⊢
  have hls : (⟨L.toArray⟩ : ByteArray).size = k := by show L.toArray.size = k; rw [List.size_toArray, hlen]
  have hsub : (16 : Int) - (k : Int) = (d : Int) := by omega
  have hR := fun w => repeat48_any d hdk w
  have ha1 := fun w => add_txts (P := Tryz.prog) [119] (List.replicate d 48) (119 :: List.replicate d 48) rfl (by simp) (by rw [List.length_replicate]; omega) w
  have ha2 := fun w => add_txts (P := Tryz.prog) (119 :: List.replicate d 48) L (nameL n) HN.out (by rw [List.length_cons, List.length_replicate]; omega) (by omega) w
  obtain ⟨NL, hNL⟩ : ∃ NL, nameL n = NL := ⟨_, rfl⟩
  rw [hNL] at ha2 HN
  have HNL := Lib.hid hNL
  obtain ⟨M, hM⟩ : ∃ M, List.replicate d (48 : UInt8) = M := ⟨_, rfl⟩
  rw [hM] at hR ha1 ha2
  obtain ⟨M2, hM2⟩ : ∃ M2, 119 :: M = M2 := ⟨_, rfl⟩
  rw [hM2] at ha1 ha2
  have ha1 : ∀ w, (Op.stringOp .add ⟨#[119]⟩ ⟨M.toArray⟩).run Tryz.prog w = .ok (.string ⟨M2.toArray⟩) w := ha1
  clear hM hM2 HN hL hlen hd h1 h2 h3 hdk hNL
  go_wp2_with fail
  refine (hR _).mono ?_
  rintro e w2 ⟨rfl, hb2⟩
  have hB := bthen hb hb2
  go_wp2_with fail
  go_ret
  exact ⟨by rw [HNL.out]; rfl, hB⟩

end Go.Proofs.YthjikbhjciphiaaGreatDoor
