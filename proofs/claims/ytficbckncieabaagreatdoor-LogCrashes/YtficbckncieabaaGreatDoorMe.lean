/- Lemmas of the claim, part e of 14. -/
import Derived.Shelf.Strings.Builder1
import Derived.Shelf.Strings.Builder2
import Derived.Shelf.Strings.BuilderF
import Derived.Shelf.Strconv.Atoi
import Derived.Shelf.Strconv.Itoa0
import Derived.Shelf.Strconv.Itoa1
import Derived.Shelf.LaysM
import Derived.Shelf.Strconv.Itoa2
import Derived.Shelf.Strconv.Itoa3
import Derived.Shelf.Strconv.AtoiErrFast
import Derived.Shelf.Strconv.ParseIntEmpty
import Derived.Shelf.Strconv.AtoiFail
import Derived.Shelf.Strconv.Clone
import Derived.Shelf.Strconv.SyntaxError
import Derived.Shelf.LaysC
import Derived.Shelf.Strconv.ToError
import Derived.Shelf.Strconv.Lower
import Derived.Shelf.Strconv.ParseUint10
import Derived.Shelf.Strconv.ParseUint10Empty
import Derived.Shelf.Strconv.ParseUint10Any
import Derived.Shelf.Strconv.ParseInt10
import Derived.Shelf.Strconv.AtoiLong
import Derived.Shelf.Strconv.AtoiInnerAll
import Derived.Shelf.Strconv.RangeError
import Derived.Shelf.Strconv.ToErrorRange
import Derived.Shelf.Strconv.AtoiAll
import Derived.Shelf.Strconv.ErrVarAll
import Derived.Shelf.Strconv.ParseUintEmpty
import Derived.Shelf.Strconv.ParseUint10b64
import Derived.Shelf.Strconv.ParseUint10b32
import Derived.Shelf.Strconv.ParseUint10b16
import Derived.Shelf.Strconv.ParseUint10b8
import Derived.Shelf.Strconv.ParseUint10At
import Derived.Shelf.Strconv.ParseInt10At64
import Derived.Shelf.Strconv.ParseInt10At32
import Derived.Shelf.Strconv.ParseInt10At16
import Derived.Shelf.Strconv.ParseInt10At8
import Derived.Shelf.Strconv.ParseInt10All
import Derived.Shelf.Strings.Prefix
import Derived.Shelf.Bits.Mul64
import Derived.Shelf.Strings.Repeat
import Derived.Test.YtficbckncieabaaGreatDoorProg
import Derived.WalkKit
import Derived.Lib.AtoiAll
import Derived.Lib.ItoaNum
import Derived.Lib.TrimByte
import Derived.Lib.Strings
import Derived.Lib.ParseIntBTie
import Derived.Test.YtficbckncieabaaGreatDoorMa
import Derived.Lib.ItoaLen
import Derived.Lib.ItoaMem
import Derived.Lib.Repeat
import Derived.LoopIn
import Derived.Test.YtficbckncieabaaGreatDoorMd
import Derived.Test.YtficbckncieabaaGreatDoorMc
set_option maxHeartbeats 16000000
section
open Go.Shelf
namespace Go.Proofs
def Tryz.GI:Go.Shelf.Ren:=⟨fun|171=>99|243=>139|246=>169|283=>191|284=>192|285=>193|286=>194|129=>138|317=>205|318=>206|319=>207|320=>208|337=>210|338=>211|n=>n,fun|3=>3|9=>9|2=>2|4=>4|171=>248|0=>0|53=>195|37=>39|5=>5|173=>250|212=>263|51=>180|20=>20|213=>264|46=>44|232=>266|233=>267|n=>n,fun|17=>3|18=>5|19=>6|n=>n⟩
theorem Tryz.laysM171:Go.Proofs.LaysM.n171 Tryz.prog Tryz.GI:={
 mixed:=by kernel_rfl
 f129:=Tryz.func138.trans (congrArg some (by kernel_rfl))
 f171:=Tryz.func99.trans (congrArg some (by kernel_rfl))
 f243:=Tryz.func139.trans (congrArg some (by kernel_rfl))
 f246:=Tryz.func169.trans (congrArg some (by kernel_rfl))
 f283:=Tryz.func191.trans (congrArg some (by kernel_rfl))
 f284:=Tryz.func192.trans (congrArg some (by kernel_rfl))
 f285:=Tryz.func193.trans (congrArg some (by kernel_rfl))
 f286:=Tryz.func194.trans (congrArg some (by kernel_rfl))
 f317:=Tryz.func205.trans (congrArg some (by kernel_rfl))
 f318:=Tryz.func206.trans (congrArg some (by kernel_rfl))
 f319:=Tryz.func207.trans (congrArg some (by kernel_rfl))
 f320:=Tryz.func208.trans (congrArg some (by kernel_rfl))
 f337:=Tryz.func210.trans (congrArg some (by kernel_rfl))
 f338:=Tryz.func211.trans (congrArg some (by kernel_rfl))
 t0:=Tryz.underlying0
 a0:=Tryz.isAgg0
 z0:=Tryz.sizeOf0
 v0:=Tryz.zeroValue0
 t2:=Tryz.underlying2
 a2:=Tryz.isAgg2
 z2:=Tryz.sizeOf2
 v2:=Tryz.zeroValue2
 t3:=Tryz.underlying3
 a3:=Tryz.isAgg3
 z3:=Tryz.sizeOf3
 v3:=Tryz.zeroValue3
 t4:=Tryz.underlying4
 a4:=Tryz.isAgg4
 z4:=Tryz.sizeOf4
 v4:=Tryz.zeroValue4
 t5:=Tryz.underlying5
 a5:=Tryz.isAgg5
 z5:=Tryz.sizeOf5
 v5:=Tryz.zeroValue5
 t9:=Tryz.underlying9
 a9:=Tryz.isAgg9
 z9:=Tryz.sizeOf9
 v9:=Tryz.zeroValue9
 t20:=Tryz.underlying20
 a20:=Tryz.isAgg20
 z20:=Tryz.sizeOf20
 v20:=Tryz.zeroValue20
 t37:=Tryz.underlying39
 a37:=Tryz.isAgg39
 z37:=Tryz.sizeOf39
 v37:=Tryz.zeroValue39
 t46:=Tryz.underlying44
 a46:=Tryz.isAgg44
 z46:=Tryz.sizeOf44
 v46:=Tryz.zeroValue44
 t51:=Tryz.underlying180
 a51:=Tryz.isAgg180
 z51:=Tryz.sizeOf180
 v51:=Tryz.zeroValue180
 t53:=Tryz.underlying195
 a53:=Tryz.isAgg195
 z53:=Tryz.sizeOf195
 v53:=Tryz.zeroValue195
 t171:=Tryz.underlying248
 a171:=Tryz.isAgg248
 z171:=Tryz.sizeOf248
 v171:=Tryz.zeroValue248
 t173:=Tryz.underlying250
 a173:=Tryz.isAgg250
 z173:=Tryz.sizeOf250
 v173:=Tryz.zeroValue250
 t212:=Tryz.underlying263
 a212:=Tryz.isAgg263
 z212:=Tryz.sizeOf263
 v212:=Tryz.zeroValue263
 t213:=Tryz.underlying264
 a213:=Tryz.isAgg264
 z213:=Tryz.sizeOf264
 t232:=Tryz.underlying266
 a232:=Tryz.isAgg266
 z232:=Tryz.sizeOf266
 v232:=Tryz.zeroValue266
 t233:=Tryz.underlying267
 a233:=Tryz.isAgg267
 z233:=Tryz.sizeOf267
 v233:=Tryz.zeroValue267
 g17:=by kernel_rfl
 g18:=by kernel_rfl
 g19:=by kernel_rfl
 i0:=by kernel_rfl
 i2:=by kernel_rfl
 i3:=by kernel_rfl
 i4:=by kernel_rfl
 i5:=by kernel_rfl
 i9:=by kernel_rfl
 i20:=by kernel_rfl
 i37:=by kernel_rfl
 i46:=by kernel_rfl
 i51:=by kernel_rfl
 i53:=by kernel_rfl
 i171:=by kernel_rfl
 i173:=by kernel_rfl
 i212:=by kernel_rfl
 i232:=by kernel_rfl
 i233:=by kernel_rfl
 m17:=by kernel_rfl
 m18:=by kernel_rfl
 m19:=by kernel_rfl}
open Go.RowKit Go.Sort Go.Lib in
theorem Tryz.strconv_Itoa(n:Int)(h0: -9223372036854775808≤n)(h1:n≤9223372036854775807)(w:World)(aol:Lib.TabIs Tryz.prog w "internal/strconv.uint64pow10" .u64 Lib.pow10Tab):
 Calls Tryz.prog 99 #[.int .i64 n] w fun e w'=>e= .returned (.string ⟨(Lib.itoa n).toArray⟩)∧∃k os,w'=grow (w.drewN k) os:=Any.strconv_Itoa Tryz.laysM171 n h0 h1 w aol
def Tryz.GK:Go.Shelf.Ren:=⟨fun|172=>67|244=>103|245=>104|247=>146|279=>147|280=>148|281=>149|282=>150|287=>174|316=>175|171=>99|205=>176|321=>197|322=>198|243=>139|246=>169|283=>191|284=>192|285=>193|286=>194|129=>138|317=>205|318=>206|319=>207|320=>208|337=>210|338=>211|n=>n,fun|9=>9|3=>3|75=>26|76=>49|4=>4|5=>5|167=>202|37=>39|0=>0|85=>203|2=>2|168=>205|53=>195|175=>231|46=>44|210=>235|127=>230|145=>257|143=>255|21=>21|171=>248|173=>250|212=>263|51=>180|20=>20|213=>264|232=>266|233=>267|80=>201|n=>n,fun|15=>1|16=>2|17=>3|18=>5|19=>6|n=>n⟩
theorem Tryz.laysC172:Go.Proofs.LaysC.n172 Tryz.prog Tryz.GK:={
 mixed:=by kernel_rfl
 f129:=Tryz.func138.trans (congrArg some (by kernel_rfl))
 f171:=Tryz.func99.trans (congrArg some (by kernel_rfl))
 f172:=Tryz.func67.trans (congrArg some (by kernel_rfl))
 f205:=Tryz.func176.trans (congrArg some (by kernel_rfl))
 f243:=Tryz.func139.trans (congrArg some (by kernel_rfl))
 f244:=Tryz.func103.trans (congrArg some (by kernel_rfl))
 f245:=Tryz.func104.trans (congrArg some (by kernel_rfl))
 f246:=Tryz.func169.trans (congrArg some (by kernel_rfl))
 f247:=Tryz.func146.trans (congrArg some (by kernel_rfl))
 f279:=Tryz.func147.trans (congrArg some (by kernel_rfl))
 f280:=Tryz.func148.trans (congrArg some (by kernel_rfl))
 f281:=Tryz.func149.trans (congrArg some (by kernel_rfl))
 f282:=Tryz.func150.trans (congrArg some (by kernel_rfl))
 f283:=Tryz.func191.trans (congrArg some (by kernel_rfl))
 f284:=Tryz.func192.trans (congrArg some (by kernel_rfl))
 f285:=Tryz.func193.trans (congrArg some (by kernel_rfl))
 f286:=Tryz.func194.trans (congrArg some (by kernel_rfl))
 f287:=Tryz.func174.trans (congrArg some (by kernel_rfl))
 f316:=Tryz.func175.trans (congrArg some (by kernel_rfl))
 f317:=Tryz.func205.trans (congrArg some (by kernel_rfl))
 f318:=Tryz.func206.trans (congrArg some (by kernel_rfl))
 f319:=Tryz.func207.trans (congrArg some (by kernel_rfl))
 f320:=Tryz.func208.trans (congrArg some (by kernel_rfl))
 f321:=Tryz.func197.trans (congrArg some (by kernel_rfl))
 f322:=Tryz.func198.trans (congrArg some (by kernel_rfl))
 f337:=Tryz.func210.trans (congrArg some (by kernel_rfl))
 f338:=Tryz.func211.trans (congrArg some (by kernel_rfl))
 t0:=Tryz.underlying0
 a0:=Tryz.isAgg0
 z0:=Tryz.sizeOf0
 v0:=Tryz.zeroValue0
 t2:=Tryz.underlying2
 a2:=Tryz.isAgg2
 z2:=Tryz.sizeOf2
 v2:=Tryz.zeroValue2
 t3:=Tryz.underlying3
 a3:=Tryz.isAgg3
 z3:=Tryz.sizeOf3
 v3:=Tryz.zeroValue3
 t4:=Tryz.underlying4
 a4:=Tryz.isAgg4
 z4:=Tryz.sizeOf4
 v4:=Tryz.zeroValue4
 t5:=Tryz.underlying5
 a5:=Tryz.isAgg5
 z5:=Tryz.sizeOf5
 v5:=Tryz.zeroValue5
 t9:=Tryz.underlying9
 a9:=Tryz.isAgg9
 z9:=Tryz.sizeOf9
 v9:=Tryz.zeroValue9
 t20:=Tryz.underlying20
 a20:=Tryz.isAgg20
 z20:=Tryz.sizeOf20
 v20:=Tryz.zeroValue20
 t21:=Tryz.underlying21
 a21:=Tryz.isAgg21
 z21:=Tryz.sizeOf21
 v21:=Tryz.zeroValue21
 t37:=Tryz.underlying39
 a37:=Tryz.isAgg39
 z37:=Tryz.sizeOf39
 v37:=Tryz.zeroValue39
 t46:=Tryz.underlying44
 a46:=Tryz.isAgg44
 z46:=Tryz.sizeOf44
 v46:=Tryz.zeroValue44
 t51:=Tryz.underlying180
 a51:=Tryz.isAgg180
 z51:=Tryz.sizeOf180
 v51:=Tryz.zeroValue180
 t53:=Tryz.underlying195
 a53:=Tryz.isAgg195
 z53:=Tryz.sizeOf195
 v53:=Tryz.zeroValue195
 t75:=Tryz.underlying26
 a75:=Tryz.isAgg26
 z75:=Tryz.sizeOf26
 v75:=Tryz.zeroValue26
 t76:=Tryz.underlying49
 a76:=Tryz.isAgg49
 z76:=Tryz.sizeOf49
 v76:=Tryz.zeroValue49
 t85:=Tryz.underlying203
 a85:=Tryz.isAgg203
 z85:=Tryz.sizeOf203
 v85:=Tryz.zeroValue203
 t127:=Tryz.underlying230
 a127:=Tryz.isAgg230
 z127:=Tryz.sizeOf230
 v127:=Tryz.zeroValue230
 t143:=Tryz.underlying255
 a143:=Tryz.isAgg255
 z143:=Tryz.sizeOf255
 v143:=Tryz.zeroValue255
 t145:=Tryz.underlying257
 a145:=Tryz.isAgg257
 z145:=Tryz.sizeOf257
 v145:=Tryz.zeroValue257
 t167:=Tryz.underlying202
 a167:=Tryz.isAgg202
 z167:=Tryz.sizeOf202
 v167:=Tryz.zeroValue202
 t168:=Tryz.underlying205
 a168:=Tryz.isAgg205
 z168:=Tryz.sizeOf205
 v168:=Tryz.zeroValue205
 t171:=Tryz.underlying248
 a171:=Tryz.isAgg248
 z171:=Tryz.sizeOf248
 v171:=Tryz.zeroValue248
 t173:=Tryz.underlying250
 a173:=Tryz.isAgg250
 z173:=Tryz.sizeOf250
 v173:=Tryz.zeroValue250
 t175:=Tryz.underlying231
 a175:=Tryz.isAgg231
 z175:=Tryz.sizeOf231
 v175:=Tryz.zeroValue231
 t210:=Tryz.underlying235
 a210:=Tryz.isAgg235
 z210:=Tryz.sizeOf235
 v210:=Tryz.zeroValue235
 t212:=Tryz.underlying263
 a212:=Tryz.isAgg263
 z212:=Tryz.sizeOf263
 v212:=Tryz.zeroValue263
 t213:=Tryz.underlying264
 a213:=Tryz.isAgg264
 z213:=Tryz.sizeOf264
 t232:=Tryz.underlying266
 a232:=Tryz.isAgg266
 z232:=Tryz.sizeOf266
 v232:=Tryz.zeroValue266
 t233:=Tryz.underlying267
 a233:=Tryz.isAgg267
 z233:=Tryz.sizeOf267
 v233:=Tryz.zeroValue267
 g15:=by kernel_rfl
 g16:=by kernel_rfl
 g17:=by kernel_rfl
 g18:=by kernel_rfl
 g19:=by kernel_rfl
 t80:=Tryz.underlying201
 a80:=Tryz.isAgg201
 z80:=Tryz.sizeOf201
 v80:=Tryz.zeroValue201
 i0:=by kernel_rfl
 i2:=by kernel_rfl
 i3:=by kernel_rfl
 i4:=by kernel_rfl
 i5:=by kernel_rfl
 i9:=by kernel_rfl
 i20:=by kernel_rfl
 i21:=by kernel_rfl
 i37:=by kernel_rfl
 i46:=by kernel_rfl
 i51:=by kernel_rfl
 i53:=by kernel_rfl
 i75:=by kernel_rfl
 i76:=by kernel_rfl
 i80:=by kernel_rfl
 i85:=by kernel_rfl
 i127:=by kernel_rfl
 i143:=by kernel_rfl
 i145:=by kernel_rfl
 i167:=by kernel_rfl
 i168:=by kernel_rfl
 i171:=by kernel_rfl
 i173:=by kernel_rfl
 i175:=by kernel_rfl
 i210:=by kernel_rfl
 i212:=by kernel_rfl
 i232:=by kernel_rfl
 i233:=by kernel_rfl
 m15:=by kernel_rfl
 m16:=by kernel_rfl
 m17:=by kernel_rfl
 m18:=by kernel_rfl
 m19:=by kernel_rfl
 c0:=by kernel_rfl
 c2:=by kernel_rfl
 c3:=by kernel_rfl
 c4:=by kernel_rfl
 c5:=by kernel_rfl
 c9:=by kernel_rfl
 c20:=by kernel_rfl
 c21:=by kernel_rfl
 c37:=by kernel_rfl
 c46:=by kernel_rfl
 c51:=by kernel_rfl
 c53:=by kernel_rfl
 c75:=by kernel_rfl
 c76:=by kernel_rfl
 c80:=by kernel_rfl
 c85:=by kernel_rfl
 c127:=by kernel_rfl
 c143:=by kernel_rfl
 c145:=by kernel_rfl
 c167:=by kernel_rfl
 c168:=by kernel_rfl
 c171:=by kernel_rfl
 c173:=by kernel_rfl
 c175:=by kernel_rfl
 c210:=by kernel_rfl
 c212:=by kernel_rfl
 c213:=by kernel_rfl
 c232:=by kernel_rfl
 c233:=by kernel_rfl}
open Go.RowKit in
theorem Tryz.strconv_Atoi_ok(s:ByteArray)(abD:s.size≤9223372036854775806)(v:Int)(h:Lib.atoiAll s.data.toList= .ok v)(w:World):
 Calls Tryz.prog 67 #[.string s] w fun e w'=>e= .returned (.tuple #[.int .i64 v, .nilIface])∧(w'=w∨∃t,w'=Lib.bytesWorld w 5 t):=Any.strconv_Atoi_ok Tryz.laysC172 s abD v h w
open Go.RowKit in
theorem Tryz.strconv_Atoi_syntax_var(s:ByteArray)(ab5:s.size≤281474976710656)(h:Lib.atoiAll s.data.toList= .«syntax»)(tp:TypeId)(p:Value)(w:World)(aiR:w.var? Tryz.prog "strconv.ErrSyntax" =some #[.iface tp p]):
 Calls Tryz.prog 67 #[.string s] w fun e w'=>∃N,e= .returned (.tuple #[.int .i64 0, .iface 205 (.pointer (some ⟨N,0,none⟩))])∧w.heap.size≤N∧w'.heap[N]? =some (.cells #[.string ⟨#[65,116,111,105]⟩, .string s, .iface tp p] 235 (0,0))∧Below w.heap.size w w':=Any.strconv_Atoi_syntax_var Tryz.laysC172 s ab5 h tp p w aiR
open Go.RowKit in
theorem Tryz.strconv_Atoi_range_var(s:ByteArray)(ab5:s.size≤281474976710656)(h:Lib.atoiAll s.data.toList= .range)(tp:TypeId)(p:Value)(w:World)(aiR:w.var? Tryz.prog "strconv.ErrRange" =some #[.iface tp p]):
 Calls Tryz.prog 67 #[.string s] w fun e w'=>∃N,e= .returned (.tuple #[.int .i64 (Lib.atoiSat s.data.toList), .iface 205 (.pointer (some ⟨N,0,none⟩))])∧w.heap.size≤N∧w'.heap[N]? =some (.cells #[.string ⟨#[65,116,111,105]⟩, .string s, .iface tp p] 235 (0,0))∧Below w.heap.size w w':=Any.strconv_Atoi_range_var Tryz.laysC172 s ab5 h tp p w aiR
def Tryz.lays101_ren:Go.Shelf.Ren:=⟨fun|101=>66|208=>102|206=>116|n=>n,fun|9=>9|4=>4|3=>3|n=>n,fun|n=>n⟩
theorem Tryz.lays101:Go.Proofs.Lays.n101 Tryz.prog Tryz.lays101_ren:={
 mixed:=by kernel_rfl
 f101:=Tryz.func66.trans (congrArg some (by kernel_rfl))
 f206:=Tryz.func116.trans (congrArg some (by kernel_rfl))
 f208:=Tryz.func102.trans (congrArg some (by kernel_rfl))
 t3:=Tryz.underlying3
 a3:=Tryz.isAgg3
 z3:=Tryz.sizeOf3
 v3:=Tryz.zeroValue3
 t4:=Tryz.underlying4
 a4:=Tryz.isAgg4
 z4:=Tryz.sizeOf4
 v4:=Tryz.zeroValue4
 t9:=Tryz.underlying9
 a9:=Tryz.isAgg9
 z9:=Tryz.sizeOf9
 v9:=Tryz.zeroValue9}
open Go.RowKit Go.Lib in
theorem Tryz.strings_TrimPrefix(s p:ByteArray)(w:World):
 Calls Tryz.prog 66 #[.string s, .string p] w fun e w'=>e= .returned (.string ⟨(Lib.trimPrefix s.data.toList p.data.toList).toArray⟩)∧w'=w:=Any.strings_TrimPrefix Tryz.lays101 s p w
def Tryz.lays102_ren:Go.Shelf.Ren:=⟨fun|102=>65|209=>101|207=>145|n=>n,fun|9=>9|4=>4|3=>3|n=>n,fun|n=>n⟩
theorem Tryz.lays102:Go.Proofs.Lays.n102 Tryz.prog Tryz.lays102_ren:={
 mixed:=by kernel_rfl
 f102:=Tryz.func65.trans (congrArg some (by kernel_rfl))
 f207:=Tryz.func145.trans (congrArg some (by kernel_rfl))
 f209:=Tryz.func101.trans (congrArg some (by kernel_rfl))
 t3:=Tryz.underlying3
 a3:=Tryz.isAgg3
 z3:=Tryz.sizeOf3
 v3:=Tryz.zeroValue3
 t4:=Tryz.underlying4
 a4:=Tryz.isAgg4
 z4:=Tryz.sizeOf4
 v4:=Tryz.zeroValue4
 t9:=Tryz.underlying9
 a9:=Tryz.isAgg9
 z9:=Tryz.sizeOf9
 v9:=Tryz.zeroValue9}
open Go.RowKit Go.Lib in
theorem Tryz.strings_TrimSuffix(s p:ByteArray)(w:World)(hs:s.size≤9223372036854775807):
 Calls Tryz.prog 65 #[.string s, .string p] w fun e w'=>e= .returned (.string ⟨(Lib.trimSuffix s.data.toList p.data.toList).toArray⟩)∧w'=w:=Any.strings_TrimSuffix Tryz.lays102 s p w hs
def Tryz.lays105_ren:Go.Shelf.Ren:=⟨fun|105=>100|212=>140|99=>82|165=>141|166=>142|170=>143|169=>144|263=>170|264=>171|206=>116|240=>172|241=>173|276=>195|277=>196|n=>n,fun|9=>9|3=>3|4=>4|20=>20|0=>0|46=>44|109=>196|5=>5|72=>200|76=>49|51=>180|146=>226|53=>195|148=>228|70=>198|37=>39|75=>26|127=>230|164=>132|80=>201|n=>n,fun|n=>n⟩
theorem Tryz.lays105:Go.Proofs.Lays.n105 Tryz.prog Tryz.lays105_ren:={
 mixed:=by kernel_rfl
 f99:=Tryz.func82.trans (congrArg some (by kernel_rfl))
 f105:=Tryz.func100.trans (congrArg some (by kernel_rfl))
 f165:=Tryz.func141.trans (congrArg some (by kernel_rfl))
 f166:=Tryz.func142.trans (congrArg some (by kernel_rfl))
 f169:=Tryz.func144.trans (congrArg some (by kernel_rfl))
 f170:=Tryz.func143.trans (congrArg some (by kernel_rfl))
 f206:=Tryz.func116.trans (congrArg some (by kernel_rfl))
 f212:=Tryz.func140.trans (congrArg some (by kernel_rfl))
 f240:=Tryz.func172.trans (congrArg some (by kernel_rfl))
 f241:=Tryz.func173.trans (congrArg some (by kernel_rfl))
 f263:=Tryz.func170.trans (congrArg some (by kernel_rfl))
 f264:=Tryz.func171.trans (congrArg some (by kernel_rfl))
 f276:=Tryz.func195.trans (congrArg some (by kernel_rfl))
 f277:=Tryz.func196.trans (congrArg some (by kernel_rfl))
 t0:=Tryz.underlying0
 a0:=Tryz.isAgg0
 z0:=Tryz.sizeOf0
 v0:=Tryz.zeroValue0
 t3:=Tryz.underlying3
 a3:=Tryz.isAgg3
 z3:=Tryz.sizeOf3
 v3:=Tryz.zeroValue3
 t4:=Tryz.underlying4
 a4:=Tryz.isAgg4
 z4:=Tryz.sizeOf4
 v4:=Tryz.zeroValue4
 t5:=Tryz.underlying5
 a5:=Tryz.isAgg5
 z5:=Tryz.sizeOf5
 v5:=Tryz.zeroValue5
 t9:=Tryz.underlying9
 a9:=Tryz.isAgg9
 z9:=Tryz.sizeOf9
 v9:=Tryz.zeroValue9
 t20:=Tryz.underlying20
 a20:=Tryz.isAgg20
 z20:=Tryz.sizeOf20
 v20:=Tryz.zeroValue20
 t37:=Tryz.underlying39
 a37:=Tryz.isAgg39
 z37:=Tryz.sizeOf39
 v37:=Tryz.zeroValue39
 t46:=Tryz.underlying44
 a46:=Tryz.isAgg44
 z46:=Tryz.sizeOf44
 v46:=Tryz.zeroValue44
 t51:=Tryz.underlying180
 a51:=Tryz.isAgg180
 z51:=Tryz.sizeOf180
 v51:=Tryz.zeroValue180
 t53:=Tryz.underlying195
 a53:=Tryz.isAgg195
 z53:=Tryz.sizeOf195
 v53:=Tryz.zeroValue195
 t70:=Tryz.underlying198
 a70:=Tryz.isAgg198
 z70:=Tryz.sizeOf198
 v70:=Tryz.zeroValue198
 t72:=Tryz.underlying200
 a72:=Tryz.isAgg200
 z72:=Tryz.sizeOf200
 v72:=Tryz.zeroValue200
 t75:=Tryz.underlying26
 a75:=Tryz.isAgg26
 z75:=Tryz.sizeOf26
 v75:=Tryz.zeroValue26
 t76:=Tryz.underlying49
 a76:=Tryz.isAgg49
 z76:=Tryz.sizeOf49
 v76:=Tryz.zeroValue49
 t109:=Tryz.underlying196
 a109:=Tryz.isAgg196
 z109:=Tryz.sizeOf196
 v109:=Tryz.zeroValue196
 t127:=Tryz.underlying230
 a127:=Tryz.isAgg230
 z127:=Tryz.sizeOf230
 v127:=Tryz.zeroValue230
 t146:=Tryz.underlying226
 a146:=Tryz.isAgg226
 z146:=Tryz.sizeOf226
 v146:=Tryz.zeroValue226
 t148:=Tryz.underlying228
 a148:=Tryz.isAgg228
 z148:=Tryz.sizeOf228
 v148:=Tryz.zeroValue228
 t164:=Tryz.underlying132
 a164:=Tryz.isAgg132
 z164:=Tryz.sizeOf132
 v164:=Tryz.zeroValue132}
theorem Tryz.Builder_Extra_105:Builder.Extra Tryz.prog Tryz.lays105_ren:={
 sizeBuilder:=by kernel_rfl
 liesBuilder:=by kernel_rfl
 t5:=Tryz.underlying5
 a5:=Tryz.isAgg5
 z5:=Tryz.sizeOf5
 v5:=Tryz.zeroValue5
 infoByte:=by kernel_rfl
 cellsByte:=by kernel_rfl
 sizeByte:=by kernel_rfl
 neB5:=by decide}
open Go.RowKit Go.Lib in
theorem Tryz.strings_Repeat(s:ByteArray)(c:Nat)(w:World)(hc:c≤9223372036854775807)(aah:s.size*c≤140737488355328):
 Calls Tryz.prog 100 #[.string s, .int .i64 c] w fun e w'=>e= .returned (.string ⟨(Lib.repeatL s.data.toList c).toArray⟩)∧Below w.heap.size w w':=Any.strings_Repeat Tryz.lays105 Tryz.Builder_Extra_105 s c w hc aah
end Go.Proofs
end
namespace Go.Proofs.YtficbckncieabaaGreatDoor
section
open Go.Lib
set_option linter.unusedSimpArgs false
set_option linter.unusedVariables false
namespace Sn
def pad(l:List UInt8):List UInt8:=List.replicate (10-l.length) 48++l
def iF(dir:List UInt8)(n:Nat):List UInt8:=dir++[47]++pad (decDigits n)++[46,108,111,103]
theorem WI(n:Nat):decDigits n≠[]:=by
 rw[decDigits];split<;>simp
theorem IY{n:Nat}(h:¬n<10):decDigits n=decDigits (n/10)++[UInt8.ofNat (48+n%10)]:=by rw[decDigits,dif_neg h]
theorem uk{d:Nat}(h:d<10):(UInt8.ofNat (48+d)).toNat=48+d:=UInt8.toNat_ofNat_of_lt' (by show _<256;omega)
theorem Fb:∀(f n acc:Nat) (r:List UInt8),n<f→n<10000000000000→acc≤10000→parseUint10 (acc*10^(decDigits n).length+n) r=parseUint10 acc (decDigits n++r)∨0<acc
 |0,n,_,_,h,_,_=>absurd h (Nat.not_lt_zero _)
 |f+1,n,acc,r,h,hn,ha=>by
  by_cases h0:0<acc
  ·exact .inr h0
  ·left
   have:acc=0:=by omega
   subst this;by_cases h10:n<10
   ·rw[decDigits,dif_pos h10]
    simp only[List.cons_append,List.nil_append,parseUint10,uk h10];rw[if_pos (by omega),if_neg (by omega),if_neg (by omega)];congr 1
    simp
   ·have hq:n/10<f:=by omega
    have ih:=(Fb f (n/10) 0 (UInt8.ofNat (48+n%10)::r) hq (by omega) (by omega)).resolve_right (by omega);rw[IY h10,List.append_assoc,List.singleton_append,←ih];simp only[Nat.zero_mul,Nat.zero_add,parseUint10];rw[uk (Nat.mod_lt _ (by omega)),if_pos (by omega),if_neg (by omega),if_neg (by omega)];congr 1
    omega
theorem KO{n:Nat}(hn:n<10000000000000):parseUint10 0 (decDigits n)= .ok n:=by
 have:=(Fb (n+1) n 0 [] (by omega) hn (by omega)).resolve_right (by omega);rw[List.append_nil]at this;rw[←this];simp[parseUint10]
theorem yT:∀(k:Nat) (l:List UInt8),parseUint10 0 (List.replicate k 48++l)=parseUint10 0 l
 |0,l=>rfl
 |k+1,l=>by
  rw[List.replicate_succ,List.cons_append,parseUint10];rw[if_pos (by decide),if_neg (by decide),if_neg (by decide)];exact yT k l
theorem Fe:∀(f n:Nat),n<f→∀c∈decDigits n,48≤c.toNat∧c.toNat≤57
 |0,n,h,_,_=>absurd h (Nat.not_lt_zero _)
 |f+1,n,h,c,hc=>by
  by_cases h10:n<10
  ·rw[decDigits,dif_pos h10]at hc
   simp only[List.mem_singleton]at hc;subst hc;rw[uk h10];omega
  ·rw[IY h10]at hc
   rcases List.mem_append.1 hc with hc|hc
   ·exact Fe f (n/10) (by omega) c hc
   ·simp only[List.mem_singleton]at hc
    subst hc;rw[uk (Nat.mod_lt _ (by omega))];omega
theorem WJ(n:Nat):pad (decDigits n)≠[]:=by
 unfold pad;simp[WI]
theorem Ff(n:Nat):∀c∈pad (decDigits n),48≤c.toNat∧c.toNat≤57:=by
 intro c hc;unfold pad at hc;rcases List.mem_append.1 hc with hc|hc
 ·have:=List.eq_of_mem_replicate hc
  subst this;decide
 ·exact Fe (n+1) n (by omega) c hc
theorem WL{l:List UInt8}{n:Nat}(hne:l≠[])(hd:∀c∈l,48≤c.toNat∧c.toNat≤57)(hp:parseUint10 0 l= .ok n)(hn:n<10000000000000):atoiAll l= .ok n:=by
 cases l with
 |nil=>exact absurd rfl hne
 |cons c r=>
  have hc:=hd c (by simp);unfold atoiAll;simp only;rw[if_neg (by omega)];unfold parseMag;rw[if_neg (by simp),hp];simp only;rw[if_neg (by omega),if_neg (by omega),if_neg (by omega)]
theorem DC{n:Nat}(hn:n<10000000000000):atoiAll (pad (decDigits n))= .ok n:=
 WL (WJ n) (Ff n) (by unfold pad;rw[yT,KO hn]) hn
theorem xE(dir:List UInt8)(n:Nat):trimSuffix (trimPrefix (iF dir n) (dir++[47])) [46,108,111,103]=pad (decDigits n):=by
 have h1:trimPrefix (iF dir n) (dir++[47])=pad (decDigits n)++[46,108,111,103]:=by
  unfold trimPrefix iF hasPrefix;rw[List.append_assoc (dir++[47])];rw[if_pos (by simp)];simp
 rw[h1];unfold trimSuffix hasSuffix;rw[if_pos (by simp)];simp
end Sn
end
section
open Go.Lib Go.RowKit
set_option linter.unusedSimpArgs false
set_option linter.unusedVariables false
attribute [local go_sem] Oper.semAt_some
namespace Sn
def jG(w:World):Prop:=TabIs Tryz.prog w "internal/strconv.uint64pow10" .u64 pow10Tab
structure qA(w:World):Prop where
 tab:jG w
 syn:∃tp p,w.var? Tryz.prog "strconv.ErrSyntax" =some #[.iface tp p]
 rng:∃tp p,w.var? Tryz.prog "strconv.ErrRange" =some #[.iface tp p]
theorem var_below{w w':World}{n:String}{cs:Array Value}(hb:Below w.heap.size w w')(h:w.var? Tryz.prog n=some cs):w'.var? Tryz.prog n=some cs:=by
 unfold World.var? at h⊢;cases hg:Tryz.prog.globalNamed n with
 |none=>rw[hg]at h;cases h
 |some g=>
  rw[hg]at h;simp only[Option.bind_some]at h⊢;by_cases hl:g<w.heap.size
  ·rw[hb.block g hl];exact h
  ·rw[Array.getElem?_eq_none (by omega)]at h;cases h
theorem jG.below{w w':World}(h:jG w)(hb:Below w.heap.size w w'):jG w':=var_below hb h
theorem qA.below{w w':World}(h:qA w)(hb:Below w.heap.size w w'):qA w':=
 ⟨var_below hb h.tab,h.syn.imp fun tp ⟨p,e⟩=>⟨p,var_below hb e⟩,h.rng.imp fun tp ⟨p,e⟩=>⟨p,var_below hb e⟩⟩
theorem below_grow(w:World)(k:Nat)(os:Array Obj):Below w.heap.size w (Go.Sort.grow (w.drewN k) os):=
 ⟨rfl,rfl,rfl,by simp[Go.Sort.grow],fun i hi=>by simp[Go.Sort.grow,Array.getElem?_append_left hi]⟩
theorem IZ(w:World)(e:TypeId)(s:ByteArray):Below w.heap.size w (bytesWorld w e s):=
 ⟨rfl,rfl,rfl,by rw[bytesWorld_size];omega,fun j hj=>bytesWorld_at_old w e s j hj⟩
theorem uY{a b c:World}(h:Below a.heap.size a b)(k:Below b.heap.size b c):Below a.heap.size a c:=h.trans (k.mono h.size)
theorem Ry(n:Nat)(hn:n≤1099511627776)(w:World)(hv:jG w):
 Calls Tryz.prog 99 #[.int .i64 (n:Int)] w fun e w'=>∃S:ByteArray,e= .returned (.string S)∧S.data.toList=decDigits n∧Below w.heap.size w w':=by
 refine(Tryz.strconv_Itoa (n:Int) (by omega) (by omega) w hv).mono ?_;rintro e w' ⟨rfl,k,os,rfl⟩;exact⟨_,rfl,by simp[itoa_nonneg],below_grow w k os⟩
theorem I4:∀c,repeatL [48] c=List.replicate c 48
 |0=>rfl
 |c+1=>by rw[repeatL,I4 c];rfl
theorem oG{n:Nat}(hn:n≤1099511627776):(decDigits n).length≤21:=by
 have:=itoa_length_le (n:Int) (by omega) (by omega);rwa [itoa_nonneg]at this
theorem UB(c:Nat)(hc:c≤10)(w:World):
 Calls Tryz.prog 100 #[.string ⟨#[48]⟩, .int .i64 (c:Int)] w fun e w'=>∃R:ByteArray,e= .returned (.string R)∧R.data.toList=List.replicate c 48∧Below w.heap.size w w':=by
 refine(Tryz.strings_Repeat ⟨#[48]⟩ c w (by omega) (by show 1*c≤_;omega)).mono ?_;rintro e w' ⟨rfl,hb⟩;exact⟨_,rfl,by simp[I4],hb⟩
def nameB(dir:ByteArray)(n:Nat):ByteArray:=⟨(iF dir.data.toList n).toArray⟩
theorem Rz{dir S R:ByteArray}(n:Nat)(hS:S.data.toList=decDigits n)(hR:R.data.toList=List.replicate (10-S.size) 48):dir++⟨#[47]⟩++R++S++⟨#[46,108,111,103]⟩=nameB dir n:=by
 apply ByteArray.ext;apply Array.toList_inj.1;unfold nameB iF pad;have hz:S.size=(decDigits n).length:=by rw[size_eq,hS]
 simp[ByteArray.data_append,hS,hR,hz]
theorem name_any(dir:ByteArray)(n:Nat)(hn:n≤1099511627776)(hd:dir.size≤1000)(w:World)(hv:jG w):
 Calls Tryz.prog 64 #[.string dir, .int .i64 (n:Int)] w fun e w'=>e= .returned (.string (nameB dir n))∧Below w.heap.size w w':=by
 have HV:=hide hv;clear hv;go_enter Tryz.func64,Tryz.ntmps64
 go_wp2_with fail
 refine(Ry n hn _ HV.out).mono ?_;rintro e w1 ⟨S,rfl,hS,hb1⟩;have hsz:S.size≤21:=by rw[size_eq,hS];exact oG hn
 have abD:max (10-(S.size:Int)) 0=((10-S.size:Nat):Int):=by omega
 go_wp2_with fail
 clear abD;refine(UB (10-S.size) (by omega) _).mono ?_;rintro e w2 ⟨R,rfl,hR,hb2⟩;have HE:Hid (dir++⟨#[47]⟩++R++S++⟨#[46,108,111,103]⟩=nameB dir n):=Rz n hS hR;have hRs:R.size≤10:=by rw[size_eq,hR];simp
 clear hS hR;go_wp2_with fail
 go_ret
 exact⟨by rw[←HE.out];rfl,uY hb1 hb2⟩
theorem kC{P:Program}{o:Oper}{a:Act}{K:Act→World→Prop}{Q:Exit→Act→World→Prop}{w w':World}{s x:Operand}{t tx:TypeId}{v xv v':Value}
 (ho:o.op= .call {callee:= .builtin .append,args:= #[s,x],argTypes:= #[t,tx]})(hs:a.eval s=v)(hx:a.eval x=xv)(hr:(Builtin.append_ #[t,tx] o.type #[v,xv]).run P w= .ok v' w')(h:K (a.put o.dst v') w'):o.wp P a w K Q:=by
 unfold Oper.wp execOp;simp only[ho,resolve,invoke,builtin,Sem.run_bind,Sem.run_pure,Result.andThen_ok,List.map_toArray,List.map_cons,List.map_nil,hs,hx,hr];exact h
theorem DD{P:Program}{ops:Array Oper}{rest:List Oper}{o:Oper}{a:Act}{Q:Exit→Act→World→Prop}{w w':World}(hgd:o.guard=none){s x:Operand}{t tx:TypeId}{v xv v':Value}
 (ho:o.op= .call {callee:= .builtin .append,args:= #[s,x],argTypes:= #[t,tx]})(hs:a.eval s=v)(hx:a.eval x=xv)(hr:(Builtin.append_ #[t,tx] o.type #[v,xv]).run P w= .ok v' w')(h:wpList P ops Q rest (a.put o.dst v') w'):wpList P ops Q (o::rest) a w:=
 wpList_plain hgd fun _ hK=>kC ho hs hx hr (hK _ _ h)
end Sn
end
section
open Go.Lib Go.RowKit
set_option linter.unusedSimpArgs false
set_option linter.unusedVariables false
attribute [local go_sem] Oper.semAt_some
set_option maxRecDepth 100000
namespace Sn
theorem RD{d:List UInt8}{n m:Nat}(hn:n≤1099511627776)(hm:m≤1099511627776)(h:iF d n=iF d m):n=m:=by
 have h1:=xE d n;rw[h,xE d m]at h1;have a:=DC (n:=n) (by omega);have b:=DC (n:=m) (by omega);rw[h1]at b;rw[a]at b;have:(n:Int)=m:=by simpa using b
 omega
open Classical in
noncomputable def baseS(d l:List UInt8):Int:=if h:∃n:Nat,n≤1099511627776∧l=iF d n then(h.choose:Int)else-1
def I5(d l:List UInt8):List UInt8:=trimSuffix (trimPrefix l (d++[47])) [46,108,111,103]
theorem Fg(d l:List UInt8):(I5 d l).length≤l.length:=by
 unfold I5 trimSuffix trimPrefix;repeat' split
 all_goals simp
 all_goals omega
theorem rq(z:Int)(w:World):
 Calls Tryz.prog 68 #[.int .i64 z] w fun e w'=>e= .returned (.bool (decide (0≤z∧z≤1099511627776)))∧w'=w:=by
 by_cases h:0≤z∧z≤1099511627776
 ·have HD:Hid (decide (0≤z∧z≤1099511627776)=true):=decide_eq_true h
  obtain⟨h1,h2⟩:=h;go_enter Tryz.func68,Tryz.ntmps68
  go_wp2
  go_ret
  exact⟨lh HD.out.symm,rfl⟩
 ·have HD:Hid (decide (0≤z∧z≤1099511627776)=false):=decide_eq_false h
  by_cases h1:0≤z
  ·have h2:¬z≤1099511627776:=fun e=>h ⟨h1,e⟩
   clear h;go_enter Tryz.func68,Tryz.ntmps68
   go_wp2
   go_ret
   exact⟨lh (by rw[eq_comm,Bool.eq_false_iff];simp;omega),rfl⟩
  ·clear h
   go_enter Tryz.func68,Tryz.ntmps68
   go_wp2
   go_ret
   exact⟨lh (by rw[eq_comm,Bool.eq_false_iff];simp;omega),rfl⟩
theorem NI(name dir:ByteArray)(w:World):
 Calls Tryz.prog 66 #[.string name, .string (dir++(⟨#[47]⟩:ByteArray))] w fun e w'=>∃P:ByteArray,e= .returned (.string P)∧P.data.toList=trimPrefix name.data.toList (dir.data.toList++[47])∧w=w':=by
 have h:=Tryz.strings_TrimPrefix name (dir++(⟨#[47]⟩:ByteArray)) w;refine h.mono ?_;rintro e w' ⟨rfl,rfl⟩;exact⟨⟨(trimPrefix name.data.toList (dir++(⟨#[47]⟩:ByteArray)).data.toList).toArray⟩,rfl,by rw[ByteArray.data_append];simp,rfl⟩
theorem NJ(P:ByteArray)(w:World)(hP:P.size≤1000):
 Calls Tryz.prog 65 #[.string P, .string ⟨#[46,108,111,103]⟩] w fun e w'=>∃R:ByteArray,e= .returned (.string R)∧R.data.toList=trimSuffix P.data.toList [46,108,111,103]∧w=w':=by
 have h9:P.size≤9223372036854775807:=Nat.le_trans hP (by decide);have h:=Tryz.strings_TrimSuffix P ⟨#[46,108,111,103]⟩ w h9;refine h.mono ?_;rintro e w' ⟨rfl,rfl⟩;exact⟨⟨(trimSuffix P.data.toList [46,108,111,103]).toArray⟩,rfl,rfl,rfl⟩
theorem NK(l p:List UInt8):(trimPrefix l p).length≤l.length:=by
 unfold trimPrefix;split<;>simp
theorem KP{w w':World}{e:TypeId}(h:w'=w∨∃t,w'=bytesWorld w e t):Below w.heap.size w w':=by
 rcases h with rfl|⟨t,rfl⟩
 ·exact Below.refl _ _
 ·exact IZ _ _ _
theorem I7{l:List UInt8}{v:Int}(h:atoiAll l= .ok v): -9223372036854775808≤v∧v≤9223372036854775807:=by
 rw[←parseIntB_64]at h;have:=parseIntB_bounds h;omega
theorem I8(R:ByteArray)(hR:R.size≤1000)(w:World)(hv:qA w):
 Calls Tryz.prog 67 #[.string R] w fun e w'=>(∃v er,e= .returned (.tuple #[.int .i64 v,er])∧((er= .nilIface∧atoiAll R.data.toList= .ok v)∨((∀u,atoiAll R.data.toList≠ .ok u)∧∃N,er= .iface 205 (.pointer (some ⟨N,0,none⟩)))))∧Below w.heap.size w w':=by
 obtain⟨tp,p,h1⟩:=hv.syn;obtain⟨tq,q,h2⟩:=hv.rng;cases hA:atoiAll R.data.toList with
 |ok v=>
  refine(Tryz.strconv_Atoi_ok R (by omega) v hA w).mono ?_;rintro e w' ⟨rfl,h⟩;exact⟨⟨_,_,rfl, .inl ⟨rfl,rfl⟩⟩,KP h⟩
 |«syntax»=>
  refine(Tryz.strconv_Atoi_syntax_var R (by omega) hA tp p w h1).mono ?_;rintro e w' ⟨N,rfl,_,_,hb⟩;exact⟨⟨_,_,rfl, .inr ⟨fun u e=>(by cases e),N,rfl⟩⟩,hb⟩
 |range=>
  refine(Tryz.strconv_Atoi_range_var R (by omega) hA tq q w h2).mono ?_;rintro e w' ⟨N,rfl,_,_,hb⟩;exact⟨⟨_,_,rfl, .inr ⟨fun u e=>(by cases e),N,rfl⟩⟩,hb⟩
theorem UC{dir name:ByteArray}(h:¬ ∃n:Nat,n≤1099511627776∧name.data.toList=iF dir.data.toList n){n:Nat}(hn:n≤1099511627776):((nameB dir n).toList==name.toList)=false:=by
 rw[beq_eq_false_iff_ne];intro e;refine h ⟨n,hn,?_⟩;rw[toList_data,toList_data]at e;rw[←e];simp[nameB]
theorem UD{dir name:ByteArray}{n:Nat}(h:name.data.toList=iF dir.data.toList n):((nameB dir n).toList==name.toList)=true:=by
 rw[beq_iff_eq,toList_data,toList_data,h];simp[nameB]
theorem UE(dir name:ByteArray)(hd:dir.size≤1000)(hl:name.size≤1000)(w:World)(hv:qA w)(hno:¬ ∃n:Nat,n≤1099511627776∧name.data.toList=iF dir.data.toList n):
 Calls Tryz.prog 37 #[.string dir, .string name] w fun e w'=>e= .returned (.int .i64 (-1))∧Below w.heap.size w w':=by
 have HV:=hide hv;have HN:=hide hno;clear hv hno;go_enter Tryz.func37,Tryz.ntmps37
 go_wp2_with fail
 refine(NI name dir _).mono ?_;rintro e w' ⟨P,rfl,hP,rfl⟩;have YT:P.size≤1000:=by rw[size_eq,hP];have:=NK name.data.toList (dir.data.toList++[47]);rw[size_eq]at hl;omega
 go_wp2_with fail
 refine(NJ P _ YT).mono ?_;rintro e w' ⟨R,rfl,hR,rfl⟩;rw[hP]at hR;have hRl:R.data.toList=I5 dir.data.toList name.data.toList:=hR;have hRs:R.size≤1000:=by rw[size_eq,hRl];have:=Fg dir.data.toList name.data.toList;rw[size_eq]at hl;omega
 clear hP hR hRl;go_wp2_with fail
 refine(I8 R hRs _ HV.out).mono ?_;rintro e w1 ⟨⟨v,er,rfl,hor⟩,hb1⟩;have HB1:=hide hb1;clear hb1;rcases hor with⟨rfl,hat⟩|⟨hat,N,rfl⟩
 ·have aom:=I7 hat
  clear hat;obtain⟨v1,v2⟩:=aom;by_cases h:0≤v∧v≤1099511627776
  ·have hdc:decide (0≤v∧v≤1099511627776)=true:=by simp[h]
   go_wp2_with (go_at_call 68;refine(rq _ _).mono ?_;rintro e w' ⟨rfl,rfl⟩)
   obtain⟨n,rfl⟩:=Int.eq_ofNat_of_zero_le h.1;refine(name_any dir n (by omega) hd _ (HV.out.below HB1.out).tab).mono ?_;rintro e w2 ⟨rfl,hb2⟩;have hne:=UC HN.out (show n≤1099511627776 by omega);go_wp2_with fail
   go_ret
   exact⟨rfl,uY HB1.out hb2⟩
  ·have hdc:decide (0≤v∧v≤1099511627776)=false:=by simp[h]
   go_wp2_with (go_at_call 68;refine(rq _ _).mono ?_;rintro e w' ⟨rfl,rfl⟩)
   go_ret
   exact⟨rfl,HB1.out⟩
 ·clear hat
  go_wp2
  go_ret
  exact⟨rfl,HB1.out⟩
theorem RF(dir name:ByteArray)(hd:dir.size≤1000)(hl:name.size≤1000)(w:World)(hv:qA w)(n:Nat)(hn:n≤1099511627776)(hna:name.data.toList=iF dir.data.toList n):
 Calls Tryz.prog 37 #[.string dir, .string name] w fun e w'=>e= .returned (.int .i64 n)∧Below w.heap.size w w':=by
 have HV:=hide hv;have HN:=hide hna;clear hv hna;go_enter Tryz.func37,Tryz.ntmps37
 go_wp2_with fail
 refine(NI name dir _).mono ?_;rintro e w' ⟨P,rfl,hP,rfl⟩;have YT:P.size≤1000:=by rw[size_eq,hP];have:=NK name.data.toList (dir.data.toList++[47]);rw[size_eq]at hl;omega
 go_wp2_with fail
 refine(NJ P _ YT).mono ?_;rintro e w' ⟨R,rfl,hR,rfl⟩;rw[hP]at hR;have hRl:R.data.toList=I5 dir.data.toList name.data.toList:=hR;have hRs:R.size≤1000:=by rw[size_eq,hRl];have:=Fg dir.data.toList name.data.toList;rw[size_eq]at hl;omega
 rw[HN.out]at hR;rw[xE]at hR;have hat:atoiAll R.data.toList= .ok (n:Int):=by rw[hR];exact DC (by omega)
 have HA:=hide hat;clear hP hR hRl hat;go_wp2_with fail
 refine(I8 R hRs _ HV.out).mono ?_;rintro e w1 ⟨⟨v,er,rfl,hor⟩,hb1⟩;have HB1:=hide hb1;clear hb1;rcases hor with⟨rfl,hat⟩|⟨hat,N,rfl⟩
 ·obtain rfl:v=(n:Int):=by rw[HA.out]at hat;simpa using hat.symm
  clear hat;have hdc:decide (0≤(n:Int)∧(n:Int)≤1099511627776)=true:=decide_eq_true ⟨by omega,by omega⟩;go_wp2_with (go_at_call 68;refine(rq _ _).mono ?_;rintro e w' ⟨rfl,rfl⟩)
  refine(name_any dir n (by omega) hd _ (HV.out.below HB1.out).tab).mono ?_;rintro e w2 ⟨rfl,hb2⟩;have hne:=UD HN.out;go_wp2_with fail
  go_ret
  exact⟨rfl,uY HB1.out hb2⟩
 ·exact absurd HA.out (hat _)
end Sn
end
section
open Go.RowKit Go.Maps
set_option linter.unusedSimpArgs false
namespace Dk
section
variable {w w':World} {base d:Nat} {F:List Nat} {A A':DA} {aI:Option Nat} {ms:List aF}
set_option maxRecDepth 100000 in
theorem clone_any(w:World)(v:Value)(bs:List UInt8)(hx:SliceAt w v (bs.map ah))(hbs:bs.length≤1099511627776):
 Calls Tryz.prog 151 #[v] w fun e w'=>∃v',e= .returned v'∧bZ w' 5 w.heap.size v' bs∧Turn [] w w':=by
 obtain⟨i0,hi,hz,hz1,hz2⟩:=info_parts Tryz.Nv;have hq:∀(w:World) (a:Option Addr) (n c:Nat),(binOp .eql 39 (.slice a n c) (.slice none 0 0)).run Tryz.prog w= .ok (.bool a.isNone) w:=fun w a n c=>Go.Lib.run_eql_slice_nil w _ _ a n c 0 0 Tryz.underlying39
 rcases hx with⟨rfl,hb⟩|⟨a,c,rfl,hc⟩
 ·have hb':bs=[]:=by simpa using hb
  subst hb';go_enter Tryz.func151,Tryz.ntmps151
  go_wp2
  go_ret
  exact⟨_,rfl, .inl ⟨rfl,rfl⟩,Turn.refl _ _⟩
 ·simp only[List.length_map]
  have HX:Hid (SliceAt w (.slice (some a) bs.length c) (bs.map ah)):= .inr ⟨a,c,by simp,hc⟩;clear hc;go_enter Tryz.func151,Tryz.ntmps151
  go_wp2_with (at_builtin;go_must (refine jc _ rfl _ _ 39 rfl 5 w.heap.size i0 Tryz.underlying39 hi hz hz1 hz2 (.slice (some ⟨w.heap.size,0,none⟩) 0 0) (.slice (some a) bs.length c) [] bs rfl rfl (.inr ⟨w.heap.size,0, #[],rfl,Nat.le_refl _,ai w _,by simp,by simp,by simp,by simp⟩) (HX.out.kept ((Turn.refl [] w).alloc _) (by simp)) (by simp;omega) (by simp) ?_;intro v3 w3 aaE ht4 hown3;rw[List.nil_append]at aaE))
  go_ret
  exact⟨_,rfl,aaE,((Turn.refl [] w).alloc (.cells #[] 5)).trans ht4 (by simp[Value.ownBlock])⟩
def sU(bs:List UInt8)(off most:Int):List UInt8:=if off<0∨(bs.length:Int)≤off∨most≤0 then []else(bs.drop off.toNat).take most.toNat
def DA.bytesOf(A:DA)(nm:List UInt8):List UInt8:=match A.files.find? (fun f=>f.name==nm)with
 |some f=>f.bytes
 |none=>[]
theorem bZ.zero{w:World}{e base:Nat}:bZ w e base (.slice none 0 0) []:= .inl ⟨rfl,rfl⟩
set_option maxRecDepth 100000 in
theorem OY(h:Parts w base d F A aI ms)(s:ByteArray)(hs:s.size≤maxLen)(off most:Int)(m:aF)(hn:bW ms s.data.toList=some m)(hm: -9223372036854775808≤most∧most≤9223372036854775807):
 Calls Tryz.prog 108 #[.pointer (some ⟨d,0,none⟩), .string s, .int .i64 off, .int .i64 most] w fun e w'=>∃v,e= .returned v∧bZ w' 5 w.heap.size v (sU m.abs.bytes off most)∧Turn [] w w':=by
 have c1:=h.c1;have aaF:=h.map.look hs;rw[hn]at aaF;simp only[uI]at aaF;have hfa:=h.each m (qo hn).1;obtain⟨sa,sc,hsl,adq,adO⟩:=hfa.2.form;have cf:w.cell? ⟨m.blk,0,none⟩=some (.slice sa m.abs.bytes.length sc):=by rw[cell_of hfa.1,hsl];rfl
 have aah:m.abs.bytes.length≤1048576:=by
  have h1:=h.good.used;have h2:=h.good.room;rw[h.files]at h1;obtain⟨pre,post,e,_⟩:=qp hn;rw[e,List.map_append,List.map_cons,iD]at h1;omega
 by_cases hz:off<0∨(m.abs.bytes.length:Int)≤off∨most≤0
 ·have HE:Hid (sU m.abs.bytes off most=[]):=by show _=_;simp[sU,hz]
  have HF:Hid (off<0∨(m.abs.bytes.length:Int)≤off∨most≤0):=hz;clear hn h hfa hsl hz;by_cases h1:off<0
  ·go_enter Tryz.func108,Tryz.ntmps108
   go_wp2
   go_ret
   exact⟨_,rfl,by rw[HE.out];exact bZ.zero,Turn.refl _ _⟩
  ·by_cases h2:(m.abs.bytes.length:Int)≤off
   ·go_enter Tryz.func108,Tryz.ntmps108
    go_wp2
    go_ret
    exact⟨_,rfl,by rw[HE.out];exact bZ.zero,Turn.refl _ _⟩
   ·have h3:most≤0:=by have:=HF.out;omega
    go_enter Tryz.func108,Tryz.ntmps108
    go_wp2
    go_ret
    exact⟨_,rfl,by rw[HE.out];exact bZ.zero,Turn.refl _ _⟩
 ·have HE:Hid (sU m.abs.bytes off most=(m.abs.bytes.drop off.toNat).take most.toNat):=by show _=_;simp only[sU,hz,if_false]
  have h1:¬off<0:=by omega
  have h2:¬(m.abs.bytes.length:Int)≤off:=by omega
  have h3:¬most≤0:=by omega
  obtain⟨n,rfl⟩:=Int.eq_ofNat_of_zero_le (show 0≤off by omega);obtain⟨k,rfl⟩:=Int.eq_ofNat_of_zero_le (show 0≤most by omega);have hR:=hfa.2;rcases hR with⟨_,hb0⟩|⟨g,cap,cur,akB,hbg,hg,hc1,hc2,hc3,htk⟩
  ·rw[hb0]at h2;simp at h2
  clear cf adq adO;have cf:w.cell? ⟨m.blk,0,none⟩=some (.slice (some ⟨g,0,none⟩) m.abs.bytes.length cap):=by rw[cell_of hfa.1,akB];rfl
  have hn1:n<m.abs.bytes.length:=by omega
  have hk1:0<k:=by omega
  have hs1:∀w,(Instr.slice 39 (.slice (some ⟨g,0,none⟩) m.abs.bytes.length cap) (some (.int .i64 (n:Int))) none none).run Tryz.prog w= .ok (.slice (some ⟨g,n,none⟩) (m.abs.bytes.length-n) (cap-n)) w:=by
   intro w;have hsz:(sizeOf 5).run Tryz.prog w= .ok 1 w:=by kernel_rfl
   have hne:¬cap=n:=by omega
   simp[Instr.slice,run_underlying Tryz.underlying39,Instr.sliceBounds,run_sliceBound,hsz,Result.andThen,(by omega:n≤m.abs.bytes.length),hne,addr_add]
  have hs2:∀(j:Nat) w,j≤cap-n→(Instr.slice 39 (.slice (some ⟨g,n,none⟩) (m.abs.bytes.length-n) (cap-n)) none (some (.int .i64 (j:Int))) none).run Tryz.prog w= .ok (.slice (some ⟨g,n,none⟩) j (cap-n)) w:=by
   intro j w hj;have hsz:(sizeOf 5).run Tryz.prog w= .ok 1 w:=by kernel_rfl
   simp[Instr.slice,run_underlying Tryz.underlying39,Instr.sliceBounds,run_sliceBound,hsz,Result.andThen,hj,Addr.add]
  have HE2:Hid (∀j:Nat,j≤m.abs.bytes.length-n→SliceAt w (.slice (some ⟨g,n,none⟩) j (cap-n)) (((m.abs.bytes.drop n).take j).map ah)):=by
   intro j hj;refine .inr ⟨⟨g,n,none⟩,cap-n,by simp;omega,fun i u hu=>?_⟩;have ha:(⟨g,n,none⟩:Addr).add i=⟨g,n+i,none⟩:=by unfold Addr.add;split<;>simp_all
   rw[ha,cell_of hg];have hi:i<j:=by
    have:=(List.getElem?_eq_some_iff.1 hu).1;simp at this;omega
   have hq:(m.abs.bytes.map ah)[n+i]? =some u:=by
    rw[List.map_take,List.map_drop,List.getElem?_take_of_lt hi,List.getElem?_drop]at hu;exact hu
   rw[←htk,List.getElem?_take_of_lt (by omega)]at hq;simpa using hq
  clear hn h hfa hsl hz akB hg htk h1 h3;have hwr:IntKind.i64.wrap ((m.abs.bytes.length:Int)-(n:Int))=(m.abs.bytes.length:Int)-(n:Int):=by
   rw[IntWalk.i64_left,IntWalk.wrap64_in _ (by omega)]
  by_cases hkk:(k:Int)≤m.abs.bytes.length-n
  ·have hj:=fun w=>hs2 k w (by omega)
   have ahw:∀ts t w,(Builtin.min_ ts t #[.int .i64 (k:Int), .int .i64 ((m.abs.bytes.length:Int)-(n:Int))]).run Tryz.prog w= .ok (.int .i64 (k:Int)) w:=by
    intro ts t w;have:¬((m.abs.bytes.length:Int)-(n:Int)<(k:Int)):=by omega
    simp[Builtin.min_,Builtin.min2,this]
   have hcl:=fun W (hW:Turn [] w W)=>clone_any W (.slice (some ⟨g,n,none⟩) k (cap-n)) ((m.abs.bytes.drop n).take k) ((HE2.out k (by omega)).kept hW (by simp)) (by simp;omega)
   have HC:Hid (∀W,Turn [] w W→Calls Tryz.prog 151 #[.slice (some ⟨g,n,none⟩) k (cap-n)] W fun e w'=>∃v',e= .returned v'∧bZ w' 5 W.heap.size v' ((m.abs.bytes.drop n).take k)∧Turn [] W w'):=hcl;clear hs2 hcl;go_enter Tryz.func108,Tryz.ntmps108
   go_wp2
   go_region_with (go_at_call 151;refine(HC.out _ (by repeat (first|exact Turn.refl _ _|refine Turn.drew ?_))).mono ?_;rintro e w2 ⟨v,rfl,Pe,ht2⟩)
   all_goals
    go_wp2
    go_ret
    exact⟨v,rfl,by rw[HE.out];simpa using Pe,((Turn.refl [] w).drew).same ht2⟩
  ·have hj:=fun w=>hs2 (m.abs.bytes.length-n) w (by omega)
   rw[show((m.abs.bytes.length-n:Nat):Int)=(m.abs.bytes.length:Int)-(n:Int)by omega]at hj;have ahw:∀ts t w,(Builtin.min_ ts t #[.int .i64 (k:Int), .int .i64 ((m.abs.bytes.length:Int)-(n:Int))]).run Tryz.prog w= .ok (.int .i64 ((m.abs.bytes.length:Int)-(n:Int))) w:=by
    intro ts t w;have:((m.abs.bytes.length:Int)-(n:Int)<(k:Int)):=by omega
    simp[Builtin.min_,Builtin.min2,this]
   have hcl:=fun W (hW:Turn [] w W)=>clone_any W (.slice (some ⟨g,n,none⟩) (m.abs.bytes.length-n) (cap-n)) ((m.abs.bytes.drop n).take (m.abs.bytes.length-n)) ((HE2.out (m.abs.bytes.length-n) (by omega)).kept hW (by simp)) (by simp;omega)
   have HC:Hid (∀W,Turn [] w W→Calls Tryz.prog 151 #[.slice (some ⟨g,n,none⟩) (m.abs.bytes.length-n) (cap-n)] W fun e w'=>∃v',e= .returned v'∧bZ w' 5 W.heap.size v' ((m.abs.bytes.drop n).take (m.abs.bytes.length-n))∧Turn [] W w'):=hcl;have HT:Hid ((m.abs.bytes.drop n).take k=(m.abs.bytes.drop n).take (m.abs.bytes.length-n)):=by
    show _=_;rw[List.take_of_length_le (by simp;omega),List.take_of_length_le (by simp)]
   clear hs2 hcl;go_enter Tryz.func108,Tryz.ntmps108
   go_wp2
   go_region_with (go_at_call 151;refine(HC.out _ (by repeat (first|exact Turn.refl _ _|refine Turn.drew ?_))).mono ?_;rintro e w2 ⟨v,rfl,Pe,ht2⟩)
   all_goals
    go_wp2
    go_ret
    refine⟨v,rfl,?_,((Turn.refl [] w).drew).same ht2⟩;rw[HE.out];simp only[Int.toNat_natCast];rw[HT.out];exact Pe
end
end Dk
end
section
open Go.RowKit Go.Maps
set_option maxRecDepth 100000
set_option linter.unusedSimpArgs false
set_option linter.unusedVariables false
attribute [local go_sem] Oper.semAt_some
open Dk (DA aj Parts dA aC bQ)
namespace Sg
theorem jA{w:World}{base d:Nat}{F:List Nat}{A:DA}(h:aj w base d F A):base≤w.heap.size:=by
 obtain⟨aI,ms,h⟩:=h;have h1:=h.low d h.iT;have h2:=h.lt d h.iT;omega
theorem ja{dir:ByteArray}{n:Nat}(hn:n≤1099511627776)(hd:dir.size≤1000):(Sn.nameB dir n).size≤maxLen:=by
 have:=Sn.oG hn;have hm:maxLen=9223372036854775807:=by simp[maxLen]
 rw[hm];rw[Lib.size_eq]at hd⊢;simp[Sn.nameB,Sn.iF,Sn.pad];simp at hd;omega
theorem uZ(n:Nat)(hn:n≤1099511627776)(w:World):Calls Tryz.prog 68 #[.int .i64 n] w fun e w'=>e= .returned (.bool true)∧w=w':=by
 refine(Sn.rq n w).mono ?_;rintro e w' ⟨rfl,rfl⟩;exact⟨by rw[decide_eq_true (p:=0≤(n:Int)∧(n:Int)≤1099511627776) ⟨by omega,by omega⟩],rfl⟩
def dK(w w':World)(base d:Nat)(F:List Nat)(A':DA)(sb:Nat)(file:ByteArray)(b0:Int):Prop:=
 ∃F',Both w' base d F' A' sb (.slice none 0 0) file b0 []∧Turn F w w'∧(∀k∈F',k∈F∨w.heap.size≤k)∧w.heap.size≤sb
theorem empty_any(w:World)(base d:Nat)(F:List Nat)(A:DA)(h:aj w base d F A)(file:ByteArray)(hf:file.size≤maxLen)(b0:Int):
 Calls Tryz.prog 71 #[.pointer (some ⟨d,0,none⟩), .string file, .int .i64 b0] w fun e w'=>
  ((A.make file).1≠0∧e= .returned (.tuple #[.pointer none,aC (A.make file).1])∧dA w w' base d F (A.make file).2)∨
  ((A.make file).1=0∧∃sb,e= .returned (.tuple #[.pointer (some ⟨sb,0,none⟩), .nilIface])∧dK w w' base d F (A.make file).2 sb file b0):=by
 have H:=hide h;have HB:=hide (jA h);obtain⟨aI,ms,hp⟩:=h;go_enter Tryz.func71,Tryz.ntmps71
 go_wp2_with fail
 refine(Dk.wH hp file hf).mono ?_;rintro e w1 ⟨rfl,hd1⟩;obtain⟨c,hc⟩:∃c,c=(A.make file).1:=⟨_,rfl⟩;have HC:=hide hc;have HD:=hide hd1;rw[←hc];clear hc hd1 hp;by_cases h0:c=0
 ·have hr:aC c= .nilIface:=by rw[h0];rfl
  rw[hr];have H0:=hide h0;clear hr h0;go_wp2
  go_ret2
  obtain⟨F',hd,ht,hf'⟩:=HD.out;have ht2:Turn [] w1 (w1.alloc (.cells #[.pointer (some ⟨d,0,none⟩), .string file, .int .i64 b0, .slice none 0 0] 87)):=(Turn.refl [] w1).alloc _;refine .inr ⟨HC.out.symm.trans H0.out,_,rfl,F',⟨hd.kept ht2 (by simp),⟨ai w1 _, .inl ⟨rfl,rfl⟩,Nat.le_trans HB.out ht.size⟩,fun k hk hm=>?_⟩,ht.trans ht2 (by simp),hf',ht.size⟩;simp[aA,Value.ownBlock]at hk;have:=hd.lt k hm;omega
 ·have hr:aC c= .iface 45 (.int .i64 c):=by unfold aC;rw[if_neg h0];rfl
  rw[hr];have HR:=hide hr;have H0:=hide h0;clear hr h0;go_wp2
  go_ret2
  refine .inl ⟨fun e=>H0.out (HC.out.trans e),?_,HD.out⟩;rw[←HC.out,HR.out];rfl
theorem wH(w:World)(base d:Nat)(F:List Nat)(A:DA)(h:aj w base d F A)(dir:ByteArray)(hd:dir.size≤1000)(n:Nat)(hn:n≤1099511627776)(hv:Sn.jG w):
 Calls Tryz.prog 41 #[.pointer (some ⟨d,0,none⟩), .string dir, .int .i64 n] w fun e w'=>
  ((A.make (Sn.nameB dir n)).1≠0∧e= .returned (.tuple #[.pointer none,aC (A.make (Sn.nameB dir n)).1])∧dA w w' base d F (A.make (Sn.nameB dir n)).2)∨
  ((A.make (Sn.nameB dir n)).1=0∧∃sb,e= .returned (.tuple #[.pointer (some ⟨sb,0,none⟩), .nilIface])∧dK w w' base d F (A.make (Sn.nameB dir n)).2 sb (Sn.nameB dir n) n):=by
 have H:=hide h;have HV:=hide hv;clear h hv;go_enter Tryz.func41,Tryz.ntmps41
 go_wp2_with (go_at_call 68;refine(uZ n hn _).mono ?_;rintro e w' ⟨rfl,rfl⟩)
 refine(Sn.name_any dir n hn hd _ HV.out).mono ?_;rintro e w1 ⟨rfl,hb1⟩;have ht1:Turn [] _ w1:=Turn.of_below hb1 [];have HT1:=hide ht1;clear hb1 ht1;obtain⟨file,jE⟩:∃f,f=Sn.nameB dir n:=⟨_,rfl⟩;have RG:=hide jE;rw[←jE];clear jE;go_wp2_with fail
 refine(empty_any w1 base d F A (H.out.kept HT1.out (by simp)) file (by rw[RG.out];exact ja hn hd) n).mono ?_;rintro e w2 (⟨h1,rfl,YU⟩|⟨h1,sb,rfl,hfr⟩)
 ·have HD:=hide YU
  have H1:=hide h1;clear YU h1;go_wp2
  go_ret2
  rw[←RG.out];obtain⟨F',hd2,ht2,hf2⟩:=HD.out;exact .inl ⟨H1.out,rfl,F',hd2,(HT1.out.mono (by simp)).same ht2,fun k hk=>(hf2 k hk).imp_right (Nat.le_trans HT1.out.size)⟩
 ·have HD:=hide hfr
  have H1:=hide h1;clear hfr h1;go_wp2
  go_ret2
  rw[←RG.out];obtain⟨F',hb,ht2,hf2,hs⟩:=HD.out;exact .inr ⟨H1.out,sb,rfl,F',hb,(HT1.out.mono (by simp)).same ht2,fun k hk=>(hf2 k hk).imp_right (Nat.le_trans HT1.out.size),Nat.le_trans HT1.out.size hs⟩
theorem yU{A:DA}{nm:List UInt8}{f:Dk.FA}(h:A.file nm=some f):A.sizeOf nm=f.bytes.length:=by unfold DA.sizeOf;rw[h]
theorem I9{A:DA}{nm:List UInt8}(h:A.file nm=none):A.sizeOf nm= -1:=by unfold DA.sizeOf;rw[h]
theorem OZ(bs:List UInt8):Dk.sU bs 0 bs.length=bs:=by
 unfold Dk.sU;by_cases h:bs.length=0
 ·rw[if_pos (.inr (.inl (by omega)))];exact(List.eq_nil_of_length_eq_zero h).symm
 ·rw[if_neg (by omega)];simp
theorem Fh{w:World}{base d:Nat}{F:List Nat}{A:DA}(h:aj w base d F A)(s:ByteArray)(hs:s.size≤maxLen){f:Dk.FA}(hf:A.file s.data.toList=some f)(off most:Int)(hm: -9223372036854775808≤most∧most≤9223372036854775807):
 Calls Tryz.prog 108 #[.pointer (some ⟨d,0,none⟩), .string s, .int .i64 off, .int .i64 most] w fun e w'=>∃v,e= .returned v∧bZ w' 5 w.heap.size v (Dk.sU f.bytes off most)∧Turn [] w w':=by
 obtain⟨aI,ms,hp⟩:=h;have e:=Dk.uj hp s.data.toList;rw[hf]at e;obtain⟨m,hm1,hm2⟩:=Option.map_eq_some_iff.1 e.symm;have:=Dk.OY hp s hs off most m hm1 hm;rw[hm2]at this;exact this
theorem oH{w:World}{base d:Nat}{F:List Nat}{A:DA}(h:aj w base d F A)(s:ByteArray)(hs:s.size≤maxLen):
 Calls Tryz.prog 106 #[.pointer (some ⟨d,0,none⟩), .string s] w fun e w'=>e= .returned (.int .i64 (A.sizeOf s.data.toList))∧w=w':=by
 obtain⟨aI,ms,hp⟩:=h;exact Dk.size_any hp s hs
theorem RH:∀{l:List Nat} {x:Nat},x∈l→x≤l.sum
 |a::r,x,h=>by
  rcases List.mem_cons.1 h with rfl|h
  ·simp
  ·have:=RH h;simp;omega
theorem oO{w:World}{base d:Nat}{F:List Nat}{A:DA}(h:aj w base d F A){nm:List UInt8}{f:Dk.FA}(hf:A.file nm=some f):f.bytes.length≤1048576:=by
 have hg:=h.good;have hm:f∈A.files:=List.mem_of_find?_eq_some hf;have h1:f.bytes.length≤Dk.aH A.files:=by
  unfold Dk.aH;exact RH (List.mem_map_of_mem (f:=fun f:Dk.FA=>f.bytes.length) hm)
 have:=hg.used;have:=hg.room;omega
theorem O0(w:World)(base d:Nat)(F:List Nat)(A:DA)(h:aj w base d F A)(dir:ByteArray)(hd:dir.size≤1000)(n:Nat)(hn:n≤1099511627776)(hv:Sn.jG w)(hf:A.file (Sn.nameB dir n).data.toList=none):
 Calls Tryz.prog 70 #[.pointer (some ⟨d,0,none⟩), .string dir, .int .i64 n] w fun e w'=>e= .returned (.tuple #[.pointer none, .int .i64 0,bQ 7])∧Turn [] w w':=by
 have H:=hide h;have HV:=hide hv;have HF:=hide hf;clear h hv hf;go_enter Tryz.func70,Tryz.ntmps70
 go_wp2_with fail
 refine(Sn.name_any dir n hn hd _ HV.out).mono ?_;rintro e w1 ⟨rfl,hb1⟩;have HT1:=hide (Turn.of_below hb1 []);clear hb1;go_wp2_with fail
 refine(oH (H.out.kept HT1.out (by simp)) _ (ja hn hd)).mono ?_;rintro e w' ⟨rfl,rfl⟩;rw[I9 HF.out];go_wp2_with (go_at_call 68;refine(uZ n hn _).mono ?_;rintro e w' ⟨rfl,rfl⟩)
 refine bodyPost_ret (v:= .tuple #[.pointer none, .int .i64 0,bQ 7]) (by simp[results,Tryz.results70,bQ]) rfl ⟨rfl,HT1.out⟩
def Opened(w w':World)(base d:Nat)(F:List Nat)(A:DA)(file:ByteArray)(b0:Int)(f:Dk.FA)(xs:List Bt.aB)(e:Ending):Prop:=
 (f.bytes.length=(flat xs).length∧∃sb sv,e= .returned (.tuple #[.pointer (some ⟨sb,0,none⟩), .int .i64 0, .nilIface])∧Both w' base d F A sb sv file b0 (dV 0 (-1) xs)∧Turn [] w w'∧∀k∈aA sb sv,w.heap.size≤k)∨
 ((flat xs).length<f.bytes.length∧(A.cut file.data.toList (flat xs).length).1≠0∧e= .returned (.tuple #[.pointer none, .int .i64 0,aC (A.cut file.data.toList (flat xs).length).1])∧dA w w' base d F (A.cut file.data.toList (flat xs).length).2)∨
 ((flat xs).length<f.bytes.length∧(A.cut file.data.toList (flat xs).length).1=0∧∃F' sb sv,e= .returned (.tuple #[.pointer (some ⟨sb,0,none⟩), .int .i64 ((f.bytes.length-(flat xs).length:Nat):Int), .nilIface])∧
   Both w' base d F' (A.cut file.data.toList (flat xs).length).2 sb sv file b0 (dV 0 (-1) xs)∧Turn F w w'∧(∀k∈F',k∈F∨w.heap.size≤k)∧∀k∈aA sb sv,w.heap.size≤k)
theorem O1(w:World)(base d:Nat)(F:List Nat)(A:DA)(h:aj w base d F A)(dir:ByteArray)(hd:dir.size≤1000)(n:Nat)(hn:n≤1099511627776)(hv:Sn.jG w)(f:Dk.FA)(hf:A.file (Sn.nameB dir n).data.toList=some f):
 Calls Tryz.prog 70 #[.pointer (some ⟨d,0,none⟩), .string dir, .int .i64 n] w fun e w'=>∃xs,Scan n f.bytes xs∧Opened w w' base d F A (Sn.nameB dir n) n f xs e:=by
 have H:=hide h;have HV:=hide hv;have HF:=hide hf;have hfs:=oO h hf;clear h hv hf;obtain⟨file,jE⟩:∃f,f=Sn.nameB dir n:=⟨_,rfl⟩;have RG:=hide jE;rw[←jE];have WM:Hid (file.size≤maxLen):=by show _≤_;rw[jE];exact ja hn hd
 rw[←jE]at HF;clear jE;go_enter Tryz.func70,Tryz.ntmps70
 go_wp2_with fail
 refine(Sn.name_any dir n hn hd _ HV.out).mono ?_;rintro e w1 ⟨rfl,hb1⟩;have HT1:=hide (Turn.of_below hb1 []);rw[←RG.out];clear hb1;go_wp2_with fail
 refine(oH (H.out.kept HT1.out (by simp)) _ WM.out).mono ?_;rintro e w' ⟨rfl,rfl⟩;rw[yU HF.out];go_wp2_with (go_at_call 68;refine(uZ n hn _).mono ?_;rintro e w' ⟨rfl,rfl⟩)
 have hsg:aS (w1.alloc (.cells #[.pointer (some ⟨d,0,none⟩), .string file, .int .i64 n, .slice none 0 0] 87)) base d w1.heap.size (.slice none 0 0) file n (dV 0 (-1) []):=
  ⟨ai w1 _, .inl ⟨rfl,rfl⟩,jA (H.out.kept HT1.out (by simp))⟩
 have hta:Turn [] w (w1.alloc (.cells #[.pointer (some ⟨d,0,none⟩), .string file, .int .i64 n, .slice none 0 0] 87)):=HT1.out.alloc _;refine(Fh (H.out.kept hta (by simp)) file WM.out HF.out 0 f.bytes.length (by omega)).mono ?_;rintro e w2 ⟨v,rfl,Pe,ht2⟩;rw[OZ]at Pe;have dI:=hide Pe;have YV:=hide (hsg.still ht2);have HT2:=hide (hta.same ht2);obtain⟨sb,hsb⟩:∃sb,sb=w1.heap.size:=⟨_,rfl⟩;have YW:Hid (w.heap.size≤sb):=by show _≤_;rw[hsb];exact HT1.out.size
 have aei:Hid (∀k∈v.ownBlock,k<w2.heap.size→k∉aA sb (.slice none 0 0)):=fun k hk _ hm=>by
  have:=(dI.out.lt k hk).1;simp[aA,Value.ownBlock]at hm this;omega
 rw[←hsb]at YV;rw[←hsb];clear hsg hta Pe ht2 hsb;go_wp2_with fail
 refine(Dz w2 base d sb _ file n [] YV.out v f.bytes dI.out.bytes aei.out (by simp[flat];omega)).mono ?_;rintro e w3 ⟨rfl,xs,sv,aep,adr,ht3,hft⟩;have hsc:Scan n f.bytes xs:=aep;obtain⟨hch,hwh⟩:=hsc.whole;have hfl:=dw xs;have hlf:(flat xs).length≤f.bytes.length:=by have:=congrArg List.length hwh;rw[List.length_append]at this;omega
 have htw:Turn [] w w3:=HT2.out.trans ht3 (fun k hk=> .inr (by simp[aA,Value.ownBlock]at hk;have:=YW.out;omega));have yO:∀k∈aA sb sv,w.heap.size≤k:=fun k hk=>by
  rcases hft k hk with h|h
  ·simp[aA,Value.ownBlock]at h;have:=YW.out;omega
  ·exact Nat.le_trans HT2.out.size h
 have IX:Both w3 base d F A sb sv file n (dV 0 (-1) xs):=⟨H.out.kept htw (by simp),adr,fun k hk hm=>by have:=yO k hk;have:=H.out.lt k hm;omega⟩;have Ub:=hide IX;have HSC:=hide hsc;have dO:=hide htw;have KQ:=hide yO;clear aep adr ht3 hft hsc hch hwh htw yO IX;by_cases hls:f.bytes.length=(flat xs).length
 ·go_wp2_with fail
  refine(size_any w3 base d sb sv file n _ Ub.out.jh (by rw[gW];omega) (by rw[dP];omega)).mono ?_;rintro e w4 ⟨rfl,ht4⟩;rw[dP];have HT4:=hide ht4;have Rq:=hide hls;clear ht4 hls;have h0:((f.bytes.length:Int)-((flat xs).length:Int))=0:=by have:=Rq.out;omega
  go_wp2
  refine bodyPost_ret (v:= .tuple #[.pointer (some ⟨sb,0,none⟩), .int .i64 0, .nilIface]) (by simp[results,Tryz.results70]) rfl ⟨xs,HSC.out, .inl ⟨Rq.out,sb,sv,rfl,Ub.out.still HT4.out,dO.out.same HT4.out,KQ.out⟩⟩
 ·have hlt:(flat xs).length<f.bytes.length:=by omega
  have sN:=hide hlt;have h0:¬((f.bytes.length:Int)-((flat xs).length:Int))=0:=by omega
  clear hls hlt;go_wp2_with fail
  refine(size_any w3 base d sb sv file n _ Ub.out.jh (by rw[gW];omega) (by rw[dP];omega)).mono ?_;rintro e w4 ⟨rfl,ht4⟩;rw[dP];have HB4:=hide (Ub.out.still ht4);have HT4:=hide (dO.out.same ht4);clear ht4;go_wp2_with fail
  refine(size_any w4 base d sb sv file n _ HB4.out.jh (by rw[gW];omega) (by rw[dP];omega)).mono ?_;rintro e w5 ⟨rfl,ht5⟩;rw[dP];have HB5:=hide (HB4.out.still ht5);have HT5:=hide (HT4.out.same ht5);clear ht5;obtain⟨aI,ms,hp⟩:=HB5.out.disk;go_wp2_with fail
  refine(Dk.Uy hp file WM.out (flat xs).length).mono ?_;rintro e w6 ⟨rfl,F',hd6,ht6,hf6⟩;obtain⟨c,hc⟩:∃c,c=(A.cut file.data.toList (flat xs).length).1:=⟨_,rfl⟩;have HC:=hide hc;rw[←hc];have HD6:=hide hd6;have HT6:=hide ht6;have HF6:=hide hf6;clear hc hd6 ht6 hf6 hp;by_cases hc0:c=0
  ·have hr:aC c= .nilIface:=by rw[hc0];rfl
   rw[hr];have HC0:=hide hc0;clear hr hc0;go_wp2
   refine bodyPost_ret (v:= .tuple #[.pointer (some ⟨sb,0,none⟩), .int .i64 ((f.bytes.length-(flat xs).length:Nat):Int), .nilIface]) ?_ rfl ⟨xs,HSC.out, .inr (.inr ⟨sN.out,HC.out.symm.trans HC0.out,F',sb,sv,rfl,⟨HD6.out,HB5.out.jh.kept HT6.out HB5.out.sep,fun k hk hm=>?_⟩,(HT5.out.mono (by simp)).same HT6.out,fun k hk=>(HF6.out k hk).imp_right (Nat.le_trans HT5.out.size),KQ.out⟩)⟩
   ·have e:((f.bytes.length-(flat xs).length:Nat):Int)=(f.bytes.length:Int)-((flat xs).length:Int):=by omega
    simp[results,Tryz.results70,e]
   ·rcases HF6.out k hm with h|h
    ·exact HB5.out.sep k hk h
    ·have:=(HB5.out.jh.lt k hk).2;omega
  ·have hr:aC c= .iface 45 (.int .i64 c):=by unfold aC;rw[if_neg hc0];rfl
   rw[hr];have HR:=hide hr;have HC0:=hide hc0;clear hr hc0;go_wp2
   refine bodyPost_ret (v:= .tuple #[.pointer none, .int .i64 0,aC c]) (by rw[HR.out];simp[results,Tryz.results70]) rfl ⟨xs,HSC.out, .inr (.inl ⟨sN.out,fun e=>HC0.out (HC.out.trans e),by rw[←HC.out],F',HD6.out,(HT5.out.mono (by simp)).same HT6.out,fun k hk=>(HF6.out k hk).imp_right (Nat.le_trans HT5.out.size)⟩)⟩
end Sg
end
section
open Go.RowKit Go.Maps
set_option maxRecDepth 100000
set_option linter.unusedSimpArgs false
set_option linter.unusedVariables false
attribute [local go_sem] Oper.semAt_some
namespace Sg
def Least(n:Nat)(f:Nat→Bool)(m:Nat):Prop:=m≤n∧(∀i,i<m→f i=false)∧∀i,m≤i→i<n→f i=true
theorem KR(w:World)(p1 p2:Nat)(n:Nat)(hn:n≤1000000)(f:Nat→Bool)(hm:∀i j,i≤j→f i=true→f j=true)
 (hc:∀wr,Turn [] w wr→∀k,k<n→Calls Tryz.prog 125 #[.int .i64 (k:Int), .pointer (some ⟨p1,0,none⟩), .pointer (some ⟨p2,0,none⟩)] wr fun e w'=>e= .returned (.bool (f k))∧Turn [] wr w'):
 Calls Tryz.prog 124 #[.int .i64 (n:Int), .func (.func 125) #[] #[.pointer (some ⟨p1,0,none⟩), .pointer (some ⟨p2,0,none⟩)]] w fun e w'=>(∃m:Nat,e= .returned (.int .i64 m)∧Least n f m)∧Turn [] w w':=by
 have HC:=hide hc;have HM:=hide hm;clear hc hm;go_enter Tryz.func124,Tryz.ntmps124
 go_wp2
 go_loopw [5,6] (fun a b wr=>∃i j:Nat,i≤j∧j≤n∧a= .int .i64 i∧b= .int .i64 j∧(∀x,x<i→f x=false)∧(∀x,j≤x→x<n→f x=true)∧Turn [] w wr) (fun a b _=>(intOf b).toNat-(intOf a).toNat)
 case atStart=>exact⟨0,n,Nat.zero_le _,Nat.le_refl _,rfl,rfl,fun x h=>absurd h (Nat.not_lt_zero _),fun x h1 h2=>absurd h2 (by omega),Turn.refl _ _⟩
 case round=>
  obtain⟨i,j,hij,hjn,rfl,rfl,h1,h2,ht⟩:=hrel;have H1:=hide h1;have H2:=hide h2;have HT:=hide ht;clear h1 h2 ht;by_cases hlt:i<j
  ·obtain⟨m,hm⟩:∃m,m=(i+j)/2:=⟨_,rfl⟩
   have arE:((i:Int)+(j:Int))/2=(m:Int):=by omega
   have hm1:i≤m∧m<j:=by omega
   clear hm;go_wp2_with fail
   refine(HC.out wr HT.out m (by omega)).mono ?_;rintro e w1 ⟨rfl,ht1⟩;have HT1:=hide (HT.out.same ht1);clear ht1;cases hfm:f m with
   |true=>
    have HF:=hide hfm;clear hfm;go_wp2
    all_goals refine⟨⟨i,m,hm1.1,by omega,rfl,rfl,H1.out,fun x hx _=>HM.out m x hx HF.out,HT1.out⟩,?_⟩
    all_goals (simp only[intOf];omega)
   |false=>
    have HF:=hide hfm;clear hfm;go_wp2
    all_goals refine⟨⟨m+1,j,by omega,hjn,by go_num,rfl,fun x hx=>?_,H2.out,HT1.out⟩,?_⟩
    ·cases hx':f x with
     |false=>rfl
     |true=>have:=HM.out x m (by omega) hx';rw[HF.out]at this;cases this
    ·simp only[intOf];omega
  ·go_wp2
   go_ret
   obtain rfl:i=j:=by omega
   exact⟨⟨i,rfl,hjn,H1.out,H2.out⟩,HT.out⟩
theorem KT(w:World)(base d sb:Nat)(sv:Value)(file:ByteArray)(b0:Int)(ps:List Pl)(h:aS w base d sb sv file b0 ps)(hl:ps.length≤1000000)(p1 p2 g fb:Nat)(hg:∀args w,(callFunc g args).run Tryz.prog w= .ok (.enter g args) w)
 (h1:w.heap[p1]? =some (.cells #[.func (.func g) #[] #[.pointer (some ⟨fb,0,none⟩)]] 150 (0,0))) (h2:w.heap[p2]? =some (.cells #[.pointer (some ⟨sb,0,none⟩)] 61 (0,0)))
 (k:Nat) (hk:k<ps.length) (b:Bool) (hq:∀Z,Turn [] w Z→Calls Tryz.prog g #[zU ps[k], .pointer (some ⟨fb,0,none⟩)] Z fun e w'=>e= .returned (.bool b)∧Turn [] Z w'):
 Calls Tryz.prog 125 #[.int .i64 (k:Int), .pointer (some ⟨p1,0,none⟩), .pointer (some ⟨p2,0,none⟩)] w fun e w'=>e= .returned (.bool b)∧Turn [] w w':=by
 obtain⟨ga,cap,hsv, -⟩:=NG h.row hk;subst hsv;have HS:=hide h;have H1:=hide h1;have H2:=hide h2;have HQ:=hide hq;obtain⟨p,hp⟩:∃p,p=ps[k]:=⟨_,rfl⟩;rw[←hp]at HQ;have HP:=hide hp;clear h h1 h2 hq hp;go_enter Tryz.func125,Tryz.ntmps125
 go_wp2
 refine gU 8 [] (by kernel_rfl) rfl ?_;apply Lo.r0 1 rfl 1 (by intro u;conv=>lhs;whnf) rfl
 ·intro a w1 hR e1 K hK
  have hb:=hR.dr.heap H1.out (by simp);have c0:w1.cell? ⟨p1,0,none⟩=some (.func (.func g) #[] #[.pointer (some ⟨fb,0,none⟩)]):=by rw[cell_of hb];rfl
  have z1:=lt_of_heap hb;go_simp
  exact hK _ rfl
 apply Lo.r0 2 rfl 2 (by intro u;conv=>lhs;whnf) rfl
 ·intro a w1 hR e2 K hK
  have hb:=hR.dr.heap H2.out (by simp);have c0:w1.cell? ⟨p2,0,none⟩=some (.pointer (some ⟨sb,0,none⟩)):=by rw[cell_of hb];rfl
  have z1:=lt_of_heap hb;go_simp
  exact hK _ rfl
 apply Lo.r1 3 rfl 6 1 (fun _=>rfl) rfl (by kernel_rfl)
 ·intro a w1 hR e6 K hK
  go_simp
  exact hK _ rfl
 apply Lo.r1 4 rfl 7 2 (fun _=>rfl) rfl (by kernel_rfl)
 ·intro a w1 hR e7 K hK
  go_simp
  exact hK _ rfl
 apply Lo.r1 5 rfl 8 3 (fun _=>rfl) rfl (by kernel_rfl)
 ·intro a w1 hR e8 K hK
  have hs:=HS.out.still hR.dr;have c3:=hs.c3;have z1:=lt_of_heap hs.box;go_simp
  exact hK _ rfl
 apply Lo.r0 6 rfl 0 (by intro u;conv=>lhs;whnf) rfl
 ·intro a w1 hR e0 K hK
  go_simp
  exact hK _ rfl
 refine Lo.df 7 rfl rfl [4,5] (.pointer (some ⟨ga,k*5,none⟩)) (by kernel_rfl) (fun u w1 hR hF=>?_) (Turn.refl _) ?_
 ·obtain⟨h4,h5, -⟩:=hF
  refine⟨rfl,fun a ha K hK=>?_⟩;have e9:=(ha 9).trans h4;have e10:=(ha 10).trans h5;clear ha h4 h5;have h10:(k:Int)<ps.length:=by omega
  go_simp
  exact hK _ rfl
 refine Lo.df 8 rfl rfl [6] (zU p) (by kernel_rfl) (fun u w1 hR hF=>?_) (Turn.refl _) ?_
 ·obtain⟨h6, -⟩:=hF
  refine⟨rfl,fun a ha K hK=>?_⟩;have e11:=(ha 11).trans h6;clear ha h6;have hc:∀i,i<5→w1.cell? ⟨ga,k*5+i,none⟩=(Dt p)[i]? :=by
   obtain⟨g',cap',e,hc,_⟩:=(HS.out.still hR.dr).row.at wJ hk;simp at e;obtain⟨rfl,rfl⟩:=e;rw[HP.out];exact hc
  have k0:w1.cell? ⟨ga,k*5,none⟩=some (.int .i64 p.at):=hc 0 (by omega);have k1:w1.cell? ⟨ga,k*5+1,none⟩=some (.int .i64 p.size):=hc 1 (by omega);have k2:w1.cell? ⟨ga,k*5+2,none⟩=some (.int .i64 p.sum):=hc 2 (by omega);have k3:w1.cell? ⟨ga,k*5+3,none⟩=some (.int .i64 p.fin):=hc 3 (by omega);have k4:w1.cell? ⟨ga,k*5+4,none⟩=some (.int .i64 p.latest):=hc 4 (by omega);clear hc;go_simp
  exact hK _ rfl
 refine Lo.done [0,7] (fun u w1 bI hSd hF=>?_);clear hSd;obtain⟨f0,f7, -⟩:=hF;have d0:u 0=_:=f0;have d7:u 7=_:=f7;clear f0 f7;simp only[List.take_succ_cons,List.take_zero,List.drop_succ_cons,List.drop_zero,ax,Act.put,List.setIfInBounds_toArray,List.set_cons_succ,List.set_cons_zero,Nat.zero_add,Nat.reduceAdd,d0,d7];have HT1:=hide bI.dr;clear d0 d7 bI;go_wp2_with fail
 refine(HQ.out _ HT1.out).mono ?_;rintro e w2 ⟨rfl,ht2⟩;have HT2:=hide (HT1.out.same ht2);clear ht2;go_wp2
 go_ret
 exact⟨rfl,HT2.out⟩
theorem first_any(w:World)(base d sb:Nat)(sv:Value)(file:ByteArray)(b0:Int)(ps:List Pl)(h:aS w base d sb sv file b0 ps)(hl:ps.length≤1000000)(g fb:Nat)(hg:∀args w,(callFunc g args).run Tryz.prog w= .ok (.enter g args) w)(f:Nat→Bool)(hm:∀i j,i≤j→f i=true→f j=true)
 (hq:∀Z,Turn [] w Z→∀(k:Nat) (hk:k<ps.length),Calls Tryz.prog g #[zU ps[k], .pointer (some ⟨fb,0,none⟩)] Z fun e w'=>e= .returned (.bool (f k))∧Turn [] Z w'):
 Calls Tryz.prog 93 #[.pointer (some ⟨sb,0,none⟩), .func (.func g) #[] #[.pointer (some ⟨fb,0,none⟩)]] w fun e w'=>(∃m:Nat,e= .returned (.int .i64 m)∧Least ps.length f m)∧Turn [] w w':=by
 obtain⟨xa,xc,hsv,hxl,hxm⟩:=h.row.form;subst hsv;have HS:=hide h;have HQ:=hide hq;have HM:=hide hm;have c3:=h.c3;have hsb:=lt_of_heap h.box;clear h hq hm;have hmf:∀(fn:Fn) (first cap:Array Value) (w:World),(Instr.makeFunc fn first cap).run Tryz.prog w= .ok (.func fn first cap) w:=fun _ _ _ _=>rfl
 go_enter Tryz.func93,Tryz.ntmps93
 go_wp2_with fail
 have hw2:Turn [] w ((w.alloc (.cells #[.pointer (some ⟨sb,0,none⟩)] 61)).alloc (.cells #[.func (.func g) #[] #[.pointer (some ⟨fb,0,none⟩)]] 150)):=((Turn.refl [] w).alloc _).alloc _;have b1:=ai (w.alloc (.cells #[.pointer (some ⟨sb,0,none⟩)] 61)) (.cells #[.func (.func g) #[] #[.pointer (some ⟨fb,0,none⟩)]] 150);have b2:=((Turn.refl [] _).alloc (.cells #[.func (.func g) #[] #[.pointer (some ⟨fb,0,none⟩)]] 150)).heap (ai w (.cells #[.pointer (some ⟨sb,0,none⟩)] 61)) (by simp);rw[World.size_alloc]at b1;refine(KR _ (w.heap.size+1) w.heap.size ps.length hl f HM.out (fun wr ht k hk=>?_)).mono ?_
 ·exact KT wr base d sb _ file b0 ps (HS.out.still (hw2.same ht)) hl (w.heap.size+1) w.heap.size g fb hg (ht.heap b1 (by simp)) (ht.heap b2 (by simp)) k hk (f k) (fun Z hZ=>HQ.out Z (hw2.same (ht.same hZ)) k hk)
 rintro e w3 ⟨⟨m,rfl,hmm⟩,ht3⟩;have HT3:=hide (hw2.same ht3);have HMM:=hide hmm;clear ht3 hmm hw2 b1 b2;go_wp2
 go_ret
 exact⟨⟨m,rfl,HMM.out⟩,HT3.out⟩
end Sg
end
section
open Go.RowKit Go.Maps
set_option maxRecDepth 100000
set_option linter.unusedSimpArgs false
set_option linter.unusedVariables false
attribute [local go_sem] Oper.semAt_some
open Dk (DA aj Parts dA aC bQ)
namespace Sg
theorem O3(w:World)(p:Pl)(fb:Nat)(from':Int)(hb:w.heap[fb]? =some (.cells #[.int .i64 from'] 3 (0,0))):
 Calls Tryz.prog 94 #[zU p, .pointer (some ⟨fb,0,none⟩)] w fun e w'=>e= .returned (.bool (decide (from'<p.fin)))∧Turn [] w w':=by
 have c0:w.cell? ⟨fb,0,none⟩=some (.int .i64 from'):=by rw[cell_of hb];rfl
 have hl:=lt_of_heap hb;rw[show zU p= .agg #[.int .i64 p.at, .int .i64 p.size, .int .i64 p.sum, .int .i64 p.fin, .int .i64 p.latest]from rfl];clear hb;go_enter Tryz.func94,Tryz.ntmps94
 go_wp2
 go_ret
 exact⟨rfl,(Turn.refl [] w).alloc _⟩
theorem RI{P:Program}{f:FuncId}{fn:Func}(hf:P.funcs[f]? =some fn) (akC:(fn.name== "runtime.NumGoroutine")=false) (hb:fn.body.isSome=true) (args:Array Value) (w:World):(callFunc f args).run P w= .ok (.enter f args) w:=by
 have h1:fn.name≠ "runtime.NumGoroutine" :=by simpa using akC
 obtain⟨c,hc⟩:=Option.isSome_iff_exists.1 hb;simp[callFunc,hf,h1,hc]
theorem Ja(args:Array Value)(w:World):(callFunc 94 args).run Tryz.prog w= .ok (.enter 94 args) w:=
 RI Tryz.func94 (by kernel_rfl) (by kernel_rfl) args w
theorem O4(w:World)(base d:Nat)(F:List Nat)(A:DA)(sb:Nat)(sv:Value)(file:ByteArray)(b0:Int)(ps:List Pl)(h:Both w base d F A sb sv file b0 ps)(hfs:file.size≤maxLen)(f:Dk.FA)(hf:A.file file.data.toList=some f)
 (p:Pl)(x:Bt.aB)(hx:Bt.aQ x=0)(hrd:Dk.sU f.bytes p.at p.size=Bt.ah x)(hsm:p.sum=Cr.sum (Bt.ah x))(hps:p.size≤1099511627776):
 Calls Tryz.prog 95 #[.pointer (some ⟨sb,0,none⟩),zU p] w fun e w'=>∃rv,e= .returned (.tuple #[.agg #[.int .i64 x.base, .int .i64 x.fin,rv], .nilIface])∧aO 52 6 recC w' w.heap.size rv x.recs∧(∀r∈x.recs,iQ r)∧Turn [] w w':=by
 have HB:=hide h;have HF:=hide hf;have HX:=hide hx;have DF:=hide hrd;have HSM:=hide hsm;have hen:(Bt.ah x).length≤6000:=by have:=(Bt.dJ hx).2;rw[Bt.gX];exact this
 have hsb:=lt_of_heap h.jh.box;rw[show zU p= .agg #[.int .i64 p.at, .int .i64 p.size, .int .i64 p.sum, .int .i64 p.fin, .int .i64 p.latest]from rfl];clear h hf hx hrd hsm;go_enter Tryz.func95,Tryz.ntmps95
 go_wp2
 obtain⟨w0,hw0⟩:∃w0,w0=(w.alloc (.cells #[.int .i64 p.at, .int .i64 p.size, .int .i64 p.sum, .int .i64 p.fin, .int .i64 p.latest] 110)).alloc (.cells #[.int .i64 0, .int .i64 0, .slice none 0 0] 71):=⟨_,rfl⟩;rw[←hw0];have hP:w0.heap[w.heap.size]? =some (.cells #[.int .i64 p.at, .int .i64 p.size, .int .i64 p.sum, .int .i64 p.fin, .int .i64 p.latest] 110 (0,0)):=by
  rw[hw0];exact((Turn.refl [] _).alloc _).heap (ai w _) (by simp)
 have hR0:w0.heap[w.heap.size+1]? =some (.cells #[.int .i64 0, .int .i64 0, .slice none 0 0] 71 (0,0)):=by
  rw[hw0];have:=ai (w.alloc (.cells #[.int .i64 p.at, .int .i64 p.size, .int .i64 p.sum, .int .i64 p.fin, .int .i64 p.latest] 110)) (.cells #[.int .i64 0, .int .i64 0, .slice none 0 0] 71);rwa [World.size_alloc]at this
 have HT0:Hid (Turn [] w w0):=by show Turn _ _ _;rw[hw0];exact((Turn.refl [] w).alloc _).alloc _
 have HP:=hide hP;have HR0:=hide hR0;clear hw0 hP hR0;refine gU 12 [] (by kernel_rfl) rfl ?_;apply Lo.r0 1 rfl 0 (by intro u;conv=>lhs;whnf) rfl
 ·intro a w1 hR e0 K hK
  go_simp
  exact hK _ rfl
 apply Lo.r1 2 rfl 10 0 (fun _=>rfl) rfl (by kernel_rfl)
 ·intro a w1 hR e10 K hK
  go_simp
  exact hK _ rfl
 apply Lo.r1 3 rfl 11 1 (fun _=>rfl) rfl (by kernel_rfl)
 ·intro a w1 hR e11 K hK
  go_simp
  exact hK _ rfl
 apply Lo.r1 4 rfl 12 2 (fun _=>rfl) rfl (by kernel_rfl)
 ·intro a w1 hR e12 K hK
  have hS:=HB.out.jh.still (HT0.out.same hR.dr);have c0:=hS.c0;have z1:=lt_of_heap hS.box;go_simp
  exact hK _ rfl
 apply Lo.r0 5 rfl 0 (by intro u;conv=>lhs;whnf) rfl
 ·intro a w1 hR e0 K hK
  go_simp
  exact hK _ rfl
 apply Lo.r1 6 rfl 14 4 (fun _=>rfl) rfl (by kernel_rfl)
 ·intro a w1 hR e14 K hK
  go_simp
  exact hK _ rfl
 apply Lo.r1 7 rfl 15 5 (fun _=>rfl) rfl (by kernel_rfl)
 ·intro a w1 hR e15 K hK
  go_simp
  exact hK _ rfl
 apply Lo.r1 8 rfl 16 6 (fun _=>rfl) rfl (by kernel_rfl)
 ·intro a w1 hR e16 K hK
  have hS:=HB.out.jh.still (HT0.out.same hR.dr);have c1:=hS.c1;have z1:=lt_of_heap hS.box;go_simp
  exact hK _ rfl
 apply Lo.r0 9 rfl 3 (by intro u;conv=>lhs;whnf) rfl
 ·intro a w1 hR e3 K hK
  go_simp
  exact hK _ rfl
 apply Lo.r1 10 rfl 18 8 (fun _=>rfl) rfl (by kernel_rfl)
 ·intro a w1 hR e18 K hK
  have hb:=hR.dr.heap HP.out (by simp);have c0:w1.cell? ⟨w.heap.size,0,none⟩=some (.int .i64 p.at):=by rw[cell_of hb];rfl
  have z1:=lt_of_heap hb;go_simp
  exact hK _ rfl
 apply Lo.r0 11 rfl 3 (by intro u;conv=>lhs;whnf) rfl
 ·intro a w1 hR e3 K hK
  go_simp
  exact hK _ rfl
 apply Lo.r1 12 rfl 20 10 (fun _=>rfl) rfl (by kernel_rfl)
 ·intro a w1 hR e20 K hK
  have hb:=hR.dr.heap HP.out (by simp);have c0:w1.cell? ⟨w.heap.size,1,none⟩=some (.int .i64 p.size):=by rw[cell_of hb];rfl
  have z1:=lt_of_heap hb;go_simp
  exact hK _ rfl
 refine Lo.done [3,7,9,11] (fun u w1 bI hSd hF=>?_);clear hSd;obtain⟨f3,f7,f9,f11, -⟩:=hF;have d3:u 3=_:=f3;have d7:u 7=_:=f7;have d9:u 9=_:=f9;have d11:u 11=_:=f11;clear f3 f7 f9 f11;simp only[List.take_succ_cons,List.take_zero,List.drop_succ_cons,List.drop_zero,ax,Act.put,List.setIfInBounds_toArray,List.set_cons_succ,List.set_cons_zero,Nat.zero_add,Nat.reduceAdd,d3,d7,d9,d11];have HT1:=hide (HT0.out.same bI.dr);have HP1:=hide (bI.dr.heap HP.out (by simp));have HR1:=hide (bI.dr.heap HR0.out (by simp));clear d3 d7 d9 d11 bI;go_wp2_with fail
 refine(Fh (HB.out.disk.kept HT1.out (by simp)) file hfs HF.out p.at p.size (by omega)).mono ?_;rintro e w2 ⟨v,rfl,Pe,ht2⟩;rw[DF.out]at Pe;obtain⟨ba,bc,hbv,GG,GH⟩:=Pe.form;subst hbv;have dI:=hide Pe;have HT2:=hide (HT1.out.same ht2);have HP2:=hide (ht2.heap HP1.out (by simp));have HR2:=hide (ht2.heap HR1.out (by simp));clear Pe ht2 GG GH;have aiW:=Nz w2 _ (Bt.ah x) dI.out.bytes (by omega);have hde:=NC HX.out [];rw[List.append_nil]at hde;rw[hde]at aiW;have YX:=hide aiW;clear aiW hde;go_wp2_with fail
 refine YX.out.mono ?_;rintro e w3 ⟨rv,rfl,ah8,hfr,ht3⟩;have aaK:aO 52 6 recC w3 w2.heap.size rv x.recs:=ah8;clear ah8;obtain⟨ra,rc,TZ, -⟩:=aaK.form;subst TZ;have Uc:=hide hfr;clear hfr;have akD:As.oN 0= .nilIface:=rfl;rw[akD];have sS:=hide aaK;have HT3:=hide (HT2.out.same ht3);have HP3:=hide (ht3.heap HP2.out (by simp));have HR3:=hide (ht3.heap HR2.out (by simp));have Dy:=hide (dI.out.kept ht3 (by simp));clear YX aaK ht3 akD;go_wp2
 obtain⟨w4,hw4⟩:∃w4,w4=w3.alloc (.cells #[.int .i64 x.base, .int .i64 x.fin, .slice ra x.recs.length rc] 71):=⟨_,rfl⟩;rw[←hw4];have h34:Turn [] w3 w4:=by rw[hw4];exact(Turn.refl [] w3).alloc _
 have HX4:Hid (w4.heap[w3.heap.size]? =some (.cells #[.int .i64 x.base, .int .i64 x.fin, .slice ra x.recs.length rc] 71 (0,0))):=by show _=_;rw[hw4];exact ai w3 _
 have YY:=hide (sS.out.still h34);have HT4:=hide (HT3.out.same h34);have HP4:=hide (h34.heap HP3.out (by simp));have HR4:=hide (h34.heap HR3.out (by simp));have NL:=hide (Dy.out.kept h34 (by simp));clear h34 hw4;refine jT [] (by kernel_rfl) rfl ?_;apply Lo.r0 1 rfl 9 (by intro u;conv=>lhs;whnf) rfl
 ·intro a w1 hR e9 K hK
  go_simp
  exact hK _ rfl
 apply Lo.r1 2 rfl 29 0 (fun _=>rfl) rfl (by kernel_rfl)
 ·intro a w1 hR e29 K hK
  go_simp
  exact hK _ rfl
 apply Lo.r1 3 rfl 30 1 (fun _=>rfl) rfl (by kernel_rfl)
 ·intro a w1 hR e30 K hK
  go_simp
  exact hK _ rfl
 apply Lo.q0 4 rfl 2 6 rfl rfl (fun _=>rfl) rfl (by intro u;conv=>lhs;whnf) rfl (by kernel_rfl)
 ·intro a w1 hR e6 K hK
  go_simp
  exact hK _ rfl
 refine Lo.run 5 rfl rfl [2,3] (fun y _=>y= .int .i64 (Cr.sum (Bt.ah x):Nat)) (by kernel_rfl) (fun x w w' h hR=>?_) (fun _ _ h=>h) (fun u w1 hR hF=>?_) ?_
 ·exact h
 ·obtain⟨h2,h3, -⟩:=hF
  refine⟨.inl ⟨false,h2,rfl⟩,fun a ha K hK=>?_⟩;have e32:=(ha 32).trans h3;clear ha h2 h3;go_simp
  refine(sum_any _ _ (Bt.ah x) (NL.out.kept hR.dr (by simp)).cells (by omega)).mono ?_;rintro e w5 ⟨rfl,rfl⟩;exact hK _ _ rfl (Turn.refl _ _)
 apply Lo.q0 6 rfl 2 3 rfl rfl (fun _=>rfl) rfl (by intro u;conv=>lhs;whnf) rfl (by kernel_rfl)
 ·intro a w1 hR e3 K hK
  go_simp
  exact hK _ rfl
 apply Lo.q1 7 rfl 2 34 5 rfl rfl (fun _=>rfl) rfl (fun _=>rfl) rfl rfl (by kernel_rfl)
 ·intro a w1 hR e34 K hK
  have hb:=hR.dr.heap HP4.out (by simp);have c0:w1.cell? ⟨w.heap.size,2,none⟩=some (.int .i64 p.sum):=by rw[cell_of hb];rfl
  have z1:=lt_of_heap hb;go_simp
  exact hK _ rfl
 refine Lo.df 8 rfl rfl [2,4,6] (.bool false) (by kernel_rfl) (fun u w1 hR hF=>?_) (Turn.refl _) ?_
 ·obtain⟨h2,h4,h6, -⟩:=hF
  refine⟨.inl ⟨false,h2,rfl⟩,fun a ha K hK=>?_⟩;have e33:a.tmps.getD 33 undef=u 4:=ha 33;have e35:=(ha 35).trans h6;have h4:=(show(fun y _=>y= .int .i64 (Cr.sum (Bt.ah x):Nat)) (u 4) w1 from h4);dsimp only at h4;clear ha h2 h6;rw[h4]at e33;have hsm:(p.sum:Int)=(Cr.sum (Bt.ah x):Nat):=by rw[HSM.out]
  go_simp
  exact hK _ rfl
 refine Lo.df 9 rfl rfl [2,7] (.bool false) (by kernel_rfl) (fun u w1 hR hF=>?_) (Turn.refl _) ?_
 ·obtain⟨h2,h7, -⟩:=hF
  refine⟨rfl,fun a ha K hK=>?_⟩;have e31:=(ha 31).trans h2;have e36:=(ha 36).trans h7;clear ha h2 h7;go_simp
  exact hK _ rfl
 refine Lo.done [8] (fun u w1 bI hSd hF=>?_);clear hSd;obtain⟨f8, -⟩:=hF;have d8:u 8=_:=f8;clear f8;simp only[ax,Act.put,List.setIfInBounds_toArray,List.set_cons_succ,List.set_cons_zero,Nat.zero_add,Nat.reduceAdd,d8];have HT5:=hide (HT4.out.same bI.dr);have HX5:=hide (bI.dr.heap HX4.out (by simp));have HR5:=hide (bI.dr.heap HR4.out (by simp));have Vz:=hide (YY.out.still bI.dr);clear d8 bI;have y0:w1.cell? ⟨w.heap.size+1,0,none⟩=some (.int .i64 0):=by simpa using cell_of HR5.out 0
 have y1:w1.cell? ⟨w.heap.size+1,1,none⟩=some (.int .i64 0):=by simpa using cell_of HR5.out 1
 have y2:w1.cell? ⟨w.heap.size+1,2,none⟩=some (.slice none 0 0):=by simpa using cell_of HR5.out 2
 have q0:w1.frozen? ⟨w.heap.size+1,0,none⟩=false:=au HR5.out 0;have q1:w1.frozen? ⟨w.heap.size+1,1,none⟩=false:=au HR5.out 1;have q2:w1.frozen? ⟨w.heap.size+1,2,none⟩=false:=au HR5.out 2;have k0:w1.cell? ⟨w3.heap.size,0,none⟩=some (.int .i64 x.base):=by simpa using cell_of HX5.out 0
 have k1:w1.cell? ⟨w3.heap.size,1,none⟩=some (.int .i64 x.fin):=by simpa using cell_of HX5.out 1
 have k2:w1.cell? ⟨w3.heap.size,2,none⟩=some (.slice ra x.recs.length rc):=by simpa using cell_of HX5.out 2
 have z3:=lt_of_heap HX5.out;have z4:=lt_of_heap HR5.out;go_wp2
 have hy:=heap_set (heap_set (heap_set HR5.out 0 (.int .i64 x.base)) 1 (.int .i64 x.fin)) 2 (.slice ra x.recs.length rc);have hld:=jl (by simpa using hy);have ht:Turn [w.heap.size+1] w1 (((w1.setCell ⟨w.heap.size+1,0,none⟩ (.int .i64 x.base)).setCell ⟨w.heap.size+1,1,none⟩ (.int .i64 x.fin)).setCell ⟨w.heap.size+1,2,none⟩ (.slice ra x.recs.length rc)):=
  (((Turn.refl _ _).setCell (.inl (by simp)) _).setCell (.inl (by simp)) _).setCell (.inl (by simp)) _
 refine bodyPost_ret (v:= .tuple #[.agg #[.int .i64 x.base, .int .i64 x.fin, .slice ra x.recs.length rc], .nilIface]) (by simp[results,Tryz.results95,asAddr,hld,Result.andThen]) rfl ⟨_,rfl,?_,Uc.out,HT5.out.trans ht (fun k hk=> .inr (by simp at hk;omega))⟩;have hb2:=lt_of_heap HR2.out;refine(Vz.out.kept ht (fun k hk hm=>?_)).jA HT2.out.size;simp only[List.mem_singleton]at hm;subst hm;have:=(Vz.out.lt _ hk).1;omega
structure BV where
 x:Bt.aB
 a:Option Addr
 n:Nat
 c:Nat
def BV.sl(y:BV):Value:= .slice y.a y.n y.c
def uD(y:BV):List Value:=[.int .i64 y.x.base, .int .i64 y.x.fin, .slice y.a y.n y.c]
theorem jm:∀y,(uD y).length=3:=fun _=>rfl
structure EF(w:World)(base:Nat)(lv:Value)(ys:List BV):Prop where
 row:aO 71 3 uD w base lv ys
 recs:∀y∈ys,bF w y.sl y.x.recs
 own:∀y∈ys,y.x.recs≠[]→∀k∈y.sl.ownBlock,base≤k
 sep:∀y∈ys,y.x.recs≠[]→∀k∈y.sl.ownBlock,k∉lv.ownBlock
theorem EF.nil(w:World)(base:Nat):EF w base (.slice none 0 0) []:=⟨.inl ⟨rfl,rfl⟩,by simp,by simp,by simp⟩
theorem EF.still{w w':World}{base:Nat}{lv:Value}{ys:List BV}(h:EF w base lv ys)(ht:Turn [] w w'):EF w' base lv ys:=⟨h.row.still ht,fun y hy=>(h.recs y hy).still ht,h.own,h.sep⟩
theorem Tryz.WN:(Tryz.prog.info? 71).map (fun i=>(i.zero,i.size,i.bytes))=some (some (.agg #[.int .i64 0, .int .i64 0, .slice none 0 0]),3,40):=by kernel_rfl
theorem UF(w:World)(base:Nat)(v:Value)(xs:List BV)(x:BV)(k:Nat)(Pe:aO 71 3 uD w base v xs)(hk:w.heap[k]? =some (.cells (uD x).toArray 71 (0,0))) (aah:xs.length≤1000000) (aas:base≤w.heap.size):
 ∃v' w',(Builtin.append_ #[105,105] 105 #[v, .slice (some ⟨k,0,none⟩) 1 1]).run Tryz.prog w= .ok v' w'∧aO 71 3 uD w' base v' (xs++[x])∧Turn v.ownBlock.toList w w'∧(∀j∈v'.ownBlock,j∈v.ownBlock∨w.heap.size≤j):=by
 obtain⟨i,hi,e⟩:=Option.map_eq_some_iff.1 Tryz.WN;simp only[Prod.mk.injEq]at e;exact jB (P:=Tryz.prog) 105 105 Tryz.underlying105 i _ hi e.1 (by rfl) e.2.1 (by omega) jm (fun x u hu=>by simp[uD]at hu;rcases hu with rfl|rfl|rfl<;>rfl) w base v xs x k Pe hk aah aas
def WO(most:Int)(zs:List Bt.aB)(k:Nat):Prop:=k≤zs.length∧(∀j,1≤j→j<k→((flat (zs.take (j+1))).length:Int)≤most)∧(k<zs.length→0<k∧most<((flat (zs.take (k+1))).length:Int))
def dh(xs:List Bt.aB)(from':Int)(k:Nat):Bool:=match xs[k]? with
 |some x=>decide (from'<x.fin)
 |none=>true
theorem kM:∀{xs:List Bt.aB} {b:Int},Chain b xs→∀x∈xs,b<x.fin
 |x::r,b,h,y,hy=>by
  have h1:=Bt.jX (Bt.dJ h.1).1;have h2:=h.2.1;rcases List.mem_cons.1 hy with rfl|hy
  ·omega
  ·have:=kM h.2.2 y hy;omega
theorem DI:∀{xs:List Bt.aB} {b:Int},Chain b xs→∀(from':Int) (i j:Nat),i≤j→dh xs from' i=true→dh xs from' j=true
 |[],b,h,fr,i,j,hij,hi=>by simp[dh]
 |x::r,b,h,fr,i,j,hij,hi=>by
  cases j with
  |zero=>obtain rfl:i=0:=by omega
         exact hi
  |succ j=>
   cases i with
   |succ i=>
    have:=DI h.2.2 fr i j (by omega) (by simpa[dh]using hi);simpa[dh]using this
   |zero=>
    simp only[dh,List.getElem?_cons_zero,decide_eq_true_eq]at hi;simp only[dh,List.getElem?_cons_succ];cases hr:r[j]? with
    |none=>rfl
    |some y=>have:=kM h.2.2 y (List.mem_of_getElem? hr);simp;omega
theorem wL(f:Nat→Bool)(hm:∀i j,i≤j→f i=true→f j=true):∀n,∃m,Least n f m
 |0=>⟨0,Nat.le_refl _,fun i h=>absurd h (Nat.not_lt_zero _),fun i _ h=>absurd h (Nat.not_lt_zero _)⟩
 |n+1=>by
  obtain⟨m,h1,h2,h3⟩:=wL f hm n;cases hf:f n with
  |true=>exact⟨m,by omega,h2,fun i hi hn=>by
    by_cases h:i<n
    ·exact h3 i hi h
    ·obtain rfl:i=n:=by omega
     exact hf⟩
  |false=>
   refine⟨n+1,Nat.le_refl _,fun i hi=>?_,fun i hi hn=>absurd hi (by omega)⟩;cases hfi:f i with
   |false=>rfl
   |true=>have:=hm i n (by omega) hfi;rw[hf]at this;cases this
theorem GL{n:Nat}{f:Nat→Bool}{m m':Nat}(h:Least n f m)(h':Least n f m'):m=m':=by
 rcases Nat.lt_trichotomy m m' with h1|h1|h1
 ·have a:=h'.2.1 m h1
  have b:=h.2.2 m (Nat.le_refl _) (by have:=h'.1;omega);rw[a]at b;cases b
 ·exact h1
 ·have a:=h.2.1 m' h1
  have b:=h'.2.2 m' (Nat.le_refl _) (by have:=h.1;omega);rw[a]at b;cases b
theorem RJ{xs:List Bt.aB}{k:Nat}(hk:k<xs.length):Dk.sU (flat xs) (flat (xs.take k)).length (Bt.ah xs[k]).length=Bt.ah xs[k]:=by
 have e:flat xs=flat (xs.take k)++(Bt.ah xs[k]++flat (xs.drop (k+1))):=by
  have e:flat xs=flat (xs.take k)++flat (xs.drop k):=by rw[←aP,List.take_append_drop]
  rw[e,List.drop_eq_getElem_cons hk];rfl
 have hp:=lJ xs[k];have hl:=congrArg List.length e;rw[List.length_append,List.length_append]at hl;unfold Dk.sU;rw[if_neg (by omega)];conv=>lhs;rw[e]
 simp
def O5(a:Option Addr)(n c:Nat):Option Addr:=if c=n then a else a.map (·.add (n*5))
theorem O6(a:Option Addr)(l c n:Nat)(hn:n≤l)(w:World):(Instr.slice 85 (.slice a l c) (some (.int .i64 (n:Int))) none none).run Tryz.prog w= .ok (.slice (O5 a n c) (l-n) (c-n)) w:=by
 have h:=Rn w;simp[Instr.slice,run_underlying Tryz.underlying85,Instr.sliceBounds,run_sliceBound,h,Result.andThen,hn,O5]
structure iG(w:World)(base:Nat)(lv:Value)(ys:List BV):Prop where
 row:aO 71 3 uD w base lv ys
 recs:∀y∈ys,aO 52 6 recC w base y.sl y.x.recs
 ok:∀y∈ys,∀r∈y.x.recs,iQ r
 apart:ys.Pairwise (fun a b=>∀k∈a.sl.ownBlock,k∉b.sl.ownBlock)
theorem Fj{α:Type}{T:TypeId}{n:Nat}{enc:α→List Value}{w:World}{base:Nat}{sv:Value}{xs:List α}(h:aO T n enc w base sv xs):∀k∈sv.ownBlock,∃cs,w.heap[k]? =some (.cells cs T (0,0)):=by
 intro k hk;rcases h with⟨rfl, -⟩|⟨g,cap,cur,rfl, -,hg, -⟩
 ·simp[Value.ownBlock]at hk
 ·simp[Value.ownBlock]at hk;subst hk;exact⟨_,hg⟩
theorem GM{w:World}{base base':Nat}{lv sv:Value}{ys:List BV}{rs:List Bt.Rec}(h:aO 71 3 uD w base lv ys)(hr:aO 52 6 recC w base' sv rs):∀k∈sv.ownBlock,k∉lv.ownBlock:=by
 intro k hk hm;obtain⟨c1,e1⟩:=Fj h k hm;obtain⟨c2,e2⟩:=Fj hr k hk;rw[e1]at e2;simp at e2
theorem iG.toB{w:World}{base:Nat}{lv:Value}{ys:List BV}(h:iG w base lv ys):EF w base lv ys:=
 ⟨h.row,fun y hy=>eX.recs (base:=base) (h.recs y hy) (h.ok y hy),fun y hy _ k hk=>((h.recs y hy).lt k hk).1,fun y hy _ k hk=>GM h.row (h.recs y hy) k hk⟩
theorem iG.nil(w:World)(base:Nat):iG w base (.slice none 0 0) []:=⟨.inl ⟨rfl,rfl⟩,by simp,by simp,List.Pairwise.nil⟩
theorem iG.still{w w':World}{base:Nat}{lv:Value}{ys:List BV}(h:iG w base lv ys)(ht:Turn [] w w'):iG w' base lv ys:=⟨h.row.still ht,fun y hy=>(h.recs y hy).still ht,h.ok,h.apart⟩
theorem Jb(w:World)(base d:Nat)(F:List Nat)(A:DA)(sb:Nat)(sv:Value)(file:ByteArray)(b0:Int)(xs:List Bt.aB)(h:Both w base d F A sb sv file b0 (dV 0 (-1) xs))(hfs:file.size≤maxLen)(f:Dk.FA)(hf:A.file file.data.toList=some f)(hfb:f.bytes=flat xs)(hch:Chain b0 xs)
 (from' most:Int)(hmo: -9223372036854775808≤most∧most≤9223372036854775807):
 Calls Tryz.prog 59 #[.pointer (some ⟨sb,0,none⟩), .int .i64 from', .int .i64 most] w fun e w'=>∃lv ys m k,e= .returned (.tuple #[lv, .nilIface])∧Least xs.length (dh xs from') m∧iG w' w.heap.size lv ys∧ys.map (·.x)=(xs.drop m).take k∧WO most (xs.drop m) k∧Turn [] w w':=by
 obtain⟨m0,hm0⟩:=wL (dh xs from') (fun i j=>DI hch from' i j) xs.length;have hfl:=dw xs;have WQ:=oO h.disk hf;rw[hfb]at WQ;obtain⟨xa,xc,hsv,hxl,hxm⟩:=h.jh.row.form;rw[gW]at hsv hxl;have hpl:=gW xs 0 (-1);subst hsv;have HB:=hide h;have HF:=hide hf;have WR:=hide hfb;have KU:=hide hch;have HM0:=hide hm0;have hsb:=lt_of_heap h.jh.box;have aos:=hm0.1;have hmf:∀(fn:Fn) (first cap:Array Value) (w:World),(Instr.makeFunc fn first cap).run Tryz.prog w= .ok (.func fn first cap) w:=fun _ _ _ _=>rfl
 clear h hf hfb hch hm0;go_enter Tryz.func59,Tryz.ntmps59
 go_wp2
 obtain⟨w0,hw0⟩:∃w0,w0=w.alloc (.cells #[.int .i64 from'] 3):=⟨_,rfl⟩;rw[←hw0];have Uc:Hid (w0.heap[w.heap.size]? =some (.cells #[.int .i64 from'] 3 (0,0))):=by show _=_;rw[hw0];exact ai w _
 have HT0:Hid (Turn [] w w0):=by show Turn _ _ _;rw[hw0];exact(Turn.refl [] w).alloc _
 clear hw0;refine jT [] (by kernel_rfl) rfl ?_;apply Lo.r0 1 rfl 0 (by intro u;conv=>lhs;whnf) rfl
 ·intro a w1 hR e0 K hK
  go_simp
  exact hK _ rfl
 apply Lo.r1 2 rfl 14 0 (fun _=>rfl) rfl (by kernel_rfl)
 ·intro a w1 hR e14 K hK
  go_simp
  exact hK _ rfl
 apply Lo.r1 3 rfl 15 1 (fun _=>rfl) rfl (by kernel_rfl)
 ·intro a w1 hR e15 K hK
  go_simp
  exact hK _ rfl
 apply Lo.r1 4 rfl 16 2 (fun _=>rfl) rfl (by kernel_rfl)
 ·intro a w1 hR e16 K hK
  have hS:=HB.out.jh.still (HT0.out.same hR.dr);have c3:=hS.c3;have z1:=lt_of_heap hS.box;go_simp
  exact hK _ rfl
 apply Lo.r0 5 rfl 0 (by intro u;conv=>lhs;whnf) rfl
 ·intro a w1 hR e0 K hK
  go_simp
  exact hK _ rfl
 refine Lo.df 6 rfl rfl [] (.func (.func 94) #[] #[.pointer (some ⟨w.heap.size,0,none⟩)]) (by kernel_rfl) (fun u w1 hR hF=>?_) (Turn.refl _) ?_
 ·clear hF
  refine⟨rfl,fun a ha K hK=>?_⟩;have e4:=ha 4;conv at e4=>rhs;whnf
  clear ha;go_simp
  exact hK _ rfl
 refine Lo.run 7 rfl rfl [4,5] (fun y _=>y= .int .i64 (m0:Nat)) (by kernel_rfl) (fun x w w' h hR=>?_) (fun _ _ h=>h) (fun u w1 hR hF=>?_) ?_
 ·exact h
 ·obtain⟨h4,h5, -⟩:=hF
  refine⟨rfl,fun a ha K hK=>?_⟩;have e18:=(ha 18).trans h4;have e19:=(ha 19).trans h5;clear ha h4 h5;go_simp
  have hw1:=hR.dr;refine(first_any _ base d sb _ file b0 _ (HB.out.jh.still (HT0.out.same hw1)) (by omega) 94 w.heap.size Ja (dh xs from') (fun i j=>DI KU.out from' i j) (fun Z hZ k hk=>?_)).mono ?_
  ·have hk':k<xs.length:=by rwa [hpl]at hk
   have e1:=Rk xs hk';rw[List.getElem?_eq_getElem hk]at e1;have e2:=Option.some.inj e1;rw[e2];have e3:dh xs from' k=decide (from'<xs[k].fin):=by simp[dh,List.getElem?_eq_getElem hk']
   rw[e3];exact O3 Z _ w.heap.size from' (hZ.heap (hw1.heap Uc.out (by simp)) (by simp))
  rintro e w2 ⟨⟨m,rfl,hm⟩,ht2⟩;rw[hpl]at hm;exact hK _ _ (by rw[GL hm HM0.out]) ht2
 refine Lo.df 8 rfl rfl [3,6] (.slice (O5 xa m0 xc) (xs.length-m0) (xc-m0)) (by kernel_rfl) (fun u w1 hR hF=>?_) (Turn.refl _) ?_
 ·obtain⟨h3,h6, -⟩:=hF
  refine⟨rfl,fun a ha K hK=>?_⟩;have e17:=(ha 17).trans h3;have e20:a.tmps.getD 20 undef=u 6:=ha 20;have h6:=(show(fun y _=>y= .int .i64 (m0:Nat)) (u 6) w1 from h6);dsimp only at h6;clear ha h3;rw[h6]at e20;have hsl:∀w,(Instr.slice 85 (.slice xa xs.length xc) (some (.int .i64 (m0:Int))) none none).run Tryz.prog w= .ok (.slice (O5 xa m0 xc) (xs.length-m0) (xc-m0)) w:=fun w=>O6 xa xs.length xc m0 aos w
  go_simp
  exact hK _ rfl
 refine Lo.df 9 rfl rfl [7] (.int .i64 ((xs.length-m0:Nat):Int)) (by kernel_rfl) (fun u w1 hR hF=>?_) (Turn.refl _) ?_
 ·obtain⟨h7, -⟩:=hF
  refine⟨rfl,fun a ha K hK=>?_⟩;have e21:=(ha 21).trans h7;clear ha h7;go_simp
  exact hK _ rfl
 apply Lo.lu 10 rfl rfl [] (by kernel_rfl) (Turn.refl _);apply Exists.intro;apply And.intro
 ·intro u w1 hR hF
  clear hF;refine⟨rfl,fun a ha K hK=>?_⟩;clear ha;go_simp
  exact hK _ rfl
 refine Lo.done [7,8,9] (fun u w1 bI hSd hF=>?_);clear hSd;obtain⟨f7,f8,f9, -⟩:=hF;have d7:u 7=_:=f7;have d8:u 8=_:=f8;have d9:u 9=_:=f9;clear f7 f8 f9;simp only[ax,Act.put,List.setIfInBounds_toArray,List.set_cons_succ,List.set_cons_zero,Nat.zero_add,Nat.reduceAdd,d7,d8,d9];have HT1:=hide (HT0.out.same bI.dr);obtain⟨nz,hnz⟩:∃nz,nz=xs.length-m0:=⟨_,rfl⟩;rw[←hnz];have HNZ:=hide hnz;obtain⟨zs,hzs⟩:∃zs,zs=xs.drop m0:=⟨_,rfl⟩;have YZ:=hide hzs;have hzl:zs.length=nz:=by rw[hzs,List.length_drop,hnz]
 have hzf:(flat zs).length≤(flat xs).length:=by
  have e:flat xs=flat (xs.take m0)++flat zs:=by rw[hzs,←aP,List.take_append_drop]
  have:=congrArg List.length e;rw[List.length_append]at this;omega
 have htf:∀k,(flat (zs.take k)).length≤(flat zs).length:=fun k=>by
  have e:flat zs=flat (zs.take k)++flat (zs.drop k):=by rw[←aP,List.take_append_drop]
  have:=congrArg List.length e;rw[List.length_append]at this;omega
 have Ud:=hide htf;have hwl:=HT1.out.size;clear d7 d8 d9 bI hnz hzs htf;go_wp2
 go_loopw [8,9,23] (fun lv s i wr=>∃(k:Nat) (ys:List BV),k≤nz∧i= .int .i64 k∧s= .int .i64 ((flat (zs.take k)).length:Nat)∧iG wr w.heap.size lv ys∧ys.map (·.x)=zs.take k∧(∀j,1≤j→j<k→((flat (zs.take (j+1))).length:Int)≤most)∧Turn [] w wr) (fun _ _ i _=>nz-(intOf i).toNat)
 case atStart=>exact⟨0,[],Nat.zero_le _,rfl,rfl,iG.nil _ _,rfl,fun j h1 h2=>absurd h2 (by omega),HT1.out⟩
 case round=>
  obtain⟨k,ys,hk,rfl,rfl,hbr,hym,hjs,ht⟩:=hrel;obtain⟨la,lc,hlv,hll,hlm⟩:=hbr.row.form;subst hlv;have hyl:ys.length=k:=by have:=congrArg List.length hym;rw[List.length_map,List.length_take]at this;omega
  have xm:=hide hbr;have HYM:=hide hym;have HJS:=hide hjs;have HT:=hide ht;have hkf:=Ud.out k;clear hbr hym hjs ht;by_cases hlt:k<nz
  ·have hj:m0+k<xs.length:=by have:=HNZ.out;omega
   obtain⟨x,hx⟩:∃x,x=xs[m0+k]:=⟨_,rfl⟩;have hkz:k<zs.length:=by rw[hzl];exact hlt
   have hzk:zs[k]'hkz=x:=by rw[hx];simp[YZ.out]
   have WS:(flat (zs.take (k+1))).length=(flat (zs.take k)).length+(Bt.ah x).length:=by
    rw[List.take_succ_eq_append_getElem hkz,aP,List.length_append,gB,hzk]
   have hps:(dV 0 (-1) xs)[m0+k]? =some ⟨(flat (xs.take (m0+k))).length,(Bt.ah x).length,Cr.sum (Bt.ah x),x.fin,qx (-1) (xs.take (m0+k+1))⟩:=by rw[hx];exact Rk xs hj
   have hj':m0+k<(dV 0 (-1) xs).length:=by omega
   rw[List.getElem?_eq_getElem hj']at hps;obtain⟨p,hp⟩:∃p:Pl,p=⟨(flat (xs.take (m0+k))).length,(Bt.ah x).length,Cr.sum (Bt.ah x),x.fin,qx (-1) (xs.take (m0+k+1))⟩:=⟨_,rfl⟩;rw[←hp]at hps;have akE:=Option.some.inj hps;obtain⟨g,cap,e,hc,_⟩:=(HB.out.jh.still HT.out).row.at wJ hj';rw[akE,hpl]at*;simp only[Value.slice.injEq,true_and]at e;obtain⟨rfl,rfl⟩:=e;have Y0:O5 (some ⟨g,0,none⟩) m0 xc=some ⟨g,m0*5,none⟩:=by
    unfold O5;rw[if_neg (by omega)];simp[addr_add]
   rw[Y0];have hml:(m0+k)*5=m0*5+k*5:=Nat.add_mul _ _ _;rw[hml]at hc;have k0:wr.cell? ⟨g,m0*5+k*5,none⟩=some (.int .i64 p.at):=hc 0 (by omega);have k1:wr.cell? ⟨g,m0*5+k*5+1,none⟩=some (.int .i64 p.size):=hc 1 (by omega);have k2:wr.cell? ⟨g,m0*5+k*5+2,none⟩=some (.int .i64 p.sum):=hc 2 (by omega);have k3:wr.cell? ⟨g,m0*5+k*5+3,none⟩=some (.int .i64 p.fin):=hc 3 (by omega);have k4:wr.cell? ⟨g,m0*5+k*5+4,none⟩=some (.int .i64 p.latest):=hc 4 (by omega);have WT:p.size=(Bt.ah x).length:=by rw[hp]
   have akF:((flat (zs.take k)).length:Int)+(p.size:Int)=((flat (zs.take (k+1))).length:Nat):=by rw[WT,WS];omega
   have atX:=Ud.out (k+1);have hkl:(k:Int)<nz:=by omega
   have HP:=hide hp;have HX:=hide hx;have HZK:=hide hzk;have atZ:=hide akF;have aow:=hide WS;have HPS:=hide WT;clear hp hx hzk hc Y0 hml hps akE hj' WS WT;by_cases UG:0<k∧most<((flat (zs.take (k+1))).length:Int)
   ·obtain⟨hb1,hb2⟩:=UG
    have at6:(0:Int)<(ys.length:Int):=by omega
    have HYL:=hide hyl;have HB1:=hide hb1;have HB2:=hide hb2;clear hyl hpl hb1;go_wp2
    refine bodyPost_ret (v:= .tuple #[.slice la ys.length lc, .nilIface]) (by simp[results,Tryz.results59]) rfl ⟨_,ys,m0,k,rfl,HM0.out,xm.out.still ((Turn.refl [] wr).alloc _),?_,?_,HT.out.alloc _⟩
    ·rw[HYM.out,←YZ.out]
    ·rw[←YZ.out]
     exact⟨by omega,HJS.out,fun _=>⟨HB1.out,HB2.out⟩⟩
   ·have aiY:(¬(0:Int)<(ys.length:Int))∨((0:Int)<(ys.length:Int)∧¬most<((flat (zs.take (k+1))).length:Int)):=by
     by_cases h0:0<k
     ·exact .inr ⟨by omega,fun h=>UG ⟨h0,h⟩⟩
     ·exact .inl (by omega)
    have HYL:=hide hyl;have at7:=hide UG;clear hyl hpl UG;rcases aiY with hcs|⟨hcs,ahG⟩
    all_goals
     have hta:Turn [] w (wr.alloc (.cells #[.int .i64 p.at, .int .i64 p.size, .int .i64 p.sum, .int .i64 p.fin, .int .i64 p.latest] 110)):=HT.out.alloc _;have hba:=O4 _ base d F A sb _ file b0 _ (HB.out.still hta) hfs f HF.out p x (by rw[HX.out];exact KU.out.mem _ (List.getElem_mem _)) (by rw[WR.out,HP.out,HX.out];exact RJ hj) (by rw[HP.out]) (by rw[HPS.out];have:=aow.out;omega);rw[show zU p= .agg #[.int .i64 p.at, .int .i64 p.size, .int .i64 p.sum, .int .i64 p.fin, .int .i64 p.latest]from rfl]at hba;have Aa:=hide hba;have UH:=hide hta;clear hba hta;go_wp2_with fail
     refine Aa.out.mono ?_;rintro e w4 ⟨rv,rfl,aaK,hfr,ht4⟩;obtain⟨ra,rc,TZ, -⟩:=aaK.form;subst TZ;have h46:Turn [] w4 ((w4.alloc (.cells #[.int .i64 x.base, .int .i64 x.fin, .slice ra x.recs.length rc] 71)).alloc (.cells #[.int .i64 x.base, .int .i64 x.fin, .slice ra x.recs.length rc] 71)):=((Turn.refl [] w4).alloc _).alloc _;have hr4:Turn [] wr w4:=((Turn.refl [] wr).alloc _).same ht4;have hk6:((w4.alloc (.cells #[.int .i64 x.base, .int .i64 x.fin, .slice ra x.recs.length rc] 71)).alloc (.cells #[.int .i64 x.base, .int .i64 x.fin, .slice ra x.recs.length rc] 71)).heap[w4.heap.size+1]? =some (.cells (uD ⟨x,ra,x.recs.length,rc⟩).toArray 71 (0,0)):=by
      have:=ai (w4.alloc (.cells #[.int .i64 x.base, .int .i64 x.fin, .slice ra x.recs.length rc] 71)) (.cells #[.int .i64 x.base, .int .i64 x.fin, .slice ra x.recs.length rc] 71);rwa [World.size_alloc]at this
     obtain⟨v7,w7,hr7,aai,ht7,aaq⟩:=UF _ w.heap.size (.slice la ys.length lc) ys ⟨x,ra,x.recs.length,rc⟩ (w4.heap.size+1) ((xm.out.row.still hr4).still h46) hk6 (by have:=HYL.out;omega) (by have:=UH.out.size;have:=ht4.size;have:=HT.out.size;simp at*;omega);have sS:=hide (aaK.still h46);have aua:=hide aaK.lt;have Uc:=hide hfr;have adD:=hide aaq;have HS6:=hide h46.size;have HR7:=hide hr7;have lF:=hide aai;have HT7:=hide ht7;have HW6:=hide (hr4.same h46);have aoy:=hide ((HT.out.same (hr4.same h46)).trans ht7 (fun k hk=> .inr (by have:=(xm.out.row.lt k (by simpa using hk)).1;omega)));clear Aa aaK ht4 h46 hr4 hk6 hr7 aai ht7 aaq hfr;go_wp2_with (at_builtin;go_must (refine bU rfl rfl rfl rfl HR7.out ?_))
     have hwr:=HT.out.size;have aud:=HS6.out;have hbl:=xm.out.row.lt;have aue:=UH.out.size;have hnb:∀k∈(Value.slice la ys.length lc).ownBlock,k<wr.heap.size:=fun k hk=>(hbl k hk).2
     have hrw:=sS.out.lt;refine⟨⟨k+1,ys++[⟨x,ra,x.recs.length,rc⟩],hlt,by go_num,rfl,⟨lF.out,fun y hy=>?_,fun y hy=>?_,?_⟩,?_,fun j h1 h2=>?_,aoy.out⟩,?_⟩
     ·rcases List.mem_append.1 hy with hy|hy
      ·exact((xm.out.recs y hy).still HW6.out).kept HT7.out (fun k hk hm=>GM xm.out.row (xm.out.recs y hy) k hk (by simpa using hm))
      ·obtain rfl:=List.mem_singleton.1 hy
       refine(sS.out.kept HT7.out (fun k hk hm=>?_)).jA (by simp;omega);have h1:=(hrw k hk).1;have h2:=hnb k (by simpa using hm);simp at h1;omega
     ·rcases List.mem_append.1 hy with hy|hy
      ·exact xm.out.ok y hy
      ·obtain rfl:=List.mem_singleton.1 hy
       exact Uc.out
     ·rw[List.pairwise_append]
      refine⟨xm.out.apart,by simp,fun y hy z hz k hk hm=>?_⟩;obtain rfl:=List.mem_singleton.1 hz;have h1:=((xm.out.recs y hy).lt k hk).2;have h2:=(hrw k hm).1;simp at h2;omega
     ·rw[List.map_append,HYM.out,List.take_succ_eq_append_getElem hkz,HZK.out];rfl
     ·by_cases hjk:j<k
      ·exact HJS.out j h1 hjk
      ·obtain rfl:j=k:=by omega
       first
       |exact ahG
       |exact absurd HYL.out (by omega)
     ·simp only[intOf];omega
  ·obtain rfl:k=nz:=by omega
   go_wp2
   refine bodyPost_ret (v:= .tuple #[.slice la ys.length lc, .nilIface]) (by simp[results,Tryz.results59]) rfl ⟨_,ys,m0,zs.length,rfl,HM0.out,xm.out,?_,?_,HT.out⟩
   ·rw[HYM.out,←YZ.out,hzl]
   ·rw[←YZ.out]
    exact⟨Nat.le_refl _,fun j h1 h2=>HJS.out j h1 (by omega),fun h=>absurd h (by omega)⟩
theorem DJ(w:World)(base d:Nat)(F:List Nat)(A:DA)(sb:Nat)(sv:Value)(file:ByteArray)(b0:Int)(xs:List Bt.aB)(h:Both w base d F A sb sv file b0 (dV 0 (-1) xs))(hfs:file.size≤maxLen)(f:Dk.FA)(hf:A.file file.data.toList=some f)(hfb:f.bytes=flat xs)(hch:Chain b0 xs)
 (from' most:Int)(hmo: -9223372036854775808≤most∧most≤9223372036854775807):
 Calls Tryz.prog 59 #[.pointer (some ⟨sb,0,none⟩), .int .i64 from', .int .i64 most] w fun e w'=>∃lv ys m k,e= .returned (.tuple #[lv, .nilIface])∧Least xs.length (dh xs from') m∧EF w' w.heap.size lv ys∧ys.map (·.x)=(xs.drop m).take k∧WO most (xs.drop m) k∧Turn [] w w':=
 (Jb w base d F A sb sv file b0 xs h hfs f hf hfb hch from' most hmo).mono fun e w' ⟨lv,ys,m,k,h1,h2,h3,h4,h5,h6⟩=>⟨lv,ys,m,k,h1,h2,h3.toB,h4,h5,h6⟩
end Sg
end
section
open Go.RowKit Go.Maps
set_option maxRecDepth 100000
set_option linter.unusedSimpArgs false
set_option linter.unusedVariables false
attribute [local go_sem] Oper.semAt_some
open Sg (EF BV uD jm)
namespace Lg
def dY(fr:Int)(rs:List Bt.Rec):List Bt.Rec:=rs.filter (fun r=>decide (fr≤r.off))
def aZ(fr:Int)(xs:List Bt.aB):List Bt.Rec:=xs.flatMap (fun x=>dY fr x.recs)
theorem Jc(fr:Int)(xs:List Bt.aB){k:Nat}(hk:k<xs.length):aZ fr (xs.take (k+1))=aZ fr (xs.take k)++dY fr xs[k].recs:=by
 unfold aZ;rw[List.take_succ_eq_append_getElem hk,List.flatMap_append];simp
theorem KW(fr:Int)(rs:List Bt.Rec){k:Nat}(hk:k<rs.length):dY fr (rs.take (k+1))=dY fr (rs.take k)++(if fr≤rs[k].off then [rs[k]]else []):=by
 unfold dY;rw[List.take_succ_eq_append_getElem hk,List.filter_append];simp only[List.filter_cons,List.filter_nil,decide_eq_true_eq]
theorem xI(fr:Int):∀xs:List Bt.aB,(aZ fr xs).length≤(xs.flatMap (·.recs)).length
 |[]=>by simp[aZ]
 |x::r=>by
  have h:=xI fr r;unfold aZ at h⊢;rw[List.flatMap_cons,List.flatMap_cons,List.length_append,List.length_append];have:=List.length_filter_le (fun r:Bt.Rec=>decide (fr≤r.off)) x.recs;unfold dY at*;omega
theorem NM(xs:List Bt.aB)(k:Nat)(hk:k<xs.length):((xs.take k).flatMap (·.recs)).length+xs[k].recs.length≤(xs.flatMap (·.recs)).length:=by
 have e:xs=xs.take k++xs[k]::xs.drop (k+1):=by rw[←List.drop_eq_getElem_cons hk,List.take_append_drop]
 have h:(xs.flatMap (·.recs)).length=((xs.take k++xs[k]::xs.drop (k+1)).flatMap (·.recs)).length:=congrArg (fun l:List Bt.aB=>(l.flatMap (·.recs)).length) e;rw[h,List.flatMap_append,List.flatMap_cons,List.length_append,List.length_append];omega
theorem Fp(w:World)(base:Nat)(lv:Value)(ys:List BV)(h:EF w base lv ys)(fr:Int)(hyl:ys.length≤1000000)(hT:((ys.map (·.x)).flatMap (·.recs)).length≤900000):
 Calls Tryz.prog 60 #[lv, .int .i64 fr] w fun e w'=>∃ov,e= .returned ov∧aO 52 6 recC w' w.heap.size ov (aZ fr (ys.map (·.x)))∧Turn [] w w':=by
 obtain⟨la,lc,hlv,KX,KY⟩:=h.row.form;subst hlv;have hmx:maxLen=9223372036854775807:=by simp[maxLen]
 rw[hmx]at KY;have H:=hide h;obtain⟨xs,hxs⟩:∃xs,xs=ys.map (fun y:BV=>y.x):=⟨_,rfl⟩;have hT':(xs.flatMap (·.recs)).length≤900000:=by rw[hxs];exact hT
 have HTT:=hide hT';have KJ:=hide hxs;obtain⟨N,hN⟩:∃N,N=ys.length:=⟨_,rfl⟩;rw[←hN]at KX hyl;have HN:=hide hN;clear h hT hT';rw[←hN,←hxs];clear hxs;clear hN;go_enter Tryz.func60,Tryz.ntmps60
 go_wp2
 go_loopw [5,12] (fun ov kv wr=>∃k:Nat,k≤N∧kv= .int .i64 k∧aO 52 6 recC wr w.heap.size ov (aZ fr (xs.take k))∧Turn [] w wr) (fun _ kv _=>N-(intOf kv).toNat)
 case atStart=>exact⟨0,Nat.zero_le _,rfl, .inl ⟨rfl,by simp[aZ]⟩,Turn.refl _ _⟩
 case round=>
  obtain⟨k,hk,rfl,Pe,htw⟩:=hrel;have dI:=hide Pe;have dO:=hide htw;obtain⟨oa,oc,hov, -, -⟩:=Pe.form;subst hov;clear Pe htw;by_cases hlt:k<N
  ·have hky:k<ys.length:=by rw[←HN.out];exact hlt
   obtain⟨g,cap,e,hc, -⟩:=(H.out.still dO.out).row.at jm (j:=k) hky;rw[←HN.out]at e;simp only[Value.slice.injEq,true_and]at e;obtain⟨rfl,rfl⟩:=e;obtain⟨y,hy⟩:∃y,y=ys[k]:=⟨_,rfl⟩;rw[←hy]at hc;have c0:wr.cell? ⟨g,k*3,none⟩=some (.int .i64 y.x.base):=hc 0 (by omega);have c1:wr.cell? ⟨g,k*3+1,none⟩=some (.int .i64 y.x.fin):=hc 1 (by omega);have c2:wr.cell? ⟨g,k*3+2,none⟩=some (.slice y.a y.n y.c):=hc 2 (by omega);have aaK:bF w y.sl y.x.recs:=H.out.recs y (by rw[hy];exact List.getElem_mem _);obtain⟨ra,rc,hyv,Dw,wK, -⟩:=aaK.form;obtain⟨rs,hrs⟩:∃rs,rs=y.x.recs:=⟨_,rfl⟩;have hsl:y.a=ra∧y.n=rs.length∧y.c=rc:=by
    unfold BV.sl at hyv;simp only[Value.slice.injEq]at hyv;rw[hrs];exact hyv
   have hkx:k<xs.length:=by rw[KJ.out,List.length_map];exact hky
   have hxk:xs[k].recs=rs:=by
    have e1:xs[k]? =some y.x:=by rw[KJ.out,List.getElem?_map,List.getElem?_eq_getElem hky,←hy];rfl
    rw[List.getElem?_eq_getElem hkx]at e1;rw[Option.some.inj e1,hrs]
   have hsn:=Jc fr xs (k:=k) hkx;have htl:=NM xs k hkx;rw[hxk]at hsn htl;rw[hsl.1,hsl.2.1,hsl.2.2]at c2;rw[hyv,←hrs]at aaK;rw[←hrs]at Dw;rw[hmx]at wK;have hsL:=xI fr (xs.take k);have xJ:=hide hsn;have sS:=hide aaK;have hrt:rs.length≤900000:=by have:=HTT.out;omega
   have agG:(aZ fr (xs.take k)).length+rs.length≤900000:=by have:=HTT.out;omega
   obtain⟨acc,hac⟩:∃acc,acc=aZ fr (xs.take k):=⟨_,rfl⟩;rw[←hac]at dI agG xJ⊢;have HAC:=hide hac;clear hkx hc hsn htl hsL hac hxk hsl hyv hrs hy aaK;go_wp2
   go_loopw [5,19] (fun ov jv wi=>∃j:Nat,j≤rs.length∧jv= .int .i64 j∧aO 52 6 recC wi w.heap.size ov (acc++dY fr (rs.take j))∧Turn [] w wi) (fun _ jv _=>rs.length-(intOf jv).toNat)
   case atStart=>exact⟨0,Nat.zero_le _,rfl,by simpa[dY]using dI.out.still ((Turn.refl [] wr).alloc _),dO.out.alloc _⟩
   case round=>
    obtain⟨j,hj,rfl,Pe,hti⟩:=hrel;have RN:=hide Pe;have UI:=hide hti;obtain⟨oa2,oc2,agH, -, -⟩:=Pe.form;subst agH;clear Pe hti;by_cases hjl:j<rs.length
    ·obtain⟨p,rfl⟩:∃p,ra=some p:=by
      obtain⟨a',c',e, -, -, -,h4⟩:=sS.out;simp only[Value.slice.injEq]at e;obtain⟨-,p,hp, -⟩:=h4 j hjl;exact⟨p,e.1.trans hp⟩
     obtain⟨g0,g1,g2,g3,g4,g5⟩:=(sS.out.still UI.out).six hjl;obtain⟨r,hr⟩:∃r,r=rs[j]:=⟨_,rfl⟩;have hfs:=KW fr rs hjl;have hfl:(dY fr (rs.take j)).length≤j:=by
      have:=List.length_filter_le (fun r:Bt.Rec=>decide (fr≤r.off)) (rs.take j);rw[List.length_take]at this;unfold dY;omega
     rw[←hr]at g0 g1 g2 g3 g4 g5 hfs;have WU:=hide hfs;clear hr hfs;by_cases hge:fr≤r.off
     ·have hw7:Turn [] wr ((wr.alloc (.cells #[.int .i64 r.off, .int .i64 r.time, .bool r.keyed, .string ⟨r.key.toArray⟩, .bool r.gone, .string ⟨r.value.toArray⟩] 52)).alloc (.cells #[.int .i64 r.off, .int .i64 r.time, .bool r.keyed, .string ⟨r.key.toArray⟩, .bool r.gone, .string ⟨r.value.toArray⟩] 52)):=((Turn.refl [] wr).alloc _).alloc _
      have hk7:((wr.alloc (.cells #[.int .i64 r.off, .int .i64 r.time, .bool r.keyed, .string ⟨r.key.toArray⟩, .bool r.gone, .string ⟨r.value.toArray⟩] 52)).alloc (.cells #[.int .i64 r.off, .int .i64 r.time, .bool r.keyed, .string ⟨r.key.toArray⟩, .bool r.gone, .string ⟨r.value.toArray⟩] 52)).heap[wr.heap.size+1]? =some (.cells (recC r).toArray 52 (0,0)):=by
       have:=ai (wr.alloc (.cells #[.int .i64 r.off, .int .i64 r.time, .bool r.keyed, .string ⟨r.key.toArray⟩, .bool r.gone, .string ⟨r.value.toArray⟩] 52)) (.cells #[.int .i64 r.off, .int .i64 r.time, .bool r.keyed, .string ⟨r.key.toArray⟩, .bool r.gone, .string ⟨r.value.toArray⟩] 52);rwa [World.size_alloc]at this
      obtain⟨v7,w7,hr7,aai,ht7, -⟩:=sJ _ w.heap.size (.slice oa2 (acc++dY fr (rs.take j)).length oc2) (acc++dY fr (rs.take j)) r (wr.heap.size+1) (RN.out.still hw7) hk7 (by rw[List.length_append];omega) (by have:=(UI.out.same hw7).size;exact this);have lF:=hide aai;have aau:∀q∈(Value.slice oa2 (acc++dY fr (rs.take j)).length oc2).ownBlock.toList,w.heap.size≤q:=fun q hq=>(RN.out.lt q (by simpa using hq)).1
      have HT7:=hide ((UI.out.same hw7).trans ht7 (fun q hq=> .inr (aau q hq)));have HR7:=hide hr7;clear hw7 hk7 hr7 aai ht7 aau hfl;go_wp2_with (at_builtin;go_must (refine bU rfl rfl rfl rfl HR7.out ?_))
      all_goals refine⟨⟨j+1,by omega,by go_num,?_,HT7.out⟩,?_⟩
      all_goals first|(simp only[intOf];omega)|(rw[WU.out,if_pos hge,←List.append_assoc];exact lF.out)
     ·have HGE:=hide hge
      clear hfl;go_wp2
      all_goals refine⟨⟨j+1,by omega,by go_num,?_,UI.out.alloc _⟩,?_⟩
      all_goals first|(simp only[intOf];omega)|(rw[WU.out,if_neg HGE.out,List.append_nil];exact RN.out.still ((Turn.refl [] wr).alloc _))
    ·obtain rfl:j=rs.length:=by omega
     rw[List.take_length]at RN⊢;go_wp2
     all_goals refine⟨⟨k+1,by omega,by go_num,?_,UI.out⟩,?_⟩
     all_goals first|(simp only[intOf];omega)|(rw[xJ.out];exact RN.out)
  ·obtain rfl:k=N:=by omega
   have htk:xs.take k=xs:=List.take_of_length_le (by rw[KJ.out,List.length_map,HN.out];exact Nat.le_refl _);rw[htk]at dI⊢;clear htk;go_wp2
   go_ret
   exact⟨_,rfl,dI.out,dO.out⟩
end Lg
end
end Go.Proofs.YtficbckncieabaaGreatDoor
