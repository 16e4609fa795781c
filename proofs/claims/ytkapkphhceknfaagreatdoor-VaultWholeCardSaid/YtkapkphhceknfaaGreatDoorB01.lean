/-
  Part of the proof of SumTells: where the library's functions lie in this program.
  Part of the proof: plain facts on 32-bit numbers and their integers.
  Part of the proof: a block of cells that holds a known array: loads, stores and conversions over it.
-/
import Derived.Shelf.Strings.Builder1
import Derived.Shelf.Strings.Builder2
import Derived.Shelf.Strings.Repeat
import Derived.Test.YtkapkphhceknfaaGreatDoorProg
import Derived.WalkKit
import Derived.Test.YtkapkphhceknfaaGreatDoorRows
import Derived.WalkSpells
import Derived.WalkLawsBesides
import Derived.Deep.QuietTactic
import Derived.BigQuiet
import Derived.RegionTactic
import Derived.BigRegion
import Derived.Deep.Light
import Derived.StillTailTactics
namespace Go.Proofs.YtkapkphhceknfaaGreatDoor.Sm
open Go.Shelf Go.RowKit
def lr : Go.Shelf.Ren := ⟨fun | 105 => 95 | 212 => 110 | 99 => 88 | 165 => 76 | 166 => 78 | 170 => 111 | 169 => 79 | 263 => 120 | 264 => 121 | 206 => 102 | 240 => 96 | 241 => 97 | 276 => 112 | 277 => 113 | 167 => 77 | n => n, fun | 46 => 66 | 109 => 182 | 72 => 150 | 76 => 152 | 51 => 155 | 146 => 191 | 53 => 146 | 148 => 193 | 70 => 148 | 37 => 87 | 75 => 36 | 127 => 171 | 164 => 98 | 80 => 154 | n => n, fun | n => n⟩
theorem lays105 : Go.Proofs.Lays.n105 Tryz.prog lr := {
  mixed := by kernel_rfl
  f99 := Tryz.func88.trans (congrArg some (by kernel_rfl))
  f105 := Tryz.func95.trans (congrArg some (by kernel_rfl))
  f165 := Tryz.func76.trans (congrArg some (by kernel_rfl))
  f166 := Tryz.func78.trans (congrArg some (by kernel_rfl))
  f169 := Tryz.func79.trans (congrArg some (by kernel_rfl))
  f170 := Tryz.func111.trans (congrArg some (by kernel_rfl))
  f206 := Tryz.func102.trans (congrArg some (by kernel_rfl))
  f212 := Tryz.func110.trans (congrArg some (by kernel_rfl))
  f240 := Tryz.func96.trans (congrArg some (by kernel_rfl))
  f241 := Tryz.func97.trans (congrArg some (by kernel_rfl))
  f263 := Tryz.func120.trans (congrArg some (by kernel_rfl))
  f264 := Tryz.func121.trans (congrArg some (by kernel_rfl))
  f276 := Tryz.func112.trans (congrArg some (by kernel_rfl))
  f277 := Tryz.func113.trans (congrArg some (by kernel_rfl))
  t0 := Tryz.underlying0
  a0 := Tryz.isAgg0
  z0 := Tryz.sizeOf0
  v0 := Tryz.zeroValue0
  t3 := Tryz.underlying3
  a3 := Tryz.isAgg3
  z3 := Tryz.sizeOf3
  v3 := Tryz.zeroValue3
  t4 := Tryz.underlying4
  a4 := Tryz.isAgg4
  z4 := Tryz.sizeOf4
  v4 := Tryz.zeroValue4
  t5 := Tryz.underlying5
  a5 := Tryz.isAgg5
  z5 := Tryz.sizeOf5
  v5 := Tryz.zeroValue5
  t9 := Tryz.underlying9
  a9 := Tryz.isAgg9
  z9 := Tryz.sizeOf9
  v9 := Tryz.zeroValue9
  t20 := Tryz.underlying20
  a20 := Tryz.isAgg20
  z20 := Tryz.sizeOf20
  v20 := Tryz.zeroValue20
  t37 := Tryz.underlying87
  a37 := Tryz.isAgg87
  z37 := Tryz.sizeOf87
  v37 := Tryz.zeroValue87
  t46 := Tryz.underlying66
  a46 := Tryz.isAgg66
  z46 := Tryz.sizeOf66
  v46 := Tryz.zeroValue66
  t51 := Tryz.underlying155
  a51 := Tryz.isAgg155
  z51 := Tryz.sizeOf155
  v51 := Tryz.zeroValue155
  t53 := Tryz.underlying146
  a53 := Tryz.isAgg146
  z53 := Tryz.sizeOf146
  v53 := Tryz.zeroValue146
  t70 := Tryz.underlying148
  a70 := Tryz.isAgg148
  z70 := Tryz.sizeOf148
  v70 := Tryz.zeroValue148
  t72 := Tryz.underlying150
  a72 := Tryz.isAgg150
  z72 := Tryz.sizeOf150
  v72 := Tryz.zeroValue150
  t75 := Tryz.underlying36
  a75 := Tryz.isAgg36
  z75 := Tryz.sizeOf36
  v75 := Tryz.zeroValue36
  t76 := Tryz.underlying152
  a76 := Tryz.isAgg152
  z76 := Tryz.sizeOf152
  v76 := Tryz.zeroValue152
  t109 := Tryz.underlying182
  a109 := Tryz.isAgg182
  z109 := Tryz.sizeOf182
  v109 := Tryz.zeroValue182
  t127 := Tryz.underlying171
  a127 := Tryz.isAgg171
  z127 := Tryz.sizeOf171
  v127 := Tryz.zeroValue171
  t146 := Tryz.underlying191
  a146 := Tryz.isAgg191
  z146 := Tryz.sizeOf191
  v146 := Tryz.zeroValue191
  t148 := Tryz.underlying193
  a148 := Tryz.isAgg193
  z148 := Tryz.sizeOf193
  v148 := Tryz.zeroValue193
  t164 := Tryz.underlying98
  a164 := Tryz.isAgg98
  z164 := Tryz.sizeOf98
  v164 := Tryz.zeroValue98 }
theorem lays167 : Go.Proofs.Lays.n167 Tryz.prog lr := {
  mixed := by kernel_rfl
  f167 := Tryz.func77.trans (congrArg some (by kernel_rfl))
  f240 := Tryz.func96.trans (congrArg some (by kernel_rfl))
  f276 := Tryz.func112.trans (congrArg some (by kernel_rfl))
  t0 := Tryz.underlying0
  a0 := Tryz.isAgg0
  z0 := Tryz.sizeOf0
  v0 := Tryz.zeroValue0
  t4 := Tryz.underlying4
  a4 := Tryz.isAgg4
  z4 := Tryz.sizeOf4
  v4 := Tryz.zeroValue4
  t5 := Tryz.underlying5
  a5 := Tryz.isAgg5
  z5 := Tryz.sizeOf5
  v5 := Tryz.zeroValue5
  t9 := Tryz.underlying9
  a9 := Tryz.isAgg9
  z9 := Tryz.sizeOf9
  v9 := Tryz.zeroValue9
  t20 := Tryz.underlying20
  a20 := Tryz.isAgg20
  z20 := Tryz.sizeOf20
  v20 := Tryz.zeroValue20
  t37 := Tryz.underlying87
  a37 := Tryz.isAgg87
  z37 := Tryz.sizeOf87
  v37 := Tryz.zeroValue87
  t70 := Tryz.underlying148
  a70 := Tryz.isAgg148
  z70 := Tryz.sizeOf148
  v70 := Tryz.zeroValue148
  t72 := Tryz.underlying150
  a72 := Tryz.isAgg150
  z72 := Tryz.sizeOf150
  v72 := Tryz.zeroValue150
  t75 := Tryz.underlying36
  a75 := Tryz.isAgg36
  z75 := Tryz.sizeOf36
  v75 := Tryz.zeroValue36
  t164 := Tryz.underlying98
  a164 := Tryz.isAgg98
  z164 := Tryz.sizeOf98
  v164 := Tryz.zeroValue98 }
theorem lays166 : Go.Proofs.Lays.n166 Tryz.prog lr := {
  mixed := by kernel_rfl
  f166 := Tryz.func78.trans (congrArg some (by kernel_rfl))
  f240 := Tryz.func96.trans (congrArg some (by kernel_rfl))
  f276 := Tryz.func112.trans (congrArg some (by kernel_rfl))
  t0 := Tryz.underlying0
  a0 := Tryz.isAgg0
  z0 := Tryz.sizeOf0
  v0 := Tryz.zeroValue0
  t3 := Tryz.underlying3
  a3 := Tryz.isAgg3
  z3 := Tryz.sizeOf3
  v3 := Tryz.zeroValue3
  t4 := Tryz.underlying4
  a4 := Tryz.isAgg4
  z4 := Tryz.sizeOf4
  v4 := Tryz.zeroValue4
  t9 := Tryz.underlying9
  a9 := Tryz.isAgg9
  z9 := Tryz.sizeOf9
  v9 := Tryz.zeroValue9
  t20 := Tryz.underlying20
  a20 := Tryz.isAgg20
  z20 := Tryz.sizeOf20
  v20 := Tryz.zeroValue20
  t37 := Tryz.underlying87
  a37 := Tryz.isAgg87
  z37 := Tryz.sizeOf87
  v37 := Tryz.zeroValue87
  t70 := Tryz.underlying148
  a70 := Tryz.isAgg148
  z70 := Tryz.sizeOf148
  v70 := Tryz.zeroValue148
  t72 := Tryz.underlying150
  a72 := Tryz.isAgg150
  z72 := Tryz.sizeOf150
  v72 := Tryz.zeroValue150
  t75 := Tryz.underlying36
  a75 := Tryz.isAgg36
  z75 := Tryz.sizeOf36
  v75 := Tryz.zeroValue36
  t164 := Tryz.underlying98
  a164 := Tryz.isAgg98
  z164 := Tryz.sizeOf98
  v164 := Tryz.zeroValue98 }
theorem lays165 : Go.Proofs.Lays.n165 Tryz.prog lr := {
  mixed := by kernel_rfl
  f165 := Tryz.func76.trans (congrArg some (by kernel_rfl))
  f240 := Tryz.func96.trans (congrArg some (by kernel_rfl))
  f241 := Tryz.func97.trans (congrArg some (by kernel_rfl))
  f276 := Tryz.func112.trans (congrArg some (by kernel_rfl))
  f277 := Tryz.func113.trans (congrArg some (by kernel_rfl))
  t0 := Tryz.underlying0
  a0 := Tryz.isAgg0
  z0 := Tryz.sizeOf0
  v0 := Tryz.zeroValue0
  t3 := Tryz.underlying3
  a3 := Tryz.isAgg3
  z3 := Tryz.sizeOf3
  v3 := Tryz.zeroValue3
  t4 := Tryz.underlying4
  a4 := Tryz.isAgg4
  z4 := Tryz.sizeOf4
  v4 := Tryz.zeroValue4
  t9 := Tryz.underlying9
  a9 := Tryz.isAgg9
  z9 := Tryz.sizeOf9
  v9 := Tryz.zeroValue9
  t20 := Tryz.underlying20
  a20 := Tryz.isAgg20
  z20 := Tryz.sizeOf20
  v20 := Tryz.zeroValue20
  t37 := Tryz.underlying87
  a37 := Tryz.isAgg87
  z37 := Tryz.sizeOf87
  v37 := Tryz.zeroValue87
  t70 := Tryz.underlying148
  a70 := Tryz.isAgg148
  z70 := Tryz.sizeOf148
  v70 := Tryz.zeroValue148
  t72 := Tryz.underlying150
  a72 := Tryz.isAgg150
  z72 := Tryz.sizeOf150
  v72 := Tryz.zeroValue150
  t164 := Tryz.underlying98
  a164 := Tryz.isAgg98
  z164 := Tryz.sizeOf98
  v164 := Tryz.zeroValue98 }
theorem lays169 : Go.Proofs.Lays.n169 Tryz.prog lr := {
  mixed := by kernel_rfl
  f169 := Tryz.func79.trans (congrArg some (by kernel_rfl))
  t0 := Tryz.underlying0
  a0 := Tryz.isAgg0
  z0 := Tryz.sizeOf0
  v0 := Tryz.zeroValue0
  t3 := Tryz.underlying3
  a3 := Tryz.isAgg3
  z3 := Tryz.sizeOf3
  v3 := Tryz.zeroValue3
  t9 := Tryz.underlying9
  a9 := Tryz.isAgg9
  z9 := Tryz.sizeOf9
  v9 := Tryz.zeroValue9
  t37 := Tryz.underlying87
  a37 := Tryz.isAgg87
  z37 := Tryz.sizeOf87
  v37 := Tryz.zeroValue87
  t70 := Tryz.underlying148
  a70 := Tryz.isAgg148
  z70 := Tryz.sizeOf148
  v70 := Tryz.zeroValue148
  t72 := Tryz.underlying150
  a72 := Tryz.isAgg150
  z72 := Tryz.sizeOf150
  v72 := Tryz.zeroValue150
  t127 := Tryz.underlying171
  a127 := Tryz.isAgg171
  z127 := Tryz.sizeOf171
  v127 := Tryz.zeroValue171 }
theorem extra : Builder.Extra Tryz.prog lr := {
  sizeBuilder := by kernel_rfl
  liesBuilder := by kernel_rfl
  t5 := Tryz.underlying5
  a5 := Tryz.isAgg5
  z5 := Tryz.sizeOf5
  v5 := Tryz.zeroValue5
  infoByte := by kernel_rfl
  cellsByte := by kernel_rfl
  sizeByte := by kernel_rfl
  neB5 := by decide }
theorem c_repeat (s : ByteArray) (c : Nat) (w : World) (hc : c ≤ 9223372036854775807) (hlen : s.size * c ≤ 140737488355328) :
    Calls Tryz.prog 95 #[.string s, .int .i64 c] w fun e w' => e = .returned (.string ⟨(Lib.repeatL s.data.toList c).toArray⟩) ∧ Below w.heap.size w w' := Any.strings_Repeat lays105 extra s c w hc hlen
theorem c_grow (B b n : Nat) (w : World) (hB : B ≤ b) (hbk : w.heap[b]? = some (.cells #[.pointer none, .slice none 0 0] 150 (0, 0))) (hBw : B ≤ w.heap.size) (hn : n ≤ 281474976710656) :
    Calls Tryz.prog 76 #[.pointer (some ⟨b, 0, none⟩), .int .i64 n] w fun e w' => e = .returned (.tuple #[]) ∧ (Lib.BuilderAt 150 5 B b (.pointer (some ⟨b, 0, none⟩)) [] w' ∧ Below B w w') := Any.Builder_Grow_fresh lays165 extra B b n w hB hbk hBw hn
theorem c_writeByte (B b : Nat) (bs : List Value) (c : Int) (w : World) (h : Lib.IsBuilder 150 5 B b bs w) (hlen : bs.length + 1 ≤ 140737488355328) (hBw : B ≤ w.heap.size) :
    Calls Tryz.prog 77 #[.pointer (some ⟨b, 0, none⟩), .int .u8 c] w fun e w' => e = .returned .nilIface ∧ (Lib.BuilderAt 150 5 B b (.pointer (some ⟨b, 0, none⟩)) (bs ++ [.int .u8 c]) w' ∧ Below B w w') := Any.Builder_WriteByte lays167 extra B b bs c w h hlen hBw
theorem c_writeString (B b : Nat) (bs : List Value) (s : ByteArray) (w : World) (h : Lib.IsBuilder 150 5 B b bs w) (hlen : bs.length + s.size ≤ 140737488355328) (hBw : B ≤ w.heap.size) :
    Calls Tryz.prog 78 #[.pointer (some ⟨b, 0, none⟩), .string s] w fun e w' => e = .returned (.tuple #[.int .i64 s.size, .nilIface]) ∧ (Lib.BuilderAt 150 5 B b (.pointer (some ⟨b, 0, none⟩)) (bs ++ Lib.strCells s) w' ∧ Below B w w') := Any.Builder_WriteString lays166 extra B b bs s w h hlen hBw
theorem c_string (B b : Nat) (l : List UInt8) (w : World) (h : Lib.IsBuilder 150 5 B b (Lib.byteCells l) w) (hBw : B ≤ w.heap.size) :
    Calls Tryz.prog 79 #[.pointer (some ⟨b, 0, none⟩)] w fun e w' => e = .returned (.string ⟨l.toArray⟩) ∧ Below B w w' := Any.Builder_String_any lays169 extra B b l w h hBw
end Go.Proofs.YtkapkphhceknfaaGreatDoor.Sm
namespace Go.Proofs.YtkapkphhceknfaaGreatDoor
open Go.RowKit
/-- A word's number. -/
def I (v : BitVec 32) : Int := (v.toNat : Int)
theorem I_lt (v : BitVec 32) : 0 ≤ I v ∧ I v < 4294967296 := by
  unfold I; have := v.isLt; omega
theorem I_xor (x y : BitVec 32) : bits .xor .u32 (I x) (I y) = I (x ^^^ y) := by
  have hx := x.isLt; have hy := y.isLt
  unfold I; rw [u32_xor_nat _ _ (by omega) (by omega)]; simp
theorem I_and (x y : BitVec 32) : bits .and .u32 (I x) (I y) = I (x &&& y) := by
  have hx := x.isLt; have hy := y.isLt
  unfold I; rw [u32_and_nat _ _ (by omega) (by omega)]; simp
theorem I_or (x y : BitVec 32) : bits .or .u32 (I x) (I y) = I (x ||| y) := by
  have hx := x.isLt; have hy := y.isLt
  unfold I; rw [u32_or_nat _ _ (by omega) (by omega)]; simp
theorem I_add (x y : BitVec 32) : IntKind.u32.wrap (I x + I y) = I (x + y) := by
  unfold I; rw [IntKind.wrap_u32]; simp
theorem I_shl (x : BitVec 32) (n : Nat) : IntKind.u32.wrap (I x * 2 ^ n) = I (x <<< n) := by
  unfold I; rw [IntKind.wrap_u32, BitVec.toNat_shiftLeft, Nat.shiftLeft_eq]; simp
theorem I_shr (x : BitVec 32) (n : Nat) : I x / 2 ^ n = I (x >>> n) := by
  unfold I; rw [BitVec.toNat_ushiftRight, Nat.shiftRight_eq_div_pow]; simp
theorem I_addm (x y : BitVec 32) : (I x + I y) % 4294967296 = I (x + y) := by
  unfold I; simp
theorem I_shlm (x : BitVec 32) (n : Nat) : I x * 2 ^ n % 4294967296 = I (x <<< n) := by
  unfold I; rw [BitVec.toNat_shiftLeft, Nat.shiftLeft_eq]; simp
theorem I_not (x : BitVec 32) : bits .xor .u32 IntKind.u32.max (I x) = I (~~~x) := by
  have h : I (BitVec.allOnes 32) = IntKind.u32.max := rfl
  rw [← h, I_xor, BitVec.allOnes_xor]
theorem and31 (k : Int) (h0 : -31 ≤ k) (h1 : k ≤ -1) : bits .and .u64 (IntKind.u64.wrap k) 31 = 32 + k := by
  have e : IntKind.u64.wrap k = ((k + 18446744073709551616).toNat : Int) := by
    simp [IntKind.wrap, IntKind.bits, IntKind.signed]; omega
  rw [e, show (31 : Int) = ((31 : Nat) : Int) from rfl, bits_and_u64_nat _ _ (by omega) (by omega)]
  rw [show (31:Nat) = 2 ^ 5 - 1 from rfl, Nat.and_two_pow_sub_one_eq_mod]; omega
theorem rot_eq (x : BitVec 32) (n : Nat) (h0 : 1 ≤ n) (h1 : n ≤ 31) : (x <<< (32 - n)) ||| (x >>> n) = x.rotateRight n := by
  rw [BitVec.rotateRight_def, Nat.mod_eq_of_lt (by omega), BitVec.or_comm]
theorem ret_int {k : IntKind} {a b : Int} (h : a = b) : Ending.returned (.int k a) = .returned (.int k b) := by rw [h]
theorem I_shr3 (x : BitVec 32) : I x / (8 : Int) = I (x >>> 3) := I_shr x 3
theorem I_shr10 (x : BitVec 32) : I x / (1024 : Int) = I (x >>> 10) := I_shr x 10
theorem I_add3 (x y z : BitVec 32) : (I x + I y + I z) % 4294967296 = I (x + y + z) := by
  rw [← I_addm, ← I_addm]; omega
theorem I_add4 (x y z u : BitVec 32) : (I x + I y + I z + I u) % 4294967296 = I (x + y + z + u) := by
  rw [← I_addm, ← I_add3]; omega
theorem I_add5 (x y z u v : BitVec 32) : (I x + I y + I z + I u + I v) % 4294967296 = I (x + y + z + u + v) := by
  rw [← I_addm, ← I_add4]; omega
end Go.Proofs.YtkapkphhceknfaaGreatDoor
namespace Go.Proofs.YtkapkphhceknfaaGreatDoor
open Go.RowKit
/-- A row of words, by a function. -/
def tab (n : Nat) (f : Nat → BitVec 32) : Array Value := ((List.range n).map fun j => Value.int .u32 (I (f j))).toArray
theorem tab_size (n : Nat) (f : Nat → BitVec 32) : (tab n f).size = n := by simp [tab]
theorem tab_get (n : Nat) (f : Nat → BitVec 32) (j : Nat) (h : j < n) : (tab n f)[j]? = some (.int .u32 (I (f j))) := by
  simp [tab, h]
theorem tab_congr (n : Nat) (f g : Nat → BitVec 32) (h : ∀ j, j < n → f j = g j) : tab n f = tab n g := by
  unfold tab; congr 1; apply List.map_congr_left; intro j hj; rw [h j (by simpa using hj)]
theorem tab_set (n : Nat) (f : Nat → BitVec 32) (k : Nat) (v : BitVec 32) : (tab n f).setIfInBounds k (.int .u32 (I v)) = tab n (fun j => if j = k then v else f j) := by
  apply Array.ext_getElem?; intro i
  rw [Array.getElem?_setIfInBounds]
  by_cases hi : i < n
  · rw [tab_get _ _ i hi, tab_get _ _ i hi, tab_size]
    by_cases hk : k = i
    · subst hk; simp [hi]
    · simp [hk, Ne.symm hk]
  · have e : ∀ g, (tab n g)[i]? = none := fun g => by rw [Array.getElem?_eq_none]; rw [tab_size]; omega
    rw [e, e, tab_size]; split <;> simp_all
/-- Block b of the world is this row, nothing of it frozen. -/
def Blk (w : World) (b : Nat) (arr : Array Value) (T : TypeId) : Prop := w.heap[b]? = some (.cells arr T (0, 0))
section
variable {w : World} {b : Nat} {arr : Array Value} {T : TypeId}
theorem Blk.cell (h : Blk w b arr T) (j : Nat) : w.cell? ⟨b, j, none⟩ = arr[j]? := by
  unfold Blk at h; simp [World.cell?, h]
theorem Blk.tcell {n : Nat} {f : Nat → BitVec 32} (h : Blk w b (tab n f) T) (j : Nat) (hj : j < n) : w.cell? ⟨b, j, none⟩ = some (.int .u32 (I (f j))) := by
  rw [h.cell, tab_get _ _ _ hj]
theorem Blk.frozen (h : Blk w b arr T) (j : Nat) : w.frozen? ⟨b, j, none⟩ = false := by
  unfold Blk at h; simp [World.frozen?, h]
theorem Blk.shape (h : Blk w b arr T) : w.shape? b = some (T, arr.size) := by
  unfold Blk at h; simp [World.shape?, h]
theorem Blk.lt (h : Blk w b arr T) : b < w.heap.size := by
  unfold Blk at h
  rcases Nat.lt_or_ge b w.heap.size with h' | h'
  · exact h'
  · simp [Array.getElem?_eq_none h'] at h
theorem Blk.set (h : Blk w b arr T) (j : Nat) (v : Value) : Blk (w.setCell ⟨b, j, none⟩ v) b (arr.setIfInBounds j v) T := by
  unfold Blk at *; simp [World.setCell, Array.getElem?_modify, h]
theorem Blk.setOther (h : Blk w b arr T) (a : Addr) (hb : a.block ≠ b) (v : Value) : Blk (w.setCell a v) b arr T := by
  unfold Blk at *; simp [World.setCell, Array.getElem?_modify, h, hb]
theorem Blk.drew (h : Blk w b arr T) : Blk w.drew b arr T := h
theorem Blk.drewN (h : Blk w b arr T) (n : Nat) : Blk (w.drewN n) b arr T := h
theorem Blk.alloc (h : Blk w b arr T) (o : Obj) : Blk (w.alloc o) b arr T := by
  have hl := h.lt
  unfold Blk at *; rw [Below.heap_alloc _ _ _ hl]; exact h
theorem Blk.below {w' : World} {B : Nat} (h : Blk w b arr T) (hb : Below B w w') (hB : b < B) : Blk w' b arr T := by
  unfold Blk at *; rw [hb.block b hB]; exact h
theorem Blk.new (w : World) (arr : Array Value) (T : TypeId) : Blk (w.alloc (.cells arr T)) w.heap.size arr T := by
  unfold Blk World.alloc; simp
end
theorem Blk.new' (w : World) (arr : Array Value) (T : TypeId) {b : Nat} (h : b = w.heap.size) : Blk (w.alloc (.cells arr T)) b arr T := by
  subst h; exact Blk.new w arr T
/-- The world with another object at block b. -/
def putBlk (w : World) (b : Nat) (o : Obj) : World := { w with heap := w.heap.setIfInBounds b o }
theorem putBlk_blk {w : World} {b : Nat} {arr arr' : Array Value} {T T' : TypeId} (h : Blk w b arr T) : Blk (putBlk w b (.cells arr' T')) b arr' T' := by
  have := h.lt
  unfold Blk putBlk; simp [this]
theorem putBlk_other {w : World} {b c : Nat} {arr : Array Value} {T : TypeId} {o : Obj} (h : Blk w c arr T) (hne : b ≠ c) : Blk (putBlk w b o) c arr T := by
  unfold Blk putBlk at *; simp [hne, h]
theorem putBlk_size (w : World) (b : Nat) (o : Obj) : (putBlk w b o).heap.size = w.heap.size := by simp [putBlk]
theorem below_put {B b : Nat} {a w : World} (h : Below B a w) (hb : B ≤ b) (o : Obj) : Below B a (putBlk w b o) :=
  h.trans ⟨rfl, rfl, rfl, by simp [putBlk], fun k hk => by simp [putBlk, show ¬ b = k from by omega]⟩
theorem putBlk_self {w : World} {b : Nat} {arr : Array Value} {T : TypeId} (h : Blk w b arr T) : putBlk w b (.cells arr T) = w := by
  have hl := h.lt
  unfold putBlk; unfold Blk at h
  have : w.heap.setIfInBounds b (.cells arr T) = w.heap := by
    apply Array.ext_getElem?; intro i
    rw [Array.getElem?_setIfInBounds]
    by_cases e : b = i
    · subst e; rw [h]; simp [hl]
    · simp [e]
  rw [this]
theorem putBlk_setCell {w : World} {b : Nat} (hl : b < w.heap.size) (c : Array Value) (T : TypeId) (j : Nat) (v : Value) :
    (putBlk w b (.cells c T)).setCell ⟨b, j, none⟩ v = putBlk w b (.cells (c.setIfInBounds j v) T) := by
  unfold putBlk World.setCell
  congr 1
  apply Array.ext_getElem?; intro i
  simp only [Array.getElem?_modify, Array.getElem?_setIfInBounds]
  by_cases e : b = i
  · subst e; simp [hl]
  · simp [e]
def foldset (c : Array Value) (i : Nat) : List Value → Array Value
  | [] => c
  | v :: vs => foldset (c.setIfInBounds i v) (i + 1) vs
theorem foldset_toList (vs : List Value) : ∀ (c : Array Value) (i : Nat), c.size = i + vs.length → (foldset c i vs).toList = c.toList.take i ++ vs := by
  induction vs with
  | nil => intro c i h; simp [foldset]; rw [List.take_of_length_le (by simp at h ⊢; omega)]
  | cons v vs ih =>
    intro c i h
    simp only [List.length_cons] at h
    simp only [foldset]
    rw [ih _ _ (by simp; omega), Array.toList_setIfInBounds]
    rw [List.take_add_one, List.take_set_of_le (Nat.le_refl i), List.getElem?_set_self (by simp; omega)]
    simp
theorem foldset_all (c : Array Value) (vs : List Value) (h : c.size = vs.length) : foldset c 0 vs = vs.toArray := by
  apply Array.toList_inj.1
  rw [foldset_toList vs c 0 (by omega)]; simp
theorem addr_add (b i : Nat) : (⟨b, 0, none⟩ : Addr).add i = ⟨b, i, none⟩ := by
  unfold Addr.add; split
  · rename_i h; subst h; rfl
  · simp
theorem storeCells_run (P : Program) (w : World) (b : Nat) (hl : b < w.heap.size) (T : TypeId) : ∀ (vs : List Value) (i : Nat) (c : Array Value), i + vs.length ≤ c.size → (∀ v ∈ vs, v.oneCell' = true) →
    (storeCells ⟨b, 0, none⟩ vs i).run P (putBlk w b (.cells c T)) = .ok () (putBlk w b (.cells (foldset c i vs) T)) := by
  intro vs
  induction vs with
  | nil => intro i c _ _; rfl
  | cons v vs ih =>
    intro i c h hv
    simp only [List.length_cons] at h
    have hb : Blk (putBlk w b (.cells c T)) b c T := by unfold Blk putBlk; simp [hl]
    simp only [storeCells, Sem.run_bind, addr_add]
    rw [run_store _ _ _ _ _ (hv v (by simp)), hb.cell, Array.getElem?_eq_getElem (by omega)]
    simp only [hb.frozen, Bool.false_eq_true, if_false, Result.andThen_ok]
    rw [putBlk_setCell hl, ih _ _ (by simp; omega) (fun x hx => hv x (by simp [hx]))]
    rfl
theorem loadCellsFrom_run (P : Program) (w : World) (b off : Nat) (arr : Array Value) (T : TypeId) (h : Blk w b arr T) : ∀ (n i : Nat) (acc : Array Value), off + i + n ≤ arr.size →
    (loadCellsFrom ⟨b, off, none⟩ i n acc).run P w = .ok (acc ++ arr.extract (off + i) (off + i + n)) w := by
  intro n
  induction n with
  | zero => intro i acc _; simp [loadCellsFrom]; omega
  | succ n ih =>
    intro i acc hi
    have ha : (⟨b, off, none⟩ : Addr).add i = ⟨b, off + i, none⟩ := by
      unfold Addr.add; split
      · rename_i e; subst e; rfl
      · rfl
    simp only [loadCellsFrom, Sem.run_bind, run_load, ha, h.cell]
    rw [Array.getElem?_eq_getElem (by omega)]
    simp only [Result.andThen_ok]
    rw [ih _ _ (by omega)]
    congr 1
    apply Array.toList_inj.1
    simp only [Array.toList_append, Array.toList_push, Array.toList_extract, List.extract_eq_take_drop, List.append_assoc]
    congr 1
    rw [show off + (i + 1) + n - (off + (i + 1)) = n from by omega, show off + i + (n + 1) - (off + i) = n + 1 from by omega]
    rw [List.drop_eq_getElem_cons (i := off + i) (by simp; omega)]
    simp [Nat.add_assoc]
theorem tab_one (n : Nat) (f : Nat → BitVec 32) : ∀ v ∈ (tab n f).toList, v.oneCell' = true := by
  intro v hv; simp [tab] at hv; obtain ⟨j, _, rfl⟩ := hv; rfl
section
variable {P : Program} {ops : Array Oper} {Q : Exit → Act → World → Prop} {a : Act} {w : World} {rest : List Oper} {o : Oper}
/-- A whole array read out of its block. -/
theorem wpl_load (hgd : o.guard = none) (t : TypeId) (x : Operand) (ho : o.op = .load t x) (n : Nat) (e : TypeId) (ht : P.underlying t = some (.array n e)) (hi0 : (P.info? t).map (·.size) = some n)
    (b off : Nat) (arr : Array Value) (T : TypeId) (hx : a.eval x = .pointer (some ⟨b, off, none⟩)) (hb : Blk w b arr T) (hn : off + n ≤ arr.size)
    (h : wpList P ops Q rest (a.put o.dst (.agg (arr.extract off (off + n)))) w) : wpList P ops Q (o :: rest) a w := by
  refine wpList_plain hgd fun K hK => ?_
  obtain ⟨i, hi, hsize⟩ := Option.map_eq_some_iff.1 hi0
  unfold Oper.wp execOp
  have hl := loadCellsFrom_run P w b off arr T hb n 0 #[] (by omega)
  simp only [ho, hx, Instr.loadAt, Instr.sureAddr, loadVar, isAgg, underlying, sizeOf, typeInfo, loadCells, ht, hi, hsize, Sem.run_bind, Sem.run_pure, run_program, Result.andThen_ok, if_true, hl]
  simp only [Nat.add_zero, Array.empty_append]
  exact hK _ _ h
/-- A whole array written into its block. -/
theorem wpl_store (hgd : o.guard = none) (hdn : o.dst = none) (t : TypeId) (x y : Operand) (ho : o.op = .store t x y) (n : Nat) (hi0 : (P.info? t).map (·.size) = some n)
    (b : Nat) (arr : Array Value) (T : TypeId) (f : Nat → BitVec 32) (hx : a.eval x = .pointer (some ⟨b, 0, none⟩)) (hy : a.eval y = .agg (tab n f)) (hb : Blk w b arr T) (hn : arr.size = n)
    (h : wpList P ops Q rest a (putBlk w b (.cells (tab n f) T))) : wpList P ops Q (o :: rest) a w := by
  refine wpList_plain hgd fun K hK => ?_
  obtain ⟨i, hi, hsize⟩ := Option.map_eq_some_iff.1 hi0
  unfold Oper.wp execOp
  have hl := storeCells_run P w b hb.lt T (tab n f).toList 0 arr (by simp [tab_size, hn]) (tab_one n f)
  rw [putBlk_self hb, foldset_all _ _ (by simp [tab_size, hn])] at hl
  simp only [ho, hx, hy, Instr.storeAt, Instr.sureAddr, storeVar, sizeOf, typeInfo, hi, hsize, Sem.run_bind, Sem.run_pure, run_program, Result.andThen_ok, Value.cells, tab_size, ne_eq, not_true, if_false, hl]
  simp only [Oper.upon_skip, hdn, Act.put]
  exact hK _ _ h
end
theorem loadVar_run (P : Program) (w : World) (t : TypeId) (n : Nat) (e : TypeId) (ht : P.underlying t = some (.array n e)) (hi0 : (P.info? t).map (·.size) = some n)
    (b off : Nat) (arr : Array Value) (T : TypeId) (hb : Blk w b arr T) (hn : off + n ≤ arr.size) : (loadVar t ⟨b, off, none⟩).run P w = .ok (.agg (arr.extract off (off + n))) w := by
  obtain ⟨i, hi, hsize⟩ := Option.map_eq_some_iff.1 hi0
  have hl := loadCellsFrom_run P w b off arr T hb n 0 #[] (by omega)
  simp only [loadVar, isAgg, underlying, sizeOf, typeInfo, loadCells, ht, hi, hsize, Sem.run_bind, Sem.run_pure, run_program, Result.andThen_ok, if_true, hl]
  simp only [Nat.add_zero, Array.empty_append]
theorem tab_all (n m : Nat) (f : Nat → BitVec 32) (h : 0 + n = m) : (tab n f).extract 0 m = tab n f := by
  subst h; rw [Nat.zero_add]
  have := Array.extract_size (xs := tab n f)
  rw [tab_size] at this; exact this
/-- A result that is a row of words in its block. -/
theorem ret_cell {P : Program} {fn : Func} {R : Ending → World → Prop} {a : Act} {w : World} (p : Tmp) (t : TypeId) (hf : fn.results = #[.cell p t]) (n : Nat) (e : TypeId) (ht : P.underlying t = some (.array n e)) (hi0 : (P.info? t).map (·.size) = some n)
    (b : Nat) (f : Nat → BitVec 32) (T : TypeId) (hx : a.tmps.getD p undef = .pointer (some ⟨b, 0, none⟩)) (hb : Blk w b (tab n f) T) (hd : a.defers = []) (hR : R (.returned (.agg (tab n f))) w) : bodyPost P fn R .ret a w := by
  refine bodyPost_ret ?_ hd hR
  have hl := loadVar_run P w t n e ht hi0 b 0 (tab n f) T hb (by simp [tab_size])
  rw [tab_all _ _ _ rfl] at hl
  have hx' : a.tmps[p]?.getD undef = .pointer (some ⟨b, 0, none⟩) := by rw [← hx]; simp
  simp only [results, hf]
  simp [hx', asAddr, hl]
theorem below_drewN {B : Nat} {a w : World} (h : Below B a w) (n : Nat) : Below B a (w.drewN n) := ⟨h.os, h.tape, h.output, h.size, h.block⟩
/-- Of block b alone another thing is told. -/
structure Upd (w w' : World) (b : Nat) : Prop where
  os : w'.os = w.os
  tape : w'.tape = w.tape
  output : w'.output = w.output
  size : w'.heap.size = w.heap.size
  block : ∀ k, k ≠ b → w'.heap[k]? = w.heap[k]?
theorem putBlk_upd (w : World) (b : Nat) (o : Obj) : Upd w (putBlk w b o) b :=
  ⟨rfl, rfl, rfl, putBlk_size w b o, fun k hk => by simp [putBlk, show ¬ b = k from fun e => hk e.symm]⟩
theorem setCell_upd (w : World) (b j : Nat) (v : Value) : Upd w (w.setCell ⟨b, j, none⟩ v) b :=
  ⟨rfl, rfl, rfl, by simp [World.setCell], fun k hk => Below.heap_setCell w _ v k hk⟩
theorem Blk.upd {w w' : World} {b c : Nat} {arr : Array Value} {T : TypeId} (h : Blk w c arr T) (hu : Upd w w' b) (hne : c ≠ b) : Blk w' c arr T := by
  unfold Blk at *; rw [hu.block c hne]; exact h
theorem below_upd {B b : Nat} {a w w' : World} (h : Below B a w) (hu : Upd w w' b) (hb : B ≤ b) : Below B a w' :=
  h.trans ⟨hu.os, hu.tape, hu.output, Nat.le_of_eq hu.size.symm, fun k hk => hu.block k (by omega)⟩
section
variable {P : Program} {ops : Array Oper} {Q : Exit → Act → World → Prop} {a : Act} {w : World} {rest : List Oper} {o : Oper}
theorem wpl_store_u (hgd : o.guard = none) (hdn : o.dst = none) (t : TypeId) (x y : Operand) (ho : o.op = .store t x y) (n : Nat) (hi0 : (P.info? t).map (·.size) = some n)
    (b : Nat) (arr : Array Value) (T : TypeId) (f : Nat → BitVec 32) (hx : a.eval x = .pointer (some ⟨b, 0, none⟩)) (hy : a.eval y = .agg (tab n f)) (hb : Blk w b arr T) (hn : arr.size = n)
    (h : ∀ w', Upd w w' b → Blk w' b (tab n f) T → wpList P ops Q rest a w') : wpList P ops Q (o :: rest) a w :=
  wpl_store hgd hdn t x y ho n hi0 b arr T f hx hy hb hn (h _ (putBlk_upd _ _ _) (putBlk_blk hb))
end
section
variable {P : Program} {Q : Exit → Act → World → Prop} {a : Act} {w : World} {o : Oper}
/-- A region that draws its order: its first n operations leave the world alone, the others come one behind the other. -/
theorem region_tail {id : Nat} {l : List Oper} (n : Nat) (hm : P.follows .mixedOrders = true) (hB : Region.lexTailB .any l.toArray n = true)
    (h : wpStill P l.toArray w.drew (fun a' => wpList P l.toArray Q (l.drop n) a' w.drew) (l.take n) a) : (Code.region id l.toArray true).wp P Q a w := wp_region_still_tail n hm hB h
theorem still_load {ops : Array Oper} {rest : List Oper} {Q : Act → Prop} (hgd : o.guard = none) (t : TypeId) (x : Operand) (ho : o.op = .load t x) (n : Nat) (e : TypeId) (ht : P.underlying t = some (.array n e)) (hi0 : (P.info? t).map (·.size) = some n)
    (b : Nat) (f : Nat → BitVec 32) (T : TypeId) (hx : a.eval x = .pointer (some ⟨b, 0, none⟩)) (hb : Blk w b (tab n f) T)
    (h : wpStill P ops w Q rest (a.put o.dst (.agg (tab n f)))) : wpStill P ops w Q (o :: rest) a := by
  have hl := loadVar_run P w t n e ht hi0 b 0 (tab n f) T hb (by simp [tab_size])
  rw [tab_all _ _ _ rfl] at hl
  refine wpStill_step fun K hK => ?_
  simp only [Region.wanted, hgd, if_true, Oper.still, execOp, ho, hx, Instr.loadAt, Instr.sureAddr, Sem.run_bind, Sem.run_pure, Result.andThen_ok, hl]
  exact ⟨rfl, hK _ h⟩
end
section
variable {P : Program} {ops : Array Oper} {Q : Exit → Act → World → Prop} {a : Act} {w : World} {rest : List Oper} {o : Oper}
/-- One number written into its block. -/
theorem wpl_put (hgd : o.guard = none) (hdn : o.dst = none) (t : TypeId) (x y : Operand) (ho : o.op = .store t x y) (hi0 : (P.info? t).map (·.size) = some 1)
    (b j : Nat) (arr : Array Value) (T : TypeId) (k : IntKind) (z : Int) (hx : a.eval x = .pointer (some ⟨b, j, none⟩)) (hy : a.eval y = .int k z) (hb : Blk w b arr T) (hj : j < arr.size)
    (h : ∀ w', Upd w w' b → Blk w' b (arr.setIfInBounds j (.int k z)) T → wpList P ops Q rest a w') : wpList P ops Q (o :: rest) a w := by
  refine wpList_plain hgd fun K hK => ?_
  obtain ⟨i, hi, hsize⟩ := Option.map_eq_some_iff.1 hi0
  unfold Oper.wp execOp
  have ha : (⟨b, j, none⟩ : Addr).add 0 = ⟨b, j, none⟩ := by unfold Addr.add; simp
  have hl : (storeCells ⟨b, j, none⟩ [Value.int k z] 0).run P w = .ok () (w.setCell ⟨b, j, none⟩ (.int k z)) := by
    simp only [storeCells, Sem.run_bind, ha]
    rw [run_store _ _ _ _ _ rfl, hb.cell, Array.getElem?_eq_getElem hj]
    simp only [hb.frozen, Bool.false_eq_true, if_false, Result.andThen_ok]
    rfl
  simp only [ho, hx, hy, Instr.storeAt, Instr.sureAddr, storeVar, sizeOf, typeInfo, hi, hsize, Sem.run_bind, Sem.run_pure, run_program, Result.andThen_ok, Value.cells, List.size_toArray, List.length_cons, List.length_nil, Nat.zero_add, ne_eq, not_true, if_false, hl]
  simp only [Oper.upon_skip, hdn, Act.put]
  exact hK _ _ (h _ (setCell_upd _ _ _ _) (hb.set j _))
end
end Go.Proofs.YtkapkphhceknfaaGreatDoor
