/-
  Part of the proof: errors.As at an Errno and a place for one, and what the given packages api and plain make of it, are walked.
  Part of the proof: errors.As at an Errno and a place for one, walked; Tell, Place, and bare.
  Part of the proof: Tell, Place and bare, at no error and at an Errno, are walked.
  Part of the proof: the counter, and the fact 'lost', are walked.
  Part of the proof: a map keyed by an int, told as a function.
-/
import Derived.Test.YtkapkphhceknfaaGreatDoorB01
import Derived.LaidEql
import Derived.Stop.Asserts
import Derived.RowKitTokens
import Derived.Test.YtkapkphhceknfaaGreatDoorB15
import Derived.Maps.RangeWalk
namespace Go.Proofs.YtkapkphhceknfaaGreatDoor
open Go.RowKit Go.Extern.Stop Go.Stop Go.Extern
/-- The handle of a type. -/
abbrev hnd (t : Nat) : Value := .pointer (some ⟨3, t, none⟩)
theorem r_valueP (t : Addr) (w : World) : (ReflectliteValue.unpack (.iface 79 (.pointer (some t)))).run Tryz.prog w
    = .ok (.agg #[hnd 79, .pointer (some ⟨w.heap.size, 0, none⟩), .int .u64 150]) (w.alloc (.cells #[.pointer (some t)] 79)) := by kernel_rfl
theorem r_valueE (n : Int) (w : World) : (ReflectliteValue.unpack (.iface 41 (.int .i64 n))).run Tryz.prog w
    = .ok (.agg #[hnd 41, .pointer (some ⟨w.heap.size, 0, none⟩), .int .u64 130]) (w.alloc (.cells #[.int .i64 n] 41)) := by kernel_rfl
theorem r_typeP (a : Addr) (w : World) : (ReflectliteValue.methodAny (ReflectliteValue.valueError "reflectlite.Value.Type" 0) (fun t _ _ _ => ReflectliteType.toType t) #[.agg #[hnd 79, .pointer (some a), .int .u64 150]]).run Tryz.prog w
    = .ok (.iface 125 (.agg #[hnd 79])) w := by kernel_rfl
theorem r_mKind (h : Value) (w : World) : (Go.method 321 125 (.agg #[h]) "Kind").run Tryz.prog w = .ok (138, h) w := by kernel_rfl
theorem r_mElem (h : Value) (w : World) : (Go.method 321 125 (.agg #[h]) "Elem").run Tryz.prog w = .ok (148, .agg #[h]) w := by kernel_rfl
theorem r_mImpl (h : Value) (w : World) : (Go.method 321 125 (.agg #[h]) "Implements").run Tryz.prog w = .ok (149, .agg #[h]) w := by kernel_rfl
theorem r_mAssign (h : Value) (w : World) : (Go.method 321 125 (.agg #[h]) "AssignableTo").run Tryz.prog w = .ok (146, .agg #[h]) w := by kernel_rfl
theorem r_kindP (w : World) : ((ReflectliteType.abiMethod fun t => (fun a : Nat => Value.int IntKind.u8 (a : Int)) <$> Rtype.kind t) #[hnd 79]).run Tryz.prog w = .ok (.int .u8 22) w := by kernel_rfl
theorem r_kindE (w : World) : ((ReflectliteType.abiMethod fun t => (fun a : Nat => Value.int IntKind.u8 (a : Int)) <$> Rtype.kind t) #[hnd 41]).run Tryz.prog w = .ok (.int .u8 2) w := by kernel_rfl
theorem r_elemP (w : World) : (ReflectliteType.method ReflectliteType.elem #[.agg #[hnd 79]]).run Tryz.prog w = .ok (.iface 125 (.agg #[hnd 41])) w := by kernel_rfl
theorem r_implE (w : World) : (ReflectliteType.relation "Implements" ReflectliteType.implements_ #[.agg #[hnd 41], .iface 125 (.agg #[hnd 36])]).run Tryz.prog w = .ok (.bool true) w := by kernel_rfl
theorem r_typeOfE (v : Value) (w : World) : (ReflectliteType.typeOf #[.iface 41 v]).run Tryz.prog w = .ok (.iface 125 (.agg #[hnd 41])) w := by kernel_rfl
theorem r_assignE (w : World) : (ReflectliteType.relation "AssignableTo" ReflectliteType.assignableTo #[.agg #[hnd 41], .iface 125 (.agg #[hnd 41])]).run Tryz.prog w = .ok (.bool true) w := by kernel_rfl
theorem r_partsP (a : Addr) (w : World) : (ReflectliteValue.parts (.agg #[hnd 79, .pointer (some a), .int .u64 150])).run Tryz.prog w = .ok (some (79, a, 150)) w := by kernel_rfl
theorem r_partsE (a : Addr) (w : World) : (ReflectliteValue.parts (.agg #[hnd 41, .pointer (some a), .int .u64 130])).run Tryz.prog w = .ok (some (41, a, 130)) w := by kernel_rfl
theorem r_partsA (a : Addr) (w : World) : (ReflectliteValue.parts (.agg #[hnd 41, .pointer (some a), .int .u64 386])).run Tryz.prog w = .ok (some (41, a, 386)) w := by kernel_rfl
theorem r_elemT (w : World) : (Rtype.elem? 79).run Tryz.prog w = .ok (some 41) w := by kernel_rfl
theorem r_mkE (p : Addr) (w : World) : (ReflectliteValue.mk 41 p ReflectliteValue.flagAddr).run Tryz.prog w = .ok (.agg #[hnd 41, .pointer (some p), .int .u64 386]) w := by kernel_rfl
theorem r_directE (w : World) : (Rtype.directlyAssignable 41 41).run Tryz.prog w = .ok true w := by kernel_rfl
theorem r_sizeE (w : World) : (sizeOf 41).run Tryz.prog w = .ok 1 w := by kernel_rfl
end Go.Proofs.YtkapkphhceknfaaGreatDoor
namespace Go.Proofs.YtkapkphhceknfaaGreatDoor
open Go.RowKit Go.Extern.Stop Go.Stop Go.Extern
/-- How an entry for a method of a Value goes on behind its parts. -/
theorem r_method (z : Sem Value) (f : TypeId → Addr → Nat → Nat → Sem Value) (v : Value) : ∃ k, ReflectliteValue.method z f #[v] = (ReflectliteValue.parts v >>= k) ∧ ∀ t a fl, k (some (t, a, fl)) = f t a fl (fl % 32) :=
  ⟨_, rfl, fun _ _ _ => rfl⟩
theorem r_setK (v x : Value) (dst src : TypeId) (a b : Addr) : ∃ (k : Option (TypeId × Addr × Nat) → Option (TypeId × Addr × Nat) → Sem Value) (k2 : Value → Bool → Sem Value), ReflectliteValue.set #[v, x] = (ReflectliteValue.parts v >>= fun p => ReflectliteValue.parts x >>= fun q => k p q) ∧
    k (some (dst, a, 386)) (some (src, b, 130)) = (loadVar src b >>= fun val => Rtype.directlyAssignable dst src >>= fun d => k2 val d) ∧ ∀ val, k2 val true = (storeVar dst a val >>= fun _ => pure (Value.tuple #[])) :=
  ⟨_, _, rfl, rfl, fun _ => rfl⟩
theorem r_isNil (a p : Addr) (W : World) (ha : W.cell? a = some (.pointer (some p))) :
    (ReflectliteValue.method (ReflectliteValue.valueError "reflectlite.Value.IsNil" 0) ReflectliteValue.isNil #[.agg #[hnd 79, .pointer (some a), .int .u64 150]]).run Tryz.prog W = .ok (.bool false) W := by
  obtain ⟨k, e1, e2⟩ := r_method (ReflectliteValue.valueError "reflectlite.Value.IsNil" 0) ReflectliteValue.isNil (.agg #[hnd 79, .pointer (some a), .int .u64 150])
  rw [e1]
  simp only [Sem.run_bind, r_partsP, Result.andThen, e2]
  simp [Result.andThen, ReflectliteValue.isNil, loadVar, isAgg, underlying, Tryz.underlying79, ha]
theorem r_elemV (a p : Addr) (W : World) (ha : W.cell? a = some (.pointer (some p))) :
    (ReflectliteValue.method (ReflectliteValue.valueError "reflectlite.Value.Elem" 0) ReflectliteValue.elem #[.agg #[hnd 79, .pointer (some a), .int .u64 150]]).run Tryz.prog W
      = .ok (.agg #[hnd 41, .pointer (some p), .int .u64 386]) W := by
  obtain ⟨k, e1, e2⟩ := r_method (ReflectliteValue.valueError "reflectlite.Value.Elem" 0) ReflectliteValue.elem (.agg #[hnd 79, .pointer (some a), .int .u64 150])
  rw [e1]
  simp only [Sem.run_bind, r_partsP, Result.andThen, e2]
  simp [Result.andThen, ReflectliteValue.elem, loadVar, isAgg, underlying, Tryz.underlying79, ha, r_elemT, r_mkE]
theorem r_set (ta b : Addr) (n : Int) (old : Value) (W : World) (hb : W.cell? b = some (.int .i64 n)) (ht : W.cell? ta = some old) (hf : W.frozen? ta = false) :
    (ReflectliteValue.set #[.agg #[hnd 41, .pointer (some ta), .int .u64 386], .agg #[hnd 41, .pointer (some b), .int .u64 130]]).run Tryz.prog W
      = .ok (.tuple #[]) (W.setCell ta (.int .i64 n)) := by
  obtain ⟨k, k2, e1, e2, e3⟩ := r_setK (.agg #[hnd 41, .pointer (some ta), .int .u64 386]) (.agg #[hnd 41, .pointer (some b), .int .u64 130]) 41 41 ta b
  rw [e1]
  simp only [Sem.run_bind, r_partsA, r_partsE, Result.andThen, e2]
  simp [loadVar, isAgg, underlying, Tryz.underlying41, hb, Result.andThen, r_directE, e3, storeVar, Value.cells, storeCells, Addr.add]
  rw [run_store Tryz.prog W ta _ _ (by rfl)]
  simp [ht, hf]
/-- The one variable of package errors lies as laid. -/
def EB (w : World) : Prop := w.cell? ⟨0, 0, none⟩ = some (.iface 125 (.agg #[hnd 36]))
theorem EB.lt {w : World} (h : EB w) : 0 < w.heap.size := World.block_lt_of_cell? w _ h
theorem EB.below {w w' : World} (h : EB w) (hb : Below w.heap.size w w') : EB w' := by
  unfold EB; rw [hb.cell h.lt]; exact h
set_option maxRecDepth 100000 in
set_option maxHeartbeats 1000000 in
theorem as_hit (n : Int) (tb : Nat) (w : World) (hg : EB w) (ht0 : Blk w tb #[.int .i64 0] 41) :
    Calls Tryz.prog 31 #[.iface 41 (.int .i64 n), .iface 79 (.pointer (some ⟨tb, 0, none⟩))] w fun ev w' => ev = .returned (.bool true) ∧ Blk w' tb #[.int .i64 n] 41 ∧ w.heap.size ≤ w'.heap.size ∧ ∀ B, B ≤ tb → Below B w w' := by
  have h71 := @run_callFunc_extern Tryz.prog 42 _ (fun args => ReflectliteValue.unpack (args.getD 0 (.tuple #[]))) Tryz.func42 (by kernel_rfl) (by kernel_rfl) (by kernel_rfl) (by kernel_rfl)
  have h72 := @run_callFunc_extern Tryz.prog 43 _ (ReflectliteValue.methodAny (ReflectliteValue.valueError "reflectlite.Value.Type" 0) (fun t _ _ _ => ReflectliteType.toType t)) Tryz.func43 (by kernel_rfl) (by kernel_rfl) (by kernel_rfl) (by kernel_rfl)
  have h73 := @run_callFunc_extern Tryz.prog 44 _ (ReflectliteValue.method (ReflectliteValue.valueError "reflectlite.Value.IsNil" 0) ReflectliteValue.isNil) Tryz.func44 (by kernel_rfl) (by kernel_rfl) (by kernel_rfl) (by kernel_rfl)
  have hK := @run_callFunc_extern Tryz.prog 138 _ (ReflectliteType.abiMethod fun t => do pure (.int .u8 (← Rtype.kind t))) Tryz.func138 (by kernel_rfl) (by kernel_rfl) (by kernel_rfl) (by kernel_rfl)
  have hE := @run_callFunc_extern Tryz.prog 148 _ (ReflectliteType.method ReflectliteType.elem) Tryz.func148 (by kernel_rfl) (by kernel_rfl) (by kernel_rfl) (by kernel_rfl)
  have hI := @run_callFunc_extern Tryz.prog 149 _ (ReflectliteType.relation "Implements" ReflectliteType.implements_) Tryz.func149 (by kernel_rfl) (by kernel_rfl) (by kernel_rfl) (by kernel_rfl)
  have hT := @run_callFunc_extern Tryz.prog 64 _ ReflectliteType.typeOf Tryz.func64 (by kernel_rfl) (by kernel_rfl) (by kernel_rfl) (by kernel_rfl)
  have hA := @run_callFunc_extern Tryz.prog 146 _ (ReflectliteType.relation "AssignableTo" ReflectliteType.assignableTo) Tryz.func146 (by kernel_rfl) (by kernel_rfl) (by kernel_rfl) (by kernel_rfl)
  have h78 := @run_callFunc_extern Tryz.prog 65 _ (ReflectliteValue.method (ReflectliteValue.valueError "reflectlite.Value.Elem" 0) ReflectliteValue.elem) Tryz.func65 (by kernel_rfl) (by kernel_rfl) (by kernel_rfl) (by kernel_rfl)
  have h79 := @run_callFunc_extern Tryz.prog 66 _ ReflectliteValue.set Tryz.func66 (by kernel_rfl) (by kernel_rfl) (by kernel_rfl) (by kernel_rfl)
  have f1 := r_typeOfE
  have f2 := r_mAssign
  have f3 := r_assignE
  have f4 := r_valueE
  have f5 := r_valueP
  have f6 := r_typeP
  have f7 := r_mKind
  have f8 := r_mElem
  have f9 := r_mImpl
  have f10 := r_kindP
  have f11 := r_kindE
  have f12 := r_elemP
  have f13 := r_implE
  have htl := ht0.lt
  have hgl := hg.lt
  have n8 := r_isNil ⟨w.heap.size, 0, none⟩ ⟨tb, 0, none⟩ ((w.alloc (.cells #[.pointer (some ⟨tb, 0, none⟩)] 79)).alloc (.cells #[hnd 79, .pointer (some ⟨w.heap.size, 0, none⟩), .int .u64 150] 101)) (((Blk.new w #[.pointer (some ⟨tb, 0, none⟩)] 79).alloc _).cell 0)
  have hg2 : ((w.alloc (.cells #[.pointer (some ⟨tb, 0, none⟩)] 79)).alloc (.cells #[hnd 79, .pointer (some ⟨w.heap.size, 0, none⟩), .int .u64 150] 101)).cell? ⟨0, 0, none⟩ = some (.iface 125 (.agg #[hnd 36])) :=
    EB.below (EB.below hg ((Below.refl _ _).alloc (Nat.le_refl _) _)) ((Below.refl _ _).alloc (Nat.le_refl _) _)
  have el := r_elemV ⟨w.heap.size, 0, none⟩ ⟨tb, 0, none⟩ (((w.alloc (.cells #[.pointer (some ⟨tb, 0, none⟩)] 79)).alloc (.cells #[hnd 79, .pointer (some ⟨w.heap.size, 0, none⟩), .int .u64 150] 101)).alloc (.cells #[hnd 79, .pointer (some ⟨w.heap.size, 0, none⟩), .int .u64 150] 101)) ((((Blk.new w #[.pointer (some ⟨tb, 0, none⟩)] 79).alloc _).alloc _).cell 0)
  have tb4 := (((ht0.alloc (.cells #[.pointer (some ⟨tb, 0, none⟩)] 79)).alloc (.cells #[hnd 79, .pointer (some ⟨w.heap.size, 0, none⟩), .int .u64 150] 101)).alloc (.cells #[hnd 79, .pointer (some ⟨w.heap.size, 0, none⟩), .int .u64 150] 101)).alloc (.cells #[.int .i64 n] 41)
  have st := r_set ⟨tb, 0, none⟩ ⟨w.heap.size + 1 + 1 + 1, 0, none⟩ n (.int .i64 0) ((((w.alloc (.cells #[.pointer (some ⟨tb, 0, none⟩)] 79)).alloc (.cells #[hnd 79, .pointer (some ⟨w.heap.size, 0, none⟩), .int .u64 150] 101)).alloc (.cells #[hnd 79, .pointer (some ⟨w.heap.size, 0, none⟩), .int .u64 150] 101)).alloc (.cells #[.int .i64 n] 41))
    ((Blk.new' _ #[.int .i64 n] 41 (by simp)).cell 0) (tb4.cell 0) (tb4.frozen 0)
  have fin := tb4.set 0 (.int .i64 n)
  go_enter Tryz.func31, Tryz.ntmps31
  go_wp2
  refine wp_loop_rounds 1 ?_
  rw [rounds_succ]
  go_wp2
  go_ret
  refine ⟨rfl, fin, by simp; omega, fun B hB => ?_⟩
  exact (((((Below.refl B w).alloc (by omega) _).alloc (by simp; omega) _).alloc (by simp; omega) _).alloc (by simp; omega) _).setCell (by simp; omega) _
end Go.Proofs.YtkapkphhceknfaaGreatDoor
namespace Go.Proofs.YtkapkphhceknfaaGreatDoor
open Go.RowKit Go.Extern.Stop Go.Stop Go.Extern
theorem tell_nil (w : World) : Calls Tryz.prog 13 #[.nilIface] w fun e w' => e = .returned (.int .i64 0) ∧ w' = w := by
  go_enter Tryz.func13, Tryz.ntmps13
  go_wp2
  go_ret
  exact ⟨rfl, rfl⟩
set_option maxHeartbeats 400000 in
theorem tell_some (n : Int) (w : World) (hE : EB w) : Calls Tryz.prog 13 #[.iface 41 (.int .i64 n)] w fun e w' => e = .returned (.int .i64 n) ∧ Below w.heap.size w w' := by
  go_enter Tryz.func13, Tryz.ntmps13
  go_wp2_with fail
  refine (as_hit n w.heap.size _ (hE.below ((Below.refl _ _).alloc (Nat.le_refl _) _)) (Blk.new _ _ _)).mono ?_
  rintro e w1 ⟨rfl, b1, s1, g1⟩
  have c1 := b1.cell 0
  go_wp2
  go_ret
  exact ⟨rfl, ((Below.refl _ _).alloc (Nat.le_refl _) _).trans (g1 _ (Nat.le_refl _))⟩
theorem as_un (v : Value) (w : World) : (Instr.typeAssert (.iface 41 v) 36 133 true).run Tryz.prog w = .ok (.tuple #[.nilIface, .bool false]) w :=
  run_typeAssert_lacksB Tryz.underlying133 (by kernel_rfl) (by kernel_rfl) v 36 w
end Go.Proofs.YtkapkphhceknfaaGreatDoor
namespace Go.Proofs.YtkapkphhceknfaaGreatDoor.Dv
open Go.RowKit
/-- A counter lies at block c and is at n. -/
abbrev Cnt (w : World) (c : Nat) (n : Int) : Prop := Blk w c #[.int .i64 n] 56
theorem raise_no (c : Nat) (n m : Int) (w : World) (h : Cnt w c n) (hm : m ≤ n) :
    Calls Tryz.prog 47 #[.pointer (some ⟨c, 0, none⟩), .int .i64 m] w fun e w' => e = .returned (errI 10) ∧ w' = w := by
  have c0 := h.cell 0
  go_enter Tryz.func47, Tryz.ntmps47
  go_wp2
  go_ret
  exact ⟨rfl, rfl⟩
theorem raise_yes (c : Nat) (n m : Int) (w : World) (h : Cnt w c n) (hm : n < m) :
    Calls Tryz.prog 47 #[.pointer (some ⟨c, 0, none⟩), .int .i64 m] w fun e w' => e = .returned .nilIface ∧ Cnt w' c m ∧ Upd w w' c := by
  have c0 := h.cell 0
  have f0 := h.frozen 0
  have hd : decide (m ≤ n) = false := by simp; omega
  go_enter Tryz.func47, Tryz.ntmps47
  go_wp2
  go_ret
  exact ⟨rfl, h.set 0 (.int .i64 m), setCell_upd _ _ _ _⟩
theorem get_any (c : Nat) (n : Int) (w : World) (h : Cnt w c n) :
    Calls Tryz.prog 19 #[.pointer (some ⟨c, 0, none⟩)] w fun e w' => e = .returned (.int .i64 n) ∧ w' = w := by
  have c0 := h.cell 0
  go_enter Tryz.func19, Tryz.ntmps19
  go_wp2
  go_ret
  exact ⟨rfl, rfl⟩
/-- All of O lies from B on, and is there. -/
def Bd (B : Nat) (O : Nat → Prop) (w : World) : Prop := ∀ k, O k → B ≤ k ∧ k < w.heap.size
theorem Bd.gro {B : Nat} {O : Nat → Prop} {w w' : World} (h : Bd B O w) (hB : B ≤ w.heap.size) (hz : w.heap.size ≤ w'.heap.size) : Bd B (gro O w w') w' :=
  fun k hk => hk.elim (fun h1 => ⟨(h k h1).1, Nat.lt_of_lt_of_le (h k h1).2 hz⟩) (fun h1 => ⟨Nat.le_trans hB h1.1, h1.2⟩)
theorem Bd.mono {B : Nat} {O : Nat → Prop} {w w' : World} (h : Bd B O w) (hz : w.heap.size ≤ w'.heap.size) : Bd B O w' := fun k hk => ⟨(h k hk).1, Nat.lt_of_lt_of_le (h k hk).2 hz⟩
theorem Chg.low {w0 w w' : World} {O : Nat → Prop} {B : Nat} (h : Chg w w' O) (hb : Below B w0 w) (hB : B ≤ w.heap.size) (hO : Bd B O w) : Below B w0 w' := h.to hb hB fun k hk => (hO k hk).1
theorem sb_two (f : Nat → UInt8) : (sb 256 f).extract 0 2 = ⟨#[f 0, f 1]⟩ := by
  have h : (sb 256 f).data.extract 0 2 = #[f 0, f 1] := by
    apply Array.ext_getElem?
    intro i
    match i with
    | 0 => simp [sb]
    | 1 => simp [sb]
    | i + 2 => simp [sb]
  have e : ((sb 256 f).extract 0 2).data = #[f 0, f 1] := by rw [ByteArray.data_extract]; exact h
  generalize (sb 256 f).extract 0 2 = x at e
  cases x; simp at e; subst e; rfl
end Go.Proofs.YtkapkphhceknfaaGreatDoor.Dv
namespace Go.Proofs.YtkapkphhceknfaaGreatDoor
open Go.RowKit Go.Maps
open Go.WideElems (Fit rd rg rd_key rd_val rg_of)
theorem pw_eq {α β : Type} (g : α → β) : ∀ {l : List α}, l.Pairwise (fun p q => g p ≠ g q) → ∀ {x y : α}, x ∈ l → y ∈ l → g x = g y → x = y
  | [], _, _, _, hx, _, _ => by simp at hx
  | a :: r, hp, x, y, hx, hy, h => by
    obtain ⟨h1, h2⟩ := List.pairwise_cons.1 hp
    rcases List.mem_cons.1 hx with ex | hx'
    · rcases List.mem_cons.1 hy with ey | hy'
      · rw [ex, ey]
      · exact absurd (ex ▸ h) (h1 y hy')
    · rcases List.mem_cons.1 hy with ey | hy'
      · exact absurd (ey ▸ h).symm (h1 x hx')
      · exact pw_eq g h2 hx' hy' h
/-- A key's number is i. -/
def isK (i : Int) : Value → Bool
  | .int .i64 j => decide (j = i)
  | _ => false
theorem isK_self (i : Int) : isK i (.int .i64 i) = true := by simp [isK]
theorem isK_eq {i j : Int} (h : isK i (.int .i64 j) = true) : j = i := by simpa [isK] using h
/-- Whatever element reads as itself. -/
def rV (v : Value) : Option (DataW Value × List MemPlace) := some (.held v, [])
abbrev kI (i : Int) : Lit := .int .i64 i
abbrev kOk (i : Int) : Prop := (kI i).wf = true
/-- What a reading tells, key by key. -/
def Tells (D : DataW Value) (f : Int → Option Value) : Prop :=
  ∀ i, kOk i → Maps.has D (kI i) = (f i).isSome ∧ ∀ v, f i = some v → ∀ zd, D.atKey (kI i) zd = .held v
/-- Block b is a map of at most n entries: at key i stands f i. -/
def MapF (P : Program) (w : World) (b n : Nat) (f : Int → Option Value) : Prop := ∃ D : DataW Value, w.ownsMap P 3 rV b n D ∧ Tells D f
section
variable {P : Program} {w : World} {b n : Nat} {f : Int → Option Value}
theorem MapF.lt (h : MapF P w b n f) : b < w.heap.size := by obtain ⟨D, h, _⟩ := h; exact h.lt
theorem MapF.mono (h : MapF P w b n f) {m : Nat} (hm : n ≤ m) : MapF P w b m f := by obtain ⟨D, h, h2⟩ := h; exact ⟨D, h.mono hm, h2⟩
theorem MapF.kept {w' : World} {row : Option Nat} (h : MapF P w b n f) (hg : w.grownBy w' row) (hne : some b ≠ row) : MapF P w' b n f := by obtain ⟨D, h, h2⟩ := h; exact ⟨D, h.kept hg hne, h2⟩
theorem MapF.same {w' : World} (h : MapF P w b n f) (hs : w'.heap[b]? = w.heap[b]?) : MapF P w' b n f := by
  obtain ⟨D, ⟨es, clock, hb, F, hs', hD⟩, h2⟩ := h
  exact ⟨D, ⟨es, clock, hs.trans hb, F, hs', hD⟩, h2⟩
theorem MapF.below {w' : World} {B : Nat} (h : MapF P w b n f) (hb : Below B w w') (hB : b < B) : MapF P w' b n f := h.same (hb.block b hB)
theorem MapF.alloc (h : MapF P w b n f) (o : Obj) : MapF P (w.alloc o) b n f := by obtain ⟨D, h, h2⟩ := h; exact ⟨D, h.alloc o, h2⟩
theorem MapF.drew (h : MapF P w b n f) : MapF P w.drew b n f := h
theorem MapF.drewN (h : MapF P w b n f) (k : Nat) : MapF P (w.drewN k) b n f := h
theorem MapF.congr (h : MapF P w b n f) {g : Int → Option Value} (hg : ∀ i, kOk i → g i = f i) : MapF P w b n g := by
  obtain ⟨D, h, h2⟩ := h
  exact ⟨D, h, fun i hi => by rw [hg i hi]; exact h2 i hi⟩
theorem MapF.upd {w' : World} {c : Nat} (h : MapF P w b n f) (hu : Upd w w' c) (hne : b ≠ c) : MapF P w' b n f := h.same (hu.block b hne)
theorem mapF_made (P : Program) (w : World) : MapF P (w.alloc (.map #[] 0)) w.heap.size 0 (fun _ => none) :=
  ⟨.map [], World.ownsMap_made w P 3 rV, fun i _ => ⟨rfl, fun v hv => by cases hv⟩⟩
/-- A map that came in. -/
theorem MapF.of_fit {H : Type} {R : Value → Option (DataW H × List MemPlace)} {es : Array MapEntry} {clock : Nat} (hk : P.underlying 3 = some (.int .i64)) (hb : w.heap[b]? = some (.map es clock)) (F : Fit P 3 R es clock) :
    ∃ f, MapF P w b es.size f ∧ ∀ i v, f i = some v → ∃ x ∈ es.toList, x.val = v := by
  have F' : Fit P 3 rV es clock := ⟨F.size, F.stamped, fun x hx => by
    obtain ⟨y, hy⟩ := F.reads x hx
    exact ⟨(y.1, .held x.val), by simp [rd, rd_key hy, rV]⟩⟩
  have hown : w.ownsMap P 3 rV b es.size (.map ((es.toList.map (rg P 3 rV)).foldr DataW.insert [])) := ⟨es, clock, hb, F', Nat.le_refl _, rfl⟩
  have K := int_keyed (P := P) hk
  refine ⟨fun i => (es.toList.find? fun x => isK i x.key).map (·.val), ⟨_, hown, fun i hi => ?_⟩, fun i v h => ?_⟩
  · have key := keyOf_int_mk (P := P) hk hi
    have hmem : ∀ x ∈ es.toList, ∃ j, x.key = .int .i64 j ∧ kOk j ∧ rg P 3 rV x = (kI j, .held x.val) := fun x hx => by
      obtain ⟨y, hy⟩ := F'.reads x hx
      obtain ⟨j, h1, h2, h3⟩ := Maps.keyOf_int_inv hk (rd_key hy)
      refine ⟨j, h1, h3, ?_⟩
      rw [rg_of hy]
      obtain ⟨z, hz1, hz2⟩ := rd_val hy
      simp only [rV, Option.some.injEq] at hz1
      ext
      · rw [h2]
      · rw [hz2, ← hz1]
    have hap := Maps.fit_apart K F'
    dsimp only
    cases hfd : es.toList.find? (fun x => isK i x.key) with
    | none =>
      refine ⟨?_, fun v hv => by simp at hv⟩
      simp only [Option.map_none, Option.isSome_none, Maps.has]
      rw [List.any_eq_false]
      intro p hp
      obtain ⟨x, hx, rfl⟩ := List.mem_map.1 (mem_sorted.1 hp)
      obtain ⟨j, h1, h2, h3⟩ := hmem x hx
      have hne : j ≠ i := fun e => by
        have := List.find?_eq_none.1 hfd x hx
        rw [h1, e, isK_self] at this; simp at this
      rw [h3]
      simpa using Maps.sameKey_ne (a := kI j) (b := kI i) (fun e => hne (by injection e))
    | some x =>
      have hx := List.mem_of_find?_eq_some hfd
      have hxk : isK i x.key = true := by simpa using List.find?_some hfd
      obtain ⟨j, h1, h2, h3⟩ := hmem x hx
      have hji : j = i := by rw [h1] at hxk; exact isK_eq hxk
      subst hji
      have hp : (kI j, DataW.held x.val) ∈ (es.toList.map (rg P 3 rV)).foldr DataW.insert [] := mem_sorted.2 (List.mem_map.2 ⟨x, hx, h3⟩)
      have hself : (kI j).sameKey (kI j) = true := WideAt.sameKey_self (K.key key)
      refine ⟨?_, fun v hv zd => ?_⟩
      · simp only [Option.map_some, Option.isSome_some, Maps.has]
        exact List.any_eq_true.2 ⟨_, hp, hself⟩
      · simp only [Option.map_some, Option.some.injEq] at hv
        subst hv
        have hpw : ((es.toList.map (rg P 3 rV)).foldr DataW.insert []).Pairwise (fun p q => p.1 ≠ q.1) := ((WideShapes.sorted_perm _).pairwise_iff (fun {_ _} hne => Ne.symm hne)).2 hap
        cases hq : ((es.toList.map (rg P 3 rV)).foldr DataW.insert []).find? (fun p => p.1.sameKey (kI j)) with
        | none =>
          have := List.find?_eq_none.1 hq _ hp
          rw [hself] at this; simp at this
        | some q =>
          have hqm := List.mem_of_find?_eq_some hq
          have hqk : q.1 = kI j := WideAt.sameKey_eq (by simpa using List.find?_some hq)
          have : q = (kI j, DataW.held x.val) := pw_eq Prod.fst hpw hqm hp hqk
          simp only [DataW.atKey, hq, this]
  · simp only [Option.map_eq_some_iff] at h
    obtain ⟨x, hx, rfl⟩ := h
    exact ⟨x, List.mem_of_find?_eq_some hx, rfl⟩
theorem MapF.look {t e : TypeId} (h : MapF P w b n f) (hk : P.underlying 3 = some (.int .i64)) (ht : P.underlying t = some (.map 3 e)) {z : Value} (hz : (zeroValue e).run P w = .ok z w) {i : Int} (hi : kOk i) :
    (Instr.lookup t (.map (some b)) (.int .i64 i) false).run P w = .ok ((f i).getD z) w := by
  obtain ⟨D, ⟨es, clock, hb, F, hs, rfl⟩, hD⟩ := h
  have K := int_keyed (P := P) hk
  rcases Maps.fit_look false K ht hz hb F (keyOf_int_mk hk hi) with ⟨hrun, _, hat⟩ | ⟨e0, y, _, _, hrun, hRv, hat, _⟩
  · have h0 := Maps.has_false_of_atKey hat
    rw [(hD i hi).1] at h0
    rw [Option.isSome_eq_false_iff, Option.isNone_iff_eq_none] at h0
    rw [h0]; exact hrun
  · have h0 := Maps.has_true_of_atKey hat
    rw [(hD i hi).1] at h0
    obtain ⟨v, hv⟩ := Option.isSome_iff_exists.1 h0
    have e1 := (hD i hi).2 v hv .nil
    rw [hat .nil] at e1
    simp only [rV, Option.some.injEq] at hRv
    rw [← hRv] at e1
    have e2 : e0.val = v := by simpa using e1
    rw [hv, ← e2]; exact hrun
theorem MapF.look_ok {t e : TypeId} (h : MapF P w b n f) (hk : P.underlying 3 = some (.int .i64)) (ht : P.underlying t = some (.map 3 e)) {z : Value} (hz : (zeroValue e).run P w = .ok z w) {i : Int} (hi : kOk i) :
    (Instr.lookup t (.map (some b)) (.int .i64 i) true).run P w = .ok (.tuple #[(f i).getD z, .bool (f i).isSome]) w := by
  obtain ⟨D, ⟨es, clock, hb, F, hs, rfl⟩, hD⟩ := h
  have K := int_keyed (P := P) hk
  rcases Maps.fit_look true K ht hz hb F (keyOf_int_mk hk hi) with ⟨hrun, _, hat⟩ | ⟨e0, y, _, _, hrun, hRv, hat, _⟩
  · have h0 := Maps.has_false_of_atKey hat
    rw [(hD i hi).1] at h0
    rw [h0]
    rw [Option.isSome_eq_false_iff, Option.isNone_iff_eq_none] at h0
    rw [h0]; exact hrun
  · have h0 := Maps.has_true_of_atKey hat
    rw [(hD i hi).1] at h0
    obtain ⟨v, hv⟩ := Option.isSome_iff_exists.1 h0
    have e1 := (hD i hi).2 v hv .nil
    rw [hat .nil] at e1
    simp only [rV, Option.some.injEq] at hRv
    rw [← hRv] at e1
    have e2 : e0.val = v := by simpa using e1
    rw [hv, ← e2]; exact hrun
theorem MapF.update {t e : TypeId} (h : MapF P w b n f) (hk : P.underlying 3 = some (.int .i64)) (ht : P.underlying t = some (.map 3 e)) (hn : n < maxLen) {i : Int} (hi : kOk i) (v : Value) :
    ∃ w', (Instr.mapUpdate t (.map (some b)) (.int .i64 i) v).run P w = .ok () w' ∧ MapF P w' b (n + 1) (fun j => if j = i then some v else f j) ∧ w.grownBy w' (some b) ∧ w'.heap.size = w.heap.size := by
  obtain ⟨D, h, hD⟩ := h
  have K := int_keyed (P := P) hk
  have hm := h.isMap
  obtain ⟨w', hrun, h', ht'⟩ := h.store K ht hn (keyOf_int_mk hk hi) (show rV v = some (.held v, []) from rfl)
  refine ⟨w', hrun, ⟨_, h', fun j hj => ?_⟩, ht'.grown, ?_⟩
  · show Maps.has _ (kI j) = (if j = i then some v else f j).isSome ∧ ∀ u, (if j = i then some v else f j) = some u → ∀ zd, _
    by_cases e : j = i
    · subst e
      rw [if_pos rfl]
      refine ⟨by rw [Maps.has_put_same hm (K.key (keyOf_int_mk hk hj))]; rfl, fun u hu zd => ?_⟩
      cases hu
      exact Maps.atKey_put_same hm (K.key (keyOf_int_mk hk hj)) _ _
    · rw [if_neg e]
      have hne : kI j ≠ kI i := fun h => e (by injection h)
      refine ⟨by rw [Maps.has_put_other hne]; exact (hD j hj).1, fun u hu zd => ?_⟩
      rw [Maps.atKey_put_other hne]
      exact (hD j hj).2 u hu zd
  · obtain ⟨_, _, _, _, _, rfl⟩ := ht'
    simp [ChangeMaps.setBlock]
theorem MapF.len {t e : TypeId} (h : MapF P w b n f) (ht : P.underlying t = some (.map 3 e)) (ty : TypeId) : ∃ k : Nat, k ≤ n ∧ (Builtin.len_ #[t] ty #[.map (some b)]).run P w = .ok (.int .i64 (k : Int)) w := by
  obtain ⟨D, h, hD⟩ := h
  exact ⟨_, h.size_le, h.len ht ty⟩
end
/-- A range over such a map is under way: left i: the entry at key i is still to come. -/
def RngF (P : Program) (w : World) (b r n : Nat) (f : Int → Option Value) (left : Int → Bool) (cnt : Nat) : Prop :=
  ∃ (D : DataW Value) (L : Lit → Bool), w.ranges P 3 rV b r n D L cnt ∧ Tells D f ∧ ∀ i, kOk i → L (kI i) = left i
section
variable {P : Program} {w : World} {b r n : Nat} {f : Int → Option Value} {left : Int → Bool} {cnt : Nat}
theorem RngF.map (h : RngF P w b r n f left cnt) : MapF P w b n f := by obtain ⟨D, L, h, h2, _⟩ := h; exact ⟨D, h.owns, h2⟩
theorem RngF.left_eq (h : RngF P w b r n f left cnt) : w.rangeLeft b r = cnt := by obtain ⟨D, L, h, _⟩ := h; exact h.left_eq
theorem RngF.ne (h : RngF P w b r n f left cnt) : r ≠ b := by obtain ⟨D, L, h, _⟩ := h; exact h.ne
theorem RngF.lt (h : RngF P w b r n f left cnt) : r < w.heap.size := by obtain ⟨D, L, h, _⟩ := h; exact h.lt
theorem RngF.kept {w' : World} {row : Option Nat} (h : RngF P w b r n f left cnt) (hg : w.grownBy w' row) (hb' : some b ≠ row) (hr' : some r ≠ row) : RngF P w' b r n f left cnt := by
  obtain ⟨D, L, h, h2, h3⟩ := h; exact ⟨D, L, h.kept hg hb' hr', h2, h3⟩
theorem RngF.below {w' : World} {B : Nat} (h : RngF P w b r n f left cnt) (hb : Below B w w') (hB : w.heap.size ≤ B) : RngF P w' b r n f left cnt :=
  h.kept (row := none) ⟨hb.os, hb.tape, hb.output, hb.size, fun i hi _ => hb.block i (by omega)⟩ (by simp) (by simp)
theorem RngF.drewN (h : RngF P w b r n f left cnt) (k : Nat) : RngF P (w.drewN k) b r n f left cnt := h
theorem MapF.range {t e : TypeId} (h : MapF P w b n f) (hk : P.underlying 3 = some (.int .i64)) (ht : P.underlying t = some (.map 3 e)) :
    ∃ w' cnt, (Instr.range t (.map (some b))).run P w = .ok (.pointer (some ⟨w.heap.size, 0, none⟩)) w' ∧ RngF P w' b w.heap.size n f (fun i => (f i).isSome) cnt ∧ cnt ≤ n ∧ w.grownBy w' none ∧ w'.heap.size = w.heap.size + 1 := by
  obtain ⟨D, h, hD⟩ := h
  obtain ⟨w', hrun, r1, r2, r3⟩ := h.range (int_keyed (P := P) hk) ht
  exact ⟨w', _, hrun, ⟨D, _, r1, hD, fun i hi => (hD i hi).1⟩, h.size_le, r2, r3⟩
theorem RngF.next (h : RngF P w b r n f left cnt) (hk : P.underlying 3 = some (.int .i64)) (ty : TypeId) :
    (cnt = 0 ∧ (∀ i, kOk i → left i = false) ∧ (Instr.next (.pointer (some ⟨r, 0, none⟩)) false ty).run P w = .ok (.tuple #[.bool false]) w) ∨
    ∃ i v w' cnt', kOk i ∧ left i = true ∧ f i = some v ∧ (Instr.next (.pointer (some ⟨r, 0, none⟩)) false ty).run P w = .ok (.tuple #[.bool true, .int .i64 i, v]) w' ∧
      RngF P w' b r n f (fun j => left j && !decide (j = i)) cnt' ∧ cnt' < cnt ∧ w.grownBy w' (some r) ∧ w'.heap.size = w.heap.size ∧ (Instr.entry (.pointer (some ⟨r, 0, none⟩))).run P w' = .ok (.tuple #[.int .i64 i, v]) w' := by
  obtain ⟨D, L, h, hD, hL⟩ := h
  have K := int_keyed (P := P) hk
  rcases h.next K ty with ⟨h0, hl, hrun⟩ | ⟨key, v, kl, y, w', cnt', hkey, hlk, hv, hat, hrun, hrg, hlt, hgr, hsz, hen⟩
  · exact Or.inl ⟨h0, fun i hi => by rw [← hL i hi]; exact hl _, hrun⟩
  · obtain ⟨i, rfl, rfl, hi⟩ := Maps.keyOf_int_inv hk hkey
    have hs := Maps.has_true_of_atKey hat
    rw [(hD i hi).1] at hs
    obtain ⟨u, hu⟩ := Option.isSome_iff_exists.1 hs
    have e1 := (hD i hi).2 u hu .nil
    rw [hat .nil] at e1
    simp only [rV, Option.some.injEq] at hv
    rw [← hv] at e1
    have e2 : v = u := by simpa using e1
    refine Or.inr ⟨i, v, w', cnt', hi, by rw [← hL i hi]; exact hlk, by rw [hu, e2], hrun, ⟨D, _, hrg, hD, fun j hj => ?_⟩, hlt, hgr, hsz, hen⟩
    by_cases e : j = i
    · subst e
      simp [WideAt.sameKey_self (K.key (keyOf_int_mk hk hj))]
    · have := Maps.sameKey_ne (a := kI j) (b := kI i) (fun h => e (by injection h))
      simp [this, hL j hj, e]
end
end Go.Proofs.YtkapkphhceknfaaGreatDoor
