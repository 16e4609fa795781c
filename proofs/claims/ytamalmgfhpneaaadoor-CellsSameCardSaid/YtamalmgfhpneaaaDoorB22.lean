/-
  Part of the proof: errors.As at an Errno and a place for one, walked; Tell, Place, and bare.
  Part of the proof: Tell, Place and bare, at no error and at an Errno, are walked.
  Part of the proof: cells and near tell the same, whether it may be asked or not.
  Part of the proof: CellsSame is walked.
-/
import Derived.Test.YtamalmgfhpneaaaDoorB21
namespace Go.Proofs.YtamalmgfhpneaaaDoor
open Go.RowKit Go.Extern.Stop Go.Stop Go.Extern
/-- How an entry for a method of a Value goes on behind its parts. -/
theorem r_method (z : Sem Value) (f : TypeId → Addr → Nat → Nat → Sem Value) (v : Value) : ∃ k, ReflectliteValue.method z f #[v] = (ReflectliteValue.parts v >>= k) ∧ ∀ t a fl, k (some (t, a, fl)) = f t a fl (fl % 32) :=
  ⟨_, rfl, fun _ _ _ => rfl⟩
theorem r_setK (v x : Value) (dst src : TypeId) (a b : Addr) : ∃ (k : Option (TypeId × Addr × Nat) → Option (TypeId × Addr × Nat) → Sem Value) (k2 : Value → Bool → Sem Value), ReflectliteValue.set #[v, x] = (ReflectliteValue.parts v >>= fun p => ReflectliteValue.parts x >>= fun q => k p q) ∧
    k (some (dst, a, 386)) (some (src, b, 130)) = (loadVar src b >>= fun val => Rtype.directlyAssignable dst src >>= fun d => k2 val d) ∧ ∀ val, k2 val true = (storeVar dst a val >>= fun _ => pure (Value.tuple #[])) :=
  ⟨_, _, rfl, rfl, fun _ => rfl⟩
theorem r_isNil (a p : Addr) (W : World) (ha : W.cell? a = some (.pointer (some p))) :
    (ReflectliteValue.method (ReflectliteValue.valueError "reflectlite.Value.IsNil" 0) ReflectliteValue.isNil #[.agg #[hnd 81, .pointer (some a), .int .u64 150]]).run Tryd.prog W = .ok (.bool false) W := by
  obtain ⟨k, e1, e2⟩ := r_method (ReflectliteValue.valueError "reflectlite.Value.IsNil" 0) ReflectliteValue.isNil (.agg #[hnd 81, .pointer (some a), .int .u64 150])
  rw [e1]
  simp only [Sem.run_bind, r_partsP, Result.andThen, e2]
  simp [Result.andThen, ReflectliteValue.isNil, loadVar, isAgg, underlying, Tryd.underlying81, ha]
theorem r_elemV (a p : Addr) (W : World) (ha : W.cell? a = some (.pointer (some p))) :
    (ReflectliteValue.method (ReflectliteValue.valueError "reflectlite.Value.Elem" 0) ReflectliteValue.elem #[.agg #[hnd 81, .pointer (some a), .int .u64 150]]).run Tryd.prog W
      = .ok (.agg #[hnd 32, .pointer (some p), .int .u64 386]) W := by
  obtain ⟨k, e1, e2⟩ := r_method (ReflectliteValue.valueError "reflectlite.Value.Elem" 0) ReflectliteValue.elem (.agg #[hnd 81, .pointer (some a), .int .u64 150])
  rw [e1]
  simp only [Sem.run_bind, r_partsP, Result.andThen, e2]
  simp [Result.andThen, ReflectliteValue.elem, loadVar, isAgg, underlying, Tryd.underlying81, ha, r_elemT, r_mkE]
theorem r_set (ta b : Addr) (n : Int) (old : Value) (W : World) (hb : W.cell? b = some (.int .i64 n)) (ht : W.cell? ta = some old) (hf : W.frozen? ta = false) :
    (ReflectliteValue.set #[.agg #[hnd 32, .pointer (some ta), .int .u64 386], .agg #[hnd 32, .pointer (some b), .int .u64 130]]).run Tryd.prog W
      = .ok (.tuple #[]) (W.setCell ta (.int .i64 n)) := by
  obtain ⟨k, k2, e1, e2, e3⟩ := r_setK (.agg #[hnd 32, .pointer (some ta), .int .u64 386]) (.agg #[hnd 32, .pointer (some b), .int .u64 130]) 32 32 ta b
  rw [e1]
  simp only [Sem.run_bind, r_partsA, r_partsE, Result.andThen, e2]
  simp [loadVar, isAgg, underlying, Tryd.underlying32, hb, Result.andThen, r_directE, e3, storeVar, Value.cells, storeCells, Addr.add]
  rw [run_store Tryd.prog W ta _ _ (by rfl)]
  simp [ht, hf]
/-- The one variable of package errors lies as laid. -/
def EB (w : World) : Prop := w.cell? ⟨0, 0, none⟩ = some (.iface 132 (.agg #[hnd 36]))
theorem EB.lt {w : World} (h : EB w) : 0 < w.heap.size := World.block_lt_of_cell? w _ h
theorem EB.below {w w' : World} (h : EB w) (hb : Below w.heap.size w w') : EB w' := by
  unfold EB; rw [hb.cell h.lt]; exact h
set_option maxRecDepth 100000 in
set_option maxHeartbeats 1000000 in
theorem as_hit (n : Int) (tb : Nat) (w : World) (hg : EB w) (ht0 : Blk w tb #[.int .i64 0] 32) :
    Calls Tryd.prog 47 #[.iface 32 (.int .i64 n), .iface 81 (.pointer (some ⟨tb, 0, none⟩))] w fun ev w' => ev = .returned (.bool true) ∧ Blk w' tb #[.int .i64 n] 32 ∧ w.heap.size ≤ w'.heap.size ∧ ∀ B, B ≤ tb → Below B w w' := by
  have h71 := @run_callFunc_extern Tryd.prog 65 _ (fun args => ReflectliteValue.unpack (args.getD 0 (.tuple #[]))) Tryd.func65 (by kernel_rfl) (by kernel_rfl) (by kernel_rfl) (by kernel_rfl)
  have h72 := @run_callFunc_extern Tryd.prog 66 _ (ReflectliteValue.methodAny (ReflectliteValue.valueError "reflectlite.Value.Type" 0) (fun t _ _ _ => ReflectliteType.toType t)) Tryd.func66 (by kernel_rfl) (by kernel_rfl) (by kernel_rfl) (by kernel_rfl)
  have h73 := @run_callFunc_extern Tryd.prog 67 _ (ReflectliteValue.method (ReflectliteValue.valueError "reflectlite.Value.IsNil" 0) ReflectliteValue.isNil) Tryd.func67 (by kernel_rfl) (by kernel_rfl) (by kernel_rfl) (by kernel_rfl)
  have hK := @run_callFunc_extern Tryd.prog 115 _ (ReflectliteType.abiMethod fun t => do pure (.int .u8 (← Rtype.kind t))) Tryd.func115 (by kernel_rfl) (by kernel_rfl) (by kernel_rfl) (by kernel_rfl)
  have hE := @run_callFunc_extern Tryd.prog 127 _ (ReflectliteType.method ReflectliteType.elem) Tryd.func127 (by kernel_rfl) (by kernel_rfl) (by kernel_rfl) (by kernel_rfl)
  have hI := @run_callFunc_extern Tryd.prog 128 _ (ReflectliteType.relation "Implements" ReflectliteType.implements_) Tryd.func128 (by kernel_rfl) (by kernel_rfl) (by kernel_rfl) (by kernel_rfl)
  have hT := @run_callFunc_extern Tryd.prog 86 _ ReflectliteType.typeOf Tryd.func86 (by kernel_rfl) (by kernel_rfl) (by kernel_rfl) (by kernel_rfl)
  have hA := @run_callFunc_extern Tryd.prog 125 _ (ReflectliteType.relation "AssignableTo" ReflectliteType.assignableTo) Tryd.func125 (by kernel_rfl) (by kernel_rfl) (by kernel_rfl) (by kernel_rfl)
  have h78 := @run_callFunc_extern Tryd.prog 87 _ (ReflectliteValue.method (ReflectliteValue.valueError "reflectlite.Value.Elem" 0) ReflectliteValue.elem) Tryd.func87 (by kernel_rfl) (by kernel_rfl) (by kernel_rfl) (by kernel_rfl)
  have h79 := @run_callFunc_extern Tryd.prog 88 _ ReflectliteValue.set Tryd.func88 (by kernel_rfl) (by kernel_rfl) (by kernel_rfl) (by kernel_rfl)
  have f1 := r_typeOfE
  have f2 := r_mAssign
  have f3 := r_assignE
  have f4 := r_valueE
  have f5 := r_valueP
  have f6 := r_typeP
  have f7 := r_mKind
  have f8 := r_mElem
  have f9 := r_mImpl
  have f10 := r_kindP
  have f11 := r_kindE
  have f12 := r_elemP
  have f13 := r_implE
  have htl := ht0.lt
  have hgl := hg.lt
  have n8 := r_isNil ⟨w.heap.size, 0, none⟩ ⟨tb, 0, none⟩ ((w.alloc (.cells #[.pointer (some ⟨tb, 0, none⟩)] 81)).alloc (.cells #[hnd 81, .pointer (some ⟨w.heap.size, 0, none⟩), .int .u64 150] 106)) (((Blk.new w #[.pointer (some ⟨tb, 0, none⟩)] 81).alloc _).cell 0)
  have hg2 : ((w.alloc (.cells #[.pointer (some ⟨tb, 0, none⟩)] 81)).alloc (.cells #[hnd 81, .pointer (some ⟨w.heap.size, 0, none⟩), .int .u64 150] 106)).cell? ⟨0, 0, none⟩ = some (.iface 132 (.agg #[hnd 36])) :=
    EB.below (EB.below hg ((Below.refl _ _).alloc (Nat.le_refl _) _)) ((Below.refl _ _).alloc (Nat.le_refl _) _)
  have el := r_elemV ⟨w.heap.size, 0, none⟩ ⟨tb, 0, none⟩ (((w.alloc (.cells #[.pointer (some ⟨tb, 0, none⟩)] 81)).alloc (.cells #[hnd 81, .pointer (some ⟨w.heap.size, 0, none⟩), .int .u64 150] 106)).alloc (.cells #[hnd 81, .pointer (some ⟨w.heap.size, 0, none⟩), .int .u64 150] 106)) ((((Blk.new w #[.pointer (some ⟨tb, 0, none⟩)] 81).alloc _).alloc _).cell 0)
  have tb4 := (((ht0.alloc (.cells #[.pointer (some ⟨tb, 0, none⟩)] 81)).alloc (.cells #[hnd 81, .pointer (some ⟨w.heap.size, 0, none⟩), .int .u64 150] 106)).alloc (.cells #[hnd 81, .pointer (some ⟨w.heap.size, 0, none⟩), .int .u64 150] 106)).alloc (.cells #[.int .i64 n] 32)
  have st := r_set ⟨tb, 0, none⟩ ⟨w.heap.size + 1 + 1 + 1, 0, none⟩ n (.int .i64 0) ((((w.alloc (.cells #[.pointer (some ⟨tb, 0, none⟩)] 81)).alloc (.cells #[hnd 81, .pointer (some ⟨w.heap.size, 0, none⟩), .int .u64 150] 106)).alloc (.cells #[hnd 81, .pointer (some ⟨w.heap.size, 0, none⟩), .int .u64 150] 106)).alloc (.cells #[.int .i64 n] 32))
    ((Blk.new' _ #[.int .i64 n] 32 (by simp)).cell 0) (tb4.cell 0) (tb4.frozen 0)
  have fin := tb4.set 0 (.int .i64 n)
  go_enter Tryd.func47, Tryd.ntmps47
  go_wp2
  refine wp_loop_rounds 1 ?_
  rw [rounds_succ]
  go_wp2
  go_ret
  refine ⟨rfl, fin, by simp; omega, fun B hB => ?_⟩
  exact (((((Below.refl B w).alloc (by omega) _).alloc (by simp; omega) _).alloc (by simp; omega) _).alloc (by simp; omega) _).setCell (by simp; omega) _
end Go.Proofs.YtamalmgfhpneaaaDoor
namespace Go.Proofs.YtamalmgfhpneaaaDoor
open Go.RowKit Go.Extern.Stop Go.Stop Go.Extern
theorem tell_nil (w : World) : Calls Tryd.prog 22 #[.nilIface] w fun e w' => e = .returned (.int .i64 0) ∧ w' = w := by
  go_enter Tryd.func22, Tryd.ntmps22
  go_wp2
  go_ret
  exact ⟨rfl, rfl⟩
set_option maxHeartbeats 400000 in
theorem tell_some (n : Int) (w : World) (hE : EB w) : Calls Tryd.prog 22 #[.iface 32 (.int .i64 n)] w fun e w' => e = .returned (.int .i64 n) ∧ Below w.heap.size w w' := by
  go_enter Tryd.func22, Tryd.ntmps22
  go_wp2_with fail
  refine (as_hit n w.heap.size _ (hE.below ((Below.refl _ _).alloc (Nat.le_refl _) _)) (Blk.new _ _ _)).mono ?_
  rintro e w1 ⟨rfl, b1, s1, g1⟩
  have c1 := b1.cell 0
  go_wp2
  go_ret
  exact ⟨rfl, ((Below.refl _ _).alloc (Nat.le_refl _) _).trans (g1 _ (Nat.le_refl _))⟩
set_option maxHeartbeats 400000 in
theorem place_nil (w : World) : Calls Tryd.prog 35 #[.nilIface] w fun e w' => e = .returned (.tuple #[.int .i64 0, .int .i64 (-1)]) ∧ w' = w := by
  go_enter Tryd.func35, Tryd.ntmps35
  go_wp2_with (go_at_call 22; refine (tell_nil _).mono ?_; rintro e w' ⟨rfl, rfl⟩)
  refine wp_loop_rounds 1 ?_
  rw [rounds_succ]
  go_wp2
  go_ret2
  exact ⟨rfl, rfl⟩
theorem as_at (v : Value) (w : World) : (Instr.typeAssert (.iface 32 v) 36 86 true).run Tryd.prog w = .ok (.tuple #[.pointer none, .bool false]) w := by kernel_rfl
theorem as_un (v : Value) (w : World) : (Instr.typeAssert (.iface 32 v) 36 90 true).run Tryd.prog w = .ok (.tuple #[.nilIface, .bool false]) w :=
  run_typeAssert_lacksB Tryd.underlying90 (by kernel_rfl) (by kernel_rfl) v 36 w
set_option maxRecDepth 100000 in
set_option maxHeartbeats 400000 in
theorem place_some (n : Int) (w : World) (hE : EB w) : Calls Tryd.prog 35 #[.iface 32 (.int .i64 n)] w fun e w' => e = .returned (.tuple #[.int .i64 n, .int .i64 (-1)]) ∧ Below w.heap.size w w' := by
  go_enter Tryd.func35, Tryd.ntmps35
  go_wp2_with fail
  refine (tell_some n _ hE).mono ?_
  rintro e w1 ⟨rfl, g1⟩
  go_wp2_with fail
  refine wp_loop_rounds 1 ?_
  rw [rounds_succ]
  have u1 := as_at
  have u2 := as_un
  go_wp2
  go_ret2
  exact ⟨rfl, g1⟩
theorem bare_nil (w : World) : Calls Tryd.prog 13 #[.nilIface, .int .i64 0] w fun e w' => e = .returned (.bool true) ∧ w' = w := by
  go_enter Tryd.func13, Tryd.ntmps13
  go_wp2_with (go_at_call 35; refine (place_nil _).mono ?_; rintro e w' ⟨rfl, rfl⟩)
  go_ret
  exact ⟨rfl, rfl⟩
theorem bare_some (w : World) (n : Int) (hE : EB w) : Calls Tryd.prog 13 #[.iface 32 (.int .i64 n), .int .i64 n] w fun e w' => e = .returned (.bool true) ∧ Below w.heap.size w w' := by
  go_enter Tryd.func13, Tryd.ntmps13
  go_wp2_with (go_at_call 35; refine (place_some n _ hE).mono ?_; rintro e w1 ⟨rfl, g1⟩)
  go_ret
  exact ⟨rfl, g1⟩
end Go.Proofs.YtamalmgfhpneaaaDoor
namespace Go.Proofs.YtamalmgfhpneaaaDoor.Ce
open Go.RowKit
open It Nr Sy
/-- No error, or that it may not be asked. -/
def ev (b : Bool) : Value := if b then .nilIface else errA
theorem tellE (b : Bool) (w : World) (hE : EB w) : Calls Tryd.prog 22 #[ev b] w fun e w' => e = .returned (.int .i64 (if b then 0 else 1)) ∧ Below w.heap.size w w' := by
  cases b with
  | true => exact (tell_nil w).mono fun e w' ⟨h1, h2⟩ => ⟨h1, by rw [h2]; exact Below.refl _ _⟩
  | false => exact tell_some 1 w hE
/-- What is found, if it may be asked. -/
def XK (ask : Bool) (ys : List Int) (tag : ByteArray) (k : Int) (L : List ItD) : List (ByteArray × Int) := if ask then tk k.toNat (fnd ys tag (xsOf L)) else []
theorem XK_perm {ask : Bool} {ys : List Int} {tag : ByteArray} {k : Int} {L L' : List ItD} (h : L.Perm L') : XK ask ys tag k L = XK ask ys tag k L' := by
  unfold XK
  rw [tk_perm (l := fnd ys tag (xsOf L)) (l' := fnd ys tag (xsOf L')) (by unfold fnd xsOf; exact ((h.map _).filter _).map _)]
theorem XK_len (ask : Bool) (ys : List Int) (tag : ByteArray) (k : Int) (L : List ItD) : (XK ask ys tag k L).length ≤ L.length := by
  unfold XK
  split
  · rw [tk_len]
    have := fnd_len ys tag (xsOf L)
    have : (xsOf L).length = L.length := by simp [xsOf]
    omega
  · exact Nat.zero_le _
theorem topN (dim : Int) (a : Option Addr) (c : Nat) (L : List ItD) (b : Option Addr) (d : Nat) (ys : List Int) (k : Int) (tag : ByteArray) (w : World) (h : Its w a L) (hl : L.length ≤ 100) (hy : Ints w b ys) (hyl : ys.length ≤ maxLen)
    (hnum : ∀ x ∈ L, x.x.nums.all numB = true ∧ x.x.nums.length ≤ 100) :
    Calls Tryd.prog 12 #[.int .i64 dim, .slice a L.length c, .slice b ys.length d, .int .i64 k, .string tag] w fun e w' => (∃ v, e = .returned (.tuple #[v, ev (askB dim ys k)]) ∧ Fnds w' v (XK (askB dim ys k) ys tag k L)) ∧ Below w.heap.size w w' := by
  cases hask : askB dim ys k with
  | true => exact top_ok dim a c L b d ys k tag w h hl hy hyl hask hnum
  | false =>
    refine (top_no dim a L.length c b d ys k tag w hy hyl hask).mono ?_
    rintro e w' ⟨rfl, rfl⟩
    exact ⟨⟨_, rfl, none, 0, rfl, Nat.le_refl _, fun i x hx => by cases hx⟩, Below.refl _ _⟩
theorem sq_bd {z y : Int} (h1 : -1000 ≤ z ∧ z ≤ 1000) (h2 : -1000 ≤ y ∧ y ≤ 1000) : (z - y) * (z - y) ≤ 4000000 := by
  rcases Int.le_total 0 (z - y) with h | h
  · exact sq_le (b := 2000) h (by omega)
  · have := sq_le (a := -(z - y)) (b := 2000) (by omega) (by omega)
    rw [Int.neg_mul_neg] at this
    exact this
theorem farK_bd {zs ys : List Int} (hz : zs.all numB = true) (hy : ys.all numB = true) : ∀ k, k ≤ zs.length → k ≤ ys.length → farK zs ys k ≤ 4000000 * (k : Int)
  | 0, _, _ => by unfold farK; simp
  | k + 1, h1, h2 => by
    have ih := farK_bd hz hy k (by omega) (by omega)
    obtain ⟨z, hzk⟩ : ∃ z, zs[k]? = some z := ⟨_, List.getElem?_eq_getElem (by omega)⟩
    obtain ⟨y, hyk⟩ : ∃ y, ys[k]? = some y := ⟨_, List.getElem?_eq_getElem (by omega)⟩
    have b1 := List.all_eq_true.1 hz z (List.mem_of_getElem? hzk)
    have b2 := List.all_eq_true.1 hy y (List.mem_of_getElem? hyk)
    rw [farK_succ hzk hyk]
    have := sq_bd (z := z) (y := y) (by simpa [numB] using b1) (by simpa [numB] using b2)
    omega
theorem cg_of {w : World} {B : Nat} {os : List CeD} {L : List ItD} (h : CS w B os) (hp : (os.flatMap CeD.it).Perm L) (hn : ∀ x ∈ L, x.x.nums.all numB = true ∧ 0 < x.x.nums.length ∧ x.x.nums.length ≤ 100) : CG os := by
  have key : ∀ x ∈ os, ∃ d ∈ L, d.x.nums.map begF = x.co := fun x hx => by
    obtain ⟨h1, h2⟩ := h.cor x hx
    cases hi : x.it with
    | nil => exact absurd hi h1
    | cons d r =>
      have hd : d ∈ x.it := by rw [hi]; simp
      exact ⟨d, hp.mem_iff.1 (List.mem_flatMap.2 ⟨x, hx, hd⟩), h2 d hd⟩
  refine ⟨fun x hx => ?_, fun x hx => ?_⟩
  · obtain ⟨d, hd, e⟩ := key x hx
    have := hn d hd
    rw [← e, List.length_map]
    exact ⟨this.2.1, this.2.2⟩
  · obtain ⟨d, hd, e⟩ := key x hx
    rw [← e, List.all_map]
    rw [List.all_eq_true]
    intro z hz
    exact begF_num (List.all_eq_true.1 (hn d hd).1 z hz)
theorem topC (p : Nat) (dim : Int) (v : Value) (os : List CeD) (C : Nat) (L : List ItD) (b : Option Addr) (d : Nat) (ys : List Int) (k : Int) (tag : ByteArray) (w : World) (hp : Blk w p #[.int .i64 dim, v] 73)
    (hr : w.ownsRow C 68 2 v os.length (flatC os)) (hs : CS w C os) (hpm : (os.flatMap CeD.it).Perm L) (hl : L.length ≤ 100) (hol : os.length ≤ L.length) (hok : ∀ x ∈ L, x.Ok w) (hnum : ∀ x ∈ L, x.x.nums.all numB = true ∧ 0 < x.x.nums.length ∧ x.x.nums.length ≤ 100) (hy : Ints w b ys) (hyl : ys.length ≤ maxLen) :
    Calls Tryd.prog 18 #[.pointer (some ⟨p, 0, none⟩), .slice b ys.length d, .int .i64 k, .string tag] w fun e w' => (∃ v lk, e = .returned (.tuple #[v, .int .i64 lk, ev (askB dim ys k)]) ∧ Fnds w' v (XK (askB dim ys k) ys tag k L) ∧ 0 ≤ lk ∧ lk ≤ (L.length : Int)) ∧ Below w.heap.size w w' := by
  cases hask : askB dim ys k with
  | true =>
    have hk : 1 ≤ k ∧ k ≤ 60 := by simp [askB] at hask; exact ⟨hask.1.1.2, hask.1.2⟩
    have hyn : ys.all numB = true := by unfold askB at hask; rw [Bool.and_eq_true] at hask; exact hask.2
    obtain ⟨kk, rfl⟩ : ∃ kk : Nat, k = (kk : Int) := ⟨k.toNat, by omega⟩
    obtain ⟨av, cv, hv⟩ := own_slice hr
    subst hv
    have hbig : ∀ x ∈ os, leastI x.co ys ≤ 9223372036854775807 := fun x hx => by
      obtain ⟨h1, h2⟩ := hs.cor x hx
      cases hi : x.it with
      | nil => exact absurd hi h1
      | cons e r =>
        have hd : e ∈ x.it := by rw [hi]; simp
        have hL := hpm.mem_iff.1 (List.mem_flatMap.2 ⟨x, hx, hd⟩)
        have l1 := least_le (ys := ys) (h2 e hd)
        have l2 := farK_bd (hnum e hL).1 hyn (min e.x.nums.length ys.length) (by omega) (by omega)
        have l3 := (hnum e hL).2.2
        unfold farI at l1
        omega
    refine (top_any p dim av cv os C b d ys kk tag w hp hr hs (by omega) (cg_of hs hpm hnum) (by rw [hpm.length_eq]; exact hl) (fun x hx y hyx => by
      have hL := hpm.mem_iff.1 (List.mem_flatMap.2 ⟨x, hx, hyx⟩)
      exact ⟨hok y hL, (hnum y hL).1, (hnum y hL).2.2⟩) hbig hy hyl hask).mono ?_
    rintro e w' ⟨⟨v2, lk, rfl, hF, h1, h2⟩, hb⟩
    refine ⟨⟨v2, lk, rfl, ?_, h1, by rw [hpm.length_eq] at h2; exact h2⟩, hb⟩
    rw [← XK_perm hpm]
    exact hF
  | false =>
    refine (top_refuses p dim v b d ys k tag w hp hy hyl hask).mono ?_
    rintro e w' ⟨rfl, rfl⟩
    exact ⟨⟨_, 0, rfl, ⟨none, 0, rfl, Nat.le_refl _, fun i x hx => by cases hx⟩, Int.le_refl _, by omega⟩, Below.refl _ _⟩
theorem cloneI (a : Option Addr) (c : Nat) (L : List ItD) (w : World) (h : Its w a L) (hl : L.length ≤ 100) (hnil : L = [] → a = none ∧ c = 0) :
    Calls Tryd.prog 24 #[.slice a L.length c] w fun e w' => (∃ a' c', e = .returned (.slice a' L.length c') ∧ w'.ownsRow w.heap.size 43 3 (.slice a' L.length c') L.length (flatI L)) ∧ Below w.heap.size w w' := by
  by_cases h0 : L = []
  · obtain ⟨rfl, rfl⟩ := hnil h0
    subst h0
    refine (iclone_nil w).mono ?_
    rintro e w' ⟨rfl, rfl⟩
    exact ⟨⟨none, 0, rfl, rfl, Or.inl ⟨rfl, rfl⟩⟩, Below.refl _ _⟩
  · have hp : 0 < L.length := List.length_pos_iff.2 h0
    obtain ⟨g, o, rfl, _⟩ := h 0 L[0] (List.getElem?_eq_getElem hp)
    refine (iclone_any g o c L w h hp hl).mono ?_
    rintro e w' ⟨⟨g', c', rfl, ow⟩, hb⟩
    exact ⟨⟨_, c', rfl, ow⟩, hb⟩
theorem revI' (B : Nat) (a : Option Addr) (c : Nat) (L : List ItD) (w : World) (h : w.ownsRow B 43 3 (.slice a L.length c) L.length (flatI L)) (hl : L.length ≤ 100) (hok : ∀ d ∈ L, d.Ok w) (hlow : ∀ d ∈ L, ∀ b o, d.a = some ⟨b, o, none⟩ → b < B) :
    Calls Tryd.prog 25 #[.slice a L.length c] w fun e w' => e = .returned (.tuple #[]) ∧ Its w' a L.reverse ∧ Below B w w' := by
  by_cases h0 : L = []
  · subst h0
    exact (AnyQ.slices_Reverse_empty revI a c w).mono fun e w' ⟨h1, h2⟩ => ⟨h1, fun i d hd => by simp at hd, by rw [h2]; exact Below.refl _ _⟩
  · have hp : 0 < L.length := List.length_pos_iff.2 h0
    obtain ⟨g, cap, cur, hv, hgB, _⟩ := own_parts h (by omega)
    injection hv with h1 h2 h3
    subst h1 h3
    exact irev_any B g _ L w h hp (by omega) hok (fun d hd b o e => by have := hlow d hd b o e; omega)
end Go.Proofs.YtamalmgfhpneaaaDoor.Ce
namespace Go.Proofs.YtamalmgfhpneaaaDoor.Ce
open Go.RowKit
open It Nr Sy
set_option maxRecDepth 100000 in
set_option maxHeartbeats 8000000 in
theorem cells_main (a : Option Addr) (c : Nat) (ds : List ItD) (b : Option Addr) (d : Nat) (ys : List Int) (k : Int) (tag : ByteArray) (w : World) (hE : EB w) (h : Its w a ds) (hl : ds.length ≤ 65) (hheld : heldB (xsOf ds) = true) (hy : Ints w b ys) (hyl : ys.length ≤ 12) (ht : tag.size ≤ 40) :
    Calls Tryd.prog 4 #[.slice a ds.length c, .slice b ys.length d, .int .i64 k, .string tag] w fun e w' => e = .returned (.bool true) ∧ Below w.heap.size w w' := by
  have hyl' : ¬ (12 : Int) < (ys.length : Int) := by omega
  have ht' : ¬ (40 : Int) < (tag.size : Int) := by omega
  have hym : ys.length ≤ maxLen := by unfold maxLen; omega
  have hlm : ds.length ≤ maxLen := by unfold maxLen; omega
  have HE : Hid (∀ W, Below w.heap.size w W → EB W) := fun W hW => hE.below hW
  have HYW : Hid (∀ W, Below w.heap.size w W → Ints W b ys) := fun W hW => hy.below hW
  clear hE hy
  go_enter Tryd.func4, Tryd.ntmps4
  go_wp2_with fail
  refine (held_any a c ds w h hlm).mono ?_
  rintro e w1 ⟨rfl, g1⟩
  rw [hheld]
  go_wp2_with fail
  refine (found_any w1).mono ?_
  rintro e w2 ⟨rfl, g2⟩
  have b2 := g1.trans (g2.mono g1.size)
  go_wp2_with fail
  refine (kright_any a c ds w2 (h.below b2) hl).mono ?_
  rintro e w3 ⟨⟨v, rfl, ow, hnil⟩, g3⟩
  have b3 := b2.trans (g3.mono b2.size)
  have hok : ∀ x ∈ rgt ds, x.Ok w3 := fun x hx => by
    obtain ⟨i, hi⟩ := List.getElem?_of_mem (rgt_mem hx).1
    obtain ⟨_, _, _, _, _, _, q⟩ := (h.below b3) i x hi
    exact q
  have hlowA : ∀ x ∈ rgt ds, ∀ b' o', x.a = some ⟨b', o', none⟩ → x.x.nums ≠ [] → b' < w.heap.size := fun x hx b' o' e hn => by
    obtain ⟨i, hi⟩ := List.getElem?_of_mem (rgt_mem hx).1
    obtain ⟨_, _, _, _, _, _, q⟩ := h i x hi
    cases hnn : x.x.nums with
    | nil => exact absurd hnn hn
    | cons z r =>
      obtain ⟨g, o, e', hc⟩ := q.1 0 z (by rw [hnn]; rfl)
      rw [e] at e'
      injection e' with e'
      injection e' with e1 e2
      rw [e1]
      exact World.block_lt_of_cell? w _ hc
  have hnm : ∀ x ∈ rgt ds, x.x.nums.all numB = true ∧ x.x.nums.length = 2 := fun x hx => right_nums (rgt_mem hx).2
  have hll : (rgt ds).length ≤ 65 := Nat.le_trans (rgt_len ds) hl
  obtain ⟨L, hL⟩ : ∃ L, rgt ds = L := ⟨_, rfl⟩
  rw [hL] at ow hnil hok hnm hll hlowA
  have HLOW : Hid (∀ x ∈ L, ∀ b' o', x.a = some ⟨b', o', none⟩ → b' < w.heap.size) := fun x hx b' o' e => hlowA x hx b' o' e (fun hn => by have := (hnm x hx).2; rw [hn] at this; cases this)
  obtain ⟨al, cl, rfl, hIts⟩ := its_own ow hok
  have HNIL : Hid (L = [] → al = none ∧ cl = 0) := fun e => by
    have := hnil e
    injection this with h1 h2 h3
    exact ⟨h1, h3⟩
  have HN1 : Hid (∀ x ∈ L, x.x.nums.all numB = true ∧ x.x.nums.length ≤ 100) := fun x hx => ⟨(hnm x hx).1, by rw [(hnm x hx).2]; omega⟩
  have HN2 : Hid (∀ x ∈ L, x.x.nums.all numB = true ∧ 0 < x.x.nums.length ∧ x.x.nums.length ≤ 100) := fun x hx => ⟨(hnm x hx).1, by rw [(hnm x hx).2]; omega, by rw [(hnm x hx).2]; omega⟩
  have HOK : Hid (∀ W, Below w3.heap.size w3 W → ∀ x ∈ L, x.Ok W) := fun W hW x hx => (hok x hx).below hW
  obtain ⟨E, hEv⟩ : ∃ E, ev (askB 2 ys k) = E := ⟨_, rfl⟩
  obtain ⟨T, hT⟩ : ∃ T : Int, (if askB 2 ys k then (0 : Int) else 1) = T := ⟨_, rfl⟩
  have HTE : Hid (∀ W, EB W → Calls Tryd.prog 22 #[E] W fun e w' => e = .returned (.int .i64 T) ∧ Below W.heap.size W w') := fun W hW => by
    have h0 := tellE (askB 2 ys k) W hW
    rw [hEv, hT] at h0
    exact h0
  obtain ⟨ask, hask⟩ : ∃ ask, askB 2 ys k = ask := ⟨_, rfl⟩
  have HXL : Hid ((XK ask ys tag k L).length ≤ 1000) := Nat.le_trans (XK_len ask ys tag k L) (by omega)
  have HT1 := topN 2 al cl L b d ys k tag w3 hIts (by omega) (HYW.out w3 b3) hym HN1.out
  rw [hEv, hask] at HT1
  have H1 : Hid _ := HT1
  have HAV : Hid (askB 2 ys k = ask ∧ ev (askB 2 ys k) = E) := ⟨hask, hEv⟩
  clear hL hnil hnm hok ow h g1 g2 g3 b2 hlm hheld hlowA HT1 hEv hT hask
  go_wp2_with fail
  refine Calls.mono H1.out ?_
  rintro e w4 ⟨⟨v1, rfl, hF1⟩, g4⟩
  have b34 := g4
  have b4 := b3.trans (g4.mono b3.size)
  have HF1 : Hid (∀ W, Below w4.heap.size w4 W → Fnds W v1 (XK ask ys tag k L)) := fun W hW => Fnds.below hF1 hW
  have hI4 := hIts.below g4
  have H2 : Hid _ := new_any 2 al cl L w4 hI4 (by omega) HN1.out
  clear hF1 g4 H1
  go_wp2_with fail
  refine Calls.mono H2.out ?_
  rintro e w5 ⟨⟨p, v, os, rfl, hp, hr, hs, hpm, hol⟩, g5⟩
  have b45 := g5
  have b35 := b34.trans (b45.mono b34.size)
  have b5 := b4.trans (b45.mono b4.size)
  have HT2 := topC p 2 v os w4.heap.size L b d ys k tag w5 hp hr hs hpm (by omega) hol (HOK.out w5 b35) HN2.out (HYW.out w5 b5) hym
  rw [HAV.out.2, HAV.out.1] at HT2
  have H3 : Hid _ := HT2
  clear HT2 hp hr hs hpm hol H2 g5
  go_wp2_with fail
  refine Calls.mono H3.out ?_
  rintro e w6 ⟨⟨v2, lk, rfl, hF2, hlk1, hlk2⟩, g6⟩
  have b46 := b45.trans (g6.mono b45.size)
  have b6 := b4.trans (b46.mono b4.size)
  have HF2 : Hid (∀ W, Below w6.heap.size w6 W → Fnds W v2 (XK ask ys tag k L)) := fun W hW => Fnds.below hF2 hW
  have n1 : ¬ lk < 0 := by omega
  have n2 : ¬ (L.length : Int) < lk := by omega
  clear hF2 H3 b45 b35 b5
  go_wp2_with fail
  refine (HTE.out w6 (HE.out w6 b6)).mono ?_
  rintro e w7 ⟨rfl, g7⟩
  have b47 := b46.trans (g7.mono b46.size)
  have b7 := b4.trans (b47.mono b4.size)
  go_wp2_with fail
  refine (HTE.out w7 (HE.out w7 b7)).mono ?_
  rintro e w8 ⟨rfl, g8⟩
  have g68 := g7.trans (g8.mono g7.size)
  have b48 := b46.trans (g68.mono b46.size)
  have b8 := b4.trans (b48.mono b4.size)
  have H4 : Hid _ := feq_any v1 v2 (XK ask ys tag k L) w8 (HF1.out w8 b48) (HF2.out w8 g68) HXL.out
  clear g7 g8 b7 b47
  go_wp2_with fail
  refine Calls.mono H4.out ?_
  rintro e w9 ⟨rfl, n9, h9⟩
  have g9 : Below w8.heap.size w8 w9 := by rw [h9]; exact below_drewN (Below.refl _ _) n9
  have b49 := b48.trans (g9.mono b48.size)
  have b39 := b34.trans (b49.mono b34.size)
  have b9 := b4.trans (b49.mono b4.size)
  have hI9 := hI4.below b49
  have H5 : Hid _ := cloneI al cl L w9 hI9 (by omega) HNIL.out
  clear h9 g9 H4 b48 b8 g68 b46 b6 HF2
  go_wp2_with fail
  refine Calls.mono H5.out ?_
  rintro e w10 ⟨⟨a2, c2, rfl, ow2⟩, g10⟩
  have b310 := b39.trans (g10.mono b39.size)
  have b410 := b49.trans (g10.mono b49.size)
  have H6 : Hid _ := revI' w9.heap.size a2 c2 L w10 ow2 (by omega) (HOK.out w10 b310) (fun x hx b' o' e => Nat.lt_of_lt_of_le (HLOW.out x hx b' o' e) b9.size)
  clear H5 ow2
  go_wp2_with fail
  refine Calls.mono H6.out ?_
  rintro e w11 ⟨rfl, hI11, g11⟩
  have g911 := g10.trans g11
  have b311 := b39.trans (g911.mono b39.size)
  have b411 := b49.trans (g911.mono b49.size)
  have b11 := b4.trans (b411.mono b4.size)
  have HNW := new_any 2 a2 c2 L.reverse w11 hI11 (by rw [List.length_reverse]; omega) (fun x hx => HN1.out x (List.mem_reverse.1 hx))
  rw [List.length_reverse] at HNW
  have H7 : Hid _ := HNW
  clear HNW H6 g10 g11 g911 b310 b410 hI11 hI9
  go_wp2_with fail
  refine Calls.mono H7.out ?_
  rintro e w12 ⟨⟨p2, v12, os2, rfl, hp, hr, hs, hpm, hol⟩, g12⟩
  have b312 := b311.trans (g12.mono b311.size)
  have b412 := b411.trans (g12.mono b411.size)
  have b12 := b4.trans (b412.mono b4.size)
  have HT2 := topC p2 2 v12 os2 w11.heap.size L b d ys k tag w12 hp hr hs (hpm.trans (List.reverse_perm L)) (by omega) hol (HOK.out w12 b312) HN2.out (HYW.out w12 b12) hym
  rw [HAV.out.2, HAV.out.1] at HT2
  have H8 : Hid _ := HT2
  clear HT2 hp hr hs hpm hol H7 g12 b311 b411 b11
  go_wp2_with fail
  refine Calls.mono H8.out ?_
  rintro e w13 ⟨⟨v3, lk3, rfl, hF3, _, _⟩, g13⟩
  have b413 := b412.trans (g13.mono b412.size)
  have b13 := b4.trans (b413.mono b4.size)
  have HF3 : Hid (∀ W, Below w13.heap.size w13 W → Fnds W v3 (XK ask ys tag k L)) := fun W hW => Fnds.below hF3 hW
  clear hF3 H8 b312 b412 b12 g13
  go_wp2_with fail
  refine (HTE.out w13 (HE.out w13 b13)).mono ?_
  rintro e w14 ⟨rfl, g14⟩
  have b414 := b413.trans (g14.mono b413.size)
  have b14 := b4.trans (b414.mono b4.size)
  go_wp2_with fail
  refine (HTE.out w14 (HE.out w14 b14)).mono ?_
  rintro e w15 ⟨rfl, g15⟩
  have g1315 := g14.trans (g15.mono g14.size)
  have b415 := b413.trans (g1315.mono b413.size)
  have b15 := b4.trans (b415.mono b4.size)
  have H9 : Hid _ := feq_any v3 v1 (XK ask ys tag k L) w15 (HF3.out w15 g1315) (HF1.out w15 b415) HXL.out
  clear g14 g15
  go_wp2_with fail
  refine Calls.mono H9.out ?_
  rintro e w16 ⟨rfl, n16, h16⟩
  have b16 : Below w.heap.size w w16 := by rw [h16]; exact below_drewN b15 n16
  clear h16
  go_wp2_with fail
  go_ret
  exact ⟨rfl, b16⟩
set_option maxRecDepth 100000 in
theorem cells_any (a : Option Addr) (c : Nat) (ds : List ItD) (b : Option Addr) (d : Nat) (ys : List Int) (k : Int) (tag : ByteArray) (w : World) (hE : EB w) (h : Its w a ds) (hl : ds.length ≤ maxLen) (hy : Ints w b ys) :
    Calls Tryd.prog 4 #[.slice a ds.length c, .slice b ys.length d, .int .i64 k, .string tag] w fun e w' => e = .returned (.bool true) ∧ Below w.heap.size w w' := by
  cases hheld : heldB (xsOf ds) with
  | false =>
    go_enter Tryd.func4, Tryd.ntmps4
    go_wp2_with fail
    refine (held_any a c ds w h hl).mono ?_
    rintro e w1 ⟨rfl, g1⟩
    rw [hheld]
    go_wp2_with fail
    go_ret
    exact ⟨rfl, g1⟩
  | true =>
    have hl65 : ds.length ≤ 65 := by
      have h0 := hheld
      unfold heldB at h0
      rw [Bool.and_eq_true, decide_eq_true_eq] at h0
      have h1 : (xsOf ds).length = ds.length := by simp [xsOf]
      omega
    by_cases h12 : ys.length ≤ 12
    · by_cases h40 : tag.size ≤ 40
      · exact cells_main a c ds b d ys k tag w hE h hl65 hheld hy h12 h40
      · have h40' : (40 : Int) < (tag.size : Int) := by omega
        have h12' : ¬ (12 : Int) < (ys.length : Int) := by omega
        go_enter Tryd.func4, Tryd.ntmps4
        go_wp2_with fail
        refine (held_any a c ds w h hl).mono ?_
        rintro e w1 ⟨rfl, g1⟩
        rw [hheld]
        go_wp2_with fail
        go_ret
        exact ⟨rfl, g1⟩
    · have h12' : (12 : Int) < (ys.length : Int) := by omega
      go_enter Tryd.func4, Tryd.ntmps4
      go_wp2_with fail
      refine (held_any a c ds w h hl).mono ?_
      rintro e w1 ⟨rfl, g1⟩
      rw [hheld]
      go_wp2_with fail
      go_ret
      exact ⟨rfl, g1⟩
end Go.Proofs.YtamalmgfhpneaaaDoor.Ce
