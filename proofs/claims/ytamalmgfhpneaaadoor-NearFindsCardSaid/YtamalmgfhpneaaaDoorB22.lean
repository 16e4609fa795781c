/-
  Part of the proof: errors.As at an Errno and a place for one, walked; Tell, Place, and bare.
  Part of the proof: Tell, Place and bare, at no error and at an Errno, are walked.
  Part of the proof: cells and near tell the same, whether it may be asked or not.
  Part of the proof: the reference's words on items are walked.
-/
import Derived.Test.YtamalmgfhpneaaaDoorB21
namespace Go.Proofs.YtamalmgfhpneaaaDoor
open Go.RowKit Go.Extern.Stop Go.Stop Go.Extern
/-- How an entry for a method of a Value goes on behind its parts. -/
theorem r_method (z : Sem Value) (f : TypeId → Addr → Nat → Nat → Sem Value) (v : Value) : ∃ k, ReflectliteValue.method z f #[v] = (ReflectliteValue.parts v >>= k) ∧ ∀ t a fl, k (some (t, a, fl)) = f t a fl (fl % 32) :=
  ⟨_, rfl, fun _ _ _ => rfl⟩
theorem r_setK (v x : Value) (dst src : TypeId) (a b : Addr) : ∃ (k : Option (TypeId × Addr × Nat) → Option (TypeId × Addr × Nat) → Sem Value) (k2 : Value → Bool → Sem Value), ReflectliteValue.set #[v, x] = (ReflectliteValue.parts v >>= fun p => ReflectliteValue.parts x >>= fun q => k p q) ∧
    k (some (dst, a, 386)) (some (src, b, 130)) = (loadVar src b >>= fun val => Rtype.directlyAssignable dst src >>= fun d => k2 val d) ∧ ∀ val, k2 val true = (storeVar dst a val >>= fun _ => pure (Value.tuple #[])) :=
  ⟨_, _, rfl, rfl, fun _ => rfl⟩
theorem r_isNil (a p : Addr) (W : World) (ha : W.cell? a = some (.pointer (some p))) :
    (ReflectliteValue.method (ReflectliteValue.valueError "reflectlite.Value.IsNil" 0) ReflectliteValue.isNil #[.agg #[hnd 81, .pointer (some a), .int .u64 150]]).run Tryd.prog W = .ok (.bool false) W := by
  obtain ⟨k, e1, e2⟩ := r_method (ReflectliteValue.valueError "reflectlite.Value.IsNil" 0) ReflectliteValue.isNil (.agg #[hnd 81, .pointer (some a), .int .u64 150])
  rw [e1]
  simp only [Sem.run_bind, r_partsP, Result.andThen, e2]
  simp [Result.andThen, ReflectliteValue.isNil, loadVar, isAgg, underlying, Tryd.underlying81, ha]
theorem r_elemV (a p : Addr) (W : World) (ha : W.cell? a = some (.pointer (some p))) :
    (ReflectliteValue.method (ReflectliteValue.valueError "reflectlite.Value.Elem" 0) ReflectliteValue.elem #[.agg #[hnd 81, .pointer (some a), .int .u64 150]]).run Tryd.prog W
      = .ok (.agg #[hnd 32, .pointer (some p), .int .u64 386]) W := by
  obtain ⟨k, e1, e2⟩ := r_method (ReflectliteValue.valueError "reflectlite.Value.Elem" 0) ReflectliteValue.elem (.agg #[hnd 81, .pointer (some a), .int .u64 150])
  rw [e1]
  simp only [Sem.run_bind, r_partsP, Result.andThen, e2]
  simp [Result.andThen, ReflectliteValue.elem, loadVar, isAgg, underlying, Tryd.underlying81, ha, r_elemT, r_mkE]
theorem r_set (ta b : Addr) (n : Int) (old : Value) (W : World) (hb : W.cell? b = some (.int .i64 n)) (ht : W.cell? ta = some old) (hf : W.frozen? ta = false) :
    (ReflectliteValue.set #[.agg #[hnd 32, .pointer (some ta), .int .u64 386], .agg #[hnd 32, .pointer (some b), .int .u64 130]]).run Tryd.prog W
      = .ok (.tuple #[]) (W.setCell ta (.int .i64 n)) := by
  obtain ⟨k, k2, e1, e2, e3⟩ := r_setK (.agg #[hnd 32, .pointer (some ta), .int .u64 386]) (.agg #[hnd 32, .pointer (some b), .int .u64 130]) 32 32 ta b
  rw [e1]
  simp only [Sem.run_bind, r_partsA, r_partsE, Result.andThen, e2]
  simp [loadVar, isAgg, underlying, Tryd.underlying32, hb, Result.andThen, r_directE, e3, storeVar, Value.cells, storeCells, Addr.add]
  rw [run_store Tryd.prog W ta _ _ (by rfl)]
  simp [ht, hf]
/-- The one variable of package errors lies as laid. -/
def EB (w : World) : Prop := w.cell? ⟨0, 0, none⟩ = some (.iface 132 (.agg #[hnd 36]))
theorem EB.lt {w : World} (h : EB w) : 0 < w.heap.size := World.block_lt_of_cell? w _ h
theorem EB.below {w w' : World} (h : EB w) (hb : Below w.heap.size w w') : EB w' := by
  unfold EB; rw [hb.cell h.lt]; exact h
set_option maxRecDepth 100000 in
set_option maxHeartbeats 1000000 in
theorem as_hit (n : Int) (tb : Nat) (w : World) (hg : EB w) (ht0 : Blk w tb #[.int .i64 0] 32) :
    Calls Tryd.prog 47 #[.iface 32 (.int .i64 n), .iface 81 (.pointer (some ⟨tb, 0, none⟩))] w fun ev w' => ev = .returned (.bool true) ∧ Blk w' tb #[.int .i64 n] 32 ∧ w.heap.size ≤ w'.heap.size ∧ ∀ B, B ≤ tb → Below B w w' := by
  have h71 := @run_callFunc_extern Tryd.prog 65 _ (fun args => ReflectliteValue.unpack (args.getD 0 (.tuple #[]))) Tryd.func65 (by kernel_rfl) (by kernel_rfl) (by kernel_rfl) (by kernel_rfl)
  have h72 := @run_callFunc_extern Tryd.prog 66 _ (ReflectliteValue.methodAny (ReflectliteValue.valueError "reflectlite.Value.Type" 0) (fun t _ _ _ => ReflectliteType.toType t)) Tryd.func66 (by kernel_rfl) (by kernel_rfl) (by kernel_rfl) (by kernel_rfl)
  have h73 := @run_callFunc_extern Tryd.prog 67 _ (ReflectliteValue.method (ReflectliteValue.valueError "reflectlite.Value.IsNil" 0) ReflectliteValue.isNil) Tryd.func67 (by kernel_rfl) (by kernel_rfl) (by kernel_rfl) (by kernel_rfl)
  have hK := @run_callFunc_extern Tryd.prog 115 _ (ReflectliteType.abiMethod fun t => do pure (.int .u8 (← Rtype.kind t))) Tryd.func115 (by kernel_rfl) (by kernel_rfl) (by kernel_rfl) (by kernel_rfl)
  have hE := @run_callFunc_extern Tryd.prog 127 _ (ReflectliteType.method ReflectliteType.elem) Tryd.func127 (by kernel_rfl) (by kernel_rfl) (by kernel_rfl) (by kernel_rfl)
  have hI := @run_callFunc_extern Tryd.prog 128 _ (ReflectliteType.relation "Implements" ReflectliteType.implements_) Tryd.func128 (by kernel_rfl) (by kernel_rfl) (by kernel_rfl) (by kernel_rfl)
  have hT := @run_callFunc_extern Tryd.prog 86 _ ReflectliteType.typeOf Tryd.func86 (by kernel_rfl) (by kernel_rfl) (by kernel_rfl) (by kernel_rfl)
  have hA := @run_callFunc_extern Tryd.prog 125 _ (ReflectliteType.relation "AssignableTo" ReflectliteType.assignableTo) Tryd.func125 (by kernel_rfl) (by kernel_rfl) (by kernel_rfl) (by kernel_rfl)
  have h78 := @run_callFunc_extern Tryd.prog 87 _ (ReflectliteValue.method (ReflectliteValue.valueError "reflectlite.Value.Elem" 0) ReflectliteValue.elem) Tryd.func87 (by kernel_rfl) (by kernel_rfl) (by kernel_rfl) (by kernel_rfl)
  have h79 := @run_callFunc_extern Tryd.prog 88 _ ReflectliteValue.set Tryd.func88 (by kernel_rfl) (by kernel_rfl) (by kernel_rfl) (by kernel_rfl)
  have f1 := r_typeOfE
  have f2 := r_mAssign
  have f3 := r_assignE
  have f4 := r_valueE
  have f5 := r_valueP
  have f6 := r_typeP
  have f7 := r_mKind
  have f8 := r_mElem
  have f9 := r_mImpl
  have f10 := r_kindP
  have f11 := r_kindE
  have f12 := r_elemP
  have f13 := r_implE
  have htl := ht0.lt
  have hgl := hg.lt
  have n8 := r_isNil ⟨w.heap.size, 0, none⟩ ⟨tb, 0, none⟩ ((w.alloc (.cells #[.pointer (some ⟨tb, 0, none⟩)] 81)).alloc (.cells #[hnd 81, .pointer (some ⟨w.heap.size, 0, none⟩), .int .u64 150] 106)) (((Blk.new w #[.pointer (some ⟨tb, 0, none⟩)] 81).alloc _).cell 0)
  have hg2 : ((w.alloc (.cells #[.pointer (some ⟨tb, 0, none⟩)] 81)).alloc (.cells #[hnd 81, .pointer (some ⟨w.heap.size, 0, none⟩), .int .u64 150] 106)).cell? ⟨0, 0, none⟩ = some (.iface 132 (.agg #[hnd 36])) :=
    EB.below (EB.below hg ((Below.refl _ _).alloc (Nat.le_refl _) _)) ((Below.refl _ _).alloc (Nat.le_refl _) _)
  have el := r_elemV ⟨w.heap.size, 0, none⟩ ⟨tb, 0, none⟩ (((w.alloc (.cells #[.pointer (some ⟨tb, 0, none⟩)] 81)).alloc (.cells #[hnd 81, .pointer (some ⟨w.heap.size, 0, none⟩), .int .u64 150] 106)).alloc (.cells #[hnd 81, .pointer (some ⟨w.heap.size, 0, none⟩), .int .u64 150] 106)) ((((Blk.new w #[.pointer (some ⟨tb, 0, none⟩)] 81).alloc _).alloc _).cell 0)
  have tb4 := (((ht0.alloc (.cells #[.pointer (some ⟨tb, 0, none⟩)] 81)).alloc (.cells #[hnd 81, .pointer (some ⟨w.heap.size, 0, none⟩), .int .u64 150] 106)).alloc (.cells #[hnd 81, .pointer (some ⟨w.heap.size, 0, none⟩), .int .u64 150] 106)).alloc (.cells #[.int .i64 n] 32)
  have st := r_set ⟨tb, 0, none⟩ ⟨w.heap.size + 1 + 1 + 1, 0, none⟩ n (.int .i64 0) ((((w.alloc (.cells #[.pointer (some ⟨tb, 0, none⟩)] 81)).alloc (.cells #[hnd 81, .pointer (some ⟨w.heap.size, 0, none⟩), .int .u64 150] 106)).alloc (.cells #[hnd 81, .pointer (some ⟨w.heap.size, 0, none⟩), .int .u64 150] 106)).alloc (.cells #[.int .i64 n] 32))
    ((Blk.new' _ #[.int .i64 n] 32 (by simp)).cell 0) (tb4.cell 0) (tb4.frozen 0)
  have fin := tb4.set 0 (.int .i64 n)
  go_enter Tryd.func47, Tryd.ntmps47
  go_wp2
  refine wp_loop_rounds 1 ?_
  rw [rounds_succ]
  go_wp2
  go_ret
  refine ⟨rfl, fin, by simp; omega, fun B hB => ?_⟩
  exact (((((Below.refl B w).alloc (by omega) _).alloc (by simp; omega) _).alloc (by simp; omega) _).alloc (by simp; omega) _).setCell (by simp; omega) _
end Go.Proofs.YtamalmgfhpneaaaDoor
namespace Go.Proofs.YtamalmgfhpneaaaDoor
open Go.RowKit Go.Extern.Stop Go.Stop Go.Extern
theorem tell_nil (w : World) : Calls Tryd.prog 22 #[.nilIface] w fun e w' => e = .returned (.int .i64 0) ∧ w' = w := by
  go_enter Tryd.func22, Tryd.ntmps22
  go_wp2
  go_ret
  exact ⟨rfl, rfl⟩
set_option maxHeartbeats 400000 in
theorem tell_some (n : Int) (w : World) (hE : EB w) : Calls Tryd.prog 22 #[.iface 32 (.int .i64 n)] w fun e w' => e = .returned (.int .i64 n) ∧ Below w.heap.size w w' := by
  go_enter Tryd.func22, Tryd.ntmps22
  go_wp2_with fail
  refine (as_hit n w.heap.size _ (hE.below ((Below.refl _ _).alloc (Nat.le_refl _) _)) (Blk.new _ _ _)).mono ?_
  rintro e w1 ⟨rfl, b1, s1, g1⟩
  have c1 := b1.cell 0
  go_wp2
  go_ret
  exact ⟨rfl, ((Below.refl _ _).alloc (Nat.le_refl _) _).trans (g1 _ (Nat.le_refl _))⟩
set_option maxHeartbeats 400000 in
theorem place_nil (w : World) : Calls Tryd.prog 35 #[.nilIface] w fun e w' => e = .returned (.tuple #[.int .i64 0, .int .i64 (-1)]) ∧ w' = w := by
  go_enter Tryd.func35, Tryd.ntmps35
  go_wp2_with (go_at_call 22; refine (tell_nil _).mono ?_; rintro e w' ⟨rfl, rfl⟩)
  refine wp_loop_rounds 1 ?_
  rw [rounds_succ]
  go_wp2
  go_ret2
  exact ⟨rfl, rfl⟩
theorem as_at (v : Value) (w : World) : (Instr.typeAssert (.iface 32 v) 36 86 true).run Tryd.prog w = .ok (.tuple #[.pointer none, .bool false]) w := by kernel_rfl
theorem as_un (v : Value) (w : World) : (Instr.typeAssert (.iface 32 v) 36 90 true).run Tryd.prog w = .ok (.tuple #[.nilIface, .bool false]) w :=
  run_typeAssert_lacksB Tryd.underlying90 (by kernel_rfl) (by kernel_rfl) v 36 w
set_option maxRecDepth 100000 in
set_option maxHeartbeats 400000 in
theorem place_some (n : Int) (w : World) (hE : EB w) : Calls Tryd.prog 35 #[.iface 32 (.int .i64 n)] w fun e w' => e = .returned (.tuple #[.int .i64 n, .int .i64 (-1)]) ∧ Below w.heap.size w w' := by
  go_enter Tryd.func35, Tryd.ntmps35
  go_wp2_with fail
  refine (tell_some n _ hE).mono ?_
  rintro e w1 ⟨rfl, g1⟩
  go_wp2_with fail
  refine wp_loop_rounds 1 ?_
  rw [rounds_succ]
  have u1 := as_at
  have u2 := as_un
  go_wp2
  go_ret2
  exact ⟨rfl, g1⟩
theorem bare_nil (w : World) : Calls Tryd.prog 13 #[.nilIface, .int .i64 0] w fun e w' => e = .returned (.bool true) ∧ w' = w := by
  go_enter Tryd.func13, Tryd.ntmps13
  go_wp2_with (go_at_call 35; refine (place_nil _).mono ?_; rintro e w' ⟨rfl, rfl⟩)
  go_ret
  exact ⟨rfl, rfl⟩
theorem bare_some (w : World) (n : Int) (hE : EB w) : Calls Tryd.prog 13 #[.iface 32 (.int .i64 n), .int .i64 n] w fun e w' => e = .returned (.bool true) ∧ Below w.heap.size w w' := by
  go_enter Tryd.func13, Tryd.ntmps13
  go_wp2_with (go_at_call 35; refine (place_some n _ hE).mono ?_; rintro e w1 ⟨rfl, g1⟩)
  go_ret
  exact ⟨rfl, g1⟩
end Go.Proofs.YtamalmgfhpneaaaDoor
namespace Go.Proofs.YtamalmgfhpneaaaDoor.Ce
open Go.RowKit
open It Nr Sy
/-- No error, or that it may not be asked. -/
def ev (b : Bool) : Value := if b then .nilIface else errA
theorem tellE (b : Bool) (w : World) (hE : EB w) : Calls Tryd.prog 22 #[ev b] w fun e w' => e = .returned (.int .i64 (if b then 0 else 1)) ∧ Below w.heap.size w w' := by
  cases b with
  | true => exact (tell_nil w).mono fun e w' ⟨h1, h2⟩ => ⟨h1, by rw [h2]; exact Below.refl _ _⟩
  | false => exact tell_some 1 w hE
/-- What is found, if it may be asked. -/
def XK (ask : Bool) (ys : List Int) (tag : ByteArray) (k : Int) (L : List ItD) : List (ByteArray × Int) := if ask then tk k.toNat (fnd ys tag (xsOf L)) else []
theorem XK_perm {ask : Bool} {ys : List Int} {tag : ByteArray} {k : Int} {L L' : List ItD} (h : L.Perm L') : XK ask ys tag k L = XK ask ys tag k L' := by
  unfold XK
  rw [tk_perm (l := fnd ys tag (xsOf L)) (l' := fnd ys tag (xsOf L')) (by unfold fnd xsOf; exact ((h.map _).filter _).map _)]
theorem XK_len (ask : Bool) (ys : List Int) (tag : ByteArray) (k : Int) (L : List ItD) : (XK ask ys tag k L).length ≤ L.length := by
  unfold XK
  split
  · rw [tk_len]
    have := fnd_len ys tag (xsOf L)
    have : (xsOf L).length = L.length := by simp [xsOf]
    omega
  · exact Nat.zero_le _
theorem topN (dim : Int) (a : Option Addr) (c : Nat) (L : List ItD) (b : Option Addr) (d : Nat) (ys : List Int) (k : Int) (tag : ByteArray) (w : World) (h : Its w a L) (hl : L.length ≤ 100) (hy : Ints w b ys) (hyl : ys.length ≤ maxLen)
    (hnum : ∀ x ∈ L, x.x.nums.all numB = true ∧ x.x.nums.length ≤ 100) :
    Calls Tryd.prog 12 #[.int .i64 dim, .slice a L.length c, .slice b ys.length d, .int .i64 k, .string tag] w fun e w' => (∃ v, e = .returned (.tuple #[v, ev (askB dim ys k)]) ∧ Fnds w' v (XK (askB dim ys k) ys tag k L)) ∧ Below w.heap.size w w' := by
  cases hask : askB dim ys k with
  | true => exact top_ok dim a c L b d ys k tag w h hl hy hyl hask hnum
  | false =>
    refine (top_no dim a L.length c b d ys k tag w hy hyl hask).mono ?_
    rintro e w' ⟨rfl, rfl⟩
    exact ⟨⟨_, rfl, none, 0, rfl, Nat.le_refl _, fun i x hx => by cases hx⟩, Below.refl _ _⟩
theorem sq_bd {z y : Int} (h1 : -1000 ≤ z ∧ z ≤ 1000) (h2 : -1000 ≤ y ∧ y ≤ 1000) : (z - y) * (z - y) ≤ 4000000 := by
  rcases Int.le_total 0 (z - y) with h | h
  · exact sq_le (b := 2000) h (by omega)
  · have := sq_le (a := -(z - y)) (b := 2000) (by omega) (by omega)
    rw [Int.neg_mul_neg] at this
    exact this
theorem farK_bd {zs ys : List Int} (hz : zs.all numB = true) (hy : ys.all numB = true) : ∀ k, k ≤ zs.length → k ≤ ys.length → farK zs ys k ≤ 4000000 * (k : Int)
  | 0, _, _ => by unfold farK; simp
  | k + 1, h1, h2 => by
    have ih := farK_bd hz hy k (by omega) (by omega)
    obtain ⟨z, hzk⟩ : ∃ z, zs[k]? = some z := ⟨_, List.getElem?_eq_getElem (by omega)⟩
    obtain ⟨y, hyk⟩ : ∃ y, ys[k]? = some y := ⟨_, List.getElem?_eq_getElem (by omega)⟩
    have b1 := List.all_eq_true.1 hz z (List.mem_of_getElem? hzk)
    have b2 := List.all_eq_true.1 hy y (List.mem_of_getElem? hyk)
    rw [farK_succ hzk hyk]
    have := sq_bd (z := z) (y := y) (by simpa [numB] using b1) (by simpa [numB] using b2)
    omega
theorem cg_of {w : World} {B : Nat} {os : List CeD} {L : List ItD} (h : CS w B os) (hp : (os.flatMap CeD.it).Perm L) (hn : ∀ x ∈ L, x.x.nums.all numB = true ∧ 0 < x.x.nums.length ∧ x.x.nums.length ≤ 100) : CG os := by
  have key : ∀ x ∈ os, ∃ d ∈ L, d.x.nums.map begF = x.co := fun x hx => by
    obtain ⟨h1, h2⟩ := h.cor x hx
    cases hi : x.it with
    | nil => exact absurd hi h1
    | cons d r =>
      have hd : d ∈ x.it := by rw [hi]; simp
      exact ⟨d, hp.mem_iff.1 (List.mem_flatMap.2 ⟨x, hx, hd⟩), h2 d hd⟩
  refine ⟨fun x hx => ?_, fun x hx => ?_⟩
  · obtain ⟨d, hd, e⟩ := key x hx
    have := hn d hd
    rw [← e, List.length_map]
    exact ⟨this.2.1, this.2.2⟩
  · obtain ⟨d, hd, e⟩ := key x hx
    rw [← e, List.all_map]
    rw [List.all_eq_true]
    intro z hz
    exact begF_num (List.all_eq_true.1 (hn d hd).1 z hz)
theorem topC (p : Nat) (dim : Int) (v : Value) (os : List CeD) (C : Nat) (L : List ItD) (b : Option Addr) (d : Nat) (ys : List Int) (k : Int) (tag : ByteArray) (w : World) (hp : Blk w p #[.int .i64 dim, v] 73)
    (hr : w.ownsRow C 68 2 v os.length (flatC os)) (hs : CS w C os) (hpm : (os.flatMap CeD.it).Perm L) (hl : L.length ≤ 100) (hol : os.length ≤ L.length) (hok : ∀ x ∈ L, x.Ok w) (hnum : ∀ x ∈ L, x.x.nums.all numB = true ∧ 0 < x.x.nums.length ∧ x.x.nums.length ≤ 100) (hy : Ints w b ys) (hyl : ys.length ≤ maxLen) :
    Calls Tryd.prog 18 #[.pointer (some ⟨p, 0, none⟩), .slice b ys.length d, .int .i64 k, .string tag] w fun e w' => (∃ v lk, e = .returned (.tuple #[v, .int .i64 lk, ev (askB dim ys k)]) ∧ Fnds w' v (XK (askB dim ys k) ys tag k L) ∧ 0 ≤ lk ∧ lk ≤ (L.length : Int)) ∧ Below w.heap.size w w' := by
  cases hask : askB dim ys k with
  | true =>
    have hk : 1 ≤ k ∧ k ≤ 60 := by simp [askB] at hask; exact ⟨hask.1.1.2, hask.1.2⟩
    have hyn : ys.all numB = true := by unfold askB at hask; rw [Bool.and_eq_true] at hask; exact hask.2
    obtain ⟨kk, rfl⟩ : ∃ kk : Nat, k = (kk : Int) := ⟨k.toNat, by omega⟩
    obtain ⟨av, cv, hv⟩ := own_slice hr
    subst hv
    have hbig : ∀ x ∈ os, leastI x.co ys ≤ 9223372036854775807 := fun x hx => by
      obtain ⟨h1, h2⟩ := hs.cor x hx
      cases hi : x.it with
      | nil => exact absurd hi h1
      | cons e r =>
        have hd : e ∈ x.it := by rw [hi]; simp
        have hL := hpm.mem_iff.1 (List.mem_flatMap.2 ⟨x, hx, hd⟩)
        have l1 := least_le (ys := ys) (h2 e hd)
        have l2 := farK_bd (hnum e hL).1 hyn (min e.x.nums.length ys.length) (by omega) (by omega)
        have l3 := (hnum e hL).2.2
        unfold farI at l1
        omega
    refine (top_any p dim av cv os C b d ys kk tag w hp hr hs (by omega) (cg_of hs hpm hnum) (by rw [hpm.length_eq]; exact hl) (fun x hx y hyx => by
      have hL := hpm.mem_iff.1 (List.mem_flatMap.2 ⟨x, hx, hyx⟩)
      exact ⟨hok y hL, (hnum y hL).1, (hnum y hL).2.2⟩) hbig hy hyl hask).mono ?_
    rintro e w' ⟨⟨v2, lk, rfl, hF, h1, h2⟩, hb⟩
    refine ⟨⟨v2, lk, rfl, ?_, h1, by rw [hpm.length_eq] at h2; exact h2⟩, hb⟩
    rw [← XK_perm hpm]
    exact hF
  | false =>
    refine (top_refuses p dim v b d ys k tag w hp hy hyl hask).mono ?_
    rintro e w' ⟨rfl, rfl⟩
    exact ⟨⟨_, 0, rfl, ⟨none, 0, rfl, Nat.le_refl _, fun i x hx => by cases hx⟩, Int.le_refl _, by omega⟩, Below.refl _ _⟩
theorem cloneI (a : Option Addr) (c : Nat) (L : List ItD) (w : World) (h : Its w a L) (hl : L.length ≤ 100) (hnil : L = [] → a = none ∧ c = 0) :
    Calls Tryd.prog 24 #[.slice a L.length c] w fun e w' => (∃ a' c', e = .returned (.slice a' L.length c') ∧ w'.ownsRow w.heap.size 43 3 (.slice a' L.length c') L.length (flatI L)) ∧ Below w.heap.size w w' := by
  by_cases h0 : L = []
  · obtain ⟨rfl, rfl⟩ := hnil h0
    subst h0
    refine (iclone_nil w).mono ?_
    rintro e w' ⟨rfl, rfl⟩
    exact ⟨⟨none, 0, rfl, rfl, Or.inl ⟨rfl, rfl⟩⟩, Below.refl _ _⟩
  · have hp : 0 < L.length := List.length_pos_iff.2 h0
    obtain ⟨g, o, rfl, _⟩ := h 0 L[0] (List.getElem?_eq_getElem hp)
    refine (iclone_any g o c L w h hp hl).mono ?_
    rintro e w' ⟨⟨g', c', rfl, ow⟩, hb⟩
    exact ⟨⟨_, c', rfl, ow⟩, hb⟩
theorem revI' (B : Nat) (a : Option Addr) (c : Nat) (L : List ItD) (w : World) (h : w.ownsRow B 43 3 (.slice a L.length c) L.length (flatI L)) (hl : L.length ≤ 100) (hok : ∀ d ∈ L, d.Ok w) (hlow : ∀ d ∈ L, ∀ b o, d.a = some ⟨b, o, none⟩ → b < B) :
    Calls Tryd.prog 25 #[.slice a L.length c] w fun e w' => e = .returned (.tuple #[]) ∧ Its w' a L.reverse ∧ Below B w w' := by
  by_cases h0 : L = []
  · subst h0
    exact (AnyQ.slices_Reverse_empty revI a c w).mono fun e w' ⟨h1, h2⟩ => ⟨h1, fun i d hd => by simp at hd, by rw [h2]; exact Below.refl _ _⟩
  · have hp : 0 < L.length := List.length_pos_iff.2 h0
    obtain ⟨g, cap, cur, hv, hgB, _⟩ := own_parts h (by omega)
    injection hv with h1 h2 h3
    subst h1 h3
    exact irev_any B g _ L w h hp (by omega) hok (fun d hd b o e => by have := hlow d hd b o e; omega)
end Go.Proofs.YtamalmgfhpneaaaDoor.Ce
namespace Go.Proofs.YtamalmgfhpneaaaDoor.Nf
open Go.RowKit
open It Nr Ce
theorem in_any (n lo hi : Int) (w : World) : Calls Tryd.prog 31 #[.int .i64 n, .int .i64 lo, .int .i64 hi] w fun e w' => e = .returned (.bool (decide (lo ≤ n) && decide (n ≤ hi))) ∧ w' = w := by
  go_enter Tryd.func31, Tryd.ntmps31
  by_cases h1 : lo ≤ n <;> by_cases h2 : n ≤ hi <;>
  · go_wp2
    go_ret
    exact ⟨by simp [h1, h2], rfl⟩
theorem long_any (s : ByteArray) (w : World) (hs : s.size ≤ maxLen) : Calls Tryd.prog 6 #[.string s] w fun e w' => e = .returned (.bool (decide (60 < s.size))) ∧ w' = w := by
  unfold maxLen at hs
  go_enter Tryd.func6, Tryd.ntmps6
  by_cases h1 : 60 < s.size
  · have h1' : (60 : Int) < (s.size : Int) := by omega
    go_wp2
    go_ret
    exact ⟨by simp [h1], rfl⟩
  · have h1' : ¬ (60 : Int) < (s.size : Int) := by omega
    go_wp2
    go_ret
    exact ⟨rfl, rfl⟩
set_option maxHeartbeats 400000 in
theorem coords_any (a : Option Addr) (c : Nat) (zs : List Int) (w : World) (h : Ints w a zs) (hl : zs.length ≤ maxLen) :
    Calls Tryd.prog 30 #[.slice a zs.length c] w fun e w' => e = .returned (.bool (zs.all numB)) ∧ w' = w := by
  unfold maxLen at hl
  go_enter Tryd.func30, Tryd.ntmps30
  go_wp2_with fail
  go_loop [4, 7] (fun _ i => ∃ k : Nat, k ≤ zs.length ∧ i = .int .i64 k ∧ (zs.take k).all numB = true) (fun _ i => zs.length - (intOf i).toNat)
  case atStart => exact ⟨0, by omega, rfl, by simp⟩
  case round =>
    obtain ⟨k, hk, rfl, hp⟩ := hrel
    by_cases hlt : k < zs.length
    · have HP : Hid ((zs.take k).all numB = true) := hp
      clear hp
      obtain ⟨g, o, rfl, hc⟩ := h k zs[k] (List.getElem?_eq_getElem hlt)
      have htk : Hid (zs[k]? = some zs[k]) := List.getElem?_eq_getElem hlt
      have hlt' : (k : Int) < (zs.length : Int) := by omega
      generalize zs[k] = x at *
      have HI : Hid _ := in_any x (-1000) 1000 w
      have e : (decide (-1000 ≤ x) && decide (x ≤ 1000)) = numB x := rfl
      rw [e] at HI
      clear e
      by_cases hx : numB x = true
      · rw [hx] at HI
        go_wp2_with (go_at_call 31; refine Calls.mono HI.out ?_; rintro e w' ⟨rfl, rfl⟩)
        go_round
        case rel => exact ⟨k + 1, by omega, by go_num, by rw [List.take_add_one, htk.out, List.all_append, HP.out]; simp [hx]⟩
        case measure => simp [intOf]; omega
      · have hx' : numB x = false := by simpa using hx
        rw [hx'] at HI
        go_wp2_with (go_at_call 31; refine Calls.mono HI.out ?_; rintro e w' ⟨rfl, rfl⟩)
        go_ret
        refine ⟨?_, rfl⟩
        have : zs.all numB = false := by rw [List.all_eq_false]; exact ⟨x, List.mem_of_getElem? htk.out, by simp [hx']⟩
        rw [this]; rfl
    · have hk' : k = zs.length := by omega
      subst hk'
      rw [List.take_length] at hp
      have HP : Hid (zs.all numB = true) := hp
      clear hp
      go_wp2_with fail
      go_ret
      exact ⟨by rw [HP.out]; rfl, rfl⟩
theorem refAsk_any (dim : Int) (a : Option Addr) (c : Nat) (zs : List Int) (k : Int) (w : World) (h : Ints w a zs) (hl : zs.length ≤ maxLen) :
    Calls Tryd.prog 9 #[.int .i64 dim, .slice a zs.length c, .int .i64 k] w fun e w' => e = .returned (.bool (askB dim zs k)) ∧ w' = w := by
  have HC : Hid _ := coords_any a c zs w h hl
  have HI : Hid _ := in_any k 1 60 w
  have HA : Hid (askB dim zs k = (decide ((zs.length : Int) = dim) && zs.all numB && (decide (1 ≤ k) && decide (k ≤ 60)))) := by
    unfold Hid askB
    cases decide ((zs.length : Int) = dim) <;> cases zs.all numB <;> cases decide (1 ≤ k) <;> cases decide (k ≤ 60) <;> rfl
  rw [HA.out]
  obtain ⟨b2, hb2⟩ : ∃ b2, zs.all numB = b2 := ⟨_, rfl⟩
  obtain ⟨b3, hb3⟩ : ∃ b3, (decide (1 ≤ k) && decide (k ≤ 60)) = b3 := ⟨_, rfl⟩
  rw [hb2] at HC ⊢
  rw [hb3] at HI ⊢
  clear hb2 hb3 h HA
  unfold maxLen at hl
  by_cases c1 : (zs.length : Int) = dim
  · rw [decide_eq_true c1]
    have c1' : ((zs.length : Int) == dim) = true := by simpa using c1
    clear c1
    cases b2 with
    | false =>
      go_enter Tryd.func9, Tryd.ntmps9
      go_wp2_with (go_at_call 30; refine Calls.mono HC.out ?_; rintro e w' ⟨rfl, rfl⟩)
      go_ret
      exact ⟨rfl, rfl⟩
    | true =>
      go_enter Tryd.func9, Tryd.ntmps9
      go_wp2_with (first
        | (go_at_call 30; refine Calls.mono HC.out ?_; rintro e w' ⟨rfl, rfl⟩)
        | (go_at_call 31; refine Calls.mono HI.out ?_; rintro e w' ⟨rfl, rfl⟩))
      go_ret
      exact ⟨rfl, rfl⟩
  · rw [decide_eq_false c1]
    have c1' : ((zs.length : Int) == dim) = false := by simpa using c1
    clear c1
    go_enter Tryd.func9, Tryd.ntmps9
    go_wp2_with fail
    go_ret
    exact ⟨rfl, rfl⟩
set_option maxHeartbeats 4000000 in
theorem refName_any (s : ByteArray) (w : World) (hs : s.size ≤ maxLen) : Calls Tryd.prog 51 #[.string s] w fun e w' => e = .returned (.bool (nameB s)) ∧ w' = w := by
  unfold maxLen at hs
  have HB : Hid (∀ k, k < s.size → s.data.toList[k]? = some s[k]!) := fun k hk => by
    rw [getElem!_pos s k hk, List.getElem?_eq_getElem (by rw [← Lib.size_eq]; omega)]; rfl
  go_enter Tryd.func51, Tryd.ntmps51
  go_wp2_with fail
  go_loop [3, 4, 7] (fun _ _ i => ∃ k : Nat, k ≤ s.size ∧ i = .int .i64 k ∧ Hid (∀ j, j < k → isLet s[j]! = true ∨ (j ≠ 0 ∧ isDig s[j]! = true))) (fun _ _ i => s.size - (intOf i).toNat)
  case atStart => exact ⟨0, by omega, rfl, fun j hj => by omega⟩
  case round =>
    obtain ⟨k, hk, rfl, HP⟩ := hrel
    by_cases hlt : k < s.size
    · have hlt' : (k : Int) < (s.size : Int) := by omega
      have hgk : s[k]! = s[k] := getElem!_pos s k hlt
      obtain ⟨c, hc⟩ : ∃ c, s[k] = c := ⟨_, rfl⟩
      have HC : Hid (s[k]! = c) := hgk.trans hc
      have BAD : Hid (isLet c = false → (k = 0 ∨ isDig c = false) → nameB s = false) := fun h1 h2 => by
        have hb := HB.out k hlt
        rw [HC.out] at hb
        unfold nameB
        rcases h2 with rfl | h2
        · have : s.data.toList.getD 0 0 = c := by rw [List.getD_eq_getElem?_getD, hb]; rfl
          rw [this, h1]; simp
        · have : (s.data.toList.all fun c => isLet c || isDig c) = false := by
            rw [List.all_eq_false]
            exact ⟨c, List.mem_of_getElem? hb, by simp [h1, h2]⟩
          rw [this]; simp
      have NXT : Hid ((isLet c = true ∨ (k ≠ 0 ∧ isDig c = true)) → ∀ j, j < k + 1 → isLet s[j]! = true ∨ (j ≠ 0 ∧ isDig s[j]! = true)) := fun h j hj => by
        by_cases e : j = k
        · subst e; rw [HC.out]; exact h
        · exact HP.out j (by omega)
      have LET : Hid (isLet c = (decide (97 ≤ c.toNat) && decide (c.toNat ≤ 122))) := rfl
      have DIG : Hid (isDig c = (decide (48 ≤ c.toNat) && decide (c.toNat ≤ 57))) := rfl
      have hcl : c.toNat < 256 := c.toNat_lt
      clear hgk
      obtain ⟨m, hm⟩ : ∃ m, c.toNat = m := ⟨_, rfl⟩
      rw [hm] at LET DIG hcl
      by_cases h0 : k = 0
      · subst h0
        by_cases h1 : 97 ≤ m <;> by_cases h2 : m ≤ 122
        · have h1' : (97 : Int) ≤ (m : Int) := by omega
          have h2' : (m : Int) ≤ 122 := by omega
          go_wp2_with fail
          go_round
          case rel => exact ⟨1, by omega, by go_num, NXT.out (Or.inl (by rw [LET.out]; simp [h1, h2]))⟩
          case measure => simp [intOf]; omega
        all_goals
          have hf : isLet c = false := by rw [LET.out]; simp [h1, h2]
          have h1' : decide ((97 : Int) ≤ (m : Int)) = decide (97 ≤ m) := by congr 1; apply propext; omega
          have h2' : decide ((m : Int) ≤ 122) = decide (m ≤ 122) := by congr 1; apply propext; omega
          have hn := BAD.out hf (Or.inl rfl)
          go_wp2_with fail
          go_ret
          exact ⟨rfl, rfl⟩
      · have hk0 : ((k : Int) == 0) = false := by rw [beq_eq_false_iff_ne]; omega
        by_cases hL : 97 ≤ m ∧ m ≤ 122
        · have h1' : (97 : Int) ≤ (m : Int) := by omega
          have h2' : (m : Int) ≤ 122 := by omega
          have hl : isLet c = true := by rw [LET.out]; simp [hL.1, hL.2]
          go_wp2_with fail
          go_round
          case rel => exact ⟨k + 1, by omega, by go_num, NXT.out (Or.inl hl)⟩
          case measure => simp [intOf]; omega
        · have hf : isLet c = false := by
            rw [LET.out]
            by_cases h1 : 97 ≤ m
            · rw [decide_eq_true h1, decide_eq_false (fun h => hL ⟨h1, h⟩)]; rfl
            · rw [decide_eq_false h1]; rfl
          by_cases hD : 48 ≤ m ∧ m ≤ 57
          · have h1' : ¬ (97 : Int) ≤ (m : Int) := by omega
            have h3' : (48 : Int) ≤ (m : Int) := by omega
            have h4' : (m : Int) ≤ 57 := by omega
            have hd : isDig c = true := by rw [DIG.out]; simp [hD.1, hD.2]
            go_wp2_with fail
            go_round
            case rel => exact ⟨k + 1, by omega, by go_num, NXT.out (Or.inr ⟨h0, hd⟩)⟩
            case measure => simp [intOf]; omega
          · have hd : isDig c = false := by
              rw [DIG.out]
              by_cases h1 : 48 ≤ m
              · rw [decide_eq_true h1, decide_eq_false (fun h => hD ⟨h1, h⟩)]; rfl
              · rw [decide_eq_false h1]; rfl
            have hn := BAD.out hf (Or.inr hd)
            by_cases h1 : 97 ≤ m
            · have h1' : (97 : Int) ≤ (m : Int) := by omega
              have h2' : ¬ (m : Int) ≤ 122 := by omega
              have h3' : (48 : Int) ≤ (m : Int) := by omega
              have h4' : ¬ (m : Int) ≤ 57 := by omega
              go_wp2_with fail
              go_ret
              exact ⟨rfl, rfl⟩
            · have h1' : ¬ (97 : Int) ≤ (m : Int) := by omega
              by_cases h3 : 48 ≤ m
              · have h3' : (48 : Int) ≤ (m : Int) := by omega
                have h4' : ¬ (m : Int) ≤ 57 := by omega
                go_wp2_with fail
                go_ret
                exact ⟨rfl, rfl⟩
              · have h3' : ¬ (48 : Int) ≤ (m : Int) := by omega
                go_wp2_with fail
                go_ret
                exact ⟨rfl, rfl⟩
    · obtain rfl : k = s.size := by omega
      have HN : Hid (nameB s = (decide ((1 : Int) ≤ (s.size : Int)) && decide ((s.size : Int) ≤ 10))) := by
        unfold Hid nameB
        have e1 : decide ((1 : Int) ≤ (s.size : Int)) = decide (1 ≤ s.size) := by congr 1; apply propext; omega
        have e2 : decide ((s.size : Int) ≤ 10) = decide (s.size ≤ 10) := by congr 1; apply propext; omega
        rw [e1, e2]
        by_cases hz : 1 ≤ s.size
        · have h0 := HP.out 0 (by omega)
          have hl : isLet s[0]! = true := h0.resolve_right (fun h => h.1 rfl)
          have hg : s.data.toList.getD 0 0 = s[0]! := by rw [List.getD_eq_getElem?_getD, HB.out 0 (by omega)]; rfl
          have ha : (s.data.toList.all fun c => isLet c || isDig c) = true := by
            rw [List.all_eq_true]
            intro c hc
            obtain ⟨j, hj⟩ := List.getElem?_of_mem hc
            have hjl : j < s.size := by have h5 := (List.getElem?_eq_some_iff.1 hj).1; rwa [← Lib.size_eq] at h5
            rw [HB.out j hjl] at hj
            obtain rfl := Option.some.inj hj
            rcases HP.out j hjl with h | h
            · rw [h]; rfl
            · rw [h.2]; simp
          rw [hg, hl, ha]
          simp
        · rw [decide_eq_false hz]; rfl
      have HI : Hid _ := in_any (s.size : Int) 1 10 w
      go_wp2_with (go_at_call 31; refine Calls.mono HI.out ?_; rintro e w' ⟨rfl, rfl⟩)
      go_ret
      exact ⟨by rw [HN.out]; rfl, rfl⟩
end Go.Proofs.YtamalmgfhpneaaaDoor.Nf
