/-
  Part of the proof: the first item that lies too far out for NearMoved, by slices.IndexFunc.
  Part of the proof: a block of structs of the call's own, stored into and cleared in place.
  Part of the proof: slices.DeleteFunc over items of the call's own: those that lie too far out are struck, in place.
  Part of the proof: slices.DeleteFunc over items of the call's own is walked.
  Part of the proof: plain facts of NearMoved: what is moved with the place is as far as it was; the nearest to an item is at distance 0.
  Part of the proof: two boxed numbers told anew; slices.DeleteFunc over any row of items of the call's own.
-/
import Derived.Test.YtlhggfmcjmhipaaB07
import Derived.Lib.SliceRun
namespace Go.Proofs.Ytlhggfmcjmhipaa.Nr
open Go.RowKit
open It
set_option maxHeartbeats 1000000 in
theorem indexFar_any (a : Option Addr) (c : Nat) (ds : List ItD) (w : World) (bx : Nat) (h : Its w a ds) (hl : ds.length ≤ 65) (hx0 : w.cell? ⟨bx, 0, none⟩ = some (.func (.func 18) #[] #[])) (hbx : bx < w.heap.size) :
    Calls Try.prog 33 #[.slice a ds.length c, .func (.func 22) #[] #[.pointer (some ⟨bx, 0, none⟩)]] w fun e w' => ((e = .returned (.int .i64 (-1)) ∧ (∀ d ∈ ds, insB d.x.nums = true)) ∨ ∃ k : Nat, e = .returned (.int .i64 k) ∧ k < ds.length ∧ (∀ d ∈ ds.take k, insB d.x.nums = true) ∧ ∃ d, ds[k]? = some d ∧ insB d.x.nums = false) ∧ Below w.heap.size w w' := by
  go_enter Try.func33, Try.ntmps33
  go_wp2_with fail
  go_loopw [8] (fun i wr => ∃ k : Nat, k ≤ ds.length ∧ i = .int .i64 k ∧ Hid (∀ d ∈ ds.take k, insB d.x.nums = true) ∧ Below w.heap.size w wr) (fun i _ => ds.length - (intOf i).toNat)
  case atStart => exact ⟨0, by omega, rfl, (fun d hd => by simp at hd), Below.refl _ _⟩
  case round =>
    obtain ⟨k, hk, rfl, HP, hbel⟩ := hrel
    by_cases hlt : k < ds.length
    · have hlt' : (k : Int) < (ds.length : Int) := by omega
      have hr := h.below hbel
      obtain ⟨g, o, rfl, q1, q2, q3, q4⟩ := hr k ds[k] (List.getElem?_eq_getElem hlt)
      have hxk : Hid (ds[k]? = some ds[k]) := List.getElem?_eq_getElem hlt
      generalize ds[k] = x at *
      obtain ⟨⟨nm, tg, zs⟩, xa, xc⟩ := x
      simp only [ItD.val] at q1 q2 q3 hxk
      clear hr
      go_wp2_with fail
      refine (far_away_any ⟨⟨nm, tg, zs⟩, xa, xc⟩ wr bx ((World.cell?_of_block (hbel.block bx hbx)).trans hx0) (Nat.lt_of_lt_of_le hbx hbel.size) q4 q4.2.1).mono ?_
      rintro e w1 ⟨he, g1⟩
      replace he : e = .returned (.bool (!insB zs)) := he
      subst he
      have hb1 := hbel.trans (g1.mono hbel.size)
      cases hx : insB zs with
      | false =>
        have HX : Hid (∃ d, ds[k]? = some d ∧ insB d.x.nums = false) := ⟨_, hxk.out, hx⟩
        clear q1 q2 q3 q4 g1 hx hxk
        go_wp2_with fail
        go_ret
        exact ⟨Or.inr ⟨k, rfl, hlt, HP.out, HX.out⟩, hb1⟩
      | true =>
        have HX : Hid (∀ d ∈ ds.take (k + 1), insB d.x.nums = true) := by
          intro d hd
          rw [List.take_add_one, hxk.out, List.mem_append] at hd
          rcases hd with hd | hd
          · exact HP.out d hd
          · simp at hd; subst hd; exact hx
        clear q1 q2 q3 q4 g1 hx hxk
        go_wp2_with fail
        exact ⟨⟨k + 1, by omega, by go_num, HX, hb1⟩, by simp [intOf]; omega⟩
    · have hk' : k = ds.length := by omega
      subst hk'
      have HX : Hid (∀ d ∈ ds, insB d.x.nums = true) := by
        have := HP.out
        rw [List.take_length] at this; exact this
      go_wp2_with fail
      go_ret
      exact ⟨Or.inl ⟨rfl, HX.out⟩, hbel⟩
end Go.Proofs.Ytlhggfmcjmhipaa.Nr
namespace Go.Proofs.Ytlhggfmcjmhipaa.Nr
open Go.RowKit
open It
theorem foldset_get (vs : List Value) : ∀ (c : Array Value) (i j : Nat), i + vs.length ≤ c.size → (foldset c i vs)[j]? = if i ≤ j ∧ j < i + vs.length then vs[j - i]? else c[j]? := by
  induction vs with
  | nil => intro c i j _; simp [foldset]; intro h1 h2; omega
  | cons v vs ih =>
    intro c i j h
    simp only [List.length_cons] at h
    simp only [foldset]
    rw [ih _ _ _ (by simp; omega), Array.getElem?_setIfInBounds]
    by_cases e : j = i
    · subst e
      rw [if_neg (by omega), if_pos rfl, if_pos (by omega), if_pos (by simp)]
      simp
    · by_cases e2 : i ≤ j ∧ j < i + (vs.length + 1)
      · rw [if_pos (by omega), if_pos (by simpa using e2)]
        obtain ⟨d, hd⟩ : ∃ d, j - i = d + 1 := ⟨j - i - 1, by omega⟩
        rw [hd, List.getElem?_cons_succ]; congr 1; omega
      · rw [if_neg (by omega), if_neg (Ne.symm e), if_neg (by simpa using e2)]
theorem foldset_size (vs : List Value) : ∀ (c : Array Value) (i : Nat), (foldset c i vs).size = c.size := by
  induction vs with
  | nil => intro c i; rfl
  | cons v vs ih => intro c i; simp only [foldset]; rw [ih]; simp
/-- Of block g another thing is told, and there may be new ones. -/
structure UpdG (w w' : World) (g : Nat) : Prop where
  os : w'.os = w.os
  tape : w'.tape = w.tape
  output : w'.output = w.output
  size : w.heap.size ≤ w'.heap.size
  block : ∀ k, k < w.heap.size → k ≠ g → w'.heap[k]? = w.heap[k]?
theorem UpdG.refl (w : World) (g : Nat) : UpdG w w g := ⟨rfl, rfl, rfl, Nat.le_refl _, fun _ _ _ => rfl⟩
theorem UpdG.drewN {w w' : World} {g : Nat} (h : UpdG w w' g) (n : Nat) : UpdG w (w'.drewN n) g := ⟨h.os, h.tape, h.output, h.size, h.block⟩
theorem UpdG.upd {w w' w'' : World} {g : Nat} (h : UpdG w w' g) (u : Upd w' w'' g) : UpdG w w'' g :=
  ⟨u.os.trans h.os, u.tape.trans h.tape, u.output.trans h.output, by rw [u.size]; exact h.size, fun k hk hne => (u.block k hne).trans (h.block k hk hne)⟩
theorem UpdG.trans {w w' w'' : World} {g : Nat} (h : UpdG w w' g) (u : UpdG w' w'' g) : UpdG w w'' g :=
  ⟨u.os.trans h.os, u.tape.trans h.tape, u.output.trans h.output, Nat.le_trans h.size u.size, fun k hk hne => (u.block k (Nat.lt_of_lt_of_le hk h.size) hne).trans (h.block k hk hne)⟩
theorem UpdG.alloc {w w' : World} {g : Nat} (h : UpdG w w' g) (o : Obj) : UpdG w (w'.alloc o) g :=
  ⟨h.os, h.tape, h.output, by simp; exact Nat.le_succ_of_le h.size, fun k hk hne => by rw [Below.heap_alloc _ _ _ (Nat.lt_of_lt_of_le hk h.size)]; exact h.block k hk hne⟩
theorem UpdG.updN {w w' w'' : World} {g c : Nat} (h : UpdG w w' g) (u : Upd w' w'' c) (hc : w.heap.size ≤ c) : UpdG w w'' g :=
  ⟨u.os.trans h.os, u.tape.trans h.tape, u.output.trans h.output, by rw [u.size]; exact h.size, fun k hk hne => (u.block k (by omega)).trans (h.block k hk hne)⟩
theorem UpdG.below {w0 w w' : World} {g B : Nat} (h : UpdG w w' g) (hb : Below B w0 w) (hB : B ≤ w.heap.size) (hg : B ≤ g) : Below B w0 w' :=
  hb.trans ⟨h.os, h.tape, h.output, h.size, fun k hk => h.block k (Nat.lt_of_lt_of_le hk hB) (by omega)⟩
theorem Blk.updG {w w' : World} {b g : Nat} {arr : Array Value} {T : TypeId} (h : Blk w b arr T) (hu : UpdG w w' g) (hne : b ≠ g) : Blk w' b arr T := by
  have := h.lt
  unfold Blk at *; rw [hu.block b this hne]; exact h
theorem storeCells_at (P : Program) (w : World) (b off : Nat) (hl : b < w.heap.size) (T : TypeId) : ∀ (vs : List Value) (i : Nat) (c : Array Value), off + i + vs.length ≤ c.size → (∀ v ∈ vs, v.oneCell' = true) →
    (storeCells ⟨b, off, none⟩ vs i).run P (putBlk w b (.cells c T)) = .ok () (putBlk w b (.cells (foldset c (off + i) vs) T)) := by
  intro vs
  induction vs with
  | nil => intro i c _ _; rfl
  | cons v vs ih =>
    intro i c h hv
    simp only [List.length_cons] at h
    have hb : Blk (putBlk w b (.cells c T)) b c T := by unfold Blk putBlk; simp [hl]
    simp only [storeCells, Sem.run_bind, addr_addO]
    rw [run_store _ _ _ _ _ (hv v (by simp)), hb.cell, Array.getElem?_eq_getElem (by omega)]
    simp only [hb.frozen, Bool.false_eq_true, if_false, Result.andThen_ok]
    rw [putBlk_setCell hl, ih _ _ (by simp; omega) (fun x hx => hv x (by simp [hx]))]
    rfl
section
variable {P : Program} {ops : Array Oper} {Q : Exit → Act → World → Prop} {a : Act} {w : World} {rest : List Oper} {o : Oper}
/-- Cells written into a part of a block. -/
theorem wpl_storeAt (hgd : o.guard = none) (hdn : o.dst = none) (t : TypeId) (x y : Operand) (ho : o.op = .store t x y) (n : Nat) (hi0 : (P.info? t).map (·.size) = some n)
    (b off : Nat) (arr : Array Value) (T : TypeId) (vs : Array Value) (hx : a.eval x = .pointer (some ⟨b, off, none⟩)) (hy : a.eval y = .agg vs) (hvs : vs.size = n) (h1 : ∀ v ∈ vs.toList, v.oneCell' = true) (hb : Blk w b arr T) (hn : off + n ≤ arr.size)
    (h : ∀ w', Upd w w' b → Blk w' b (foldset arr off vs.toList) T → wpList P ops Q rest a w') : wpList P ops Q (o :: rest) a w := by
  refine wpList_plain hgd fun K hK => ?_
  obtain ⟨i, hi, hsize⟩ := Option.map_eq_some_iff.1 hi0
  unfold Oper.wp execOp
  have hl := storeCells_at P w b off hb.lt T vs.toList 0 arr (by simp [hvs]; omega) h1
  rw [putBlk_self hb] at hl
  simp only [ho, hx, hy, Instr.storeAt, Instr.sureAddr, storeVar, sizeOf, typeInfo, hi, hsize, Sem.run_bind, Sem.run_pure, run_program, Result.andThen_ok, Value.cells, hvs, ne_eq, not_true, if_false, hl]
  simp only [Oper.upon_skip, hdn, Act.put]
  exact hK _ _ (h _ (putBlk_upd _ _ _) (putBlk_blk hb))
end
theorem zeroCells_size (z : Array Value) (n : Nat) : (Builtin.zeroCells z n).toList.length = n * z.size := by
  simp [Builtin.zeroCells]
theorem zeroCells_one (z : Array Value) (n : Nat) (h : ∀ v ∈ z.toList, v.oneCell' = true) (hz : 0 < z.size) : ∀ v ∈ (Builtin.zeroCells z n).toList, v.oneCell' = true := by
  intro v hv
  simp [Builtin.zeroCells] at hv
  obtain ⟨i, _, rfl⟩ := hv
  refine h _ ?_
  rw [getElem!_pos z _ (Nat.mod_lt _ hz)]
  simp
/-- A slice of structs is cleared, in a block that is known. -/
theorem run_clearZ {P : Program} (w : World) (t e ty : TypeId) (z : Value) (ht : P.underlying t = some (.slice e)) (hv : ∀ w, (zeroValue e).run P w = .ok z w) (h1 : ∀ v ∈ z.cells.toList, v.oneCell' = true) (hz : 0 < z.cells.size) (b o n c : Nat) (hn : 0 < n) (arr : Array Value) (T : TypeId) (hb : Blk w b arr T) (hs : o + n * z.cells.size ≤ arr.size) :
    (Builtin.clear_ #[t] ty #[.slice (some ⟨b, o, none⟩) n c]).run P w = .ok (.tuple #[]) (putBlk w b (.cells (foldset arr o (Builtin.zeroCells z.cells n).toList) T)) := by
  have hst := storeCells_at P w b o hb.lt T (Builtin.zeroCells z.cells n).toList 0 arr (by rw [zeroCells_size]; omega) (zeroCells_one _ _ h1 hz)
  rw [putBlk_self hb] at hst
  obtain ⟨m, rfl⟩ : ∃ m, n = m + 1 := ⟨n - 1, by omega⟩
  simp [Builtin.clear_, run_underlying ht, hv, hst]
end Go.Proofs.Ytlhggfmcjmhipaa.Nr
namespace Go.Proofs.Ytlhggfmcjmhipaa.Nr
open Go.RowKit
open It
def inF (d : ItD) : Bool := insB d.x.nums
/-- The first j items are looked at: those that stay lie in front, the rest as it was. -/
structure Kept (cur arr : Array Value) (ds : List ItD) (j : Nat) : Prop where
  size : arr.size = cur.size
  front : arr.toList.take (((ds.take j).filter inF).length * 3) = flatI ((ds.take j).filter inF)
  rest : ∀ t, j * 3 ≤ t → arr[t]? = cur[t]?
theorem kept_len (ds : List ItD) (j : Nat) : ((ds.take j).filter inF).length ≤ j :=
  Nat.le_trans (List.length_filter_le _ _) (by rw [List.length_take]; omega)
theorem filter_succ {ds : List ItD} {j : Nat} {d : ItD} (h : ds[j]? = some d) : (ds.take (j + 1)).filter inF = (ds.take j).filter inF ++ (if inF d then [d] else []) := by
  rw [List.take_add_one, h, List.filter_append]
  cases hd : inF d <;> simp [hd]
theorem Kept.skip {cur arr : Array Value} {ds : List ItD} {j : Nat} {d : ItD} (h : Kept cur arr ds j) (hd : ds[j]? = some d) (hf : inF d = false) : Kept cur arr ds (j + 1) := by
  refine ⟨h.size, ?_, fun t ht => h.rest t (by omega)⟩
  rw [filter_succ hd, hf]; simpa using h.front
theorem Kept.keep {cur arr : Array Value} {ds : List ItD} {j : Nat} {d : ItD} (h : Kept cur arr ds j) (hd : ds[j]? = some d) (hf : inF d = true) (hs : (j + 1) * 3 ≤ cur.size) :
    Kept cur (foldset arr (((ds.take j).filter inF).length * 3) [.string d.x.name, .string d.x.tag, d.val]) ds (j + 1) := by
  have hl := kept_len ds j
  have hsz := h.size
  refine ⟨by rw [foldset_size]; exact h.size, ?_, fun t ht => ?_⟩
  · rw [filter_succ hd, hf, if_pos rfl, flatI_snoc, List.length_append, List.length_singleton, ← h.front]
    generalize ((ds.take j).filter inF).length = i at hl ⊢
    obtain ⟨l, hL⟩ : ∃ l, arr.toList = l := ⟨_, rfl⟩
    have hll : l.length = cur.size := by rw [← hL, Array.length_toList]; exact hsz
    have hget : ∀ t, arr[t]? = l[t]? := fun t => by rw [← hL]; exact Array.getElem?_toList.symm
    apply List.ext_getElem?
    intro t
    have e0 : ∀ t, (foldset arr (i * 3) [.string d.x.name, .string d.x.tag, d.val]).toList[t]? = if i * 3 ≤ t ∧ t < i * 3 + 3 then [Value.string d.x.name, .string d.x.tag, d.val][t - i * 3]? else l[t]? := fun t => by
      rw [← hget, Array.getElem?_toList]
      exact foldset_get _ _ _ _ (by simp; omega)
    rw [hL, List.getElem?_take, e0]
    by_cases h1 : t < i * 3
    · rw [if_pos (by omega), if_neg (by omega), List.getElem?_append_left (by rw [List.length_take]; omega), List.getElem?_take, if_pos h1]
    · rw [List.getElem?_append_right (by rw [List.length_take]; omega), List.length_take, Nat.min_eq_left (by omega)]
      by_cases h2 : t < (i + 1) * 3
      · rw [if_pos h2, if_pos (by omega)]
      · rw [if_neg h2, List.getElem?_eq_none (by simp; omega)]
  · rw [foldset_get _ _ _ _ (by simp; omega), if_neg (by simp only [List.length_cons, List.length_nil]; omega)]
    exact h.rest t (by omega)
theorem Kept.clear {cur arr : Array Value} {ds : List ItD} (h : Kept cur arr ds ds.length) (vs : List Value) (i : Nat) (hi : i = ((ds.take ds.length).filter inF).length) (hv : i * 3 + vs.length = ds.length * 3) (hs : ds.length * 3 ≤ cur.size) : Kept cur (foldset arr (i * 3) vs) ds ds.length := by
  have hsz := h.size
  refine ⟨by rw [foldset_size]; exact h.size, ?_, fun t ht => ?_⟩
  · rw [← h.front, ← hi]
    apply List.ext_getElem?
    intro t
    rw [List.getElem?_take, List.getElem?_take, Array.getElem?_toList, Array.getElem?_toList]
    by_cases h1 : t < i * 3
    · rw [if_pos h1, if_pos h1, foldset_get _ _ _ _ (by omega), if_neg (by omega)]
    · rw [if_neg h1, if_neg h1]
  · rw [foldset_get _ _ _ _ (by omega), if_neg (by omega)]
    exact h.rest t ht
theorem Kept.all {cur : Array Value} {ds : List ItD} {j : Nat} (h : cur.toList.take (ds.length * 3) = flatI ds) (hj : j ≤ ds.length) (hk : ∀ d ∈ ds.take j, inF d = true) : Kept cur cur ds j := by
  refine ⟨rfl, ?_, fun _ _ => rfl⟩
  rw [List.filter_eq_self.2 hk, List.length_take, Nat.min_eq_left hj]
  have e : flatI (ds.take j) = (flatI ds).take (j * 3) := by
    have e2 : flatI ds = flatI (ds.take j) ++ flatI (ds.drop j) := by unfold flatI; rw [← List.flatMap_append, List.take_append_drop]
    rw [e2, List.take_append_of_le_length (by rw [flatI_len, List.length_take]; omega)]
    exact (List.take_of_length_le (by rw [flatI_len, List.length_take]; omega)).symm
  rw [e, ← h, List.take_take, Nat.min_eq_left (by omega)]
theorem Ints.updG {w w' : World} {a : Option Addr} {zs : List Int} {g : Nat} (h : Ints w a zs) (hu : UpdG w w' g) (hne : ∀ b o, a = some ⟨b, o, none⟩ → zs ≠ [] → b ≠ g) : Ints w' a zs := by
  intro i z hz
  obtain ⟨b, o, rfl, hc⟩ := h i z hz
  exact ⟨b, o, rfl, (World.cell?_of_block (hu.block b (World.block_lt_of_cell? w _ hc) (hne b o rfl (by rintro rfl; simp at hz)))).trans hc⟩
theorem okG {w w' : World} {d : ItD} {g : Nat} (h : d.Ok w) (hu : UpdG w w' g) (hne : ∀ b o, d.a = some ⟨b, o, none⟩ → d.x.nums ≠ [] → b ≠ g) : d.Ok w' := ⟨Ints.updG h.1 hu hne, h.2⟩
theorem cells_at {arr : Array Value} {ds : List ItD} {n : Nat} (ht : arr.toList.take (n * 3) = flatI ds) (hn : ds.length = n) (j : Nat) (d : ItD) (hd : ds[j]? = some d) : arr[j * 3]? = some (.string d.x.name) ∧ arr[j * 3 + 1]? = some (.string d.x.tag) ∧ arr[j * 3 + 2]? = some d.val := by
  obtain ⟨q1, q2, q3⟩ := flatI_cell ds j d hd
  have hj : j < ds.length := (List.getElem?_eq_some_iff.1 hd).1
  have key : ∀ t, t < n * 3 → arr[t]? = (flatI ds)[t]? := fun t h => by rw [← ht, List.getElem?_take, if_pos h, Array.getElem?_toList]
  exact ⟨(key _ (by omega)).trans q1, (key _ (by omega)).trans q2, (key _ (by omega)).trans q3⟩
theorem its_blk {w : World} {g : Nat} {arr : Array Value} {ds : List ItD} {T : TypeId} (hb : Blk w g arr T) (ht : arr.toList.take (ds.length * 3) = flatI ds) (hok : ∀ d ∈ ds, d.Ok w) : Its w (some ⟨g, 0, none⟩) ds := by
  intro i d hd
  obtain ⟨q1, q2, q3⟩ := cells_at ht rfl i d hd
  refine ⟨g, 0, rfl, ?_, ?_, ?_, hok d (List.mem_of_getElem? hd)⟩ <;> rw [hb.cell]
  · rw [Nat.zero_add]; exact q1
  · rw [Nat.zero_add]; exact q2
  · rw [Nat.zero_add]; exact q3
theorem szIt : (Try.prog.info? 37).map (·.size) = some 3 := by kernel_rfl
end Go.Proofs.Ytlhggfmcjmhipaa.Nr
namespace Go.Proofs.Ytlhggfmcjmhipaa.Nr
open Go.RowKit
open It
set_option maxHeartbeats 2000000 in
theorem del_any (g cap : Nat) (cur : Array Value) (ds : List ItD) (w : World) (bf : Nat) (hb : Blk w g cur 37) (hsz : ds.length * 3 ≤ cur.size) (ht : cur.toList.take (ds.length * 3) = flatI ds) (hcap : ds.length ≤ cap)
    (hf : w.cell? ⟨bf, 0, none⟩ = some (.func (.func 18) #[] #[])) (hbf : bf ≠ g) (hok : ∀ d ∈ ds, d.Ok w) (hne : ∀ d ∈ ds, ∀ b o, d.a = some ⟨b, o, none⟩ → d.x.nums ≠ [] → b ≠ g) (hl : ds.length ≤ 65) :
    Calls Try.prog 21 #[.slice (some ⟨g, 0, none⟩) ds.length cap, .func (.func 22) #[] #[.pointer (some ⟨bf, 0, none⟩)]] w fun e w' => e = .returned (.slice (some ⟨g, 0, none⟩) (ds.filter inF).length cap) ∧ (∃ arr, Blk w' g arr 37 ∧ Kept cur arr ds ds.length) ∧ UpdG w w' g := by
  have hbl : bf < w.heap.size := World.block_lt_of_cell? w _ hf
  have hgl := hb.lt
  have hIts := its_blk hb ht hok
  have HI : Hid _ := indexFar_any (some ⟨g, 0, none⟩) cap ds w bf hIts hl hf hbl
  have HT : Hid (cur.toList.take (ds.length * 3) = flatI ds) := ht
  have HOK : Hid (∀ d ∈ ds, d.Ok w) := hok
  have HNE : Hid (∀ d ∈ ds, ∀ b o, d.a = some ⟨b, o, none⟩ → d.x.nums ≠ [] → b ≠ g) := hne
  have HF : Hid (∀ W', UpdG w W' g → W'.cell? ⟨bf, 0, none⟩ = some (.func (.func 18) #[] #[])) := fun W' hu => (World.cell?_of_block (hu.block bf hbl hbf)).trans hf
  have HB : Hid (Blk w g cur 37) := hb
  clear hIts ht hok hne hf hb
  go_enter Try.func21, Try.ntmps21
  go_wp2_with fail
  refine Calls.mono HI.out ?_
  rintro e w1 ⟨⟨rfl, hall⟩ | ⟨k, rfl, hk, hbef, d0, hd0, hx0⟩, g1⟩
  · have HA : Hid (∀ d ∈ ds, insB d.x.nums = true) := hall
    clear hall
    go_wp2_with fail
    go_ret
    have u1 : UpdG w w1 g := ⟨g1.os, g1.tape, g1.output, g1.size, fun b hb _ => g1.block b hb⟩
    rw [List.filter_eq_self.2 (show ∀ d ∈ ds, inF d = true from HA.out)]
    exact ⟨rfl, ⟨cur, HB.out.below g1 hgl, Kept.all HT.out (Nat.le_refl _) (fun d hd => HA.out d (List.mem_of_mem_take hd))⟩, u1⟩
  · have hK0 : Kept cur cur ds (k + 1) := (Kept.all HT.out (by omega) hbef).skip hd0 hx0
    have u1 : UpdG w w1 g := ⟨g1.os, g1.tape, g1.output, g1.size, fun b hb _ => g1.block b hb⟩
    have b1 : Blk w1 g cur 37 := HB.out.below g1 hgl
    have hik : ((ds.take (k + 1)).filter inF).length = k := by
      rw [filter_succ hd0, show inF d0 = false from hx0, if_neg (by decide), List.append_nil, List.filter_eq_self.2 (show ∀ d ∈ ds.take k, inF d = true from hbef), List.length_take]; omega
    have hkne : ((k : Int) == -1) = false := beq_eq_false_iff_ne.2 (by omega)
    have hkne' : ¬ ((k : Int) = -1) := by omega
    have HK0 : Hid (Kept cur cur ds (k + 1)) := hK0
    clear hK0 hbef hd0 hx0
    go_wp2_with fail
    go_loopw [5, 6, 7] (fun s5 s6 _ wr => ∃ i j : Nat, s5 = .int .i64 i ∧ s6 = .int .i64 j ∧ i < j ∧ j ≤ ds.length ∧ Hid (i = ((ds.take j).filter inF).length) ∧ Hid (∃ arr, Blk wr g arr 37 ∧ Kept cur arr ds j) ∧ UpdG w wr g) (fun _ s6 _ _ => ds.length - (intOf s6).toNat)
    case atStart => exact ⟨k, k + 1, rfl, by go_num, by omega, by omega, hik.symm, ⟨cur, b1, HK0.out⟩, u1⟩
    case round =>
      obtain ⟨i, j, rfl, rfl, hij, hj, HIJ, HM, ur⟩ := hrel
      by_cases hlt : j < ds.length
      · have hlt' : (j : Int) < (ds.length : Int) := by omega
        obtain ⟨arr, hBa, hKa⟩ := HM.out
        obtain ⟨d, hd⟩ : ∃ d, ds[j]? = some d := ⟨_, List.getElem?_eq_getElem hlt⟩
        obtain ⟨p1, p2, p3⟩ := cells_at HT.out rfl j d hd
        have q1 : wr.cell? ⟨g, j * 3, none⟩ = some (.string d.x.name) := by rw [hBa.cell, hKa.rest _ (by omega)]; exact p1
        have q2 : wr.cell? ⟨g, j * 3 + 1, none⟩ = some (.string d.x.tag) := by rw [hBa.cell, hKa.rest _ (by omega)]; exact p2
        have q3 : wr.cell? ⟨g, j * 3 + 2, none⟩ = some d.val := by rw [hBa.cell, hKa.rest _ (by omega)]; exact p3
        have hokr : d.Ok wr := okG (HOK.out d (List.mem_of_getElem? hd)) ur (HNE.out d (List.mem_of_getElem? hd))
        have hfr := HF.out wr ur
        have HKA : Hid (Kept cur arr ds j) := hKa
        have HBA : Hid (Blk wr g arr 37) := hBa
        have HD : Hid (ds[j]? = some d) := hd
        clear HM p1 p2 p3 hKa hBa hd
        obtain ⟨⟨nm, tg, zs⟩, xa, xc⟩ := d
        simp only [ItD.val] at q1 q2 q3
        have hba := below_alloc wr (.cells #[.string nm, .string tg, .slice xa zs.length xc] 37)
        have n0 : Blk (wr.alloc (.cells #[.string nm, .string tg, .slice xa zs.length xc] 37)) wr.heap.size #[.string nm, .string tg, .slice xa zs.length xc] 37 := Blk.new _ _ _
        have HC : Hid _ := far_away_any ⟨⟨nm, tg, zs⟩, xa, xc⟩ (wr.alloc (.cells #[.string nm, .string tg, .slice xa zs.length xc] 37)) bf ((World.cell?_of_block (hba.block bf (Nat.lt_of_lt_of_le hbl ur.size))).trans hfr) (Nat.lt_of_lt_of_le (Nat.lt_of_lt_of_le hbl ur.size) hba.size) (hokr.below hba) hokr.2.1
        clear hfr hokr
        go_wp2_with fail
        refine Calls.mono HC.out ?_
        rintro e w2 ⟨he, g2⟩
        replace he : e = .returned (.bool (!insB zs)) := he
        subst he
        have u2 : UpdG w w2 g := (ur.alloc _).trans ⟨g2.os, g2.tape, g2.output, g2.size, fun b hb _ => g2.block b hb⟩
        have bA2 : Blk w2 g arr 37 := (HBA.out.alloc _).below g2 (HBA.out.alloc _).lt
        have bN2 := n0.below g2 n0.lt
        cases hx : insB zs with
        | false =>
          have HI2 : Hid (i = ((ds.take (j + 1)).filter inF).length) := by
            unfold Hid
            rw [filter_succ HD.out, show inF ⟨⟨nm, tg, zs⟩, xa, xc⟩ = false from hx, if_neg (by decide), List.append_nil]; exact HIJ.out
          have HM2 : Hid (∃ arr, Blk w2 g arr 37 ∧ Kept cur arr ds (j + 1)) := ⟨arr, bA2, HKA.out.skip HD.out hx⟩
          clear q1 q2 q3 HC HKA HBA n0 bN2 g2 hba bA2 hx HD HIJ HK0
          go_wp2_with fail
          exact ⟨⟨i, j + 1, rfl, by go_num, by omega, by omega, HI2, HM2, u2⟩, by simp [intOf]; omega⟩
        | true =>
          have HI2 : Hid (i + 1 = ((ds.take (j + 1)).filter inF).length) := by
            unfold Hid
            rw [filter_succ HD.out, show inF ⟨⟨nm, tg, zs⟩, xa, xc⟩ = true from hx, if_pos rfl, List.length_append, List.length_singleton, ← HIJ.out]
          have HM2 : Hid (Kept cur (foldset arr (i * 3) [.string nm, .string tg, .slice xa zs.length xc]) ds (j + 1)) := by
            have := HKA.out.keep HD.out hx (by omega)
            rw [← HIJ.out] at this
            exact this
          have c1 : w2.cell? ⟨wr.heap.size, 0, none⟩ = some (.string nm) := bN2.cell 0
          have c2 : w2.cell? ⟨wr.heap.size, 1, none⟩ = some (.string tg) := bN2.cell 1
          have c3 : w2.cell? ⟨wr.heap.size, 2, none⟩ = some (.slice xa zs.length xc) := bN2.cell 2
          have hasz : arr.size = cur.size := HKA.out.size
          have hil : (i : Int) < (ds.length : Int) := by omega
          clear q1 q2 q3 HC HKA HBA n0 bN2 g2 hba hx HD HIJ HK0
          go_wp2_with (refine wpl_storeAt rfl rfl 37 _ _ rfl 3 szIt g (i * 3) arr 37 #[.string nm, .string tg, .slice xa zs.length xc] rfl rfl rfl (by simp [Value.oneCell']) bA2 (by omega) ?_; intro w3 hu3 hb3)
          exact ⟨⟨i + 1, j + 1, by go_num, by go_num, by omega, by omega, HI2, ⟨_, hb3, HM2.out⟩, u2.upd hu3⟩, by simp [intOf]; omega⟩
      · obtain rfl : j = ds.length := by omega
        obtain ⟨arr, hBa, hKa⟩ := HM.out
        have hasz : arr.size = cur.size := hKa.size
        have HKA : Hid (Kept cur arr ds ds.length) := hKa
        have hcl0 := fun ty => run_clearZ (P := Try.prog) wr 22 37 ty _ Try.underlying22 Try.zeroValue37 (by decide) (by decide) g (i * 3) (ds.length - i) (cap - i) (by omega) arr 37 hBa (by simp [Value.cells]; omega)
        have hlv := zeroCells_size (Value.cells (.agg #[.string ByteArray.empty, .string ByteArray.empty, .slice none 0 0])) (ds.length - i)
        have hKc := hKa.clear (Builtin.zeroCells (Value.cells (.agg #[.string ByteArray.empty, .string ByteArray.empty, .slice none 0 0])) (ds.length - i)).toList i HIJ.out (by rw [hlv]; simp [Value.cells]; omega) hsz
        have hbX := putBlk_blk (arr' := foldset arr (i * 3) (Builtin.zeroCells (Value.cells (.agg #[.string ByteArray.empty, .string ByteArray.empty, .slice none 0 0])) (ds.length - i)).toList) (T' := 37) hBa
        have huX := putBlk_upd wr g (.cells (foldset arr (i * 3) (Builtin.zeroCells (Value.cells (.agg #[.string ByteArray.empty, .string ByteArray.empty, .slice none 0 0])) (ds.length - i)).toList) 37)
        obtain ⟨wX, hwX⟩ : ∃ wX, wX = putBlk wr g (.cells (foldset arr (i * 3) (Builtin.zeroCells (Value.cells (.agg #[.string ByteArray.empty, .string ByteArray.empty, .slice none 0 0])) (ds.length - i)).toList) 37) := ⟨_, rfl⟩
        have hcl : ∀ ty, (Builtin.clear_ #[22] ty #[.slice (some ⟨g, i * 3, none⟩) (ds.length - i) (cap - i)]).run Try.prog wr = .ok (.tuple #[]) wX := fun ty => by rw [hwX]; exact hcl0 ty
        rw [← hwX] at hbX huX
        have HM2 : Hid (∃ arr, Blk wX g arr 37 ∧ Kept cur arr ds ds.length) := ⟨_, hbX, hKc⟩
        have huX2 : UpdG w wX g := ur.upd huX
        have HI2 : Hid ((ds.filter inF).length = i) := by have := HIJ.out; rw [List.take_length] at this; exact this.symm
        clear HM hcl0 hlv hKc hbX huX hwX hBa hKa HIJ HK0 HI HF
        go_wp2_with fail
        go_ret
        rw [HI2.out]
        exact ⟨rfl, HM2.out, huX2⟩
end Go.Proofs.Ytlhggfmcjmhipaa.Nr
namespace Go.Proofs.Ytlhggfmcjmhipaa.Nr
open Go.RowKit
open It
/-- A point of two numbers, moved. -/
def mvL (p q : Int) (zs : List Int) : List Int := [zs[0]! + p, zs[1]! + q]
def mvI (p q : Int) (x : Itm) : Itm := ⟨x.name, x.tag, mvL p q x.nums⟩
theorem far_two (a b c d : Int) : farI [a, b] [c, d] = (a - c) * (a - c) + (b - d) * (b - d) := by
  show farK [a, b] [c, d] 2 = _
  simp [farK]
theorem mv_far {zs ys : List Int} (p q : Int) (hz : zs.length = 2) (hy : ys.length = 2) : farI (mvL p q zs) (mvL p q ys) = farI zs ys := by
  match zs, ys, hz, hy with
  | [a, b], [c, d], _, _ =>
    show farI [a + p, b + q] [c + p, d + q] = farI [a, b] [c, d]
    rw [far_two, far_two, show a + p - (c + p) = a - c from by omega, show b + q - (d + q) = b - d from by omega]
theorem fnd_moved {ys : List Int} {tag : ByteArray} {xs : List Itm} (p q : Int) (hy : ys.length = 2) (hx : ∀ x ∈ xs, x.nums.length = 2) : fnd (mvL p q ys) tag (xs.map (mvI p q)) = fnd ys tag xs := by
  unfold fnd
  induction xs with
  | nil => rfl
  | cons x xs ih =>
    have ih' := ih fun y hy => hx y (List.mem_cons_of_mem _ hy)
    have e : tagP tag (mvI p q x) = tagP tag x := rfl
    rw [List.map_cons, List.filter_cons, List.filter_cons, e]
    cases tagP tag x with
    | false => exact ih'
    | true =>
      show (x.name, farI (mvL p q x.nums) (mvL p q ys)) :: _ = (x.name, farI x.nums ys) :: _
      rw [mv_far p q (hx x List.mem_cons_self) hy, ih']
theorem far_self {zs : List Int} (h : zs.length = 2) : farI zs zs = 0 := by
  match zs, h with
  | [a, b], _ => rw [far_two]; simp
theorem sq_pos (a : Int) : 0 ≤ a * a := by
  rcases Int.le_total 0 a with h | h
  · exact Int.mul_nonneg h h
  · have := Int.mul_nonneg (show 0 ≤ -a by omega) (show 0 ≤ -a by omega)
    rwa [Int.neg_mul_neg] at this
theorem far_pos {zs ys : List Int} (h : zs.length = 2) (h' : ys.length = 2) : 0 ≤ farI zs ys := by
  match zs, ys, h, h' with
  | [a, b], [c, d], _, _ =>
    rw [far_two]
    have := sq_pos (a - c)
    have := sq_pos (b - d)
    omega
/-- The nearest to an item's own place: one, at distance 0. -/
theorem near_self {xs : List Itm} {x : Itm} (hx : x ∈ xs) (h2 : ∀ y ∈ xs, y.nums.length = 2) : ∃ n, (srt (fnd x.nums ⟨#[]⟩ xs)).take 1 = [(n, 0)] := by
  have hm : (x.name, (0 : Int)) ∈ fnd x.nums ⟨#[]⟩ xs := by
    unfold fnd
    rw [List.mem_map]
    refine ⟨x, List.mem_filter.2 ⟨hx, by simp [tagP]⟩, ?_⟩
    rw [far_self (h2 x hx)]
  have hs : (x.name, (0 : Int)) ∈ srt (fnd x.nums ⟨#[]⟩ xs) := (srt_perm _).mem_iff.2 hm
  have hso := srt_sorted (fnd x.nums ⟨#[]⟩ xs)
  cases hF : srt (fnd x.nums ⟨#[]⟩ xs) with
  | nil => rw [hF] at hs; cases hs
  | cons f r =>
    rw [hF] at hs hso
    refine ⟨f.1, ?_⟩
    have hf : f ∈ fnd x.nums ⟨#[]⟩ xs := (srt_perm _).mem_iff.1 (by rw [hF]; exact List.mem_cons_self)
    obtain ⟨y, hy, rfl⟩ := List.mem_map.1 hf
    have h0 : 0 ≤ farI y.nums x.nums := far_pos (h2 y ((List.mem_filter.1 hy).1)) (h2 x hx)
    have h1 : farI y.nums x.nums = 0 := by
      rcases List.mem_cons.1 hs with e | hr
      · exact (congrArg Prod.snd e).symm
      · have := List.rel_of_pairwise_cons hso hr
        have hn : ¬ ltF (x.name, 0) (y.name, farI y.nums x.nums) = true := by rw [this]; decide
        rw [ltF_iff] at hn
        have : ¬ (0 : Int) < farI y.nums x.nums := fun h => hn (Or.inl h)
        omega
    show [_] = _
    rw [h1]
theorem mv_num {p q : Int} {zs : List Int} (hp : -50 ≤ p ∧ p ≤ 50) (hq : -50 ≤ q ∧ q ≤ 50) (h : insB zs = true) : (mvL p q zs).all numB = true ∧ (mvL p q zs).length = 2 := by
  refine ⟨?_, rfl⟩
  unfold insB at h
  rw [Bool.and_eq_true, decide_eq_true_eq] at h
  match zs, h with
  | [a, b], h =>
    have h2 := h.2
    simp [midB] at h2
    show [a + p, b + q].all numB = true
    simp [numB]
    omega
end Go.Proofs.Ytlhggfmcjmhipaa.Nr
namespace Go.Proofs.Ytlhggfmcjmhipaa.Nr
open Go.RowKit
open It
/-- Two boxed numbers are told anew. -/
structure Two (w w' : World) (B : Nat) (p q : Int) : Prop where
  one : Blk w' B #[.int .i64 p] 3
  two : Blk w' (B + 1) #[.int .i64 q] 3
  os : w'.os = w.os
  tape : w'.tape = w.tape
  output : w'.output = w.output
  size : w'.heap.size = w.heap.size
  block : ∀ b, b ≠ B → b ≠ B + 1 → w'.heap[b]? = w.heap[b]?
theorem two_set {w : World} {B : Nat} {x y : Value} (h0 : Blk w B #[x] 3) (h1 : Blk w (B + 1) #[y] 3) (p q : Int) : Two w ((w.setCell ⟨B, 0, none⟩ (.int .i64 p)).setCell ⟨B + 1, 0, none⟩ (.int .i64 q)).drew B p q := by
  have a0 : Blk (w.setCell ⟨B, 0, none⟩ (.int .i64 p)) B #[.int .i64 p] 3 := h0.set 0 (.int .i64 p)
  have a1 := h1.setOther ⟨B, 0, none⟩ (by simp) (.int .i64 p)
  have a2 : Blk ((w.setCell ⟨B, 0, none⟩ (.int .i64 p)).setCell ⟨B + 1, 0, none⟩ (.int .i64 q)) (B + 1) #[.int .i64 q] 3 := a1.set 0 (.int .i64 q)
  have u1 := setCell_upd w B 0 (.int .i64 p)
  have u2 := setCell_upd (w.setCell ⟨B, 0, none⟩ (.int .i64 p)) (B + 1) 0 (.int .i64 q)
  exact ⟨(a0.setOther ⟨B + 1, 0, none⟩ (by simp) (.int .i64 q)).drew, a2.drew, u2.os.trans u1.os, u2.tape.trans u1.tape, u2.output.trans u1.output, u2.size.trans u1.size, fun b hb hb' => (u2.block b hb').trans (u1.block b hb)⟩
theorem del_nil (w : World) (x : Value) :
    Calls Try.prog 21 #[.slice none 0 0, .func (.func 22) #[] #[x]] w fun e w' => e = .returned (.slice none 0 0) ∧ w' = w := by
  have HI : Calls Try.prog 33 #[.slice none 0 0, .func (.func 22) #[] #[x]] w fun e w' => e = .returned (.int .i64 (-1)) ∧ w' = w := by
    go_enter Try.func33, Try.ntmps33
    go_wp2_with fail
    go_loop [8] (fun i => i = .int .i64 0) (fun _ => 0)
    case atStart => rfl
    case round =>
      subst hrel
      go_wp2_with fail
      go_ret
      exact ⟨rfl, rfl⟩
  go_enter Try.func21, Try.ntmps21
  go_wp2_with (go_at_call 33; refine HI.mono ?_; rintro e w' ⟨rfl, rfl⟩)
  go_ret
  exact ⟨rfl, rfl⟩
theorem del_row (B : Nat) (v : Value) (L : List ItD) (w : World) (bf : Nat) (ow : w.ownsRow B 37 3 v L.length (flatI L)) (hnil : L = [] → v = .slice none 0 0) (hB : B ≤ w.heap.size)
    (hf : w.cell? ⟨bf, 0, none⟩ = some (.func (.func 18) #[] #[])) (hbf : ∀ a n c, v = .slice (some a) n c → bf ≠ a.block) (hok : ∀ d ∈ L, d.Ok w) (hlow : ∀ d ∈ L, ∀ b o, d.a = some ⟨b, o, none⟩ → d.x.nums ≠ [] → b < B) (hl : L.length ≤ 65) :
    Calls Try.prog 21 #[v, .func (.func 22) #[] #[.pointer (some ⟨bf, 0, none⟩)]] w fun e w' => (∃ a' c', e = .returned (.slice a' (L.filter inF).length c') ∧ Its w' a' (L.filter inF)) ∧ ∃ g, UpdG w w' g ∧ B ≤ g ∧ g ≠ bf := by
  by_cases h0 : L = []
  · rw [hnil h0, h0]
    refine (del_nil w _).mono ?_
    rintro e w' ⟨rfl, rfl⟩
    exact ⟨⟨none, 0, rfl, fun i d hd => by simp at hd⟩, w'.heap.size, UpdG.refl _ _, hB, (Nat.ne_of_lt (World.block_lt_of_cell? w' ⟨bf, 0, none⟩ hf)).symm⟩
  · have hpos : 0 < L.length := List.length_pos_iff.2 h0
    obtain ⟨g, cap, cur, rfl, hgB, hgl, hh, hc1, hc2, hs, ht⟩ := own_parts ow (by omega)
    have hbg : bf ≠ g := hbf ⟨g, 0, none⟩ _ _ rfl
    have hne : ∀ d ∈ L, ∀ b o, d.a = some ⟨b, o, none⟩ → d.x.nums ≠ [] → b ≠ g := fun d hd b o e hn => by have := hlow d hd b o e hn; omega
    refine (del_any g cap cur L w bf hh (by rw [hs]; exact Nat.mul_le_mul_right 3 hc1) ht hc1 hf hbg hok hne hl).mono ?_
    rintro e w' ⟨rfl, ⟨arr, hA, hK⟩, hu⟩
    have hKf := hK.front
    rw [List.take_length] at hKf
    exact ⟨⟨some ⟨g, 0, none⟩, cap, rfl, its_blk hA hKf fun d hd => okG (hok d (List.mem_filter.1 hd).1) hu (hne d (List.mem_filter.1 hd).1)⟩, g, hu, hgB, hbg.symm⟩
end Go.Proofs.Ytlhggfmcjmhipaa.Nr
