/-
  Part of the proof: a map keyed by an int, told as a function.
-/
import Derived.Test.YtkapkphhceknfaaGreatDoorB02
import Derived.Maps.RangeWalk
namespace Go.Proofs.YtkapkphhceknfaaGreatDoor
open Go.RowKit Go.Maps
open Go.WideElems (Fit rd rg rd_key rd_val rg_of)
theorem pw_eq {α β : Type} (g : α → β) : ∀ {l : List α}, l.Pairwise (fun p q => g p ≠ g q) → ∀ {x y : α}, x ∈ l → y ∈ l → g x = g y → x = y
  | [], _, _, _, hx, _, _ => by simp at hx
  | a :: r, hp, x, y, hx, hy, h => by
    obtain ⟨h1, h2⟩ := List.pairwise_cons.1 hp
    rcases List.mem_cons.1 hx with ex | hx'
    · rcases List.mem_cons.1 hy with ey | hy'
      · rw [ex, ey]
      · exact absurd (ex ▸ h) (h1 y hy')
    · rcases List.mem_cons.1 hy with ey | hy'
      · exact absurd (ey ▸ h).symm (h1 x hx')
      · exact pw_eq g h2 hx' hy' h
/-- A key's number is i. -/
def isK (i : Int) : Value → Bool
  | .int .i64 j => decide (j = i)
  | _ => false
theorem isK_self (i : Int) : isK i (.int .i64 i) = true := by simp [isK]
theorem isK_eq {i j : Int} (h : isK i (.int .i64 j) = true) : j = i := by simpa [isK] using h
/-- Whatever element reads as itself. -/
def rV (v : Value) : Option (DataW Value × List MemPlace) := some (.held v, [])
abbrev kI (i : Int) : Lit := .int .i64 i
abbrev kOk (i : Int) : Prop := (kI i).wf = true
/-- What a reading tells, key by key. -/
def Tells (D : DataW Value) (f : Int → Option Value) : Prop :=
  ∀ i, kOk i → Maps.has D (kI i) = (f i).isSome ∧ ∀ v, f i = some v → ∀ zd, D.atKey (kI i) zd = .held v
/-- Block b is a map of at most n entries: at key i stands f i. -/
def MapF (P : Program) (w : World) (b n : Nat) (f : Int → Option Value) : Prop := ∃ D : DataW Value, w.ownsMap P 3 rV b n D ∧ Tells D f
section
variable {P : Program} {w : World} {b n : Nat} {f : Int → Option Value}
theorem MapF.lt (h : MapF P w b n f) : b < w.heap.size := by obtain ⟨D, h, _⟩ := h; exact h.lt
theorem MapF.mono (h : MapF P w b n f) {m : Nat} (hm : n ≤ m) : MapF P w b m f := by obtain ⟨D, h, h2⟩ := h; exact ⟨D, h.mono hm, h2⟩
theorem MapF.kept {w' : World} {row : Option Nat} (h : MapF P w b n f) (hg : w.grownBy w' row) (hne : some b ≠ row) : MapF P w' b n f := by obtain ⟨D, h, h2⟩ := h; exact ⟨D, h.kept hg hne, h2⟩
theorem MapF.same {w' : World} (h : MapF P w b n f) (hs : w'.heap[b]? = w.heap[b]?) : MapF P w' b n f := by
  obtain ⟨D, ⟨es, clock, hb, F, hs', hD⟩, h2⟩ := h
  exact ⟨D, ⟨es, clock, hs.trans hb, F, hs', hD⟩, h2⟩
theorem MapF.below {w' : World} {B : Nat} (h : MapF P w b n f) (hb : Below B w w') (hB : b < B) : MapF P w' b n f := h.same (hb.block b hB)
theorem MapF.alloc (h : MapF P w b n f) (o : Obj) : MapF P (w.alloc o) b n f := by obtain ⟨D, h, h2⟩ := h; exact ⟨D, h.alloc o, h2⟩
theorem MapF.drew (h : MapF P w b n f) : MapF P w.drew b n f := h
theorem MapF.drewN (h : MapF P w b n f) (k : Nat) : MapF P (w.drewN k) b n f := h
theorem MapF.congr (h : MapF P w b n f) {g : Int → Option Value} (hg : ∀ i, kOk i → g i = f i) : MapF P w b n g := by
  obtain ⟨D, h, h2⟩ := h
  exact ⟨D, h, fun i hi => by rw [hg i hi]; exact h2 i hi⟩
theorem MapF.upd {w' : World} {c : Nat} (h : MapF P w b n f) (hu : Upd w w' c) (hne : b ≠ c) : MapF P w' b n f := h.same (hu.block b hne)
theorem mapF_made (P : Program) (w : World) : MapF P (w.alloc (.map #[] 0)) w.heap.size 0 (fun _ => none) :=
  ⟨.map [], World.ownsMap_made w P 3 rV, fun i _ => ⟨rfl, fun v hv => by cases hv⟩⟩
/-- A map that came in. -/
theorem MapF.of_fit {H : Type} {R : Value → Option (DataW H × List MemPlace)} {es : Array MapEntry} {clock : Nat} (hk : P.underlying 3 = some (.int .i64)) (hb : w.heap[b]? = some (.map es clock)) (F : Fit P 3 R es clock) :
    ∃ f, MapF P w b es.size f ∧ ∀ i v, f i = some v → ∃ x ∈ es.toList, x.val = v := by
  have F' : Fit P 3 rV es clock := ⟨F.size, F.stamped, fun x hx => by
    obtain ⟨y, hy⟩ := F.reads x hx
    exact ⟨(y.1, .held x.val), by simp [rd, rd_key hy, rV]⟩⟩
  have hown : w.ownsMap P 3 rV b es.size (.map ((es.toList.map (rg P 3 rV)).foldr DataW.insert [])) := ⟨es, clock, hb, F', Nat.le_refl _, rfl⟩
  have K := int_keyed (P := P) hk
  refine ⟨fun i => (es.toList.find? fun x => isK i x.key).map (·.val), ⟨_, hown, fun i hi => ?_⟩, fun i v h => ?_⟩
  · have key := keyOf_int_mk (P := P) hk hi
    have hmem : ∀ x ∈ es.toList, ∃ j, x.key = .int .i64 j ∧ kOk j ∧ rg P 3 rV x = (kI j, .held x.val) := fun x hx => by
      obtain ⟨y, hy⟩ := F'.reads x hx
      obtain ⟨j, h1, h2, h3⟩ := Maps.keyOf_int_inv hk (rd_key hy)
      refine ⟨j, h1, h3, ?_⟩
      rw [rg_of hy]
      obtain ⟨z, hz1, hz2⟩ := rd_val hy
      simp only [rV, Option.some.injEq] at hz1
      ext
      · rw [h2]
      · rw [hz2, ← hz1]
    have hap := Maps.fit_apart K F'
    dsimp only
    cases hfd : es.toList.find? (fun x => isK i x.key) with
    | none =>
      refine ⟨?_, fun v hv => by simp at hv⟩
      simp only [Option.map_none, Option.isSome_none, Maps.has]
      rw [List.any_eq_false]
      intro p hp
      obtain ⟨x, hx, rfl⟩ := List.mem_map.1 (mem_sorted.1 hp)
      obtain ⟨j, h1, h2, h3⟩ := hmem x hx
      have hne : j ≠ i := fun e => by
        have := List.find?_eq_none.1 hfd x hx
        rw [h1, e, isK_self] at this; simp at this
      rw [h3]
      simpa using Maps.sameKey_ne (a := kI j) (b := kI i) (fun e => hne (by injection e))
    | some x =>
      have hx := List.mem_of_find?_eq_some hfd
      have hxk : isK i x.key = true := by simpa using List.find?_some hfd
      obtain ⟨j, h1, h2, h3⟩ := hmem x hx
      have hji : j = i := by rw [h1] at hxk; exact isK_eq hxk
      subst hji
      have hp : (kI j, DataW.held x.val) ∈ (es.toList.map (rg P 3 rV)).foldr DataW.insert [] := mem_sorted.2 (List.mem_map.2 ⟨x, hx, h3⟩)
      have hself : (kI j).sameKey (kI j) = true := WideAt.sameKey_self (K.key key)
      refine ⟨?_, fun v hv zd => ?_⟩
      · simp only [Option.map_some, Option.isSome_some, Maps.has]
        exact List.any_eq_true.2 ⟨_, hp, hself⟩
      · simp only [Option.map_some, Option.some.injEq] at hv
        subst hv
        have hpw : ((es.toList.map (rg P 3 rV)).foldr DataW.insert []).Pairwise (fun p q => p.1 ≠ q.1) := ((WideShapes.sorted_perm _).pairwise_iff (fun {_ _} hne => Ne.symm hne)).2 hap
        cases hq : ((es.toList.map (rg P 3 rV)).foldr DataW.insert []).find? (fun p => p.1.sameKey (kI j)) with
        | none =>
          have := List.find?_eq_none.1 hq _ hp
          rw [hself] at this; simp at this
        | some q =>
          have hqm := List.mem_of_find?_eq_some hq
          have hqk : q.1 = kI j := WideAt.sameKey_eq (by simpa using List.find?_some hq)
          have : q = (kI j, DataW.held x.val) := pw_eq Prod.fst hpw hqm hp hqk
          simp only [DataW.atKey, hq, this]
  · simp only [Option.map_eq_some_iff] at h
    obtain ⟨x, hx, rfl⟩ := h
    exact ⟨x, List.mem_of_find?_eq_some hx, rfl⟩
theorem MapF.look {t e : TypeId} (h : MapF P w b n f) (hk : P.underlying 3 = some (.int .i64)) (ht : P.underlying t = some (.map 3 e)) {z : Value} (hz : (zeroValue e).run P w = .ok z w) {i : Int} (hi : kOk i) :
    (Instr.lookup t (.map (some b)) (.int .i64 i) false).run P w = .ok ((f i).getD z) w := by
  obtain ⟨D, ⟨es, clock, hb, F, hs, rfl⟩, hD⟩ := h
  have K := int_keyed (P := P) hk
  rcases Maps.fit_look false K ht hz hb F (keyOf_int_mk hk hi) with ⟨hrun, _, hat⟩ | ⟨e0, y, _, _, hrun, hRv, hat, _⟩
  · have h0 := Maps.has_false_of_atKey hat
    rw [(hD i hi).1] at h0
    rw [Option.isSome_eq_false_iff, Option.isNone_iff_eq_none] at h0
    rw [h0]; exact hrun
  · have h0 := Maps.has_true_of_atKey hat
    rw [(hD i hi).1] at h0
    obtain ⟨v, hv⟩ := Option.isSome_iff_exists.1 h0
    have e1 := (hD i hi).2 v hv .nil
    rw [hat .nil] at e1
    simp only [rV, Option.some.injEq] at hRv
    rw [← hRv] at e1
    have e2 : e0.val = v := by simpa using e1
    rw [hv, ← e2]; exact hrun
theorem MapF.look_ok {t e : TypeId} (h : MapF P w b n f) (hk : P.underlying 3 = some (.int .i64)) (ht : P.underlying t = some (.map 3 e)) {z : Value} (hz : (zeroValue e).run P w = .ok z w) {i : Int} (hi : kOk i) :
    (Instr.lookup t (.map (some b)) (.int .i64 i) true).run P w = .ok (.tuple #[(f i).getD z, .bool (f i).isSome]) w := by
  obtain ⟨D, ⟨es, clock, hb, F, hs, rfl⟩, hD⟩ := h
  have K := int_keyed (P := P) hk
  rcases Maps.fit_look true K ht hz hb F (keyOf_int_mk hk hi) with ⟨hrun, _, hat⟩ | ⟨e0, y, _, _, hrun, hRv, hat, _⟩
  · have h0 := Maps.has_false_of_atKey hat
    rw [(hD i hi).1] at h0
    rw [h0]
    rw [Option.isSome_eq_false_iff, Option.isNone_iff_eq_none] at h0
    rw [h0]; exact hrun
  · have h0 := Maps.has_true_of_atKey hat
    rw [(hD i hi).1] at h0
    obtain ⟨v, hv⟩ := Option.isSome_iff_exists.1 h0
    have e1 := (hD i hi).2 v hv .nil
    rw [hat .nil] at e1
    simp only [rV, Option.some.injEq] at hRv
    rw [← hRv] at e1
    have e2 : e0.val = v := by simpa using e1
    rw [hv, ← e2]; exact hrun
theorem MapF.update {t e : TypeId} (h : MapF P w b n f) (hk : P.underlying 3 = some (.int .i64)) (ht : P.underlying t = some (.map 3 e)) (hn : n < maxLen) {i : Int} (hi : kOk i) (v : Value) :
    ∃ w', (Instr.mapUpdate t (.map (some b)) (.int .i64 i) v).run P w = .ok () w' ∧ MapF P w' b (n + 1) (fun j => if j = i then some v else f j) ∧ w.grownBy w' (some b) ∧ w'.heap.size = w.heap.size := by
  obtain ⟨D, h, hD⟩ := h
  have K := int_keyed (P := P) hk
  have hm := h.isMap
  obtain ⟨w', hrun, h', ht'⟩ := h.store K ht hn (keyOf_int_mk hk hi) (show rV v = some (.held v, []) from rfl)
  refine ⟨w', hrun, ⟨_, h', fun j hj => ?_⟩, ht'.grown, ?_⟩
  · show Maps.has _ (kI j) = (if j = i then some v else f j).isSome ∧ ∀ u, (if j = i then some v else f j) = some u → ∀ zd, _
    by_cases e : j = i
    · subst e
      rw [if_pos rfl]
      refine ⟨by rw [Maps.has_put_same hm (K.key (keyOf_int_mk hk hj))]; rfl, fun u hu zd => ?_⟩
      cases hu
      exact Maps.atKey_put_same hm (K.key (keyOf_int_mk hk hj)) _ _
    · rw [if_neg e]
      have hne : kI j ≠ kI i := fun h => e (by injection h)
      refine ⟨by rw [Maps.has_put_other hne]; exact (hD j hj).1, fun u hu zd => ?_⟩
      rw [Maps.atKey_put_other hne]
      exact (hD j hj).2 u hu zd
  · obtain ⟨_, _, _, _, _, rfl⟩ := ht'
    simp [ChangeMaps.setBlock]
theorem MapF.len {t e : TypeId} (h : MapF P w b n f) (ht : P.underlying t = some (.map 3 e)) (ty : TypeId) : ∃ k : Nat, k ≤ n ∧ (Builtin.len_ #[t] ty #[.map (some b)]).run P w = .ok (.int .i64 (k : Int)) w := by
  obtain ⟨D, h, hD⟩ := h
  exact ⟨_, h.size_le, h.len ht ty⟩
end
/-- A range over such a map is under way: left i: the entry at key i is still to come. -/
def RngF (P : Program) (w : World) (b r n : Nat) (f : Int → Option Value) (left : Int → Bool) (cnt : Nat) : Prop :=
  ∃ (D : DataW Value) (L : Lit → Bool), w.ranges P 3 rV b r n D L cnt ∧ Tells D f ∧ ∀ i, kOk i → L (kI i) = left i
section
variable {P : Program} {w : World} {b r n : Nat} {f : Int → Option Value} {left : Int → Bool} {cnt : Nat}
theorem RngF.map (h : RngF P w b r n f left cnt) : MapF P w b n f := by obtain ⟨D, L, h, h2, _⟩ := h; exact ⟨D, h.owns, h2⟩
theorem RngF.left_eq (h : RngF P w b r n f left cnt) : w.rangeLeft b r = cnt := by obtain ⟨D, L, h, _⟩ := h; exact h.left_eq
theorem RngF.ne (h : RngF P w b r n f left cnt) : r ≠ b := by obtain ⟨D, L, h, _⟩ := h; exact h.ne
theorem RngF.lt (h : RngF P w b r n f left cnt) : r < w.heap.size := by obtain ⟨D, L, h, _⟩ := h; exact h.lt
theorem RngF.kept {w' : World} {row : Option Nat} (h : RngF P w b r n f left cnt) (hg : w.grownBy w' row) (hb' : some b ≠ row) (hr' : some r ≠ row) : RngF P w' b r n f left cnt := by
  obtain ⟨D, L, h, h2, h3⟩ := h; exact ⟨D, L, h.kept hg hb' hr', h2, h3⟩
theorem RngF.below {w' : World} {B : Nat} (h : RngF P w b r n f left cnt) (hb : Below B w w') (hB : w.heap.size ≤ B) : RngF P w' b r n f left cnt :=
  h.kept (row := none) ⟨hb.os, hb.tape, hb.output, hb.size, fun i hi _ => hb.block i (by omega)⟩ (by simp) (by simp)
theorem RngF.drewN (h : RngF P w b r n f left cnt) (k : Nat) : RngF P (w.drewN k) b r n f left cnt := h
theorem MapF.range {t e : TypeId} (h : MapF P w b n f) (hk : P.underlying 3 = some (.int .i64)) (ht : P.underlying t = some (.map 3 e)) :
    ∃ w' cnt, (Instr.range t (.map (some b))).run P w = .ok (.pointer (some ⟨w.heap.size, 0, none⟩)) w' ∧ RngF P w' b w.heap.size n f (fun i => (f i).isSome) cnt ∧ cnt ≤ n ∧ w.grownBy w' none ∧ w'.heap.size = w.heap.size + 1 := by
  obtain ⟨D, h, hD⟩ := h
  obtain ⟨w', hrun, r1, r2, r3⟩ := h.range (int_keyed (P := P) hk) ht
  exact ⟨w', _, hrun, ⟨D, _, r1, hD, fun i hi => (hD i hi).1⟩, h.size_le, r2, r3⟩
theorem RngF.next (h : RngF P w b r n f left cnt) (hk : P.underlying 3 = some (.int .i64)) (ty : TypeId) :
    (cnt = 0 ∧ (∀ i, kOk i → left i = false) ∧ (Instr.next (.pointer (some ⟨r, 0, none⟩)) false ty).run P w = .ok (.tuple #[.bool false]) w) ∨
    ∃ i v w' cnt', kOk i ∧ left i = true ∧ f i = some v ∧ (Instr.next (.pointer (some ⟨r, 0, none⟩)) false ty).run P w = .ok (.tuple #[.bool true, .int .i64 i, v]) w' ∧
      RngF P w' b r n f (fun j => left j && !decide (j = i)) cnt' ∧ cnt' < cnt ∧ w.grownBy w' (some r) ∧ w'.heap.size = w.heap.size ∧ (Instr.entry (.pointer (some ⟨r, 0, none⟩))).run P w' = .ok (.tuple #[.int .i64 i, v]) w' := by
  obtain ⟨D, L, h, hD, hL⟩ := h
  have K := int_keyed (P := P) hk
  rcases h.next K ty with ⟨h0, hl, hrun⟩ | ⟨key, v, kl, y, w', cnt', hkey, hlk, hv, hat, hrun, hrg, hlt, hgr, hsz, hen⟩
  · exact Or.inl ⟨h0, fun i hi => by rw [← hL i hi]; exact hl _, hrun⟩
  · obtain ⟨i, rfl, rfl, hi⟩ := Maps.keyOf_int_inv hk hkey
    have hs := Maps.has_true_of_atKey hat
    rw [(hD i hi).1] at hs
    obtain ⟨u, hu⟩ := Option.isSome_iff_exists.1 hs
    have e1 := (hD i hi).2 u hu .nil
    rw [hat .nil] at e1
    simp only [rV, Option.some.injEq] at hv
    rw [← hv] at e1
    have e2 : v = u := by simpa using e1
    refine Or.inr ⟨i, v, w', cnt', hi, by rw [← hL i hi]; exact hlk, by rw [hu, e2], hrun, ⟨D, _, hrg, hD, fun j hj => ?_⟩, hlt, hgr, hsz, hen⟩
    by_cases e : j = i
    · subst e
      simp [WideAt.sameKey_self (K.key (keyOf_int_mk hk hj))]
    · have := Maps.sameKey_ne (a := kI j) (b := kI i) (fun h => e (by injection h))
      simp [this, hL j hj, e]
end
end Go.Proofs.YtkapkphhceknfaaGreatDoor
