/-
  Part of the proof of SumTells: plain facts on numbers kept as lists of digits, and the reference's comparison of a square with a great number is walked.
-/
import Derived.Test.YtfkgfakjhjbidaaDoorSmV1
namespace Go.Proofs.YtfkgfakjhjbidaaDoor.Sm
open Go.RowKit
theorem val_lt (l : List Nat) (h : ∀ d ∈ l, d < 65536) : val l < 65536 ^ l.length := by
  induction l with
  | nil => simp [val]
  | cons d l ih =>
    have h1 := ih fun x hx => h x (by simp [hx])
    have h2 := h d (by simp)
    simp only [val, List.length_cons, Nat.pow_succ]
    omega
theorem val_split (l : List Nat) (m a : Nat) (h : l[m]? = some a) : val l = val (l.take m) + 65536 ^ m * (a + 65536 * val (l.drop (m + 1))) := by
  have hm : m < l.length := by
    rcases Nat.lt_or_ge m l.length with h' | h'
    · exact h'
    · rw [List.getElem?_eq_none h'] at h; cases h
  have e : l = l.take m ++ (a :: l.drop (m + 1)) := by
    have e1 := List.take_append_drop m l
    rw [List.drop_eq_getElem_cons hm] at e1
    rw [List.getElem?_eq_getElem hm] at h
    injection h with h
    rw [h] at e1; exact e1.symm
  have hl : (l.take m).length = m := by rw [List.length_take]; omega
  calc val l = val (l.take m ++ (a :: l.drop (m + 1))) := by rw [← e]
    _ = _ := by rw [val_append, hl]; rfl
theorem drop_some (l : List Nat) (t a : Nat) (h : l[t]? = some a) : l.drop t = a :: l.drop (t + 1) := by
  have ht : t < l.length := by
    rcases Nat.lt_or_ge t l.length with h' | h'
    · exact h'
    · rw [List.getElem?_eq_none h'] at h; cases h
  rw [List.drop_eq_getElem_cons ht]
  rw [List.getElem?_eq_getElem ht] at h; injection h with h; rw [h]
/-- The greatest digit that differs decides. -/
theorem val_cmp (l r : List Nat) (m a b : Nat) (hl : l[m]? = some a) (hr : r[m]? = some b) (dl : ∀ d ∈ l, d < 65536) (dr : ∀ d ∈ r, d < 65536) (hd : l.drop (m + 1) = r.drop (m + 1)) (hne : a ≠ b) : (b < a) ↔ (val r < val l) := by
  rw [val_split l m a hl, val_split r m b hr, hd]
  have h1 := val_lt (l.take m) fun d hd' => dl d (List.mem_of_mem_take hd')
  have h2 := val_lt (r.take m) fun d hd' => dr d (List.mem_of_mem_take hd')
  have p1 : 65536 ^ (l.take m).length ≤ 65536 ^ m := Nat.pow_le_pow_right (by decide) (List.length_take_le _ _)
  have p2 : 65536 ^ (r.take m).length ≤ 65536 ^ m := Nat.pow_le_pow_right (by decide) (List.length_take_le _ _)
  generalize val (l.take m) = A at *
  generalize val (r.take m) = B at *
  generalize 65536 * val (r.drop (m + 1)) = D at *
  generalize 65536 ^ m = Pm at *
  rw [Nat.mul_add, Nat.mul_add]
  rcases Nat.lt_or_gt_of_ne hne with h | h
  · have : Pm * a + Pm ≤ Pm * b := by rw [← Nat.mul_succ]; exact Nat.mul_le_mul_left _ h
    constructor
    · intro h'; omega
    · intro h'; omega
  · have : Pm * b + Pm ≤ Pm * a := by rw [← Nat.mul_succ]; exact Nat.mul_le_mul_left _ h
    constructor
    · intro _; omega
    · intro _; exact h
theorem _root_.Go.Proofs.YtfkgfakjhjbidaaDoor.Row.weaken {w : World} {B B' : Nat} {e : TypeId} {v : Value} {xs : List Value} (h : Row w B e v xs) (hB : B' ≤ B) : Row w B' e v xs := by
  obtain ⟨h1, h2⟩ := h
  refine ⟨h1, ?_⟩
  rcases h2 with h2 | ⟨g, cap, cur, hv, hg, r⟩
  · exact Or.inl h2
  · exact Or.inr ⟨g, cap, cur, hv, by omega, r⟩
theorem _root_.Go.Proofs.YtfkgfakjhjbidaaDoor.Row.single (w : World) (u : Value) (e : TypeId) : Row (w.alloc (.cells #[u] e)) w.heap.size e (.slice (some ⟨w.heap.size, 0, none⟩) 1 1) [u] :=
  ⟨rfl, Or.inr ⟨w.heap.size, 1, #[u], rfl, Nat.le_refl _, Blk.new w #[u] e, Nat.le_refl 1, by unfold maxLen; omega, rfl, rfl⟩⟩
theorem made_replicate (z : Value) (hz : z.cells = #[z]) (n : Nat) : (madeCells z.cells (n * 1)).toList = List.replicate n z := by
  rw [hz, Nat.mul_one]
  apply List.ext_getElem?; intro i
  by_cases h : i < n
  · simp [madeCells, h, Nat.mod_one]
  · simp [madeCells, h]
section
variable {P : Program} {ops : Array Oper} {Q : Exit → Act → World → Prop} {a : Act} {w : World} {rest : List Oper} {o : Oper}
theorem wpl_make (hgd : o.guard = none) (l c : Operand) (t : TypeId) (ho : o.op = .makeSlice t l c) (e : TypeId) (z : Value) (bytes : Nat) (ht : P.underlying t = some (.slice e)) (hinfo : (P.info? e).map (fun i => (i.zero, i.size, i.bytes)) = some (some z, 1, bytes)) (hz : z.cells = #[z])
    (L : Int) (n : Nat) (hl : a.eval l = .int .i64 L) (hc : a.eval c = .int .i64 L) (hL : L = (n : Int)) (hn : n < 100000) (hby : bytes ≤ 8)
    (h : ∀ w', Row w' w.heap.size e (.slice (some ⟨w.heap.size, 0, none⟩) n n) (List.replicate n z) → w.grownBy w' none → wpList P ops Q rest (a.put o.dst (.slice (some ⟨w.heap.size, 0, none⟩) n n)) w') : wpList P ops Q (o :: rest) a w := by
  obtain ⟨i, hi, hp⟩ := Option.map_eq_some_iff.1 hinfo
  simp only [Prod.mk.injEq] at hp
  obtain ⟨p1, p2, p3⟩ := hp
  refine wpList_make_full w hgd l c t ho w.heap.size e i z 1 ht hi p1 p2 .i64 .i64 L L n hl hc hL hL (by rw [p3]; have := Nat.mul_le_mul hby (Nat.le_of_lt hn); omega) (by unfold maxLen; omega) (Nat.le_refl _) ?_
  intro w' h1 h2
  refine h w' ?_ h2
  rw [made_replicate z hz] at h1
  unfold Row; rw [List.length_replicate]; exact h1
end
/-- How long a slice is. -/
def lenOf : Value → Nat
  | .slice _ n _ => n
  | _ => 0
theorem below_grown0 {B : Nat} {a w w' : World} (h : Below B a w) (hg : w.grownBy w' none) (hB : B ≤ w.heap.size) : Below B a w' := h.grown hg hB fun k hk => by cases hk
set_option maxRecDepth 100000 in
set_option maxHeartbeats 1000000 in
theorem above2 (x p : Nat) (w : World) (hx : x < 4398046511104) (hp : p < 65536) :
    Calls Tryd.prog 122 #[.int .u64 (x : Int), .int .i64 2, .int .u64 (p : Int)] w fun e w' => e = .returned (.bool (decide (p * 2 ^ 64 < x ^ 2))) ∧ Below w.heap.size w w' := by
  go_enter Tryd.func122, Tryd.ntmps122
  go_wp2_with fail
  go_loopw [7, 12] (fun v i wr => ∃ (j g cap : Nat) (ds : List Nat), j ≤ 2 ∧ i = .int .i64 j ∧ v = .slice (some ⟨g, 0, none⟩) ds.length cap ∧ Row wr w.heap.size 108 v (us ds) ∧ g < wr.heap.size ∧ Hid (val ds = x ^ j) ∧ Hid (∀ d ∈ ds, d < 65536) ∧ 1 ≤ ds.length ∧ ds.length ≤ 1 + 3 * j ∧ Below w.heap.size w wr) (fun _ i _ => 2 - (intOf i).toNat)
  case atStart => exact ⟨0, w.heap.size, 1, [1], by omega, rfl, rfl, Row.single w _ 108, by simp, by simp [Hid, val], by simp [Hid], by simp, by simp, (Below.refl _ _).alloc (Nat.le_refl _) _⟩
  case round =>
    obtain ⟨j, g, cap, ds, hj, rfl, rfl, hrow, hg, hval, hdig, hl1, hl2, hbel⟩ := hrel
    by_cases hlt : j < 2
    · go_wp2_with fail
      refine (times_any ds x g cap _ hx (by omega) hdig.out hg (fun j' d hd => hrow.cell j' _ (us_get ds j' d hd))).mono ?_
      rintro e w1 ⟨v, outs, rfl, hrow1, hval1, hdig1, ho1, ho2, hb1⟩
      obtain ⟨g1, cap1, rfl, hg1, hg1'⟩ : ∃ g cap, v = .slice (some ⟨g, 0, none⟩) outs.length cap ∧ wr.heap.size ≤ g ∧ g < w1.heap.size := by
        rcases hrow1.form with ⟨_, e1⟩ | ⟨g, cap, e1, e2, e3⟩
        · exfalso
          have : outs.length = 0 := by rw [← us_length, e1]; rfl
          omega
        · rw [us_length] at e1; exact ⟨g, cap, e1, e2, e3⟩
      have HV : Hid (val outs = x ^ (j + 1)) := by rw [Hid, hval1, hval.out, Nat.pow_succ]
      have HD : Hid (∀ d ∈ outs, d < 65536) := hdig1
      clear hval1 hdig1
      go_wp2
      exact ⟨⟨j + 1, g1, cap1, outs, by omega, by go_num, rfl, hrow1.weaken hbel.size, hg1', HV, HD, by omega, by omega, hbel.trans (hb1.mono hbel.size)⟩, by simp [intOf]; omega⟩
    · have hj2 : j = 2 := by omega
      subst hj2
      go_wp2_with (first
        | (refine wpl_make rfl _ _ 200 rfl 108 (.int .u64 0) 8 Tryd.underlying200 info38 rfl _ 4 rfl rfl rfl (by decide) (by decide) ?_; intro w1 hz1 hg1)
        | (at_builtin; refine wpl_push rfl _ _ 200 rfl wr.heap.size 108 (.int .u64 0) 8 Tryd.underlying200 info38 rfl _ _ rfl (hz1.below ((Below.refl w1.heap.size w1).alloc (Nat.le_refl _) _)) _ _ _ rfl (new_cell _ _ _) rfl (by decide) (by decide) (by have := hg1.size; simp; omega) ?_; intro gw capw w2 hroww hgroww hatw hltw))
      have hgr := hgroww.size
      have hg1s := hg1.size
      have a1 : (w1.alloc (Obj.cells #[Value.int .u64 (p : Int)] 108)).heap.size = w1.heap.size + 1 := by simp
      have hrv : Row w2 w.heap.size 108 (.slice (some ⟨g, 0, none⟩) ds.length cap) (us ds) :=
        ((hrow.grown hg1 (by simp)).below ((Below.refl w1.heap.size w1).alloc (Nat.le_refl _) _)).grown hgroww (by simp [Act.eval, Value.ownBlock]; omega)
      have hb2 := below_grown (e := 108) (v := .slice (some ⟨wr.heap.size, 0, none⟩) 4 4) (xs := List.replicate 4 (.int .u64 0)) ((below_grown0 hbel hg1 hbel.size).alloc (by have := hbel.size; omega) _) (((hz1.weaken hbel.size)).below ((Below.refl w1.heap.size w1).alloc (Nat.le_refl _) _)) hgroww (by have := hbel.size; omega)
      have hglt : g < w2.heap.size := by omega
      have hne : g ≠ gw := by
        rcases hatw with h' | h'
        · simp [Act.eval, Value.ownBlock] at h'; omega
        · omega
      obtain ⟨es, hes⟩ : ∃ es, Hid (es = (List.replicate 4 0 ++ [p] : List Nat)) := ⟨List.replicate 4 0 ++ [p], rfl⟩
      have hel : Hid (es.length = 5) := by rw [Hid, hes.out]; simp
      have hrw : Row w2 w.heap.size 108 (.slice (some ⟨gw, 0, none⟩) 5 capw) (us es) := by
        have := hroww.weaken hbel.size
        rw [hes.out]; simpa [us] using this
      have hev : Hid (val es = p * 2 ^ 64) := by rw [Hid, hes.out, val_append]; simp [val]; omega
      have hed : Hid (∀ d ∈ es, d < 65536) := by
        intro d hd; rw [hes.out] at hd; simp at hd; omega
      clear hroww hgroww hatw hz1 hg1 hrow hgr hg1s a1 hes hbel hg
      go_loopw [7] (fun v wr2 => ∃ (g cap : Nat) (ds : List Nat), v = .slice (some ⟨g, 0, none⟩) ds.length cap ∧ Row wr2 w.heap.size 108 v (us ds) ∧ Row wr2 w.heap.size 108 (.slice (some ⟨gw, 0, none⟩) 5 capw) (us es) ∧ g ≠ gw ∧ gw < wr2.heap.size ∧ g < wr2.heap.size ∧
        Hid (val ds = x ^ 2) ∧ Hid (∀ d ∈ ds, d < 65536) ∧ ds.length ≤ 20 ∧ Below w.heap.size w wr2) (fun v _ => 5 - lenOf v)
      case atStart => exact ⟨g, cap, ds, rfl, hrv, hrw, hne, hltw, hglt, hval, hdig, by omega, hb2⟩
      case round =>
        clear hrv hrw hne hltw hglt hval hdig hl1 hl2 hb2
        obtain ⟨g, cap, ds, rfl, hrv, hrw, hne, hgwl, hgl, hval, hdig, hl2, hb2⟩ := hrel
        by_cases hlt2 : ds.length < 5
        · have hra := fun o => hrv.below ((Below.refl wr.heap.size wr).alloc (Nat.le_refl _) o)
          have hrb := fun o => hrw.below ((Below.refl wr.heap.size wr).alloc (Nat.le_refl _) o)
          have hul := us_length ds
          go_wp2_with (at_builtin; refine wpl_push rfl _ _ 200 rfl w.heap.size 108 (.int .u64 0) 8 Tryd.underlying200 info38 rfl _ _ rfl (hra _) _ _ _ rfl (new_cell _ _ _) rfl (by omega) (by decide) (by have := hb2.size; simp; omega) ?_; intro g3 cap3 w3 hrow3 hgrow3 hat3 hlt3)
          have h3s := hgrow3.size
          have a1 : (wr.alloc (Obj.cells #[Value.int .u64 0] 108)).heap.size = wr.heap.size + 1 := by simp
          rw [a1] at h3s
          go_roundw
          case rel =>
            refine ⟨g3, cap3, ds ++ [0], by simp, by simpa [us_snoc, us_length] using hrow3, (hrb _).grown hgrow3 (by simp [Act.eval, Value.ownBlock]; omega), ?_, by omega, hlt3, ?_, ?_, by simp; omega, below_grown (hb2.alloc hb2.size _) (hra _) hgrow3 (by have := hb2.size; omega)⟩
            · rcases hat3 with h' | h'
              · simp [Act.eval, Value.ownBlock] at h'; omega
              · omega
            · rw [Hid, val_append, hval.out]; simp [val]
            · intro d hd
              rcases List.mem_append.1 hd with h1 | h1
              · exact hdig.out d h1
              · simp at h1; omega
          case measure => simp [lenOf]; omega
        · go_wp2_with fail
          go_loopw [8] (fun v wr3 => ∃ (gw capw : Nat) (es : List Nat), v = .slice (some ⟨gw, 0, none⟩) es.length capw ∧ Row wr3 w.heap.size 108 v (us es) ∧ Row wr3 w.heap.size 108 (.slice (some ⟨g, 0, none⟩) ds.length cap) (us ds) ∧ g ≠ gw ∧ gw < wr3.heap.size ∧ g < wr3.heap.size ∧
            Hid (val es = p * 2 ^ 64) ∧ Hid (∀ d ∈ es, d < 65536) ∧ es.length ≤ ds.length ∧ Below w.heap.size w wr3) (fun v _ => 20 - lenOf v)
          case atStart => exact ⟨gw, capw, es, by rw [hel.out], hrw, hrv, hne, hgwl, hgl, hev, hed, by rw [hel.out]; omega, hb2⟩
          case round =>
            clear hrv hrw hgwl hgl hev hed hb2 hel hne
            obtain ⟨gw, capw, es, rfl, hrw, hrv, hne, hgwl, hgl, hev, hed, hle, hb2⟩ := hrel
            by_cases hlt3 : es.length < ds.length
            · have hra := fun o => hrw.below ((Below.refl wr.heap.size wr).alloc (Nat.le_refl _) o)
              have hrb := fun o => hrv.below ((Below.refl wr.heap.size wr).alloc (Nat.le_refl _) o)
              have hul := us_length es
              go_wp2_with (at_builtin; refine wpl_push rfl _ _ 200 rfl w.heap.size 108 (.int .u64 0) 8 Tryd.underlying200 info38 rfl _ _ rfl (hra _) _ _ _ rfl (new_cell _ _ _) rfl (by omega) (by decide) (by have := hb2.size; simp; omega) ?_; intro g3 cap3 w3 hrow3 hgrow3 hat3 hlt3)
              have h3s := hgrow3.size
              have a1 : (wr.alloc (Obj.cells #[Value.int .u64 0] 108)).heap.size = wr.heap.size + 1 := by simp
              rw [a1] at h3s
              go_roundw
              case rel =>
                refine ⟨g3, cap3, es ++ [0], by simp, by simpa [us_snoc, us_length] using hrow3, (hrb _).grown hgrow3 (by simp [Act.eval, Value.ownBlock]; omega), ?_, hlt3, by omega, ?_, ?_, by simp; omega, below_grown (hb2.alloc hb2.size _) (hra _) hgrow3 (by have := hb2.size; omega)⟩
                · rcases hat3 with h' | h'
                  · simp [Act.eval, Value.ownBlock] at h'; omega
                  · omega
                · rw [Hid, val_append, hev.out]; simp [val]
                · intro d hd
                  rcases List.mem_append.1 hd with h1 | h1
                  · exact hed.out d h1
                  · simp at h1; omega
              case measure => simp [lenOf]; omega
            · have hll : Hid (es.length = ds.length) := by rw [Hid]; omega
              go_wp2_with fail
              have HC : Hid (p * 2 ^ 64 < x ^ 2 ↔ val es < val ds) := by rw [Hid, hev.out, hval.out]
              have cv := fun j d (hd : ds[j]? = some d) => hrv.cell j _ (us_get ds j d hd)
              have cw := fun j d (hd : es[j]? = some d) => hrw.cell j _ (us_get es j d hd)
              have CV : Hid (∀ (j d : Nat), ds[j]? = some d → wr.cell? ⟨g, j, none⟩ = some (.int .u64 (d : Int))) := cv
              have CW : Hid (∀ (j d : Nat), es[j]? = some d → wr.cell? ⟨gw, j, none⟩ = some (.int .u64 (d : Int))) := cw
              clear cv cw hrv hrw
              obtain ⟨W, hW⟩ : ∃ W, Hid (W = wr) := ⟨_, rfl⟩
              go_loopw [9] (fun i wq => ∃ m n : Nat, m ≤ ds.length ∧ i = .int .i64 ((m : Int) - 1) ∧ Hid (wq = W.drewN n) ∧ Hid (ds.drop m = es.drop m)) (fun i _ => (intOf i + 1).toNat)
              case atStart => exact ⟨ds.length, 0, Nat.le_refl _, rfl, hW.out.symm, by rw [Hid, List.drop_length, ← hll.out, List.drop_length]⟩
              case round =>
                obtain ⟨m, n, hm, rfl, hwq, hdr⟩ := hrel
                rw [hW.out] at hwq
                subst hwq
                match m, hm, hdr with
                | 0, _, hdr =>
                  go_wp2
                  go_ret
                  refine ⟨?_, below_drewN hb2 n⟩
                  have e : ds = es := by simpa using hdr.out
                  have : ¬ (p * 2 ^ 64 < x ^ 2) := by rw [HC.out, e]; omega
                  simp [this]
                | t + 1, hm, hdr =>
                  obtain ⟨a, ha⟩ : ∃ a, ds[t]? = some a := ⟨ds[t]'(by omega), List.getElem?_eq_getElem _⟩
                  obtain ⟨b, hb⟩ : ∃ b, es[t]? = some b := ⟨es[t]'(by rw [hll.out]; omega), List.getElem?_eq_getElem _⟩
                  have ca := CV.out t a ha
                  have cb := CW.out t b hb
                  have Ha : Hid (ds[t]? = some a) := ha
                  have Hb : Hid (es[t]? = some b) := hb
                  have htl : (t : Int) < (es.length : Int) := by have := hll.out; omega
                  have htd : (t : Int) < (ds.length : Int) := by omega
                  clear ha hb
                  by_cases hab : a = b
                  · subst hab
                    go_wp2_with fail
                    go_quiet (fail)
                    go_wp2
                    refine ⟨⟨t, n + nq, by omega, rfl, by rw [Hid, hW.out], ?_⟩, by simp [intOf]⟩
                    rw [Hid, drop_some ds t a Ha.out, drop_some es t a Hb.out, hdr.out]
                  · have hab' : ((a : Int) != (b : Int)) = true := by simp; omega
                    go_wp2_with fail
                    go_quiet (fail)
                    go_wp2
                    go_quiet (fail)
                    go_wp2
                    go_ret
                    refine ⟨?_, by simpa using below_drewN hb2 _⟩
                    have e := val_cmp ds es t a b Ha.out Hb.out hdig.out hed.out hdr.out hab
                    have e2 : decide (p * 2 ^ 64 < x ^ 2) = decide (b < a) := by
                      apply decide_eq_decide.2; rw [HC.out, ← e]
                    rw [e2]
                    rfl
end Go.Proofs.YtfkgfakjhjbidaaDoor.Sm
