/-
  Part of the proof: the blocks of pages that are told are walked.
-/
import Derived.Test.YtkapkphhceknfaaGreatDoorB30
namespace Go.Proofs.YtkapkphhceknfaaGreatDoor.Vt
open Go.RowKit
/-- The blocks of pages that are told, by number. -/
def slT (key : ByteArray) (f : Nat → Bool) (t : Int → Option (Int × ByteArray)) (k : Nat) : List (Nat × ByteArray) := match t (k : Int) with
  | some x => [(plc f k, Pg.sealT key (k : Int) x.1 x.2)]
  | none => []
def sl (key : ByteArray) (f : Nat → Bool) (t : Int → Option (Int × ByteArray)) : Nat → List (Nat × ByteArray)
  | 0 => []
  | k + 1 => sl key f t k ++ slT key f t k
def slC (l : List (Nat × ByteArray)) : List Value := l.flatMap fun x => [.int .i64 (x.1 : Int), .string x.2]
theorem slC_len (l : List (Nat × ByteArray)) : (slC l).length = l.length * 2 := by
  induction l with
  | nil => rfl
  | cons x l ih => simp only [slC, List.flatMap_cons, List.length_append, List.length_cons, List.length_nil] at *; omega
theorem slC_snoc (l : List (Nat × ByteArray)) (x : Nat × ByteArray) : slC l ++ [.int .i64 (x.1 : Int), .string x.2] = slC (l ++ [x]) := by simp [slC]
theorem slC_at (l : List (Nat × ByteArray)) : ∀ (i : Nat) (x : Nat × ByteArray), l[i]? = some x → (slC l)[i * 2]? = some (.int .i64 (x.1 : Int)) ∧ (slC l)[i * 2 + 1]? = some (.string x.2) := by
  induction l with
  | nil => intro i x h; simp at h
  | cons y l ih =>
    intro i x h
    cases i with
    | zero => simp at h; subst h; exact ⟨rfl, rfl⟩
    | succ i =>
      simp at h
      obtain ⟨h1, h2⟩ := ih i x h
      have e : slC (y :: l) = .int .i64 (y.1 : Int) :: .string y.2 :: slC l := rfl
      rw [e, show (i + 1) * 2 = i * 2 + 1 + 1 from by omega]
      exact ⟨by simpa using h1, by simpa using h2⟩
theorem slT_some {key : ByteArray} {f : Nat → Bool} {t : Int → Option (Int × ByteArray)} {k : Nat} {x : Int × ByteArray} (h : t (k : Int) = some x) : slT key f t k = [(plc f k, Pg.sealT key (k : Int) x.1 x.2)] := by unfold slT; rw [h]
theorem slT_none {key : ByteArray} {f : Nat → Bool} {t : Int → Option (Int × ByteArray)} {k : Nat} (h : t (k : Int) = none) : slT key f t k = [] := by unfold slT; rw [h]
theorem sl_some {key : ByteArray} {f : Nat → Bool} {t : Int → Option (Int × ByteArray)} {k : Nat} {x : Int × ByteArray} (h : t (k : Int) = some x) : sl key f t (k + 1) = sl key f t k ++ [(plc f k, Pg.sealT key (k : Int) x.1 x.2)] := by rw [← slT_some h]; rfl
theorem sl_none {key : ByteArray} {f : Nat → Bool} {t : Int → Option (Int × ByteArray)} {k : Nat} (h : t (k : Int) = none) : sl key f t (k + 1) = sl key f t k := by
  show sl key f t k ++ slT key f t k = _; rw [slT_none h, List.append_nil]
theorem sl_len (key : ByteArray) (f : Nat → Bool) (t : Int → Option (Int × ByteArray)) (k : Nat) : (sl key f t k).length ≤ k := by
  induction k with
  | zero => exact Nat.le_refl _
  | succ k ih =>
    cases h : t (k : Int) with
    | none => rw [sl_none h]; omega
    | some x => rw [sl_some h, List.length_append]; simp; omega
theorem sl_ok (key : ByteArray) (f : Nat → Bool) (t : Int → Option (Int × ByteArray)) (k : Nat) (hk : k ≤ 32) : ∀ x ∈ sl key f t k, x.1 < 66 ∧ x.2.size = 237 := by
  induction k with
  | zero => intro x hx; cases hx
  | succ k ih =>
    intro x hx
    cases h : t (k : Int) with
    | none => rw [sl_none h] at hx; exact ih (by omega) x hx
    | some y =>
      rw [sl_some h] at hx
      rcases List.mem_append.1 hx with hx | hx
      · exact ih (by omega) x hx
      · simp at hx; subst hx; exact ⟨plc_lt f k (by omega), Pg.sealT_size _ _ _ _⟩
theorem infoB : (Tryz.prog.info? 97).map (fun i => (i.zero, i.size, i.bytes)) = some (some (.agg #[.int .i64 0, .string ByteArray.empty]), 2, 24) := by kernel_rfl
theorem mkBl (c : Nat) (hc : c ≤ 100000) (w : World) (B : Nat) (hB : B ≤ w.heap.size) : ∃ w', (Instr.makeSlice 89 (.int .i64 0) (.int .i64 (c : Int))).run Tryz.prog w = .ok (.slice (some ⟨w.heap.size, 0, none⟩) 0 c) w' ∧
    w'.ownsRow B 97 2 (.slice (some ⟨w.heap.size, 0, none⟩) 0 c) 0 [] ∧ Below w.heap.size w w' := by
  obtain ⟨i0, hi0, hz0, hz1, hz2⟩ := info_parts infoB
  obtain ⟨w', h1, h2, h3⟩ := run_make_own w B 89 97 i0 _ 2 Tryz.underlying89 hi0 hz0 hz1 .i64 .i64 c (by rw [hz2]; omega) (by unfold maxLen; omega) hB
  exact ⟨w', h1, h2, below_of_grown h3⟩
theorem wpl_makeB {P : Program} {ops : Array Oper} {Q : Exit → Act → World → Prop} {a : Act} {w : World} {rest : List Oper} {o : Oper} (hgd : o.guard = none) (t : TypeId) (x y : Operand) (ho : o.op = .makeSlice t x y) (v1 v2 v : Value) (hx : a.eval x = v1) (hy : a.eval y = v2) (w' : World) (hrun : (Instr.makeSlice t v1 v2).run P w = .ok v w')
    (h : wpList P ops Q rest (a.put o.dst v) w') : wpList P ops Q (o :: rest) a w := by
  refine wpList_plain hgd fun K hK => ?_
  unfold Oper.wp
  simp [execOp, ho, hx, hy, hrun, Result.andThen]
  exact hK _ _ h
theorem row_below {w w' : World} {B : Nat} {e : TypeId} {z : Nat} {v : Value} {n : Nat} {xs : List Value} (h : w.ownsRow B e z v n xs) (hb : Below w.heap.size w w') : w'.ownsRow B e z v n xs := Dv.ownsRow_same h fun g hg => hb.block g (Dv.ownsRow_lt h g hg).2
theorem row_base {w : World} {B C : Nat} {e : TypeId} {z : Nat} {v : Value} {n : Nat} {xs : List Value} (h : w.ownsRow B e z v n xs) (hC : C ≤ B) : w.ownsRow C e z v n xs := by
  obtain ⟨h1, h2 | ⟨g, cap, cur, h3, h4, h5⟩⟩ := h
  · exact ⟨h1, Or.inl h2⟩
  · exact ⟨h1, Or.inr ⟨g, cap, cur, h3, Nat.le_trans hC h4, h5⟩⟩
set_option maxRecDepth 100000 in
set_option maxHeartbeats 1000000 in
theorem sealed_any (cn en : Int) (f : Nat → Bool) (r : ByteArray) (m : Value) (sec : ByteArray) (tm nt : Nat) (t : Int → Option (Int × ByteArray)) (w : World) (hT : MapF Tryz.prog w tm nt (pv t)) (hn : nt ≤ 100000)
    (ht : ∀ k : Nat, k < 32 → ∀ x, t (k : Int) = some x → 1 ≤ x.1 ∧ x.1 ≤ 1099511627776 ∧ x.2.size ≤ 200) (hsec : sec.size ≤ 300) (hK : Sm.KB w) :
    Calls Tryz.prog 37 #[.agg (stA cn en f r m), .string sec, .map (some tm)] w fun e w' =>
      (∃ v, e = .returned (.tuple #[v, .nilIface]) ∧ w'.ownsRow w.heap.size 97 2 v (sl (epoK sec en) f t 32).length (slC (sl (epoK sec en) f t 32))) ∧ Below w.heap.size w w' := by
  have HT : Hid (∀ k : Nat, k < 32 → ∀ x, t (k : Int) = some x → 1 ≤ x.1 ∧ x.1 ≤ 1099511627776 ∧ x.2.size ≤ 200) := ht
  clear ht
  have hV36 : Hid _ := stA_size cn en f r m
  have c1 := stA_1 cn en f r m
  obtain ⟨V, hV⟩ : ∃ V, Hid (stA cn en f r m = V) := ⟨_, rfl⟩
  rw [hV.out] at hV36 c1
  rw [hV.out]
  have zk := epoK_size sec en
  have HP : Hid (∀ (k : Nat) (w : World), k < 32 → Calls Tryz.prog 52 #[.agg V, .int .i64 (k : Int)] w fun e' w' => e' = .returned (.int .i64 (plc f k : Int)) ∧ Below w.heap.size w w') := fun k w h => by rw [← hV.out]; exact place_any cn en f r m k w h
  clear hV
  generalize hkey : epoK sec en = key at *
  go_enter Tryz.func37, Tryz.ntmps37
  have j0 := Blk.new w V 74
  have c10 := j0.cell 1
  rw [c1] at c10
  have g0 := Pg.below_alloc w (.cells V 74)
  have z0 : (w.alloc (.cells V 74)).heap.size = w.heap.size + 1 := by simp
  repeat (first | go_values | go_skip | go_guarded | go_step | go_upon | go_back)
  refine (epochKey_any sec en _ hsec (hK.below g0)).mono ?_
  rintro e w1 ⟨rfl, g1⟩
  rw [hkey]
  have b1 := g0.trans (g1.mono g0.size)
  have j1 := j0.below g1 j0.lt
  have t1 := hT.below b1 hT.lt
  have hB1 : w.heap.size + 1 ≤ w1.heap.size := by rw [← z0]; exact g1.size
  obtain ⟨B, hB⟩ : ∃ B, Hid (B = w.heap.size) := ⟨_, rfl⟩
  have hBt : Hid (tm < B) := by unfold Hid; rw [hB.out]; exact hT.lt
  have hBw : Hid (w.heap.size ≤ B) := Nat.le_of_eq hB.out.symm
  rw [← hB.out] at j1 hB1
  rw [← hB.out]
  clear g1 j0 c10 g0 z0 hT c1
  go_wp2_with (first
    | (refine wpl_lenV rfl _ 67 rfl 69 undE (.map (some tm)) nt (pv t) rfl (Or.inr ⟨tm, rfl, t1⟩) ?_; intro c hc; obtain ⟨w2, hmk, ow2, b2⟩ := mkBl c (by omega) w1 (B + 1) hB1)
    | fail)
  have j2 := j1.below b2 j1.lt
  have t2 := t1.below b2 t1.lt
  have b3 := b1.trans (b2.mono b1.size)
  obtain ⟨i0, hi0, hz0, hz1, hz2⟩ := info_parts infoB
  have HI : Hid (Tryz.prog.info? 97 = some i0 ∧ i0.zero = some (.agg #[.int .i64 0, .string ByteArray.empty]) ∧ i0.size = 2 ∧ i0.bytes = 24) := ⟨hi0, hz0, hz1, hz2⟩
  clear hmk b2 j1 t1 b1 hB1 hi0 hz0 hz1 hz2
  go_loopw [9, 23] (fun v i wr => ∃ k : Nat, k ≤ 32 ∧ i = .int .i64 k ∧ wr.ownsRow (B + 1) 97 2 v (sl key f t k).length (slC (sl key f t k)) ∧ MapF Tryz.prog wr tm nt (pv t) ∧ Blk wr B V 74 ∧ Below w.heap.size w wr) (fun _ i _ => 32 - (intOf i).toNat)
  case atStart => exact ⟨0, by omega, rfl, ow2, t2, j2, b3⟩
  case round =>
    clear ow2 t2 j2 b3
    obtain ⟨k, hk, rfl, ow, tr, jr, br⟩ := hrel
    by_cases hlt : k < 32
    · have hlt' : (k : Int) < 32 := by omega
      have hl := run_lookVok (t := 67) und3 undE _ zeroE (Or.inr ⟨tm, rfl, tr⟩ : MapV Tryz.prog wr (.map (some tm)) nt (pv t)) (kOk_small (i := (k : Int)) (by omega) hlt')
      cases hx : t (k : Int) with
      | none =>
        have hp : pv t (k : Int) = none := by unfold pv; rw [hx]; rfl
        rw [hp] at hl
        simp only [Option.getD_none, Option.isSome_none, ent, ent0] at hl
        have e1 := entC_one ent0
        simp only [ent0] at e1
        have hX : Hid (t (k : Int) = none) := hx
        clear hx hp
        go_wp2_with (first
          | (refine Su.wpl_storeV rfl rfl 69 _ _ rfl 2 szE wr.heap.size _ 69 #[.int .i64 0, .string ⟨#[]⟩] e1 rfl rfl (Blk.new wr _ _) rfl rfl ?_; intro w3 hu3 j3)
          | fail)
        have s3 : Below wr.heap.size wr w3 := below_upd (Pg.below_alloc wr _) hu3 (Nat.le_refl _)
        refine ⟨⟨k + 1, by omega, by go_num, by rw [sl_none hX.out]; exact row_below ow s3, tr.below s3 tr.lt, jr.below s3 jr.lt, br.trans (s3.mono br.size)⟩, by simp [intOf]; omega⟩
      | some x =>
        have hp : pv t (k : Int) = some (ent x) := by unfold pv; rw [hx]; rfl
        rw [hp] at hl
        simp only [Option.getD_some, Option.isSome_some, ent] at hl
        have e1 := entC_one x
        have hX : Hid (t (k : Int) = some x) := hx
        obtain ⟨q1, q2, q3⟩ := HT.out k hlt x hx
        have Q3 : Hid (1 ≤ x.1 ∧ x.1 ≤ 1099511627776 ∧ x.2.size ≤ 200) := ⟨q1, q2, q3⟩
        clear hx hp q1 q2 q3
        go_wp2_with (first
          | (refine Su.wpl_storeV rfl rfl 69 _ _ rfl 2 szE wr.heap.size _ 69 #[.int .i64 x.1, .string x.2] e1 rfl rfl (Blk.new wr _ _) rfl rfl ?_; intro w3 hu3 j3; have d0 := j3.cell 0; have d1 := j3.cell 1)
          | fail)
        have s3 : Below wr.heap.size wr w3 := below_upd (Pg.below_alloc wr _) hu3 (Nat.le_refl _)
        have b3 := br.trans (s3.mono br.size)
        refine (Pg.seal_ok key (k : Int) x.1 x.2 w3 zk (by omega) (by omega) Q3.out.1 Q3.out.2.1 Q3.out.2.2 (hK.below b3)).mono ?_
        rintro e w4 ⟨rfl, g4⟩
        have s4 := s3.trans (g4.mono s3.size)
        have ow4 := row_below ow s4
        have tr4 := tr.below s4 tr.lt
        have jr4 := jr.below s4 jr.lt
        have b4 := br.trans (s4.mono br.size)
        clear s3 b3 g4 s4 ow tr jr br d0 d1 j3 hu3 hl
        generalize hS : Pg.sealT key (k : Int) x.1 x.2 = S at *
        have hS' : Hid (Pg.sealT key (k : Int) x.1 x.2 = S) := hS
        clear hS
        have v36 := hV36.out
        go_wp2_with (first
          | (refine Su.wpl_loadV rfl 74 _ rfl Tryz.isAgg74 36 szSt B 0 V 74 rfl jr4 (by omega) ?_; rw [Su.ext_all v36])
          | fail)
        refine (HP.out k _ hlt).mono ?_
        rintro e w5 ⟨rfl, g5⟩
        have ow5 := row_below ow4 g5
        have tr5 := tr4.below g5 tr4.lt
        have jr5 := jr4.below g5 jr4.lt
        have b5 := b4.trans (g5.mono b4.size)
        clear ow4 tr4 jr4 b4 g5
        have s6 := Pg.below_alloc w5 (.cells #[.int .i64 (plc f k : Int), .string S] 97)
        have ow6 := row_below ow5 s6
        have tr6 := tr5.below s6 tr5.lt
        have jr6 := jr5.below s6 jr5.lt
        have b6 := b5.trans (s6.mono b5.size)
        have hsl := sl_len key f t k
        have hBl := jr5.lt
        have hone : ∀ u ∈ [Value.int .i64 (plc f k : Int), .string S], u.oneCell' = true := by intro u hu; simp at hu; rcases hu with rfl | rfl <;> rfl
        clear ow5 tr5 jr5 b5 s6
        go_wp2_with (first
          | (refine wpList_append_lies _ rfl _ _ _ rfl (B + 1) 97 i0 _ 2 24 Tryz.underlying89 HI.out.1 HI.out.2.1 HI.out.2.2.1 HI.out.2.2.2 rfl (by omega) u9 (sl key f t k).length (slC (sl key f t k)) rfl ow6 ⟨w5.heap.size, 0, none⟩ 1 1 [.int .i64 (plc f k : Int), .string S] rfl rfl (World.news_of_block (cs := #[.int .i64 (plc f k : Int), .string S]) (t := 97) (fr := (0, 0)) (heap_alloc_new w5 _)) hone (by omega) (by unfold maxLen; omega) (by omega) (by simp; omega) (w5.heap.size + 1) (by simp) ?_; intro g7 cap w7 ow7 gr7 hat7 hlt7)
          | fail)
        refine ⟨⟨k + 1, by omega, by go_num, ?_, tr6.kept gr7 (fun e => ?_), jr6.grown gr7 (fun e => ?_), b6.grown gr7 b6.size (fun j e => ?_)⟩, by simp [intOf]; omega⟩
        · rw [sl_some hX.out, hS'.out, ← slC_snoc, List.length_append]; exact ow7
        · have := (Dv.ownsRow_lt ow6 tm e.symm).1; have := hBt.out; omega
        · have := (Dv.ownsRow_lt ow6 B e.symm).1; omega
        · have := (Dv.ownsRow_lt ow6 j e).1; have := hBw.out; omega
    · have hk' : k = 32 := by omega
      subst hk'
      go_wp2_with fail
      go_ret2
      exact ⟨⟨_, rfl, row_base ow (by have := hBw.out; omega)⟩, br⟩
end Go.Proofs.YtkapkphhceknfaaGreatDoor.Vt
