/-
  Part of the proof: VaultRefuses is walked.
-/
import Derived.Test.YtibkbhhenlgkeaaGreatDoorB42
import Derived.Test.YtibkbhhenlgkeaaGreatDoorB30
namespace Go.Proofs.YtibkbhhenlgkeaaGreatDoor.Vt
open Go.RowKit
theorem MapF.exact {P : Program} {w : World} {b n : Nat} {f : Int → Option Value} (h : MapF P w b n f) {t e : TypeId} (ht : P.underlying t = some (.map 3 e)) : ∃ k : Nat, MapF P w b k f ∧ ∀ ty, (Builtin.len_ #[t] ty #[.map (some b)]).run P w = .ok (.int .i64 (k : Int)) w := by
  obtain ⟨D, ⟨es, clock, hb, F, hs, hD⟩, hT⟩ := h
  refine ⟨Maps.size D, ⟨D, ?_, hT⟩, fun ty => World.ownsMap.len (n := n) ⟨es, clock, hb, F, hs, hD⟩ ht ty⟩
  refine ⟨es, clock, hb, F, ?_, hD⟩
  subst hD
  have e1 : es.size = ((es.toList.map (Go.WideElems.rg P 3 rV)).foldr DataW.insert []).length := by rw [DataW.length_sorted]; simp
  exact Nat.le_of_eq e1
theorem MapV.exact {P : Program} {w : World} {v : Value} {n : Nat} {f : Int → Option Value} (h : MapV P w v n f) {t e : TypeId} (ht : P.underlying t = some (.map 3 e)) : ∃ k : Nat, MapV P w v k f ∧ ∀ ty, (Builtin.len_ #[t] ty #[v]).run P w = .ok (.int .i64 (k : Int)) w := by
  rcases h with ⟨rfl, h⟩ | ⟨b, rfl, h⟩
  · exact ⟨0, Or.inl ⟨rfl, h⟩, fun ty => Maps.len_nil ht ty⟩
  · obtain ⟨k, h1, h2⟩ := MapF.exact h ht
    exact ⟨k, Or.inr ⟨b, rfl, h1⟩, h2⟩
theorem wpl_lenX {P : Program} {ops : Array Oper} {Q : Exit → Act → World → Prop} {a : Act} {w : World} {rest : List Oper} {o : Oper} (hgd : o.guard = none) (m : Operand) (t : TypeId) (ho : o.op = .call { callee := .builtin .len, args := #[m], argTypes := #[t] }) (v : Value) (k : Nat) (hm : a.eval m = v) (hrun : ∀ ty, (Builtin.len_ #[t] ty #[v]).run P w = .ok (.int .i64 (k : Int)) w)
    (h : wpList P ops Q rest (a.put o.dst (.int .i64 (k : Int))) w) : wpList P ops Q (o :: rest) a w := by
  refine wpList_plain hgd fun K hK => ?_
  unfold Oper.wp
  simp [execOp, ho, resolve, invoke, builtin, hm, hrun, Result.andThen]
  exact hK _ _ h
theorem told_eq (g : Int → Option ByteArray) (id : Int) : ((rd (nxP (fun _ => none) (tel g (fun _ => none) 1)) id).2.toList == ((g id).getD ⟨#[]⟩).toList) = true := by
  unfold rd nxP tel
  cases g id with
  | none => exact beq_self_eq_true (ByteArray.toList ⟨#[]⟩)
  | some s =>
    simp only [Option.bind_some, Option.getD_some]
    by_cases h : s.toList = (rd (fun _ => none) id).2.toList
    · rw [if_pos h, h]; exact beq_self_eq_true _
    · rw [if_neg h]; simp
/-- What is known of those that were looked at. -/
structure Fcts (g : Int → Option ByteArray) (left : Int → Bool) (fa wi : Bool) : Prop where
  f1 : fa = true → Far g
  f0 : fa = false → ∀ i, kOk i → (g i).isSome = true → left i = false → 0 ≤ i ∧ i < 32
  w1 : wi = true → Wide g
  w0 : wi = false → ∀ i s, kOk i → g i = some s → left i = false → s.size ≤ 200
  z : ∀ i s, kOk i → g i = some s → left i = false → s.size ≤ 300
theorem fcts_start (g : Int → Option ByteArray) : Fcts g (fun i => (sv g i).isSome) false false := by
  have no : ∀ i s, g i = some s → (sv g i).isSome = false → False := fun i s h1 h2 => by unfold sv at h2; rw [h1] at h2; cases h2
  refine ⟨fun h => (by cases h), fun _ i _ h1 h2 => ?_, fun h => (by cases h), fun _ i s _ h1 h2 => (no i s h1 h2).elim, fun i s _ h1 h2 => (no i s h1 h2).elim⟩
  obtain ⟨s, hs⟩ := Option.isSome_iff_exists.1 h1
  exact (no i s hs h2).elim
theorem Fcts.done {g : Int → Option ByteArray} {left : Int → Bool} {fa wi : Bool} (h : Fcts g left fa wi) (hd : ∀ i, kOk i → left i = false) (hko : ∀ i s, g i = some s → kOk i) :
    (fa = true → Far g) ∧ (fa = false → ¬ Far g) ∧ (wi = true → Wide g) ∧ (wi = false → ¬ Wide g) ∧ ∀ i s, g i = some s → s.size ≤ 300 :=
  ⟨h.f1, fun e ⟨i, h1, h2, h3⟩ => h3 (h.f0 e i h1 h2 (hd i h1)), h.w1, fun e ⟨i, s, h1, h2, h3⟩ => absurd (h.w0 e i s h1 h2 (hd i h1)) (by omega), fun i s hs => h.z i s (hko i s hs) hs (hd i (hko i s hs))⟩
theorem Fcts.step {g : Int → Option ByteArray} {left : Int → Bool} {fa wi : Bool} {i : Int} {s : ByteArray} (h : Fcts g left fa wi) (hi : kOk i) (hg : g i = some s) (h3 : s.size ≤ 300) : Fcts g (fun j => left j && !decide (j = i)) (fa || decide (i < 0) || decide (32 ≤ i)) (wi || decide (200 < s.size)) := by
  have sp : ∀ j, (left j && !decide (j = i)) = false → left j = false ∨ j = i := fun j hj => by
    by_cases e : j = i
    · exact Or.inr e
    · exact Or.inl (by simpa [e] using hj)
  refine ⟨fun e => ?_, fun e j h1 h2 hj => ?_, fun e => ?_, fun e j t h1 h2 hj => ?_, fun j t h1 h2 hj => ?_⟩
  · simp only [Bool.or_eq_true, decide_eq_true_eq] at e
    rcases e with (e | e) | e
    · exact h.f1 e
    · exact ⟨i, hi, by rw [hg]; rfl, by omega⟩
    · exact ⟨i, hi, by rw [hg]; rfl, by omega⟩
  · simp only [Bool.or_eq_false_iff, decide_eq_false_iff_not] at e
    rcases sp j hj with hj | rfl
    · exact h.f0 e.1.1 j h1 h2 hj
    · omega
  · simp only [Bool.or_eq_true, decide_eq_true_eq] at e
    rcases e with e | e
    · exact h.w1 e
    · exact ⟨i, s, hi, hg, e⟩
  · simp only [Bool.or_eq_false_iff, decide_eq_false_iff_not] at e
    rcases sp j hj with hj | rfl
    · exact h.w0 e.1 j t h1 h2 hj
    · rw [hg] at h2; injection h2 with h2; subst h2; omega
  · rcases sp j hj with hj | rfl
    · exact h.z j t h1 h2 hj
    · rw [hg] at h2; injection h2 with h2; subst h2; exact h3
set_option maxRecDepth 100000 in
set_option maxHeartbeats 1000000 in
theorem law_any (m : Value) (nm : Nat) (g : Int → Option ByteArray) (id : Int) (w : World) (hM : MapV Tryz.prog w m nm (sv g)) (hko : ∀ i s, g i = some s → kOk i) (hK : Sm.KB w) (hE : EB w) :
    Calls Tryz.prog 4 #[m, .int .i64 id] w fun e w' => e = .returned (.bool true) ∧ Below w.heap.size w w' := by
  have HKO : Hid (∀ i s, g i = some s → kOk i) := hko
  clear hko
  obtain ⟨k, hMk, hlen⟩ := MapV.exact hM undS
  clear hM
  by_cases hk : k ≤ 10
  · have hk' : ¬ ((10 : Int) < (k : Int)) := by omega
    go_enter Tryz.func4, Tryz.ntmps4
    go_wp2_with (first
      | (refine wpl_lenX rfl _ 45 rfl m k rfl hlen ?_)
      | (refine wpl_rangeV rfl 45 _ rfl und3 9 undS m k (sv g) rfl hMk ?_; intro w1 cnt1 hR1 hc1 hb1 hz1)
      | fail)
    obtain ⟨R, hR⟩ : ∃ R, Hid (R = w.heap.size) := ⟨_, rfl⟩
    rw [← hR.out] at hR1
    rw [← hR.out]
    (try simp only [Act.put, List.setIfInBounds_toArray, List.set_cons_succ, List.set_cons_zero])
    have hRw : Hid (w.heap.size ≤ R) := Nat.le_of_eq hR.out.symm
    have F0 : Fcts g (fun i => (sv g i).isSome) false false := fcts_start g
    clear hlen
    go_loopw [5, 6] (fun fa wi wr => ∃ (a b : Bool) (left : Int → Bool) (cnt : Nat), fa = .bool a ∧ wi = .bool b ∧ RngV Tryz.prog wr m R k (sv g) left cnt ∧ Hid (Fcts g left a b) ∧ Below w.heap.size w wr) (fun _ _ wr => rleft wr R)
    case atStart => exact ⟨false, false, _, _, rfl, rfl, hR1, F0, hb1⟩
    case round =>
      clear hR1 hc1 hb1 hz1 F0
      obtain ⟨fa, wi, left, cnt, rfl, rfl, hRr, HF, hbr⟩ := hrel
      have hm0 : Hid _ := hRr.left_eq
      rcases hRr.next und3 0 with ⟨hd, hrun⟩ | ⟨i, u, w5, cnt5, hi, hl, hf, hrun, hR5, hlt, hu, hen⟩
      · have FD := HF.out.done hd HKO.out
        have hMr := hRr.map
        clear HF hm0 hd hRr
        go_wp2_with fail
        have FD' : Hid _ := FD
        clear FD
        refine (Dv.dnew_any wr).mono ?_
        rintro e w2 ⟨rfl, hD2, g2, z2⟩
        have Z2 : Hid (w2.heap.size = wr.heap.size + 1) := z2
        clear z2
        have b2 := hbr.trans (g2.mono hbr.size)
        have g3 := Pg.below_alloc w2 (.cells #[.int .i64 0] 31)
        have b3 := b2.trans (g3.mono b2.size)
        have s3 := g2.trans (g3.mono g2.size)
        have hC3 : Dv.Cnt (w2.alloc (.cells #[.int .i64 0] 31)) w2.heap.size 0 := Blk.new w2 _ _
        have hD3 := hD2.below g3
        have hM3 := hMr.below s3
        have z3 : Hid ((w2.alloc (.cells #[.int .i64 0] 31)).heap.size = w2.heap.size + 1) := by unfold Hid; simp
        have ho := fun (sec : ByteArray) (h : sec.size = 16) => open_0 _ _ _ _ _ _ _ _ sec _ hD3 hC3 (by decide) h (hK.below b3) ((par_zS (supK_size sec)).1)
        have HO : Hid _ := ho
        clear g2 g3 hD2 ho
        go_wp2_with fail
        refine Calls.mono (HO.out _ rfl) ?_
        rintro e w4 ⟨⟨VB, CB, rfl, hV4', hVB, hCB⟩, g4⟩
        obtain ⟨sec, hs16, hV4⟩ : ∃ sec : ByteArray, sec.size = 16 ∧ Vlt w4 VB wr.heap.size w2.heap.size sec 0 1 (fun _ => false) ⟨#[]⟩ CB 0 (fun _ => none) false := ⟨_, rfl, hV4'⟩
        clear hV4' HO
        have b4 := b3.trans (g4.mono b3.size)
        have hD4 := hD3.below g4
        have hC4 := hC3.below g4 hC3.lt
        have hM4 := hM3.below g4
        have hVl := hV4.blk.lt
        have hCl := hV4.map.lt
        have z4 := g4.size
        have hm4 : Hid (∀ b, m = .map (some b) → b < wr.heap.size) := fun b hb => by have h := hMr; rw [hb] at h; exact h.lt
        rw [z3.out] at hVB hCB z4
        generalize w2.alloc (.cells #[.int .i64 0] 31) = w3 at *
        generalize hdd : wr.heap.size = D at *
        generalize hcc : w2.heap.size = C at *
        have HDD : Hid (wr.heap.size = D) := hdd
        clear hMr hM3 hD3 hC3 g4 b3 s3 b2 hdd hcc
        cases fa with
        | true =>
          go_wp2_with fail
          refine (tell_bad VB D C sec 0 1 _ _ CB 0 _ m k g w4 2 hV4 hM4 (fun i s h => Nat.le_trans (FD'.out.2.2.2.2 i s h) (by decide)) (chk2 (FD'.out.1 (by trivial)))).mono ?_
          rintro e w5 ⟨rfl, g5⟩
          have b5 := b4.trans (g5.mono b4.size)
          have hV5 := hV4.below g5 hVl hCl
          have hM5 := hM4.below g5
          clear hV4 hM4 hD4 hC4 g5 b4
          go_wp2_with fail
          refine (bare_some w5 2 (hE.below b5)).mono ?_
          rintro e w6 ⟨rfl, g6⟩
          have b6 := b5.trans (g6.mono b5.size)
          have hV6 := hV5.below g6 hV5.blk.lt hV5.map.lt
          have hM6 := hM5.below g6
          clear hV5 hM5 g6 b5
          go_wp2_with fail
          refine (count_any w6 VB D C sec 0 1 _ _ CB 0 _ false hV6).mono ?_
          rintro e w7 ⟨rfl, hw7⟩
          obtain rfl : w6 = w7 := hw7.symm
          clear hw7
          go_wp2_with fail
          refine (get_any w6 VB D C sec 0 1 _ _ CB 0 _ false id hV6).mono ?_
          rintro e w7 ⟨rfl, hw7⟩
          obtain rfl : w6 = w7 := hw7.symm
          clear hw7
          by_cases hid : 0 ≤ id ∧ id < 32
          · have e1 : getT (fun _ => none) id = ⟨#[]⟩ := by unfold getT; rw [if_pos hid]; rfl
            have e2 : errV (getC id) = .nilIface := by unfold getC errV; rw [if_pos hid]; rfl
            have hlk := run_lookV (t := 45) und3 undS _ zeroS hM6 (kOk_small hid.1 hid.2)
            rw [sv_get] at hlk
            rw [e1, e2]
            have q1 : ¬ id < 0 := by omega
            have q2 : ¬ 32 ≤ id := by omega
            clear hid e1 e2
            go_wp2_with fail
            go_ret
            exact ⟨rfl, b6⟩
          · have e1 : getT (fun _ => none) id = ⟨#[]⟩ := by unfold getT; rw [if_neg hid]
            have e2 : errV (getC id) = .iface 33 (.int .i64 2) := by unfold getC errV; rw [if_neg hid]; rfl
            rw [e1, e2]
            clear e1 e2
            rcases Int.lt_or_le id 0 with q1 | q1
            · clear hid
              go_wp2_with fail
              refine (bare_some w6 2 (hE.below b6)).mono ?_
              rintro e w8 ⟨rfl, g8⟩
              have b8 := b6.trans (g8.mono b6.size)
              go_wp2_with fail
              go_ret
              exact ⟨rfl, b8⟩
            · have q2 : 32 ≤ id := by omega
              clear hid
              go_wp2_with fail
              refine (bare_some w6 2 (hE.below b6)).mono ?_
              rintro e w8 ⟨rfl, g8⟩
              have b8 := b6.trans (g8.mono b6.size)
              go_wp2_with fail
              go_ret
              exact ⟨rfl, b8⟩
        | false =>
          cases wi with
          | true =>
            go_wp2_with fail
            refine (tell_bad VB D C sec 0 1 _ _ CB 0 _ m k g w4 4 hV4 hM4 (fun i s h => Nat.le_trans (FD'.out.2.2.2.2 i s h) (by decide)) (chk4 (FD'.out.2.1 (by trivial)) (FD'.out.2.2.1 (by trivial)))).mono ?_
            rintro e w5 ⟨rfl, g5⟩
            have b5 := b4.trans (g5.mono b4.size)
            have hV5 := hV4.below g5 hVl hCl
            have hM5 := hM4.below g5
            clear hV4 hM4 hD4 hC4 g5 b4
            go_wp2_with fail
            refine (bare_some w5 4 (hE.below b5)).mono ?_
            rintro e w6 ⟨rfl, g6⟩
            have b6 := b5.trans (g6.mono b5.size)
            have hV6 := hV5.below g6 hV5.blk.lt hV5.map.lt
            have hM6 := hM5.below g6
            clear hV5 hM5 g6 b5
            go_wp2_with fail
            refine (count_any w6 VB D C sec 0 1 _ _ CB 0 _ false hV6).mono ?_
            rintro e w7 ⟨rfl, hw7⟩
            obtain rfl : w6 = w7 := hw7.symm
            clear hw7
            go_wp2_with fail
            refine (get_any w6 VB D C sec 0 1 _ _ CB 0 _ false id hV6).mono ?_
            rintro e w7 ⟨rfl, hw7⟩
            obtain rfl : w6 = w7 := hw7.symm
            clear hw7
            by_cases hid : 0 ≤ id ∧ id < 32
            · have e1 : getT (fun _ => none) id = ⟨#[]⟩ := by unfold getT; rw [if_pos hid]; rfl
              have e2 : errV (getC id) = .nilIface := by unfold getC errV; rw [if_pos hid]; rfl
              have hlk := run_lookV (t := 45) und3 undS _ zeroS hM6 (kOk_small hid.1 hid.2)
              rw [sv_get] at hlk
              rw [e1, e2]
              have q1 : ¬ id < 0 := by omega
              have q2 : ¬ 32 ≤ id := by omega
              clear hid e1 e2
              go_wp2_with fail
              go_ret
              exact ⟨rfl, b6⟩
            · have e1 : getT (fun _ => none) id = ⟨#[]⟩ := by unfold getT; rw [if_neg hid]
              have e2 : errV (getC id) = .iface 33 (.int .i64 2) := by unfold getC errV; rw [if_neg hid]; rfl
              rw [e1, e2]
              clear e1 e2
              rcases Int.lt_or_le id 0 with q1 | q1
              · clear hid
                go_wp2_with fail
                refine (bare_some w6 2 (hE.below b6)).mono ?_
                rintro e w8 ⟨rfl, g8⟩
                have b8 := b6.trans (g8.mono b6.size)
                go_wp2_with fail
                go_ret
                exact ⟨rfl, b8⟩
              · have q2 : 32 ≤ id := by omega
                clear hid
                go_wp2_with fail
                refine (bare_some w6 2 (hE.below b6)).mono ?_
                rintro e w8 ⟨rfl, g8⟩
                have b8 := b6.trans (g8.mono b6.size)
                go_wp2_with fail
                go_ret
                exact ⟨rfl, b8⟩
          | false =>
            go_wp2_with fail
            have hTo := tell_ok VB D C sec 0 1 (fun _ => false) ⟨#[]⟩ CB 0 (fun _ => none) m k g (fun q => q = D) _ [] _ _ 0 w4 hV4 hM4 (fun i s h => Nat.le_trans (FD'.out.2.2.2.2 i s h) (by decide)) (FD'.out.2.1 (by trivial)) (FD'.out.2.2.2.1 (by trivial)) hD4 hC4 (by decide) (by omega) (by decide) (by decide) (by decide) (by decide) (fun j _ => Nat.zero_le _) (by omega) (Nat.zero_le _)
              (fun q hq => by subst hq; have := Z2.out; omega) (fun h => by have := Z2.out; omega) (fun h => by have := Z2.out; omega) (by omega) (hK.below b4)
            rw [Int.zero_add] at hTo
            refine hTo.mono ?_
            rintro e w5 ⟨rfl, ⟨CB', n', hV5, hCB', hn'⟩, _, _, C5⟩
            have hwr := hbr.size
            have b5 : Below w.heap.size w w5 := C5.to b4 b4.size (fun q hq => by
              have := Z2.out
              have := HDD.out
              rcases hq with rfl | rfl | rfl <;> omega)
            have hM5 : MapV Tryz.prog w5 m k (sv g) := hM4.same fun b hb => C5.block b (by have := hm4.out b hb; have := Z2.out; omega) (fun h => by
              have := hm4.out b hb
              have := Z2.out
              rcases h with rfl | rfl | rfl <;> omega)
            clear hTo C5 hV4 hM4 hD4 hC4 b4
            go_wp2_with fail
            refine (count_any w5 VB D C sec 1 1 _ _ CB' n' _ false hV5).mono ?_
            rintro e w7 ⟨rfl, hw7⟩
            obtain rfl : w5 = w7 := hw7.symm
            clear hw7
            go_wp2_with fail
            refine (get_any w5 VB D C sec 1 1 _ _ CB' n' _ false id hV5).mono ?_
            rintro e w7 ⟨rfl, hw7⟩
            obtain rfl : w5 = w7 := hw7.symm
            clear hw7
            by_cases hid : 0 ≤ id ∧ id < 32
            · have e1 : getT (nxP (fun _ => none) (tel g (fun _ => none) 1)) id = (rd (nxP (fun _ => none) (tel g (fun _ => none) 1)) id).2 := by unfold getT; rw [if_pos hid]
              have e2 : errV (getC id) = .nilIface := by unfold getC errV; rw [if_pos hid]; rfl
              have hlk := run_lookV (t := 45) und3 undS _ zeroS hM5 (kOk_small hid.1 hid.2)
              rw [sv_get] at hlk
              have e3 := told_eq g id
              rw [e1, e2]
              have q1 : ¬ id < 0 := by omega
              have q2 : ¬ 32 ≤ id := by omega
              clear hid e1 e2
              generalize (rd (nxP (fun _ => none) (tel g (fun _ => none) 1)) id).2 = X at *
              generalize (g id).getD ⟨#[]⟩ = Y at *
              clear hV5
              go_wp2_with fail
              go_ret
              exact ⟨rfl, b5⟩
            · have e1 : getT (nxP (fun _ => none) (tel g (fun _ => none) 1)) id = ⟨#[]⟩ := by unfold getT; rw [if_neg hid]
              have e2 : errV (getC id) = .iface 33 (.int .i64 2) := by unfold getC errV; rw [if_neg hid]; rfl
              rw [e1, e2]
              clear e1 e2 hV5
              rcases Int.lt_or_le id 0 with q1 | q1
              · clear hid
                go_wp2_with fail
                refine (bare_some w5 2 (hE.below b5)).mono ?_
                rintro e w8 ⟨rfl, g8⟩
                have b8 := b5.trans (g8.mono b5.size)
                go_wp2_with fail
                go_ret
                exact ⟨rfl, b8⟩
              · have q2 : 32 ≤ id := by omega
                clear hid
                go_wp2_with fail
                refine (bare_some w5 2 (hE.below b5)).mono ?_
                rintro e w8 ⟨rfl, g8⟩
                have b8 := b5.trans (g8.mono b5.size)
                go_wp2_with fail
                go_ret
                exact ⟨rfl, b8⟩
      · obtain ⟨s, hgi, rfl⟩ := sv_inv hf
        have hm5 : Hid _ := hR5.left_eq
        have b5 := below_upd hbr hu hRw.out
        have st := fun h3 => HF.out.step hi hgi h3
        clear hRr hf hl HF hbr hu
        by_cases h3 : s.size ≤ 300
        · have h3' : ¬ ((300 : Int) < (s.size : Int)) := by omega
          have st' : Hid _ := st h3
          clear st h3
          have nx : Hid (rleft w5 R < rleft wr R) := by unfold Hid; rw [hm5.out, hm0.out]; exact hlt
          clear hm5 hm0 hlt
          have q3 : (200 : Int) < (s.size : Int) ↔ 200 < s.size := by omega
          rcases Nat.lt_or_ge 200 s.size with q4 | q4
          · have q5 : (200 : Int) < (s.size : Int) := by omega
            have q6 : Hid (200 < s.size) := q4
            clear q3 q4
            cases fa <;> cases wi <;> by_cases q1 : i < 0 <;> by_cases q2 : 32 ≤ i
            all_goals (have Q : Hid _ := st'.out; clear st')
            all_goals go_wp2_with fail
            all_goals refine ⟨⟨_, _, _, _, rfl, rfl, hR5, ?_, b5⟩, nx.out⟩
            all_goals (have Q' := Q.out; clear Q; have q7 := q6.out; clear q6)
            all_goals (unfold Hid; simpa [q1, q2, q7] using Q')
          · have q5 : ¬ ((200 : Int) < (s.size : Int)) := by omega
            have q6 : Hid (¬ 200 < s.size) := by unfold Hid; omega
            clear q3 q4
            cases fa <;> cases wi <;> by_cases q1 : i < 0 <;> by_cases q2 : 32 ≤ i
            all_goals (have Q : Hid _ := st'.out; clear st')
            all_goals go_wp2_with fail
            all_goals refine ⟨⟨_, _, _, _, rfl, rfl, hR5, ?_, b5⟩, nx.out⟩
            all_goals (have Q' := Q.out; clear Q; have q7 := q6.out; clear q6)
            all_goals (unfold Hid; simpa [q1, q2, q7] using Q')
        · have h3' : (300 : Int) < (s.size : Int) := by omega
          clear st h3
          go_wp2_with fail
          go_ret
          exact ⟨rfl, b5⟩
  · have hk' : (10 : Int) < (k : Int) := by omega
    go_enter Tryz.func4, Tryz.ntmps4
    go_wp2_with (first
      | (refine wpl_lenX rfl _ 45 rfl m k rfl hlen ?_)
      | fail)
    go_ret
    exact ⟨rfl, Below.refl _ _⟩
end Go.Proofs.YtibkbhhenlgkeaaGreatDoor.Vt
