/-
  Part of the proof: plain facts: which blocks a Tell changes, and how many.
  Part of the proof: the closure that counts blocks that differ; texts that differ; a Tell and a Turn, and the device behind each.
  Part of the proof: two texts that differ; a Tell and a Turn, and the device behind each.
-/
import Derived.Test.YtmfbfhkhfhphfabGreatDoorB43
import Derived.Test.YtmfbfhkhfhphfabGreatDoorB35
namespace Go.Proofs.YtmfbfhkhfhphfabGreatDoor.Vt
open Go.RowKit
/-- How many of the first n are so. -/
def cntB (q : Nat → Bool) : Nat → Nat
  | 0 => 0
  | k + 1 => cntB q k + (if q k then 1 else 0)
theorem cntB_succ (q : Nat → Bool) (k : Nat) : cntB q (k + 1) = cntB q k + (if q k then 1 else 0) := rfl
theorem cntB_congr {q q' : Nat → Bool} : ∀ {n : Nat}, (∀ j, j < n → q j = q' j) → cntB q n = cntB q' n
  | 0, _ => rfl
  | n + 1, h => by unfold cntB; rw [cntB_congr (n := n) fun j hj => h j (by omega), h n (by omega)]
theorem cntB_le (q : Nat → Bool) : ∀ n, cntB q n ≤ n
  | 0 => Nat.le_refl _
  | n + 1 => by unfold cntB; have := cntB_le q n; split <;> omega
theorem cntB_add {q q' : Nat → Bool} {i : Nat} (h0 : q i = false) (h2 : ∀ j, j ≠ i → q' j = q j) : ∀ {n : Nat}, i < n → cntB q' n = cntB q n + (if q' i then 1 else 0)
  | 0, h => by omega
  | n + 1, h => by
    unfold cntB
    by_cases e : i = n
    · subst e
      rw [cntB_congr (n := i) (q := q') (q' := q) fun j hj => h2 j (by omega), h0]
      simp
    · rw [cntB_add h0 h2 (show i < n by omega), h2 n (Ne.symm e)]
      omega
theorem cntB_none {q : Nat → Bool} : ∀ {n : Nat}, (∀ j, j < n → q j = false) → cntB q n = 0
  | 0, _ => rfl
  | n + 1, h => by unfold cntB; rw [cntB_none (n := n) fun j hj => h j (by omega), h n (by omega)]; rfl
theorem cntB_all {q : Nat → Bool} : ∀ {n : Nat}, (∀ j, j < n → q j = true) → cntB q n = n
  | 0, _ => rfl
  | n + 1, h => by unfold cntB; rw [cntB_all (n := n) fun j hj => h j (by omega), h n (by omega)]; rfl
/-- The blocks' texts. -/
def bks (S : Nat → Nat → UInt8) (b : Nat) : ByteArray := sb 256 (S b)
/-- Two blocks differ. -/
def difB (S S' : Nat → Nat → UInt8) (j : Nat) : Bool := decide (bks S (j + 2) ≠ bks S' (j + 2))
theorem toL_inj {a b : ByteArray} (h : a.toList = b.toList) : a = b := ba_eq (by rw [← ByteArray.toList_eq, ← ByteArray.toList_eq]; exact h)
theorem dif_eq {S S' : Nat → Nat → UInt8} {j : Nat} : ((bks S (j + 2)).toList == (bks S' (j + 2)).toList) = !difB S S' j := by
  unfold difB
  by_cases h : bks S (j + 2) = bks S' (j + 2)
  · simp [h]
  · have : ¬ (bks S (j + 2)).toList = (bks S' (j + 2)).toList := fun e => h (toL_inj e)
    simp [h, this]
section
variable {S : Nat → Nat → UInt8} {sec : ByteArray} {m : Nat} {en : Int} {f : Nat → Bool} {p t : Int → Option (Int × ByteArray)}
theorem nxS_same {b : Nat} (h2 : 2 ≤ b) (h : ∀ id, id < 32 → (t ((id : Nat) : Int)).isSome = true → plc (nxF f t) id ≠ b) : nxS S sec m en f p t b = S b := by
  rw [nxS_other (by omega), sl_miss]
  exact h
theorem plc_id {f : Nat → Bool} {id k b : Nat} (h : plc f id = b) (hb : b = 2 + 2 * k ∨ b = 3 + 2 * k) : id = k := by
  unfold plc at h; split at h <;> omega
theorem dif_told {n : Nat} (h : ∀ b, 2 ≤ b → b < 66 → Pg.verN (sb 256 (S b)) ≤ (n : Int)) (ht : ∀ id : Nat, id < 32 → ∀ x, t (id : Int) = some x → x.1 = ((n + 1 : Nat) : Int)) (hn : n < 1000000) {id : Nat} (hi : id < 32) {x : Int × ByteArray} (hx : t (id : Int) = some x) : bks S (plc (nxF f t) id) ≠ bks (nxS S sec m en f p t) (plc (nxF f t) id) := by
  intro e
  have h1 := h (plc (nxF f t) id) (plc_ge _ _) (plc_lt _ _ hi)
  have h3 := ht id hi x hx
  have h4 : Pg.verN (pad (Pg.sealT (epoK sec en) (id : Int) x.1 x.2)) = x.1 := seal_ver _ _ _ _ (by omega) (by omega)
  unfold bks at e
  rw [nxS_told hi hx] at e
  unfold pad at h4
  rw [e, h4] at h1
  omega
theorem dif_count {n : Nat} (h : ∀ b, 2 ≤ b → b < 66 → Pg.verN (sb 256 (S b)) ≤ (n : Int)) (ht : ∀ id : Nat, id < 32 → ∀ x, t (id : Int) = some x → x.1 = ((n + 1 : Nat) : Int)) (hn : n < 1000000) : ∀ k : Nat, k ≤ 32 → cntB (difB S (nxS S sec m en f p t)) (2 * k) = cntB (fun id => (t (id : Int)).isSome) k
  | 0, _ => rfl
  | k + 1, hk => by
    have ih := dif_count h ht hn k (by omega)
    rw [show 2 * (k + 1) = 2 * k + 1 + 1 from by omega, cntB_succ _ (2 * k + 1), cntB_succ _ (2 * k), cntB_succ _ k, ih]
    have same : ∀ b, (b = 2 + 2 * k ∨ b = 3 + 2 * k) → ((t (k : Int)).isSome = true → plc (nxF f t) k ≠ b) → bks S b = bks (nxS S sec m en f p t) b := fun b hb hne => by
      unfold bks
      rw [nxS_same (by omega)]
      intro id hid hs e
      obtain rfl := plc_id e hb
      exact hne hs e
    cases hx : t (k : Int) with
    | none =>
      have e1 : difB S (nxS S sec m en f p t) (2 * k) = false := by
        unfold difB
        rw [decide_eq_false_iff_not]
        exact fun hh => hh (same _ (by omega) (fun hs => by rw [hx] at hs; cases hs))
      have e2 : difB S (nxS S sec m en f p t) (2 * k + 1) = false := by
        unfold difB
        rw [decide_eq_false_iff_not]
        exact fun hh => hh (same _ (by omega) (fun hs => by rw [hx] at hs; cases hs))
      rw [e1, e2]
      simp
    | some x =>
      have hd := dif_told h ht hn (m := m) (en := en) (sec := sec) (f := f) (p := p) (show k < 32 by omega) hx
      cases hf : nxF f t k with
      | false =>
        have hpl : plc (nxF f t) k = 2 * k + 2 := by unfold plc; rw [hf]; simp; omega
        rw [hpl] at hd
        have e1 : difB S (nxS S sec m en f p t) (2 * k) = true := by unfold difB; exact decide_eq_true hd
        have e2 : difB S (nxS S sec m en f p t) (2 * k + 1) = false := by
          unfold difB
          rw [decide_eq_false_iff_not]
          exact fun hh => hh (same _ (by omega) (fun _ => by omega))
        rw [e1, e2]
        simp
      | true =>
        have hpl : plc (nxF f t) k = 2 * k + 1 + 2 := by unfold plc; rw [hf]; simp; omega
        rw [hpl] at hd
        have e1 : difB S (nxS S sec m en f p t) (2 * k) = false := by
          unfold difB
          rw [decide_eq_false_iff_not]
          exact fun hh => hh (same _ (by omega) (fun _ => by omega))
        have e2 : difB S (nxS S sec m en f p t) (2 * k + 1) = true := by unfold difB; exact decide_eq_true hd
        rw [e1, e2]
        simp
end
theorem sup_one {S S' : Nat → Nat → UInt8} {sec : ByteArray} {b : Nat} {x y : Option Int} (hx : SupAt S [] sec b x) (hy : SupAt S' [] sec b y) (e : bks S b = bks S' b) : x = y := by
  unfold bks at e
  unfold SupAt at hx hy
  rw [read_nil] at hx hy
  rw [← e] at hy
  match x, y, hx, hy with
  | none, none, _, _ => rfl
  | none, some c, hx, hy => rw [hx] at hy; exact absurd hy.1 (by decide)
  | some c, none, hx, hy => rw [hy] at hx; exact absurd hx.1 (by decide)
  | some c, some c', hx, hy =>
    obtain ⟨_, e1, f1, r1, h1⟩ := hx
    obtain ⟨_, e2, f2, r2, h2⟩ := hy
    rw [h1] at h2
    have h3 : (Su.supA c e1 f1 r1)[0]? = (Su.supA c' e2 f2 r2)[0]? := by rw [h2]
    rw [Su.supA_0, Su.supA_0] at h3
    injection h3 with h3
    injection h3 with _ h3
    rw [h3]
end Go.Proofs.YtmfbfhkhfhphfabGreatDoor.Vt
namespace Go.Proofs.YtmfbfhkhfhphfabGreatDoor.Vt
open Go.RowKit
set_option maxHeartbeats 400000 in
theorem chg_any (ga gb : Nat) (S S' : Nat → Nat → UInt8) (w : World) (hA : Blk w ga (Dv.ts 66 fun k => sb 256 (S k)) 9) (hB : Blk w gb (Dv.ts 66 fun k => sb 256 (S' k)) 9) :
    Calls Tryz.prog 25 #[.slice (some ⟨ga, 0, none⟩) 66 66, .slice (some ⟨gb, 0, none⟩) 66 66] w fun e w' => e = .returned (.int .i64 (cntB (difB S S') 64 : Nat)) ∧ Below w.heap.size w w' := by
  have hCA : Hid (∀ j : Nat, j < 66 → w.cell? ⟨ga, j, none⟩ = some (.string (bks S j))) := fun j hj => by
    have := hA.cell j
    rw [Dv.ts_get _ _ _ hj] at this
    exact this
  have hCB : Hid (∀ j : Nat, j < 66 → w.cell? ⟨gb, j, none⟩ = some (.string (bks S' j))) := fun j hj => by
    have := hB.cell j
    rw [Dv.ts_get _ _ _ hj] at this
    exact this
  obtain ⟨Cn, h0, h64, hS, hLe⟩ : ∃ Cn : Nat → Nat, Cn 2 = 0 ∧ Cn 66 = cntB (difB S S') 64 ∧ Hid (∀ j, 2 ≤ j → Cn (j + 1) = Cn j + (if difB S S' (j - 2) then 1 else 0)) ∧ Hid (∀ j, Cn j ≤ j) :=
    ⟨fun j => cntB (difB S S') (j - 2), rfl, rfl, fun j hj => by { show cntB _ (j + 1 - 2) = _; rw [show j + 1 - 2 = (j - 2) + 1 from by omega]; rfl }, fun j => Nat.le_trans (cntB_le _ _) (Nat.sub_le _ _)⟩
  have hE : Hid (∀ j, 2 ≤ j → ((bks S j).toList == (bks S' j).toList) = !difB S S' (j - 2)) := fun j hj => by
    have := dif_eq (S := S) (S' := S') (j := j - 2)
    rwa [show j - 2 + 2 = j from by omega] at this
  have H0 : Hid (Cn 2 = 0) := h0
  rw [← h64]
  clear hA hB h64 h0
  generalize difB S S' = Df at *
  generalize bks S = A at *
  generalize bks S' = B at *
  go_enter Tryz.func25, Tryz.ntmps25
  go_wp2_with fail
  go_loopw [5, 6] (fun c i wr => ∃ j n : Nat, 2 ≤ j ∧ j ≤ 66 ∧ i = .int .i64 (j : Int) ∧ c = .int .i64 (Cn j : Nat) ∧ wr = w.drewN n) (fun _ i _ => 66 - (intOf i).toNat)
  case atStart => exact ⟨2, 0, by omega, by omega, rfl, by rw [H0.out]; rfl, rfl⟩
  case round =>
    obtain ⟨j, n, h2, hj, rfl, rfl, rfl⟩ := hrel
    by_cases hlt : j < 66
    · have ca := hCA.out j hlt
      have cb := hCB.out j hlt
      have he := hE.out j h2
      have hs := hS.out j h2
      have hle := hLe.out j
      have hlt' : (j : Int) < 66 := by omega
      generalize A j = x at *
      generalize B j = y at *
      cases hd : Df (j - 2) with
      | true =>
        rw [hd] at he hs
        simp only [Bool.not_true, if_true] at he hs
        have HS : Hid _ := hs
        clear hs hd
        have hx : ¬ x.toList = y.toList := by simpa using he
        clear he
        go_wp2_with fail
        go_quiet (fail)
        go_wp2
        go_light
        refine ⟨⟨j + 1, n + nq, by omega, by omega, by go_num, ?_, rfl⟩, by simp [intOf]; omega⟩
        rw [HS.out]; rfl
        exfalso; rename_i h; simp [hx] at h
      | false =>
        rw [hd] at he hs
        simp only [Bool.not_false, Bool.false_eq_true, if_false, Nat.add_zero] at he hs
        have HS : Hid _ := hs
        clear hs hd
        have hx : x.toList = y.toList := by simpa using he
        obtain rfl := toL_inj hx
        clear he hx
        go_wp2_with fail
        go_quiet (fail)
        go_wp2
        go_light
        exact ⟨⟨j + 1, n + nq, by omega, by omega, by go_num, by rw [HS.out], rfl⟩, by simp [intOf]; omega⟩
    · have hj' : j = 66 := by omega
      subst hj'
      go_wp2_with fail
      go_ret
      exact ⟨rfl, below_drewN (Below.refl _ _) n⟩
end Go.Proofs.YtmfbfhkhfhphfabGreatDoor.Vt
namespace Go.Proofs.YtmfbfhkhfhphfabGreatDoor.Vt
open Go.RowKit
set_option maxHeartbeats 400000 in
theorem eq2_ne (ga gb c d : Nat) (S S' : Nat → Nat → UInt8) (w : World) (hA : Blk w ga (Dv.ts 66 fun k => sb 256 (S k)) 9) (hB : Blk w gb (Dv.ts 66 fun k => sb 256 (S' k)) 9) (i : Nat) (hi : i < 2) (hne : bks S i ≠ bks S' i) :
    Calls Tryz.prog 12 #[.slice (some ⟨ga, 0, none⟩) 2 c, .slice (some ⟨gb, 0, none⟩) 2 d] w fun e w' => e = .returned (.bool false) ∧ Below w.heap.size w w' := by
  have hCA : Hid (∀ j : Nat, j < 66 → w.cell? ⟨ga, j, none⟩ = some (.string (bks S j))) := fun j hj => by
    have := hA.cell j
    rw [Dv.ts_get _ _ _ hj] at this
    exact this
  have hCB : Hid (∀ j : Nat, j < 66 → w.cell? ⟨gb, j, none⟩ = some (.string (bks S' j))) := fun j hj => by
    have := hB.cell j
    rw [Dv.ts_get _ _ _ hj] at this
    exact this
  have HN : Hid (∃ i, i < 2 ∧ bks S i ≠ bks S' i) := ⟨i, hi, hne⟩
  clear hA hB hne hi
  generalize bks S = A at *
  generalize bks S' = B at *
  go_enter Tryz.func12, Tryz.ntmps12
  go_wp2_with fail
  go_loopw [13] (fun i wr => ∃ k n : Nat, k ≤ 2 ∧ i = .int .i64 k ∧ wr = w.drewN n ∧ Hid (∀ j, j < k → A j = B j)) (fun i _ => 2 - (intOf i).toNat)
  case atStart => exact ⟨0, 0, by omega, rfl, rfl, fun j hj => by omega⟩
  case round =>
    obtain ⟨k, n, hk, rfl, rfl, HJ⟩ := hrel
    by_cases hlt : k < 2
    · have ca := hCA.out k (by omega)
      have cb := hCB.out k (by omega)
      have hlt' : (k : Int) < 2 := by omega
      by_cases hx : A k = B k
      · have HJ' : Hid (∀ j, j < k + 1 → A j = B j) := fun j hj => by
          rcases Nat.lt_or_ge j k with h | h
          · exact HJ.out j h
          · obtain rfl : j = k := by omega
            exact hx
        rw [← hx] at cb
        clear hx
        generalize A k = x at *
        go_wp2_with fail
        go_quiet (fail)
        go_wp2
        go_light
        exact ⟨⟨k + 1, n + nq, by omega, by go_num, rfl, HJ'⟩, by simp [intOf]; omega⟩
      · have hx' : ¬ (A k).toList = (B k).toList := fun e => hx (toL_inj e)
        clear hx
        generalize A k = x at *
        generalize B k = y at *
        go_wp2_with fail
        go_quiet (fail)
        go_wp2
        go_ret
        exact ⟨rfl, below_drewN (below_drewN (Below.refl _ _) n) nq⟩
        exfalso; rename_i h; simp [hx'] at h
    · exfalso
      obtain rfl : k = 2 := by omega
      obtain ⟨i, hi, hne⟩ := HN.out
      exact hne (HJ.out i hi)
theorem tell_tldX (vb d c : Nat) (sec : ByteArray) (n : Nat) (f : Nat → Bool) (r : ByteArray) (mb nn : Nat) (p : Int → Option (Int × ByteArray)) (m : Value) (nm : Nat) (g : Int → Option ByteArray) (O : Nat → Prop) (S : Nat → Nat → UInt8) (v : Value) (lf : Int) (w : World)
    (hV : Vlt w vb d c sec (n : Int) 1 f r mb nn p false) (hM : MapV Tryz.prog w m nm (sv g)) (hg : ∀ i s, g i = some s → (0 ≤ i ∧ i < 32) ∧ s.size ≤ 200) (hD : Dv.Dev w O d S [] (-1) v lf) (hC : Dv.Cnt w c (n : Int)) (hT : Tld S sec n f p)
    (hn : nn + nm ≤ 100000) (hn1 : n < 1000000) (hsec : sec.size ≤ 300) (hO : ∀ k, O k → k < w.heap.size) (o2 : ¬ O vb) (o3 : ¬ O c) (o4 : vb ≠ c) (hK : Sm.KB w) (t : Int → Option (Int × ByteArray)) (ht : t = tel g p ((n + 1 : Nat) : Int)) :
    Calls Tryz.prog 24 #[.pointer (some ⟨vb, 0, none⟩), m] w fun e w' => e = .returned .nilIface ∧
      ∃ r' CB n' O' v' l', Vlt w' vb d c sec ((n + 1 : Nat) : Int) 1 (nxF f t) r' CB n' (nxP p t) false ∧ n' ≤ nn + nm ∧
        Tld (nxS S sec (n + 1) 1 f p t) sec (n + 1) (nxF f t) (nxP p t) ∧ Dv.Dev w' O' d (nxS S sec (n + 1) 1 f p t) [] (-1) v' l' ∧ (∀ k, O' k → Dv.gro O w w' k) ∧ Dv.Cnt w' c ((n + 1 : Nat) : Int) ∧ Dv.Chg w w' (fun k => O k ∨ k = c ∨ k = vb) := by
  subst ht
  have hF : ¬ Far g := fun ⟨i, _, h2, h3⟩ => by
    obtain ⟨s, hs⟩ := Option.isSome_iff_exists.1 h2
    exact h3 (hg i s hs).1
  have hWd : ¬ Wide g := fun ⟨i, s, _, h2, h3⟩ => by have := (hg i s h2).2; omega
  have hp : ∀ j : Nat, j < 32 → (rd p j).2.size ≤ 300 := fun j hj => by
    unfold rd
    cases hx : p (j : Int) with
    | none => exact Nat.zero_le _
    | some x => have := (hT.pgs.some' j hj x hx).2.2.2; simp; omega
  have h := tell_ok vb d c sec (n : Int) 1 f r mb nn p m nm g O S [] v lf (n : Int) w hV hM (fun i s hs => by have := (hg i s hs).2; omega) hF hWd hD hC (by omega) hn (by omega) (by omega) (by decide) (by decide) hp hsec (Nat.zero_le _) hO o2 o3 o4 hK
  rw [show (n : Int) + 1 = ((n + 1 : Nat) : Int) from by omega] at h
  refine h.mono ?_
  rintro e w' ⟨rfl, ⟨CB, n', hV', hCB, hn'⟩, ⟨O', v', l', hD', hO'⟩, hC', C'⟩
  refine ⟨rfl, _, CB, n', O', v', l', hV', hn', hT.told (t := tel g p ((n + 1 : Nat) : Int)) hn1 (fun id hi x hx => ?_) (fun i hi hx => ?_) (fun id _ x hx => by rw [(tel_some hx).1]; exact Int.le_refl _), ?_, hO', hC', C'⟩
  · have h1 := tel_some hx
    have h2 := (hg _ _ h1.2).2
    omega
  · obtain ⟨x, hx⟩ := Option.isSome_iff_exists.1 hx
    exact (hg _ _ (tel_some hx).2).1
  · have e : ((n + 1 : Nat) : Int).toNat = n + 1 := by omega
    rw [e, List.nil_append] at hD'
    exact hD'
theorem turn_S (vb d c : Nat) (sec : ByteArray) (n : Nat) (f : Nat → Bool) (r : ByteArray) (mb nn : Nat) (p : Int → Option (Int × ByteArray)) (O : Nat → Prop) (S : Nat → Nat → UInt8) (v : Value) (lf : Int) (w : World)
    (hV : Vlt w vb d c sec (n : Int) 1 f r mb nn p false) (hD : Dv.Dev w O d S [] (-1) v lf) (hC : Dv.Cnt w c (n : Int)) (hT : Tld S sec n f p)
    (hn : nn + 32 ≤ 100000) (hn1 : n < 1000000) (hsec : sec.size ≤ 300) (hO : ∀ k, O k → k < w.heap.size) (o2 : ¬ O vb) (o3 : ¬ O c) (o4 : vb ≠ c) (hK : Sm.KB w) :
    Calls Tryz.prog 13 #[.pointer (some ⟨vb, 0, none⟩)] w fun e w' => e = .returned .nilIface ∧ (∃ S' O' v' l', Dv.Dev w' O' d S' [] (-1) v' l' ∧ (∀ k, O' k → Dv.gro O w w' k) ∧ cntB (difB S S') 64 = 32) ∧ Dv.Chg w w' (fun k => O k ∨ k = c ∨ k = vb) := by
  have hp : ∀ j : Nat, j < 32 → (rd p j).2.size ≤ 200 := fun j hj => by
    unfold rd
    cases hx : p (j : Int) with
    | none => exact Nat.zero_le _
    | some x => have := (hT.pgs.some' j hj x hx).2.2.2; simpa using this
  refine (turn_ok vb d c sec (n : Int) 1 f r mb nn p O S [] v lf (n : Int) w hV hD hC (by omega) hn (by omega) (by omega) (by decide) (by decide) hp hsec (Nat.zero_le _) hO o2 o3 o4 hK).mono ?_
  rintro e w' ⟨rfl, _, ⟨O', v', l', hD', hO'⟩, _, C'⟩
  refine ⟨rfl, ⟨_, O', v', l', hD', hO', ?_⟩, C'⟩
  have h := dif_count (sec := sec) (m := n + 1) (en := 1 + 1) (f := f) (p := p) hT.low (t := trn p ((n : Int) + 1) 32) (fun id hi x hx => by
    unfold trn at hx
    rw [if_pos (by omega)] at hx
    injection hx with hx
    rw [← hx]
    show (n : Int) + 1 = _
    omega) hn1 32 (by decide)
  have h2 : cntB (fun id => (trn p ((n : Int) + 1) 32 (id : Int)).isSome) 32 = 32 := cntB_all fun j hj => by unfold trn; rw [if_pos (by omega)]; rfl
  rw [h2] at h
  have e : ((n : Int) + 1).toNat = n + 1 := by omega
  rw [List.nil_append, e]
  have e2 : ((n + 1 : Nat) : Int) = (n : Int) + 1 := by omega
  unfold nxS at h
  rw [e2] at h
  exact h
end Go.Proofs.YtmfbfhkhfhphfabGreatDoor.Vt
