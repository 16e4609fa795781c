/-
  Part of the proof: plain facts: what a fuse leaves of what is told, and what a crash leaves of that.
  Part of the proof: Open where the counter stands one behind; a vault that is stuck; Tell and Turn with a fuse, by one contract each.
  Part of the proof of TreeBinds: the code's Verify is walked.
-/
import Derived.Test.YtkapkphhceknfaaGreatDoorB25
import Derived.Test.YtkapkphhceknfaaGreatDoorB30
import Derived.Test.YtkapkphhceknfaaGreatDoorB10
namespace Go.Proofs.YtkapkphhceknfaaGreatDoor.Vt
open Go.RowKit
theorem Fz.wr_bad {x : Fz} (h : x.b = true) (k : Nat) (s : ByteArray) : x.wr k s = x := by unfold Fz.wr; rw [if_pos h]
theorem Fz.sy_bad {x : Fz} (h : x.b = true) : x.sy = x := by unfold Fz.sy; rw [if_pos h]
theorem Fz.wrs_bad {x : Fz} (h : x.b = true) : ∀ l, x.wrs l = x
  | [] => rfl
  | z :: l => by
    show (x.wr z.1 z.2).wrs l = x
    rw [Fz.wr_bad h]; exact Fz.wrs_bad h l
theorem wl_cons (z : Nat × ByteArray) (l : List (Nat × ByteArray)) : wl (z :: l) = (z.1, Dv.bAt z.2) :: wl l := rfl
theorem Fz.wrs_case : ∀ (l : List (Nat × ByteArray)) (x : Fz), x.b = false →
    (∃ i, (x.wrs l).b = true ∧ (x.wrs l).S = x.S ∧ (x.wrs l).W = x.W ++ wl (l.take i)) ∨ ((x.wrs l).b = false ∧ (x.wrs l).S = x.S ∧ (x.wrs l).W = x.W ++ wl l)
  | [], x, h => Or.inr ⟨h, rfl, by show x.W = x.W ++ []; simp⟩
  | z :: l, x, h => by
    by_cases h0 : x.F = 0
    · have e : x.wr z.1 z.2 = ⟨x.S, x.W, x.F, true⟩ := by unfold Fz.wr; rw [h, h0]; simp
      have e2 : x.wrs (z :: l) = ⟨x.S, x.W, x.F, true⟩ := by
        show (x.wr z.1 z.2).wrs l = _
        rw [e]; exact Fz.wrs_bad rfl l
      rw [e2]
      exact Or.inl ⟨0, rfl, rfl, by show x.W = x.W ++ []; simp⟩
    · have e : x.wr z.1 z.2 = ⟨x.S, x.W ++ [(z.1, Dv.bAt z.2)], Dv.burnt x.F, false⟩ := by unfold Fz.wr; rw [h]; simp [h0]
      have ih := Fz.wrs_case l (x.wr z.1 z.2) (by rw [e])
      have hS : (x.wr z.1 z.2).S = x.S := by rw [e]
      have hW : (x.wr z.1 z.2).W = x.W ++ [(z.1, Dv.bAt z.2)] := by rw [e]
      rw [hS, hW] at ih
      rcases ih with ⟨i, h1, h2, h3⟩ | ⟨h1, h2, h3⟩
      · refine Or.inl ⟨i + 1, h1, h2, ?_⟩
        show ((x.wr z.1 z.2).wrs l).W = _
        rw [h3, List.take_succ_cons, wl_cons, List.append_assoc]; rfl
      · refine Or.inr ⟨h1, h2, ?_⟩
        show ((x.wr z.1 z.2).wrs l).W = _
        rw [h3, wl_cons, List.append_assoc]; rfl
theorem Fz.sy_case (x : Fz) (h : x.b = false) : x.sy = ⟨x.S, x.W, x.F, true⟩ ∨ (x.sy.b = false ∧ x.sy.S = sureS x.S x.W ∧ x.sy.W = []) := by
  by_cases h0 : x.F = 0
  · exact Or.inl (by unfold Fz.sy; rw [h, h0]; simp)
  · refine Or.inr ?_
    have e : x.sy = ⟨Dv.loseS x.S x.W (fun _ => true) x.W.length, [], Dv.burnt x.F, false⟩ := by unfold Fz.sy; rw [h]; simp [h0]
    rw [e]
    exact ⟨rfl, rfl, rfl⟩
/-- What is left of all steps, by where the fuse ended them. -/
theorem Fz.all_case (x : Fz) (l : List (Nat × ByteArray)) (at' : Nat) (top : ByteArray) (h : x.b = false) (hW : x.W = []) :
    ((x.all l at' top).b = true ∧ (x.all l at' top).S = x.S ∧ ∃ i, (x.all l at' top).W = wl (l.take i)) ∨
    ((x.all l at' top).b = true ∧ (x.all l at' top).S = sureS x.S (wl l) ∧ ((x.all l at' top).W = [] ∨ (x.all l at' top).W = [(at', Dv.bAt top)])) ∨
    ((x.all l at' top).b = false ∧ (x.all l at' top).S = sureS (sureS x.S (wl l)) [(at', Dv.bAt top)] ∧ (x.all l at' top).W = []) := by
  have e : x.all l at' top = (((x.wrs l).sy).wr at' top).sy := rfl
  rw [e]
  rcases Fz.wrs_case l x h with ⟨i, h1, h2, h3⟩ | ⟨h1, h2, h3⟩
  · rw [Fz.sy_bad h1, Fz.wr_bad h1, Fz.sy_bad h1]
    exact Or.inl ⟨h1, h2, i, by rw [h3, hW]; rfl⟩
  · rw [hW, List.nil_append] at h3
    generalize x.wrs l = y at *
    rcases Fz.sy_case y h1 with e1 | ⟨k1, k2, k3⟩
    · rw [e1, Fz.wr_bad rfl, Fz.sy_bad rfl]
      exact Or.inl ⟨rfl, h2, l.length, by rw [List.take_length]; exact h3⟩
    · rw [h2, h3] at k2
      generalize y.sy = z at *
      by_cases h0 : z.F = 0
      · have e2 : z.wr at' top = ⟨z.S, z.W, z.F, true⟩ := by unfold Fz.wr; rw [k1, h0]; simp
        rw [e2, Fz.sy_bad rfl]
        exact Or.inr (Or.inl ⟨rfl, k2, Or.inl k3⟩)
      · have e2 : z.wr at' top = ⟨z.S, [(at', Dv.bAt top)], Dv.burnt z.F, false⟩ := by unfold Fz.wr; rw [k1, k3]; simp [h0]
        rw [e2]
        rcases Fz.sy_case ⟨z.S, [(at', Dv.bAt top)], Dv.burnt z.F, false⟩ rfl with e3 | ⟨q1, q2, q3⟩
        · rw [e3]
          exact Or.inr (Or.inl ⟨rfl, k2, Or.inr rfl⟩)
        · exact Or.inr (Or.inr ⟨q1, by rw [q2]; show sureS z.S _ = _; rw [k2], q3⟩)
theorem lose_miss (S : Nat → Nat → UInt8) (W : List (Nat × (Nat → UInt8))) (kp : Nat → Bool) (b : Nat) (h : ∀ x ∈ W, x.1 ≠ b) : ∀ i, Dv.loseS S W kp i b = S b
  | 0 => rfl
  | i + 1 => by
    have ih := lose_miss S W kp b h i
    cases hw : W[i]? with
    | none => simp only [Dv.loseS, hw]; exact ih
    | some x =>
      cases hk : kp i with
      | false => rw [Dv.loseS_no hk]; exact ih
      | true =>
        rw [Dv.loseS_yes hw hk]
        unfold Dv.putS
        rw [if_neg (Ne.symm (h x (List.mem_of_getElem? hw)))]; exact ih
theorem sl_mem {key : ByteArray} {f : Nat → Bool} {t : Int → Option (Int × ByteArray)} : ∀ {k : Nat} {x : Nat × ByteArray}, x ∈ sl key f t k → ∃ id : Nat, id < k ∧ (t (id : Int)).isSome = true ∧ x.1 = plc f id
  | 0, x, h => by cases h
  | k + 1, x, h => by
    cases ht : t (k : Int) with
    | none =>
      rw [sl_none ht] at h
      obtain ⟨id, h1, h2, h3⟩ := sl_mem h
      exact ⟨id, by omega, h2, h3⟩
    | some y =>
      rw [sl_some ht] at h
      rcases List.mem_append.1 h with h | h
      · obtain ⟨id, h1, h2, h3⟩ := sl_mem h
        exact ⟨id, by omega, h2, h3⟩
      · rw [List.mem_singleton] at h
        subst h
        exact ⟨k, by omega, by rw [ht]; rfl, rfl⟩
/-- All that a state reads is as it was. -/
structure Kp (S S' : Nat → Nat → UInt8) (f : Nat → Bool) : Prop where
  sup : ∀ b, b < 2 → S' b = S b
  pg : ∀ id, S' (plc f id) = S (plc f id)
theorem plc_new {f : Nat → Bool} {t : Int → Option (Int × ByteArray)} {id j : Nat} (h : (t (id : Int)).isSome = true) : plc (nxF f t) id ≠ plc f j := by
  have e : nxF f t id = !f id := by unfold nxF; rw [if_pos h]
  unfold plc
  rw [e]
  intro h2
  by_cases hij : id = j
  · subst hij; revert h2; cases f id <;> simp
  · revert h2; split <;> split <;> omega
theorem sl_keep {key : ByteArray} {f : Nat → Bool} {t : Int → Option (Int × ByteArray)} {x : Nat × ByteArray} (h : x ∈ sl key (nxF f t) t 32) : (∀ b, b < 2 → x.1 ≠ b) ∧ ∀ j, x.1 ≠ plc f j := by
  obtain ⟨id, _, h2, h3⟩ := sl_mem h
  rw [h3]
  exact ⟨fun b hb => by have := plc_ge (nxF f t) id; omega, fun j => plc_new h2⟩
theorem wl_mem {l : List (Nat × ByteArray)} {x : Nat × (Nat → UInt8)} (h : x ∈ wl l) : ∃ y ∈ l, x.1 = y.1 := by
  unfold wl at h
  obtain ⟨y, h1, rfl⟩ := List.mem_map.1 h
  exact ⟨y, h1, rfl⟩
theorem kp_of {S : Nat → Nat → UInt8} {key : ByteArray} {f : Nat → Bool} {t : Int → Option (Int × ByteArray)} {W : List (Nat × (Nat → UInt8))} (h : ∀ x ∈ W, ∃ y ∈ sl key (nxF f t) t 32, x.1 = y.1) (kp : Nat → Bool) (i : Nat) : Kp S (Dv.loseS S W kp i) f :=
  ⟨fun b hb => lose_miss S W kp b (fun x hx => by obtain ⟨y, h1, h2⟩ := h x hx; rw [h2]; exact (sl_keep h1).1 b hb) i,
   fun j => lose_miss S W kp (plc f j) (fun x hx => by obtain ⟨y, h1, h2⟩ := h x hx; rw [h2]; exact (sl_keep h1).2 j) i⟩
/-- What a crash leaves: what was told ahead, as it was; or all of what was being told. -/
theorem crash_case (x y : Fz) (sec : ByteArray) (n : Nat) (en : Int) (f : Nat → Bool) (p t : Int → Option (Int × ByteArray)) (hb : x.b = false) (hW : x.W = []) (kp : Nat → Bool)
    (hy : y = x.all (sl (epoK sec en) (nxF f t) t 32) ((n + 1) % 2) (Su.allT (supK sec) ((n + 1 : Nat) : Int) en (nxF f t) (rootP (nxP p t)))) :
    (y.b = true ∧ Kp x.S (Dv.loseS y.S y.W kp y.W.length) f) ∨ Dv.loseS y.S y.W kp y.W.length = nxS x.S sec (n + 1) en f p t := by
  have hc := Fz.all_case x (sl (epoK sec en) (nxF f t) t 32) ((n + 1) % 2) (Su.allT (supK sec) ((n + 1 : Nat) : Int) en (nxF f t) (rootP (nxP p t))) hb hW
  rw [← hy] at hc
  have hnx : nxS x.S sec (n + 1) en f p t = sureS (sureS x.S (wl (sl (epoK sec en) (nxF f t) t 32))) [((n + 1) % 2, Dv.bAt (Su.allT (supK sec) ((n + 1 : Nat) : Int) en (nxF f t) (rootP (nxP p t))))] := rfl
  rw [hnx]
  clear hy hnx
  have hk : Kp x.S (sureS x.S (wl (sl (epoK sec en) (nxF f t) t 32))) f := by
    unfold sureS
    exact kp_of (S := x.S) (key := epoK sec en) (f := f) (t := t) (W := wl (sl (epoK sec en) (nxF f t) t 32)) (fun z hz => wl_mem hz) (fun _ => true) (wl (sl (epoK sec en) (nxF f t) t 32)).length
  have e0 : ∀ S' : Nat → Nat → UInt8, Dv.loseS S' [] kp ([] : List (Nat × (Nat → UInt8))).length = S' := fun _ => rfl
  have e1 : ∀ (S' : Nat → Nat → UInt8) (q : Nat × (Nat → UInt8)), Dv.loseS S' [q] kp [q].length = if kp 0 = true then sureS S' [q] else S' := fun S' q => by
    show Dv.loseS S' [q] kp 1 = _
    cases hq : kp 0 with
    | true => rw [Dv.loseS_yes rfl hq, if_pos rfl]; rfl
    | false => rw [Dv.loseS_no hq, if_neg (by decide)]; rfl
  generalize Su.allT (supK sec) ((n + 1 : Nat) : Int) en (nxF f t) (rootP (nxP p t)) = top at *
  rcases hc with ⟨h1, h2, i, h3⟩ | ⟨h1, h2, h3 | h3⟩ | ⟨h1, h2, h3⟩
  · refine Or.inl ⟨h1, ?_⟩
    rw [h2]
    exact kp_of (key := epoK sec en) (t := t) (fun z hz => by
      rw [h3] at hz
      obtain ⟨y', h4, h5⟩ := wl_mem hz
      exact ⟨y', List.mem_of_mem_take h4, h5⟩) _ _
  · refine Or.inl ⟨h1, ?_⟩
    rw [h2, h3, e0]
    exact hk
  · rw [h2, h3, e1]
    cases hq : kp 0 with
    | true => exact Or.inr (if_pos rfl)
    | false => exact Or.inl ⟨h1, by rw [if_neg (by decide)]; exact hk⟩
  · rw [h2, h3, e0]
    exact Or.inr rfl
theorem crash_good (x y : Fz) (sec : ByteArray) (n : Nat) (en : Int) (f : Nat → Bool) (p t : Int → Option (Int × ByteArray)) (hb : x.b = false) (hW : x.W = []) (kp : Nat → Bool)
    (hy : y = x.all (sl (epoK sec en) (nxF f t) t 32) ((n + 1) % 2) (Su.allT (supK sec) ((n + 1 : Nat) : Int) en (nxF f t) (rootP (nxP p t)))) (hyb : y.b = false) :
    Dv.loseS y.S y.W kp y.W.length = nxS x.S sec (n + 1) en f p t := by
  rcases crash_case x y sec n en f p t hb hW kp hy with ⟨h, _⟩ | h
  · rw [hyb] at h; cases h
  · exact h
section
variable {S S' : Nat → Nat → UInt8} {sec : ByteArray} {n : Nat} {en : Int} {f : Nat → Bool} {p t : Int → Option (Int × ByteArray)}
theorem SupAt.eq {b : Nat} {c : Option Int} (hs : S' b = S b) (h : SupAt S [] sec b c) : SupAt S' [] sec b c := by
  unfold SupAt at *
  rw [read_nil, hs]
  rw [read_nil] at h
  exact h
theorem Kp.on (hk : Kp S S' f) (h : On S [] sec n en f p) : On S' [] sec n en f p :=
  ⟨h.n0, h.n1, h.e0, h.e1, by rw [read_nil, hk.sup _ (by omega)]; exact h.sup, fun id hi x hx => by rw [read_nil, hk.pg]; exact h.some' id hi x hx, fun id hi hx => by rw [read_nil, hk.pg]; exact h.none' id hi hx, h.keys⟩
/-- Behind what is told the other Super is no later one. -/
theorem nx_sup (h : Tld S sec n f p) : ∃ x, SupAt (nxS S sec (n + 1) en f p t) [] sec ((n + 1 + 1) % 2) x ∧ x ≠ some ((n + 1 + 1 : Nat) : Int) := by
  have hb : (n + 1 + 1) % 2 ≠ (n + 1) % 2 := by omega
  have he : (n + 1 + 1) % 2 = n % 2 := by omega
  have hS : ∀ x, SupAt S [] sec (n % 2) x → SupAt (nxS S sec (n + 1) en f p t) [] sec ((n + 1 + 1) % 2) x := fun x hx => by
    unfold SupAt at *
    rw [show Dv.readF (nxS S sec (n + 1) en f p t) [] ((n + 1 + 1) % 2) = Dv.readF S [] (n % 2) from by rw [read_nil, read_nil, nxS_sup (by omega) hb, he]]
    exact hx
  by_cases h0 : n = 0
  · subst h0
    exact ⟨none, hS _ (h.new rfl).1, fun h => by cases h⟩
  · exact ⟨some (n : Int), hS _ (on_sup (h.on (by omega))), fun hc => by injection hc with hc; omega⟩
theorem pgs_all (h : Tld S sec n f p) (hall : ∀ id : Nat, id < 32 → (t (id : Int)).isSome = true) (ht : ∀ id : Nat, id < 32 → ∀ x, t (id : Int) = some x → 1 ≤ x.1 ∧ x.1 ≤ 1099511627776 ∧ x.2.size ≤ 200) (hk : ∀ i, kOk i → (t i).isSome = true → 0 ≤ i ∧ i < 32) : Pgs (nxS S sec (n + 1) en f p t) sec en (nxF f t) (nxP p t) := by
  refine ⟨fun id hi x hx => ?_, fun id hi hx => ?_, fun i hi hx => ?_⟩
  · obtain ⟨y, hy⟩ := Option.isSome_iff_exists.1 (hall id hi)
    have e : y = x := by unfold nxP at hx; rw [hy] at hx; simpa using hx
    subst e
    exact ⟨by rw [nxS_told hi hy]; rfl, ht id hi y hy⟩
  · obtain ⟨y, hy⟩ := Option.isSome_iff_exists.1 (hall id hi)
    unfold nxP at hx; rw [hy] at hx; simp at hx
  · unfold nxP at hx
    cases hy : t i with
    | some y => exact hk i hi (by rw [hy]; rfl)
    | none => rw [hy] at hx; exact h.pgs.keys i hi (by simpa using hx)
theorem nx_on_turn (h : Tld S sec n f p) (hn : n < 1000000) (e0 : 1 ≤ en) (e1 : en ≤ 1099511627776) (hall : ∀ id : Nat, id < 32 → (t (id : Int)).isSome = true) (ht : ∀ id : Nat, id < 32 → ∀ x, t (id : Int) = some x → 1 ≤ x.1 ∧ x.1 ≤ 1099511627776 ∧ x.2.size ≤ 200) (hk : ∀ i, kOk i → (t i).isSome = true → 0 ≤ i ∧ i < 32) : On (nxS S sec (n + 1) en f p t) [] sec (n + 1) en (nxF f t) (nxP p t) :=
  (pgs_all h hall ht hk).on (by omega) (by omega) e0 e1 (by rw [nxS_top]; rfl)
theorem nx_on_tell (h : Tld S sec n f p) (hn : n < 1000000) (ht : ∀ id : Nat, id < 32 → ∀ x, t (id : Int) = some x → 1 ≤ x.1 ∧ x.1 ≤ 1099511627776 ∧ x.2.size ≤ 200) (hk : ∀ i, kOk i → (t i).isSome = true → 0 ≤ i ∧ i < 32) : On (nxS S sec (n + 1) 1 f p t) [] sec (n + 1) 1 (nxF f t) (nxP p t) :=
  (h.pgs.told ht hk).on (by omega) (by omega) (by decide) (by decide) (by rw [nxS_top]; rfl)
end
theorem open_kp (d c : Nat) (O : Nat → Prop) (S S' : Nat → Nat → UInt8) (v : Value) (lf : Int) (sec : ByteArray) (n : Nat) (f : Nat → Bool) (p : Int → Option (Int × ByteArray)) (w : World) (hD : Dv.Dev w O d S' [] (-1) v lf) (hC : Dv.Cnt w c (n : Int)) (hsec : sec.size = 16) (hK : Sm.KB w) (hT : Tld S sec n f p) (hk : Kp S S' f) :
    Calls Tryz.prog 15 #[.pointer (some ⟨d, 0, none⟩), .pointer (some ⟨c, 0, none⟩), .string sec] w fun e w' => (∃ VB CB n' f' r, e = .returned (.tuple #[.pointer (some ⟨VB, 0, none⟩), .nilIface]) ∧ Vlt w' VB d c sec (n : Int) 1 f' r CB n' p false ∧ w.heap.size ≤ VB ∧ n' ≤ 32) ∧ Below w.heap.size w w' := by
  by_cases h0 : n = 0
  · subst h0
    obtain ⟨_, h1, rfl⟩ := hT.new rfl
    have h1' : SupAt S' [] sec 1 none := SupAt.eq (hk.sup 1 (by decide)) h1
    refine (open_0 d c O S' [] (-1) v lf sec w hD hC (by decide) hsec hK h1').mono ?_
    rintro e w' ⟨⟨VB, CB, rfl, hV, h2, _⟩, g⟩
    exact ⟨⟨VB, CB, _, _, _, rfl, hV, h2, by omega⟩, g⟩
  · obtain ⟨x, hx, hx'⟩ := hT.old
    refine (open_some d c O S' [] (-1) v lf sec n x 1 f p w hD hC (by decide) hsec hK (SupAt.eq (hk.sup _ (by omega)) hx) (fun e => by have := hx' _ e; omega) (hk.on (hT.on (by omega)))).mono ?_
    rintro e w' ⟨⟨VB, CB, rfl, hV, h2, _⟩, g⟩
    exact ⟨⟨VB, CB, _, _, _, rfl, hV, h2, by omega⟩, g⟩
end Go.Proofs.YtkapkphhceknfaaGreatDoor.Vt
namespace Go.Proofs.YtkapkphhceknfaaGreatDoor.Vt
open Go.RowKit
set_option maxRecDepth 100000 in
set_option maxHeartbeats 400000 in
theorem last_ahead (d c : Nat) (O : Nat → Prop) (S : Nat → Nat → UInt8) (W : List (Nat × (Nat → UInt8))) (F : Int) (v : Value) (lf : Int) (sec : ByteArray) (n : Nat) (en : Int) (f : Nat → Bool) (p : Int → Option (Int × ByteArray)) (w : World) (hD : Dv.Dev w O d S W F v lf) (hC : Dv.Cnt w c (n : Int)) (hW : W.length ≤ 1000) (hsec : sec.size ≤ 300) (hK : Sm.KB w)
    (hn : n < 1000000) (hOn : On S W sec (n + 1) en f p) :
    Calls Tryz.prog 32 #[.pointer (some ⟨d, 0, none⟩), .pointer (some ⟨c, 0, none⟩), .string sec] w fun e w' => (∃ CB, e = .returned (.tuple #[.agg (stA ((n : Int) + 1) en f (rootP p) (.map (some CB))), .nilIface]) ∧ MapF Tryz.prog w' CB 32 (pv p) ∧ w.heap.size ≤ CB) ∧ Dv.Cnt w' c ((n : Int) + 1) ∧ Dv.Chg w w' (fun k => k = c) := by
  have z1 := st0_size
  have o1 := st0_one
  have zt := zeroSt
  have hR1 : ∀ w', Below w.heap.size w w' → Calls Tryz.prog 46 #[.pointer (some ⟨d, 0, none⟩), .string sec, .int .i64 ((n : Int) + 1)] w' fun e w'' => (∃ CB, e = .returned (.tuple #[.agg (stA ((n : Int) + 1) en f (rootP p) (.map (some CB))), .bool true]) ∧ MapF Tryz.prog w'' CB 32 (pv p) ∧ w'.heap.size ≤ CB) ∧ Below w'.heap.size w' w'' := fun w' hb => by
    have h := whole_good d O S W F v lf sec (n + 1) en f p w' (hD.below hb) hW hsec (hK.below hb) hOn
    rwa [show ((n + 1 : Nat) : Int) = (n : Int) + 1 from by omega] at h
  obtain ⟨Y, hY⟩ : ∃ Z, Hid (st0 = Z) := ⟨_, rfl⟩
  rw [hY.out] at z1 o1 zt
  have H1 : Hid _ := hR1
  clear hR1 hY hOn
  have g1 := Pg.below_alloc w (.cells Y 74)
  have hcl := hC.lt
  go_enter Tryz.func32, Tryz.ntmps32
  go_wp2_with fail
  refine (Dv.get_any c (n : Int) _ (hC.below g1 hC.lt)).mono ?_
  rintro e w1 ⟨rfl, hw1⟩
  obtain rfl := hw1
  go_wp2_with fail
  refine (H1.out _ g1).mono ?_
  rintro e w2 ⟨⟨CB, rfl, hM2, hCB⟩, g2⟩
  have b2 := g1.trans (g2.mono g1.size)
  have j2 := (Blk.new w Y 74).below g2 (by simp)
  have j3 := j2.alloc (.cells Y 74)
  have b3 := b2.trans ((Pg.below_alloc w2 (.cells Y 74)).mono b2.size)
  have hlt2 : w.heap.size < w2.heap.size := j2.lt
  have hM3 := hM2.alloc (.cells Y 74)
  have hMl := hM2.lt
  have x0 := stA_size ((n : Int) + 1) en f (rootP p) (.map (some CB))
  have x1 := stA_one ((n : Int) + 1) en f (rootP p) (.map (some CB)) rfl
  obtain ⟨X, hX⟩ : ∃ X, Hid (stA ((n : Int) + 1) en f (rootP p) (.map (some CB)) = X) := ⟨_, rfl⟩
  rw [hX.out] at x0 x1
  rw [hX.out]
  have hCB' : Hid (w.heap.size + 1 ≤ CB) := by unfold Hid; simpa using hCB
  clear H1 hCB
  go_wp2_with (first
    | (refine Su.wpl_storeV rfl rfl 74 _ _ rfl 36 szSt w2.heap.size Y 74 X x1 rfl rfl (Blk.new w2 _ _) z1 x0 ?_; intro w6 hu6 j6; have k6 := j3.upd hu6 (by omega); have b6 := below_upd b3 hu6 (Nat.le_of_lt hlt2))
    | fail)
  have hC6 := hC.below b6 hC.lt
  have hM6 := hM3.upd hu6 (by omega)
  have l6 := j6.lt
  obtain ⟨b9, hb9⟩ : ∃ b, Hid (w2.heap.size = b) := ⟨_, rfl⟩
  obtain ⟨b0, hb0⟩ : ∃ b, Hid (w.heap.size = b) := ⟨_, rfl⟩
  rw [hb9.out] at j6 l6 hlt2
  rw [hb0.out] at k6 hcl hlt2
  rw [hb9.out, hb0.out]
  have HL : Hid (∀ W', Dv.Chg w6 W' (fun k => k = c ∨ k = b0) → Blk W' b9 X 74) := fun W' h => j6.chg h (by omega)
  have hwr : IntKind.i64.wrap ((n : Int) + 1) = (n : Int) + 1 := by rw [IntKind.wrap_i64]; omega
  have s0 : Dv.Chg w6 w6.drew (fun k => k = c ∨ k = b0) := (Dv.Chg.refl _ _).drewN 1
  refine regS_in 7 (fun W' => Dv.Chg w6 W' (fun k => k = c ∨ k = b0)) Tr.mixed rfl ?_
  refine regS_take 0 24 (.agg X) rfl rfl (by kernel_rfl) (fun _ _ _ h => h) (by kernel_rfl) (fun W' hs' => Su.exec_load 74 _ rfl ⟨b9, 0, none⟩ rfl _ (by
    have h := Su.loadV_run W' 74 Tryz.isAgg74 36 szSt b9 0 X 74 (HL.out W' hs') (by omega)
    rwa [Nat.zero_add, Su.ext_all x0] at h)) s0 ?_
  refine regS_take 1 25 (.pointer (some ⟨c, 0, none⟩)) rfl rfl (by kernel_rfl) (fun _ _ _ h => h) (by kernel_rfl) (fun w hs' => by go_simp) s0 ?_
  refine regS_take 2 26 (.int .i64 (n : Int)) rfl rfl (by kernel_rfl) (fun _ _ _ h => h) (by kernel_rfl) (fun w hs' => by go_simp) s0 ?_
  refine regS_take 3 27 (.int .i64 ((n : Int) + 1)) rfl rfl (by kernel_rfl) (fun _ _ _ h => h) (by kernel_rfl) (fun w hs' => by go_simp) s0 ?_
  simp only [Act.put, List.setIfInBounds_toArray, List.set_cons_succ, List.set_cons_zero]
  refine regS_one 4 rfl (by kernel_rfl) (by kernel_rfl) (fun K hK' => ?_)
  go_wp2_with fail
  refine (Dv.raise_yes c (n : Int) ((n : Int) + 1) w6.drew hC6.drew (by omega)).mono ?_
  rintro e w7 ⟨rfl, hC7, hu7⟩
  have s1 : Dv.Chg w6 w7 (fun k => k = c ∨ k = b0) := s0.upd hu7 (Or.inl (Or.inl rfl))
  have k7 : Blk w7 b0 Y 74 := k6.drew.upd hu7 (by omega)
  have m7 : MapF Tryz.prog w7 CB 32 (pv p) := hM6.same (s1.block CB hM6.lt (by have := hCB'.out; have := hb0.out; omega))
  refine hK' _ _ s1 ?_
  clear hK' K
  try simp only [Act.put, List.setIfInBounds_toArray, List.set_cons_succ, List.set_cons_zero]
  refine regS_one 5 rfl (by kernel_rfl) (by kernel_rfl) (fun K hK' => ?_)
  refine Su.op_storeV rfl 74 (.tmp 6) (.tmp 24) rfl 36 szSt b0 Y 74 X x1 rfl rfl k7 z1 x0 ?_
  intro w8 hu8 j8
  have s2 : Dv.Chg w6 w8 (fun k => k = c ∨ k = b0) := s1.upd hu8 (Or.inl (Or.inr rfl))
  have m8 := m7.upd hu8 (by have := hCB'.out; have := hb0.out; omega)
  have C8 : Dv.Cnt w8 c ((n : Int) + 1) := hC7.upd hu8 (by omega)
  refine hK' _ _ s2 ?_
  clear hK' K
  refine regS_take 6 7 .nilIface rfl rfl (by kernel_rfl) (fun _ _ _ h => h) (by kernel_rfl) (fun w hs' => by go_simp) s2 ?_
  refine regS_end (by kernel_rfl) ?_
  try simp only [Act.put, List.setIfInBounds_toArray, List.set_cons_succ, List.set_cons_zero]
  go_wp2_with fail
  exact Su.ret_cellV2 6 7 74 rfl Tryz.isAgg74 36 szSt b0 X 74 x0 _ rfl rfl j8 rfl ⟨⟨CB, by rw [hX.out]; rfl, m8, by have := hCB'.out; omega⟩, C8, chg_then ((Dv.Chg.refl w (fun k => k = c)).below b6) s2 fun k hk h => h.elim id fun h => by have := hb0.out; omega⟩
set_option maxRecDepth 100000 in
set_option maxHeartbeats 400000 in
theorem open_ahead (d c : Nat) (O : Nat → Prop) (S : Nat → Nat → UInt8) (W : List (Nat × (Nat → UInt8))) (F : Int) (v : Value) (lf : Int) (sec : ByteArray) (n : Nat) (en : Int) (f : Nat → Bool) (p : Int → Option (Int × ByteArray)) (w : World) (hD : Dv.Dev w O d S W F v lf) (hC : Dv.Cnt w c (n : Int)) (hW : W.length ≤ 1000) (hsec : sec.size = 16) (hK : Sm.KB w)
    (hn : n < 1000000) (hOn : On S W sec (n + 1) en f p) :
    Calls Tryz.prog 15 #[.pointer (some ⟨d, 0, none⟩), .pointer (some ⟨c, 0, none⟩), .string sec] w fun e w' => (∃ VB CB, e = .returned (.tuple #[.pointer (some ⟨VB, 0, none⟩), .nilIface]) ∧ Vlt w' VB d c sec ((n : Int) + 1) en f (rootP p) CB 32 p false ∧ w.heap.size ≤ VB ∧ w.heap.size ≤ CB) ∧ Dv.Cnt w' c ((n : Int) + 1) ∧ Dv.Chg w w' (fun k => k = c) := by
  have hs' : (sec.size : Int) = 16 := by omega
  have z1 := st0_size
  have zt := zeroSt
  obtain ⟨Y, hY⟩ : ∃ Z, Hid (st0 = Z) := ⟨_, rfl⟩
  rw [hY.out] at z1 zt
  clear hY
  have hcl := hC.lt
  have HL := last_ahead d c O S W F v lf sec n en f p w hD hC hW (by omega) hK hn hOn
  clear hOn
  go_enter Tryz.func15, Tryz.ntmps15
  go_wp2_with fail
  refine HL.mono ?_
  rintro e w1 ⟨⟨CB, rfl, hM1, hCB⟩, hC1, c1⟩
  have u0 := stA_size ((n : Int) + 1) en f (rootP p) (.map (some CB))
  have u1 := stA_one ((n : Int) + 1) en f (rootP p) (.map (some CB)) rfl
  have B1 : Hid (∀ w : World, _) := buildVa' d c sec ((n : Int) + 1) en f (rootP p) CB
  obtain ⟨X, hX⟩ : ∃ X, Hid (stA ((n : Int) + 1) en f (rootP p) (.map (some CB)) = X) := ⟨_, rfl⟩
  rw [hX.out] at u0 u1 B1
  rw [hX.out]
  obtain ⟨VA, hVA⟩ : ∃ V, Hid (vaA d c sec X false = V) := ⟨_, rfl⟩
  rw [hVA.out] at B1
  go_wp2_with (first
    | (refine Su.wpl_storeV rfl rfl 74 _ _ rfl 36 szSt w1.heap.size Y 74 X u1 rfl rfl (Blk.new w1 _ _) z1 u0 ?_; intro w2 hu2 j2)
    | (refine Su.wpl_loadV rfl 74 _ rfl Tryz.isAgg74 36 szSt w1.heap.size 0 X 74 rfl j2 (by omega) ?_; rw [Su.ext_all u0])
    | (refine wpl_bld rfl 76 _ rfl #[(0, .pointer (some ⟨d, 0, none⟩)), (1, .pointer (some ⟨c, 0, none⟩)), (2, .string sec), (3, .agg X)] (by kernel_rfl) (.agg VA) (B1.out _) ?_)
    | fail)
  go_ret2
  have s2 : Below w1.heap.size w1 w2 := below_upd (Pg.below_alloc w1 _) hu2 (Nat.le_refl _)
  have c2 := c1.below s2
  have cl1 := hC1.lt
  refine ⟨⟨w2.heap.size, CB, rfl, ⟨?_, ((hM1.below s2 hM1.lt).alloc _)⟩, c2.size, hCB⟩, (hC1.below s2 cl1).alloc _, c2.alloc _⟩
  rw [hX.out, hVA.out]
  exact Blk.new w2 VA 76
set_option maxRecDepth 100000 in
set_option maxHeartbeats 400000 in
theorem tell_stuck (vb d c : Nat) (sec : ByteArray) (st : Array Value) (hs : st.size = 36) (w : World) (h : Blk w vb (vaA d c sec st true) 76) :
    Calls Tryz.prog 12 #[.pointer (some ⟨vb, 0, none⟩), .map none] w fun e w' => e = .returned (.iface 41 (.int .i64 6)) ∧ w' = w := by
  have c0 := h.cell 0
  rw [vaA_0] at c0
  have c39 := h.cell 39
  rw [vaA_39 _ _ _ _ _ hs] at c39
  have hr : Calls Tryz.prog 27 #[.pointer (some ⟨vb, 0, none⟩)] w fun e w' => e = .returned (.bool false) ∧ w' = w := by
    clear h
    go_enter Tryz.func27, Tryz.ntmps27
    go_wp2
    go_ret
    exact ⟨rfl, rfl⟩
  clear c0 c39 h
  go_enter Tryz.func12, Tryz.ntmps12
  go_wp2_with fail
  refine hr.mono ?_
  rintro e w1 ⟨rfl, rfl⟩
  go_wp2_with fail
  go_ret
  exact ⟨rfl, rfl⟩
/-- What is known behind a Tell, or a Turn, with a fuse. -/
structure Did (w w' : World) (O : Nat → Prop) (vb d c : Nat) (sec : ByteArray) (n : Nat) (y : Fz) (e : Ending) : Prop where
  e : e = .returned (errF y.b)
  st : y.b = true → ∃ st, st.size = 36 ∧ Blk w' vb (vaA d c sec st true) 76
  dev : ∃ O', y.At w' O' d ∧ ∀ k, O' k → Dv.gro O w w' k
  cnt : Dv.Cnt w' c (if y.b then (n : Int) else ((n + 1 : Nat) : Int))
  chg : Dv.Chg w w' (fun k => O k ∨ k = c ∨ k = vb)
theorem turnF_any (vb d c : Nat) (sec : ByteArray) (n : Nat) (f : Nat → Bool) (r : ByteArray) (mb nn : Nat) (p : Int → Option (Int × ByteArray)) (O : Nat → Prop) (x0 y : Fz) (w : World)
    (hV : Vlt w vb d c sec (n : Int) 1 f r mb nn p false) (hx0 : x0.b = false) (hW : x0.W = []) (hD : x0.At w O d) (hC : Dv.Cnt w c (n : Int)) (hT : Tld x0.S sec n f p)
    (hn : nn + 32 ≤ 100000) (hn1 : n < 1000000) (hsec : sec.size ≤ 300) (hO : ∀ k, O k → k < w.heap.size) (o2 : ¬ O vb) (o3 : ¬ O c) (o4 : vb ≠ c) (hK : Sm.KB w) (t : Int → Option (Int × ByteArray)) (ht : t = trn p ((n + 1 : Nat) : Int) 32)
    (hy : y = x0.all (sl (epoK sec 2) (nxF f t) t 32) ((n + 1) % 2) (Su.allT (supK sec) ((n + 1 : Nat) : Int) 2 (nxF f t) (rootP (nxP p t)))) :
    Calls Tryz.prog 10 #[.pointer (some ⟨vb, 0, none⟩)] w fun e w' => Did w w' O vb d c sec n y e := by
  subst ht
  have hp : ∀ j : Nat, j < 32 → (rd p j).2.size ≤ 200 := fun j hj => by
    unfold rd
    cases hx : p (j : Int) with
    | none => exact Nat.zero_le _
    | some x => have := (hT.pgs.some' j hj x hx).2.2.2; simpa using this
  have e1 : ((n + 1 : Nat) : Int) = (n : Int) + 1 := by omega
  have e2 : ((n : Int) + 1).toNat % 2 = (n + 1) % 2 := by omega
  have hy' : y = x0.all (sl (epoK sec (1 + 1)) (nxF f (trn p ((n : Int) + 1) 32)) (trn p ((n : Int) + 1) 32) 32) (((n : Int) + 1).toNat % 2) (Su.allT (supK sec) ((n : Int) + 1) (1 + 1) (nxF f (trn p ((n : Int) + 1) 32)) (rootP (nxP p (trn p ((n : Int) + 1) 32)))) := by
    rw [hy, e1, e2]; rfl
  cases hb : y.b with
  | true =>
    refine (turnF_bad vb d c sec (n : Int) 1 f r mb nn p O x0 y (n : Int) w hV hx0 hD hC (by omega) hn (by omega) (by omega) (by decide) (by decide) hp hsec (by rw [hW]; exact Nat.zero_le _) hy' hb hO o2 o3 o4 hK).mono ?_
    rintro e w' ⟨rfl, h2, h3, h4, h5⟩
    exact ⟨by rw [hb]; rfl, fun _ => ⟨_, stA_size _ _ _ _ _, h2⟩, h3, by rw [hb]; exact h4, h5⟩
  | false =>
    refine (turnF_good vb d c sec (n : Int) 1 f r mb nn p O x0 y (n : Int) w hV hx0 hD hC (by omega) hn (by omega) (by omega) (by decide) (by decide) hp hsec (by rw [hW]; exact Nat.zero_le _) hy' hb hO o2 o3 o4 hK).mono ?_
    rintro e w' ⟨rfl, _, h3, h4, h5⟩
    exact ⟨by rw [hb]; rfl, fun h => (by rw [hb] at h; cases h), h3, by rw [hb, e1]; exact h4, h5⟩
theorem tellF_any (vb d c : Nat) (sec : ByteArray) (n : Nat) (f : Nat → Bool) (r : ByteArray) (mb nn : Nat) (p : Int → Option (Int × ByteArray)) (m : Value) (nm : Nat) (g : Int → Option ByteArray) (O : Nat → Prop) (x0 y : Fz) (w : World)
    (hV : Vlt w vb d c sec (n : Int) 1 f r mb nn p false) (hM : MapV Tryz.prog w m nm (sv g)) (hg : ∀ i s, g i = some s → (0 ≤ i ∧ i < 32) ∧ s.size ≤ 200) (hx0 : x0.b = false) (hW : x0.W = []) (hD : x0.At w O d) (hC : Dv.Cnt w c (n : Int)) (hT : Tld x0.S sec n f p)
    (hn : nn + nm ≤ 100000) (hn1 : n < 1000000) (hsec : sec.size ≤ 300) (hO : ∀ k, O k → k < w.heap.size) (o2 : ¬ O vb) (o3 : ¬ O c) (o4 : vb ≠ c) (hK : Sm.KB w) (t : Int → Option (Int × ByteArray)) (ht : t = tel g p ((n + 1 : Nat) : Int))
    (hy : y = x0.all (sl (epoK sec 1) (nxF f t) t 32) ((n + 1) % 2) (Su.allT (supK sec) ((n + 1 : Nat) : Int) 1 (nxF f t) (rootP (nxP p t)))) :
    Calls Tryz.prog 12 #[.pointer (some ⟨vb, 0, none⟩), m] w fun e w' => Did w w' O vb d c sec n y e := by
  subst ht
  have hF : ¬ Far g := fun ⟨i, _, h2, h3⟩ => by
    obtain ⟨s, hs⟩ := Option.isSome_iff_exists.1 h2
    exact h3 (hg i s hs).1
  have hWd : ¬ Wide g := fun ⟨i, s, _, h2, h3⟩ => by have := (hg i s h2).2; omega
  have hp : ∀ j : Nat, j < 32 → (rd p j).2.size ≤ 300 := fun j hj => by
    unfold rd
    cases hx : p (j : Int) with
    | none => exact Nat.zero_le _
    | some x => have := (hT.pgs.some' j hj x hx).2.2.2; simp; omega
  have e1 : ((n + 1 : Nat) : Int) = (n : Int) + 1 := by omega
  have e2 : ((n : Int) + 1).toNat % 2 = (n + 1) % 2 := by omega
  have hy' : y = x0.all (sl (epoK sec 1) (nxF f (tel g p ((n : Int) + 1))) (tel g p ((n : Int) + 1)) 32) (((n : Int) + 1).toNat % 2) (Su.allT (supK sec) ((n : Int) + 1) 1 (nxF f (tel g p ((n : Int) + 1))) (rootP (nxP p (tel g p ((n : Int) + 1))))) := by
    rw [hy, e1, e2]
  cases hb : y.b with
  | true =>
    refine (tellF_bad vb d c sec (n : Int) 1 f r mb nn p m nm g O x0 y (n : Int) w hV hM (fun i s hs => by have := (hg i s hs).2; omega) hF hWd hx0 hD hC (by omega) hn (by omega) (by omega) (by decide) (by decide) hp hsec (by rw [hW]; exact Nat.zero_le _) hy' hb hO o2 o3 o4 hK).mono ?_
    rintro e w' ⟨rfl, h2, h3, h4, h5⟩
    exact ⟨by rw [hb]; rfl, fun _ => ⟨_, stA_size _ _ _ _ _, h2⟩, h3, by rw [hb]; exact h4, h5⟩
  | false =>
    refine (tellF_good vb d c sec (n : Int) 1 f r mb nn p m nm g O x0 y (n : Int) w hV hM (fun i s hs => by have := (hg i s hs).2; omega) hF hWd hx0 hD hC (by omega) hn (by omega) (by omega) (by decide) (by decide) hp hsec (by rw [hW]; exact Nat.zero_le _) hy' hb hO o2 o3 o4 hK).mono ?_
    rintro e w' ⟨rfl, _, h3, h4, h5⟩
    exact ⟨by rw [hb]; rfl, fun h => (by rw [hb] at h; cases h), h3, by rw [hb, e1]; exact h4, h5⟩
end Go.Proofs.YtkapkphhceknfaaGreatDoor.Vt
namespace Go.Proofs.YtkapkphhceknfaaGreatDoor.Tr
open Go.RowKit Go.Shelf
/-- What Verify says. -/
def verP (m : ByteArray) (k : Int) (p : Nat → ByteArray) (n : Nat) : Bool := decide (m.size = 16) && (decide (0 ≤ k ∧ k < 32) && (decide (n = 5) && marksB p n))
def verB (root m : ByteArray) (k : Int) (p : Nat → ByteArray) (n : Nat) : Bool := verP m k p n && ((climb m k.toNat p 5).toList == root.toList)
theorem climb_len (m : ByteArray) (k : Nat) (p : Nat → ByteArray) (h : m.size = 16) (t : Nat) : (climb m k p t).size = 16 := by
  cases t with
  | zero => exact h
  | succ t => unfold climb; split <;> exact mk2_size _ _
theorem climb_even (m : ByteArray) (k : Nat) (p : Nat → ByteArray) (t : Nat) (h : k / 2 ^ t % 2 = 0) : mk2 (climb m k p t) (p t) = climb m k p (t + 1) := by
  show _ = if k / 2 ^ t % 2 = 0 then _ else _
  rw [if_pos h]
theorem climb_odd (m : ByteArray) (k : Nat) (p : Nat → ByteArray) (t : Nat) (h : ¬ k / 2 ^ t % 2 = 0) : mk2 (p t) (climb m k p t) = climb m k p (t + 1) := by
  show _ = if k / 2 ^ t % 2 = 0 then _ else _
  rw [if_neg h]
end Go.Proofs.YtkapkphhceknfaaGreatDoor.Tr
