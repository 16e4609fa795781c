/-
  Part of the proof: plain facts: what a fuse leaves of what is told, and what a crash leaves of that.
-/
import Derived.Test.YtkapkphhceknfaaGreatDoorB41
import Derived.Test.YtkapkphhceknfaaGreatDoorB49
namespace Go.Proofs.YtkapkphhceknfaaGreatDoor.Vt
open Go.RowKit
theorem Fz.wr_bad {x : Fz} (h : x.b = true) (k : Nat) (s : ByteArray) : x.wr k s = x := by unfold Fz.wr; rw [if_pos h]
theorem Fz.sy_bad {x : Fz} (h : x.b = true) : x.sy = x := by unfold Fz.sy; rw [if_pos h]
theorem Fz.wrs_bad {x : Fz} (h : x.b = true) : ∀ l, x.wrs l = x
  | [] => rfl
  | z :: l => by
    show (x.wr z.1 z.2).wrs l = x
    rw [Fz.wr_bad h]; exact Fz.wrs_bad h l
theorem wl_cons (z : Nat × ByteArray) (l : List (Nat × ByteArray)) : wl (z :: l) = (z.1, Dv.bAt z.2) :: wl l := rfl
theorem Fz.wrs_case : ∀ (l : List (Nat × ByteArray)) (x : Fz), x.b = false →
    (∃ i, (x.wrs l).b = true ∧ (x.wrs l).S = x.S ∧ (x.wrs l).W = x.W ++ wl (l.take i)) ∨ ((x.wrs l).b = false ∧ (x.wrs l).S = x.S ∧ (x.wrs l).W = x.W ++ wl l)
  | [], x, h => Or.inr ⟨h, rfl, by show x.W = x.W ++ []; simp⟩
  | z :: l, x, h => by
    by_cases h0 : x.F = 0
    · have e : x.wr z.1 z.2 = ⟨x.S, x.W, x.F, true⟩ := by unfold Fz.wr; rw [h, h0]; simp
      have e2 : x.wrs (z :: l) = ⟨x.S, x.W, x.F, true⟩ := by
        show (x.wr z.1 z.2).wrs l = _
        rw [e]; exact Fz.wrs_bad rfl l
      rw [e2]
      exact Or.inl ⟨0, rfl, rfl, by show x.W = x.W ++ []; simp⟩
    · have e : x.wr z.1 z.2 = ⟨x.S, x.W ++ [(z.1, Dv.bAt z.2)], Dv.burnt x.F, false⟩ := by unfold Fz.wr; rw [h]; simp [h0]
      have ih := Fz.wrs_case l (x.wr z.1 z.2) (by rw [e])
      have hS : (x.wr z.1 z.2).S = x.S := by rw [e]
      have hW : (x.wr z.1 z.2).W = x.W ++ [(z.1, Dv.bAt z.2)] := by rw [e]
      rw [hS, hW] at ih
      rcases ih with ⟨i, h1, h2, h3⟩ | ⟨h1, h2, h3⟩
      · refine Or.inl ⟨i + 1, h1, h2, ?_⟩
        show ((x.wr z.1 z.2).wrs l).W = _
        rw [h3, List.take_succ_cons, wl_cons, List.append_assoc]; rfl
      · refine Or.inr ⟨h1, h2, ?_⟩
        show ((x.wr z.1 z.2).wrs l).W = _
        rw [h3, wl_cons, List.append_assoc]; rfl
theorem Fz.sy_case (x : Fz) (h : x.b = false) : x.sy = ⟨x.S, x.W, x.F, true⟩ ∨ (x.sy.b = false ∧ x.sy.S = sureS x.S x.W ∧ x.sy.W = []) := by
  by_cases h0 : x.F = 0
  · exact Or.inl (by unfold Fz.sy; rw [h, h0]; simp)
  · refine Or.inr ?_
    have e : x.sy = ⟨Dv.loseS x.S x.W (fun _ => true) x.W.length, [], Dv.burnt x.F, false⟩ := by unfold Fz.sy; rw [h]; simp [h0]
    rw [e]
    exact ⟨rfl, rfl, rfl⟩
/-- What is left of all steps, by where the fuse ended them. -/
theorem Fz.all_case (x : Fz) (l : List (Nat × ByteArray)) (at' : Nat) (top : ByteArray) (h : x.b = false) (hW : x.W = []) :
    ((x.all l at' top).b = true ∧ (x.all l at' top).S = x.S ∧ ∃ i, (x.all l at' top).W = wl (l.take i)) ∨
    ((x.all l at' top).b = true ∧ (x.all l at' top).S = sureS x.S (wl l) ∧ ((x.all l at' top).W = [] ∨ (x.all l at' top).W = [(at', Dv.bAt top)])) ∨
    ((x.all l at' top).b = false ∧ (x.all l at' top).S = sureS (sureS x.S (wl l)) [(at', Dv.bAt top)] ∧ (x.all l at' top).W = []) := by
  have e : x.all l at' top = (((x.wrs l).sy).wr at' top).sy := rfl
  rw [e]
  rcases Fz.wrs_case l x h with ⟨i, h1, h2, h3⟩ | ⟨h1, h2, h3⟩
  · rw [Fz.sy_bad h1, Fz.wr_bad h1, Fz.sy_bad h1]
    exact Or.inl ⟨h1, h2, i, by rw [h3, hW]; rfl⟩
  · rw [hW, List.nil_append] at h3
    generalize x.wrs l = y at *
    rcases Fz.sy_case y h1 with e1 | ⟨k1, k2, k3⟩
    · rw [e1, Fz.wr_bad rfl, Fz.sy_bad rfl]
      exact Or.inl ⟨rfl, h2, l.length, by rw [List.take_length]; exact h3⟩
    · rw [h2, h3] at k2
      generalize y.sy = z at *
      by_cases h0 : z.F = 0
      · have e2 : z.wr at' top = ⟨z.S, z.W, z.F, true⟩ := by unfold Fz.wr; rw [k1, h0]; simp
        rw [e2, Fz.sy_bad rfl]
        exact Or.inr (Or.inl ⟨rfl, k2, Or.inl k3⟩)
      · have e2 : z.wr at' top = ⟨z.S, [(at', Dv.bAt top)], Dv.burnt z.F, false⟩ := by unfold Fz.wr; rw [k1, k3]; simp [h0]
        rw [e2]
        rcases Fz.sy_case ⟨z.S, [(at', Dv.bAt top)], Dv.burnt z.F, false⟩ rfl with e3 | ⟨q1, q2, q3⟩
        · rw [e3]
          exact Or.inr (Or.inl ⟨rfl, k2, Or.inr rfl⟩)
        · exact Or.inr (Or.inr ⟨q1, by rw [q2]; show sureS z.S _ = _; rw [k2], q3⟩)
theorem lose_miss (S : Nat → Nat → UInt8) (W : List (Nat × (Nat → UInt8))) (kp : Nat → Bool) (b : Nat) (h : ∀ x ∈ W, x.1 ≠ b) : ∀ i, Dv.loseS S W kp i b = S b
  | 0 => rfl
  | i + 1 => by
    have ih := lose_miss S W kp b h i
    cases hw : W[i]? with
    | none => simp only [Dv.loseS, hw]; exact ih
    | some x =>
      cases hk : kp i with
      | false => rw [Dv.loseS_no hk]; exact ih
      | true =>
        rw [Dv.loseS_yes hw hk]
        unfold Dv.putS
        rw [if_neg (Ne.symm (h x (List.mem_of_getElem? hw)))]; exact ih
theorem sl_mem {key : ByteArray} {f : Nat → Bool} {t : Int → Option (Int × ByteArray)} : ∀ {k : Nat} {x : Nat × ByteArray}, x ∈ sl key f t k → ∃ id : Nat, id < k ∧ (t (id : Int)).isSome = true ∧ x.1 = plc f id
  | 0, x, h => by cases h
  | k + 1, x, h => by
    cases ht : t (k : Int) with
    | none =>
      rw [sl_none ht] at h
      obtain ⟨id, h1, h2, h3⟩ := sl_mem h
      exact ⟨id, by omega, h2, h3⟩
    | some y =>
      rw [sl_some ht] at h
      rcases List.mem_append.1 h with h | h
      · obtain ⟨id, h1, h2, h3⟩ := sl_mem h
        exact ⟨id, by omega, h2, h3⟩
      · rw [List.mem_singleton] at h
        subst h
        exact ⟨k, by omega, by rw [ht]; rfl, rfl⟩
/-- All that a state reads is as it was. -/
structure Kp (S S' : Nat → Nat → UInt8) (f : Nat → Bool) : Prop where
  sup : ∀ b, b < 2 → S' b = S b
  pg : ∀ id, S' (plc f id) = S (plc f id)
theorem plc_new {f : Nat → Bool} {t : Int → Option (Int × ByteArray)} {id j : Nat} (h : (t (id : Int)).isSome = true) : plc (nxF f t) id ≠ plc f j := by
  have e : nxF f t id = !f id := by unfold nxF; rw [if_pos h]
  unfold plc
  rw [e]
  intro h2
  by_cases hij : id = j
  · subst hij; revert h2; cases f id <;> simp
  · revert h2; split <;> split <;> omega
theorem sl_keep {key : ByteArray} {f : Nat → Bool} {t : Int → Option (Int × ByteArray)} {x : Nat × ByteArray} (h : x ∈ sl key (nxF f t) t 32) : (∀ b, b < 2 → x.1 ≠ b) ∧ ∀ j, x.1 ≠ plc f j := by
  obtain ⟨id, _, h2, h3⟩ := sl_mem h
  rw [h3]
  exact ⟨fun b hb => by have := plc_ge (nxF f t) id; omega, fun j => plc_new h2⟩
theorem wl_mem {l : List (Nat × ByteArray)} {x : Nat × (Nat → UInt8)} (h : x ∈ wl l) : ∃ y ∈ l, x.1 = y.1 := by
  unfold wl at h
  obtain ⟨y, h1, rfl⟩ := List.mem_map.1 h
  exact ⟨y, h1, rfl⟩
theorem kp_of {S : Nat → Nat → UInt8} {key : ByteArray} {f : Nat → Bool} {t : Int → Option (Int × ByteArray)} {W : List (Nat × (Nat → UInt8))} (h : ∀ x ∈ W, ∃ y ∈ sl key (nxF f t) t 32, x.1 = y.1) (kp : Nat → Bool) (i : Nat) : Kp S (Dv.loseS S W kp i) f :=
  ⟨fun b hb => lose_miss S W kp b (fun x hx => by obtain ⟨y, h1, h2⟩ := h x hx; rw [h2]; exact (sl_keep h1).1 b hb) i,
   fun j => lose_miss S W kp (plc f j) (fun x hx => by obtain ⟨y, h1, h2⟩ := h x hx; rw [h2]; exact (sl_keep h1).2 j) i⟩
/-- What a crash leaves: what was told ahead, as it was; or all of what was being told. -/
theorem crash_case (x y : Fz) (sec : ByteArray) (n : Nat) (en : Int) (f : Nat → Bool) (p t : Int → Option (Int × ByteArray)) (hb : x.b = false) (hW : x.W = []) (kp : Nat → Bool)
    (hy : y = x.all (sl (epoK sec en) (nxF f t) t 32) ((n + 1) % 2) (Su.allT (supK sec) ((n + 1 : Nat) : Int) en (nxF f t) (rootP (nxP p t)))) :
    (y.b = true ∧ Kp x.S (Dv.loseS y.S y.W kp y.W.length) f) ∨ Dv.loseS y.S y.W kp y.W.length = nxS x.S sec (n + 1) en f p t := by
  have hc := Fz.all_case x (sl (epoK sec en) (nxF f t) t 32) ((n + 1) % 2) (Su.allT (supK sec) ((n + 1 : Nat) : Int) en (nxF f t) (rootP (nxP p t))) hb hW
  rw [← hy] at hc
  have hnx : nxS x.S sec (n + 1) en f p t = sureS (sureS x.S (wl (sl (epoK sec en) (nxF f t) t 32))) [((n + 1) % 2, Dv.bAt (Su.allT (supK sec) ((n + 1 : Nat) : Int) en (nxF f t) (rootP (nxP p t))))] := rfl
  rw [hnx]
  clear hy hnx
  have hk : Kp x.S (sureS x.S (wl (sl (epoK sec en) (nxF f t) t 32))) f := by
    unfold sureS
    exact kp_of (S := x.S) (key := epoK sec en) (f := f) (t := t) (W := wl (sl (epoK sec en) (nxF f t) t 32)) (fun z hz => wl_mem hz) (fun _ => true) (wl (sl (epoK sec en) (nxF f t) t 32)).length
  have e0 : ∀ S' : Nat → Nat → UInt8, Dv.loseS S' [] kp ([] : List (Nat × (Nat → UInt8))).length = S' := fun _ => rfl
  have e1 : ∀ (S' : Nat → Nat → UInt8) (q : Nat × (Nat → UInt8)), Dv.loseS S' [q] kp [q].length = if kp 0 = true then sureS S' [q] else S' := fun S' q => by
    show Dv.loseS S' [q] kp 1 = _
    cases hq : kp 0 with
    | true => rw [Dv.loseS_yes rfl hq, if_pos rfl]; rfl
    | false => rw [Dv.loseS_no hq, if_neg (by decide)]; rfl
  generalize Su.allT (supK sec) ((n + 1 : Nat) : Int) en (nxF f t) (rootP (nxP p t)) = top at *
  rcases hc with ⟨h1, h2, i, h3⟩ | ⟨h1, h2, h3 | h3⟩ | ⟨h1, h2, h3⟩
  · refine Or.inl ⟨h1, ?_⟩
    rw [h2]
    exact kp_of (key := epoK sec en) (t := t) (fun z hz => by
      rw [h3] at hz
      obtain ⟨y', h4, h5⟩ := wl_mem hz
      exact ⟨y', List.mem_of_mem_take h4, h5⟩) _ _
  · refine Or.inl ⟨h1, ?_⟩
    rw [h2, h3, e0]
    exact hk
  · rw [h2, h3, e1]
    cases hq : kp 0 with
    | true => exact Or.inr (if_pos rfl)
    | false => exact Or.inl ⟨h1, by rw [if_neg (by decide)]; exact hk⟩
  · rw [h2, h3, e0]
    exact Or.inr rfl
theorem crash_good (x y : Fz) (sec : ByteArray) (n : Nat) (en : Int) (f : Nat → Bool) (p t : Int → Option (Int × ByteArray)) (hb : x.b = false) (hW : x.W = []) (kp : Nat → Bool)
    (hy : y = x.all (sl (epoK sec en) (nxF f t) t 32) ((n + 1) % 2) (Su.allT (supK sec) ((n + 1 : Nat) : Int) en (nxF f t) (rootP (nxP p t)))) (hyb : y.b = false) :
    Dv.loseS y.S y.W kp y.W.length = nxS x.S sec (n + 1) en f p t := by
  rcases crash_case x y sec n en f p t hb hW kp hy with ⟨h, _⟩ | h
  · rw [hyb] at h; cases h
  · exact h
section
variable {S S' : Nat → Nat → UInt8} {sec : ByteArray} {n : Nat} {en : Int} {f : Nat → Bool} {p t : Int → Option (Int × ByteArray)}
theorem SupAt.eq {b : Nat} {c : Option Int} (hs : S' b = S b) (h : SupAt S [] sec b c) : SupAt S' [] sec b c := by
  unfold SupAt at *
  rw [read_nil, hs]
  rw [read_nil] at h
  exact h
theorem Kp.on (hk : Kp S S' f) (h : On S [] sec n en f p) : On S' [] sec n en f p :=
  ⟨h.n0, h.n1, h.e0, h.e1, by rw [read_nil, hk.sup _ (by omega)]; exact h.sup, fun id hi x hx => by rw [read_nil, hk.pg]; exact h.some' id hi x hx, fun id hi hx => by rw [read_nil, hk.pg]; exact h.none' id hi hx, h.keys⟩
/-- Behind what is told the other Super is no later one. -/
theorem nx_sup (h : Tld S sec n f p) : ∃ x, SupAt (nxS S sec (n + 1) en f p t) [] sec ((n + 1 + 1) % 2) x ∧ x ≠ some ((n + 1 + 1 : Nat) : Int) := by
  have hb : (n + 1 + 1) % 2 ≠ (n + 1) % 2 := by omega
  have he : (n + 1 + 1) % 2 = n % 2 := by omega
  have hS : ∀ x, SupAt S [] sec (n % 2) x → SupAt (nxS S sec (n + 1) en f p t) [] sec ((n + 1 + 1) % 2) x := fun x hx => by
    unfold SupAt at *
    rw [show Dv.readF (nxS S sec (n + 1) en f p t) [] ((n + 1 + 1) % 2) = Dv.readF S [] (n % 2) from by rw [read_nil, read_nil, nxS_sup (by omega) hb, he]]
    exact hx
  by_cases h0 : n = 0
  · subst h0
    exact ⟨none, hS _ (h.new rfl).1, fun h => by cases h⟩
  · exact ⟨some (n : Int), hS _ (on_sup (h.on (by omega))), fun hc => by injection hc with hc; omega⟩
theorem pgs_all (h : Tld S sec n f p) (hall : ∀ id : Nat, id < 32 → (t (id : Int)).isSome = true) (ht : ∀ id : Nat, id < 32 → ∀ x, t (id : Int) = some x → 1 ≤ x.1 ∧ x.1 ≤ 1099511627776 ∧ x.2.size ≤ 200) (hk : ∀ i, kOk i → (t i).isSome = true → 0 ≤ i ∧ i < 32) : Pgs (nxS S sec (n + 1) en f p t) sec en (nxF f t) (nxP p t) := by
  refine ⟨fun id hi x hx => ?_, fun id hi hx => ?_, fun i hi hx => ?_⟩
  · obtain ⟨y, hy⟩ := Option.isSome_iff_exists.1 (hall id hi)
    have e : y = x := by unfold nxP at hx; rw [hy] at hx; simpa using hx
    subst e
    exact ⟨by rw [nxS_told hi hy]; rfl, ht id hi y hy⟩
  · obtain ⟨y, hy⟩ := Option.isSome_iff_exists.1 (hall id hi)
    unfold nxP at hx; rw [hy] at hx; simp at hx
  · unfold nxP at hx
    cases hy : t i with
    | some y => exact hk i hi (by rw [hy]; rfl)
    | none => rw [hy] at hx; exact h.pgs.keys i hi (by simpa using hx)
theorem nx_on_turn (h : Tld S sec n f p) (hn : n < 1000000) (e0 : 1 ≤ en) (e1 : en ≤ 1099511627776) (hall : ∀ id : Nat, id < 32 → (t (id : Int)).isSome = true) (ht : ∀ id : Nat, id < 32 → ∀ x, t (id : Int) = some x → 1 ≤ x.1 ∧ x.1 ≤ 1099511627776 ∧ x.2.size ≤ 200) (hk : ∀ i, kOk i → (t i).isSome = true → 0 ≤ i ∧ i < 32) : On (nxS S sec (n + 1) en f p t) [] sec (n + 1) en (nxF f t) (nxP p t) :=
  (pgs_all h hall ht hk).on (by omega) (by omega) e0 e1 (by rw [nxS_top]; rfl)
theorem nx_on_tell (h : Tld S sec n f p) (hn : n < 1000000) (ht : ∀ id : Nat, id < 32 → ∀ x, t (id : Int) = some x → 1 ≤ x.1 ∧ x.1 ≤ 1099511627776 ∧ x.2.size ≤ 200) (hk : ∀ i, kOk i → (t i).isSome = true → 0 ≤ i ∧ i < 32) : On (nxS S sec (n + 1) 1 f p t) [] sec (n + 1) 1 (nxF f t) (nxP p t) :=
  (h.pgs.told ht hk).on (by omega) (by omega) (by decide) (by decide) (by rw [nxS_top]; rfl)
end
theorem open_kp (d c : Nat) (O : Nat → Prop) (S S' : Nat → Nat → UInt8) (v : Value) (lf : Int) (sec : ByteArray) (n : Nat) (f : Nat → Bool) (p : Int → Option (Int × ByteArray)) (w : World) (hD : Dv.Dev w O d S' [] (-1) v lf) (hC : Dv.Cnt w c (n : Int)) (hsec : sec.size = 16) (hK : Sm.KB w) (hT : Tld S sec n f p) (hk : Kp S S' f) :
    Calls Tryz.prog 15 #[.pointer (some ⟨d, 0, none⟩), .pointer (some ⟨c, 0, none⟩), .string sec] w fun e w' => (∃ VB CB n' f' r, e = .returned (.tuple #[.pointer (some ⟨VB, 0, none⟩), .nilIface]) ∧ Vlt w' VB d c sec (n : Int) 1 f' r CB n' p false ∧ w.heap.size ≤ VB ∧ n' ≤ 32) ∧ Below w.heap.size w w' := by
  by_cases h0 : n = 0
  · subst h0
    obtain ⟨_, h1, rfl⟩ := hT.new rfl
    have h1' : SupAt S' [] sec 1 none := SupAt.eq (hk.sup 1 (by decide)) h1
    refine (open_0 d c O S' [] (-1) v lf sec w hD hC (by decide) hsec hK h1').mono ?_
    rintro e w' ⟨⟨VB, CB, rfl, hV, h2, _⟩, g⟩
    exact ⟨⟨VB, CB, _, _, _, rfl, hV, h2, by omega⟩, g⟩
  · obtain ⟨x, hx, hx'⟩ := hT.old
    refine (open_some d c O S' [] (-1) v lf sec n x 1 f p w hD hC (by decide) hsec hK (SupAt.eq (hk.sup _ (by omega)) hx) (fun e => by have := hx' _ e; omega) (hk.on (hT.on (by omega)))).mono ?_
    rintro e w' ⟨⟨VB, CB, rfl, hV, h2, _⟩, g⟩
    exact ⟨⟨VB, CB, _, _, _, rfl, hV, h2, by omega⟩, g⟩
end Go.Proofs.YtkapkphhceknfaaGreatDoor.Vt
