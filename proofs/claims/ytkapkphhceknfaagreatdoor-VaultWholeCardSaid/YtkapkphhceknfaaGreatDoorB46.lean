/-
  Part of the proof: plain facts: what stands on the device behind a Tell.
  Part of the proof: the keep package's pick, all, pages are walked.
  Part of the proof: a Tell, and what is known of the device behind it.
-/
import Derived.Test.YtkapkphhceknfaaGreatDoorB45
import Derived.Test.YtkapkphhceknfaaGreatDoorB41
namespace Go.Proofs.YtkapkphhceknfaaGreatDoor.Vt
open Go.RowKit
theorem lose_read (S : Nat → Nat → UInt8) (W : List (Nat × (Nat → UInt8))) : ∀ i, i ≤ W.length → ∀ k, Dv.loseS S W (fun _ => true) i k = Dv.readF S (W.take i) k
  | 0, _, k => rfl
  | i + 1, hi, k => by
    have hw : W[i]? = some W[i] := List.getElem?_eq_getElem (by omega)
    rw [Dv.loseS_yes hw rfl, List.take_add_one, hw]
    show Dv.putS _ _ _ k = Dv.readF S (W.take i ++ [W[i]]) k
    rw [Dv.readF_snoc]
    unfold Dv.putS
    by_cases e : k = W[i].1
    · rw [if_pos e, if_pos e.symm]
    · rw [if_neg e, if_neg (Ne.symm e)]; exact lose_read S W i (by omega) k
theorem sure_read (S : Nat → Nat → UInt8) (W : List (Nat × (Nat → UInt8))) (k : Nat) : sureS S W k = Dv.readF S W k := by
  unfold sureS; rw [lose_read S W W.length (Nat.le_refl _) k, List.take_length]
theorem read_nil (S : Nat → Nat → UInt8) (k : Nat) : Dv.readF S [] k = S k := rfl
theorem plc_inj {f : Nat → Bool} {a b : Nat} (h : plc f a = plc f b) : a = b := by
  unfold plc at h; revert h; split <;> split <;> omega
theorem read_wl (S : Nat → Nat → UInt8) (l : List (Nat × ByteArray)) (x : Nat × ByteArray) (b : Nat) : Dv.readF S (wl (l ++ [x])) b = if x.1 = b then Dv.bAt x.2 else Dv.readF S (wl l) b := by
  have : wl (l ++ [x]) = wl l ++ [(x.1, Dv.bAt x.2)] := by unfold wl; simp
  rw [this, Dv.readF_snoc]
theorem sl_miss (S : Nat → Nat → UInt8) (key : ByteArray) (f : Nat → Bool) (t : Int → Option (Int × ByteArray)) (b : Nat) : ∀ k : Nat, (∀ id : Nat, id < k → (t (id : Int)).isSome = true → plc f id ≠ b) → Dv.readF S (wl (sl key f t k)) b = S b
  | 0, _ => rfl
  | k + 1, h => by
    have ih := sl_miss S key f t b k fun id hid => h id (by omega)
    cases hx : t (k : Int) with
    | none => rw [sl_none hx]; exact ih
    | some x => rw [sl_some hx, read_wl, if_neg (h k (by omega) (by rw [hx]; rfl))]; exact ih
theorem sl_hit (S : Nat → Nat → UInt8) (key : ByteArray) (f : Nat → Bool) (t : Int → Option (Int × ByteArray)) (id : Nat) (x : Int × ByteArray) (hx : t (id : Int) = some x) : ∀ k : Nat, id < k → Dv.readF S (wl (sl key f t k)) (plc f id) = Dv.bAt (Pg.sealT key (id : Int) x.1 x.2)
  | 0, h => by omega
  | k + 1, h => by
    by_cases e : id = k
    · subst e; rw [sl_some hx, read_wl, if_pos rfl]
    · have ih := sl_hit S key f t id x hx k (by omega)
      cases hy : t (k : Int) with
      | none => rw [sl_none hy]; exact ih
      | some y => rw [sl_some hy, read_wl, if_neg (fun h => e (plc_inj h).symm)]; exact ih
/-- The pages stand on the device. -/
structure Pgs (S : Nat → Nat → UInt8) (sec : ByteArray) (en : Int) (f : Nat → Bool) (p : Int → Option (Int × ByteArray)) : Prop where
  some' : ∀ id : Nat, id < 32 → ∀ x, p (id : Int) = some x → sb 256 (S (plc f id)) = pad (Pg.sealT (epoK sec en) (id : Int) x.1 x.2) ∧ 1 ≤ x.1 ∧ x.1 ≤ 1099511627776 ∧ x.2.size ≤ 200
  none' : ∀ id : Nat, id < 32 → p (id : Int) = none → begins (sb 256 (S (plc f id))) = true
  keys : ∀ i, kOk i → (p i).isSome = true → 0 ≤ i ∧ i < 32
/-- What stands behind a Tell. -/
def nxS (S : Nat → Nat → UInt8) (sec : ByteArray) (m : Nat) (en : Int) (f : Nat → Bool) (p t : Int → Option (Int × ByteArray)) : Nat → Nat → UInt8 :=
  sureS (sureS S (wl (sl (epoK sec en) (nxF f t) t 32))) [(m % 2, Dv.bAt (Su.allT (supK sec) (m : Int) en (nxF f t) (rootP (nxP p t))))]
section
variable {S : Nat → Nat → UInt8} {sec : ByteArray} {m : Nat} {en : Int} {f : Nat → Bool} {p t : Int → Option (Int × ByteArray)}
theorem nxS_top : nxS S sec m en f p t (m % 2) = Dv.bAt (Su.allT (supK sec) (m : Int) en (nxF f t) (rootP (nxP p t))) := by
  unfold nxS; rw [sure_read]
  show (if m % 2 = m % 2 then _ else _) = _
  rw [if_pos rfl]
theorem nxS_other {b : Nat} (h : b ≠ m % 2) : nxS S sec m en f p t b = Dv.readF S (wl (sl (epoK sec en) (nxF f t) t 32)) b := by
  unfold nxS; rw [sure_read]
  show (if m % 2 = b then _ else sureS S _ b) = _
  rw [if_neg (Ne.symm h), sure_read]
theorem nxF_told {id : Nat} {x : Int × ByteArray} (h : t (id : Int) = some x) : nxF f t id = !f id := by unfold nxF; rw [h]; rfl
theorem nxF_not {id : Nat} (h : t (id : Int) = none) : nxF f t id = f id := by unfold nxF; rw [h]; rfl
theorem plc_congr {f g : Nat → Bool} {id : Nat} (h : f id = g id) : plc f id = plc g id := by unfold plc; rw [h]
theorem nxS_told {id : Nat} {x : Int × ByteArray} (hi : id < 32) (h : t (id : Int) = some x) : nxS S sec m en f p t (plc (nxF f t) id) = Dv.bAt (Pg.sealT (epoK sec en) (id : Int) x.1 x.2) := by
  rw [nxS_other (by have := plc_ge (nxF f t) id; omega)]
  exact sl_hit S _ _ t id x h 32 hi
theorem nxS_not {id : Nat} (h : t (id : Int) = none) : nxS S sec m en f p t (plc (nxF f t) id) = S (plc f id) := by
  rw [nxS_other (by have := plc_ge (nxF f t) id; omega), sl_miss, plc_congr (nxF_not h)]
  intro k _ hs e
  have := plc_inj e
  subst this
  rw [h] at hs; cases hs
theorem nxS_sup {b : Nat} (hb : b < 2) (h : b ≠ m % 2) : nxS S sec m en f p t b = S b := by
  rw [nxS_other h, sl_miss]
  intro k _ _ e
  have := plc_ge (nxF f t) k
  omega
/-- The pages stand there behind a Tell. -/
theorem Pgs.told (h : Pgs S sec en f p) (ht : ∀ id : Nat, id < 32 → ∀ x, t (id : Int) = some x → 1 ≤ x.1 ∧ x.1 ≤ 1099511627776 ∧ x.2.size ≤ 200) (hk : ∀ i, kOk i → (t i).isSome = true → 0 ≤ i ∧ i < 32) : Pgs (nxS S sec m en f p t) sec en (nxF f t) (nxP p t) := by
  refine ⟨fun id hi x hx => ?_, fun id hi hx => ?_, fun i hi hx => ?_⟩
  · cases hy : t (id : Int) with
    | some y =>
      have e : y = x := by unfold nxP at hx; rw [hy] at hx; simpa using hx
      subst e
      exact ⟨by rw [nxS_told hi hy]; rfl, ht id hi y hy⟩
    | none =>
      have e : p (id : Int) = some x := by unfold nxP at hx; rw [hy] at hx; simpa using hx
      rw [nxS_not hy]
      exact h.some' id hi x e
  · cases hy : t (id : Int) with
    | some y => unfold nxP at hx; rw [hy] at hx; simp at hx
    | none =>
      have e : p (id : Int) = none := by unfold nxP at hx; rw [hy] at hx; simpa using hx
      rw [nxS_not hy]
      exact h.none' id hi e
  · unfold nxP at hx
    cases hy : t i with
    | some y => exact hk i hi (by rw [hy]; rfl)
    | none => rw [hy] at hx; exact h.keys i hi (by simpa using hx)
theorem Pgs.on (h : Pgs S sec en f p) {n : Nat} (n0 : 1 ≤ n) (n1 : n ≤ 1099511627776) (e0 : 1 ≤ en) (e1 : en ≤ 1099511627776) (hs : sb 256 (S (n % 2)) = pad (Su.allT (supK sec) (n : Int) en f (rootP p))) : On S [] sec n en f p :=
  ⟨n0, n1, e0, e1, hs, h.some', h.none', h.keys⟩
theorem on_sup {n : Nat} (h : On S [] sec n en f p) : SupAt S [] sec (n % 2) (some (n : Int)) := by
  have n0 := h.n0
  have hpar := all_par (supK sec) (n : Int) en f (rootP p) (supK_size sec) (by unfold Su.okN; rw [decide_eq_true (by omega), decide_eq_true (by have := h.n1; omega)]; rfl) (by unfold Su.okN; rw [decide_eq_true h.e0, decide_eq_true h.e1]; rfl) (rootP_size p)
  rw [← h.sup] at hpar
  exact ⟨hpar.1, en, f, rootP p, hpar.2⟩
/-- A new device. -/
theorem pgs_new (sec : ByteArray) : Pgs (fun _ _ => 0) sec 1 (fun _ => false) (fun _ => none) :=
  ⟨fun id _ x hx => (by cases hx), fun id _ _ => (by decide +kernel : begins zS = true), fun i _ hx => (by cases hx)⟩
theorem sup_new (sec : ByteArray) (b : Nat) : SupAt (fun _ _ => 0) [] sec b none := (par_zS (supK_size sec)).1
/-- All that is known of the device behind m Tells. -/
structure Tld (S : Nat → Nat → UInt8) (sec : ByteArray) (n : Nat) (f : Nat → Bool) (p : Int → Option (Int × ByteArray)) : Prop where
  pgs : Pgs S sec 1 f p
  sup : 1 ≤ n → sb 256 (S (n % 2)) = pad (Su.allT (supK sec) (n : Int) 1 f (rootP p))
  old : ∃ x, SupAt S [] sec ((n + 1) % 2) x ∧ ∀ c, x = some c → c < (n : Int)
  new : n = 0 → SupAt S [] sec 0 none ∧ SupAt S [] sec 1 none ∧ p = fun _ => none
  n1 : n ≤ 1000000
  low : ∀ b, 2 ≤ b → b < 66 → Pg.verN (sb 256 (S b)) ≤ (n : Int)
theorem tld_new (sec : ByteArray) : Tld (fun _ _ => 0) sec 0 (fun _ => false) (fun _ => none) :=
  ⟨pgs_new sec, fun h => absurd h (by decide), ⟨none, sup_new sec _, fun c h => (by cases h)⟩, fun _ => ⟨sup_new sec 0, sup_new sec 1, rfl⟩, by decide, fun _ _ _ => by decide +kernel⟩
theorem Tld.on {n : Nat} (h : Tld S sec n f p) (hn : 1 ≤ n) : On S [] sec n 1 f p := h.pgs.on hn (by have := h.n1; omega) (by decide) (by decide) (h.sup hn)
theorem low_nx {n : Nat} (h : ∀ b, 2 ≤ b → b < 66 → Pg.verN (sb 256 (S b)) ≤ (n : Int)) (ht : ∀ id : Nat, id < 32 → ∀ x, t (id : Int) = some x → 1 ≤ x.1 ∧ x.1 ≤ 1099511627776 ∧ x.2.size ≤ 200) (hl : ∀ id : Nat, id < 32 → ∀ x, t (id : Int) = some x → x.1 ≤ ((n + 1 : Nat) : Int)) (b : Nat) (h2 : 2 ≤ b) (h66 : b < 66) : Pg.verN (sb 256 (nxS S sec (n + 1) en f p t b)) ≤ ((n + 1 : Nat) : Int) := by
  by_cases e : ∃ id x, id < 32 ∧ t ((id : Nat) : Int) = some x ∧ plc (nxF f t) id = b
  · obtain ⟨id, x, hi, hx, rfl⟩ := e
    rw [nxS_told hi hx]
    have h1 := ht id hi x hx
    have h3 := hl id hi x hx
    have h4 : Pg.verN (pad (Pg.sealT (epoK sec en) (id : Int) x.1 x.2)) = x.1 := seal_ver _ _ _ _ (by omega) h1.2.1
    unfold pad at h4
    rw [h4]
    exact h3
  · rw [nxS_other (by omega), sl_miss]
    · have := h b h2 h66; omega
    · intro id hi hs hb
      obtain ⟨x, hx⟩ := Option.isSome_iff_exists.1 hs
      exact e ⟨id, x, hi, hx, hb⟩
theorem Tld.told {n : Nat} (h : Tld S sec n f p) (hn : n < 1000000) (ht : ∀ id : Nat, id < 32 → ∀ x, t (id : Int) = some x → 1 ≤ x.1 ∧ x.1 ≤ 1099511627776 ∧ x.2.size ≤ 200) (hk : ∀ i, kOk i → (t i).isSome = true → 0 ≤ i ∧ i < 32) (hl : ∀ id : Nat, id < 32 → ∀ x, t (id : Int) = some x → x.1 ≤ ((n + 1 : Nat) : Int)) : Tld (nxS S sec (n + 1) 1 f p t) sec (n + 1) (nxF f t) (nxP p t) := by
  refine ⟨h.pgs.told ht hk, fun _ => by rw [nxS_top]; rfl, ?_, fun e => by omega, by omega, low_nx h.low ht hl⟩
  have hb : (n + 1 + 1) % 2 ≠ (n + 1) % 2 := by omega
  have he : (n + 1 + 1) % 2 = n % 2 := by omega
  have hS : ∀ x, SupAt S [] sec (n % 2) x → SupAt (nxS S sec (n + 1) 1 f p t) [] sec ((n + 1 + 1) % 2) x := fun x hx => by
    unfold SupAt at *
    rw [show Dv.readF (nxS S sec (n + 1) 1 f p t) [] ((n + 1 + 1) % 2) = Dv.readF S [] (n % 2) from by rw [read_nil, read_nil, nxS_sup (by omega) hb, he]]
    exact hx
  by_cases h0 : n = 0
  · subst h0
    exact ⟨none, hS _ (h.new rfl).1, fun c h => by cases h⟩
  · exact ⟨some (n : Int), hS _ (on_sup (h.on (by omega))), fun c hc => by injection hc with hc; omega⟩
end
end Go.Proofs.YtkapkphhceknfaaGreatDoor.Vt
namespace Go.Proofs.YtkapkphhceknfaaGreatDoor.Vt
open Go.RowKit
theorem pick_at (a : Int) (n : Nat) (w : World) (h0 : 0 < n) (h1 : n ≤ 10000) (ha : 0 ≤ a) (hb : a ≤ 9223372036854775807) :
    Calls Tryz.prog 9 #[.int .i64 a, .int .i64 (n : Int)] w fun e w' => e = .returned (.int .i64 (a % (n : Int))) ∧ w' = w := by
  obtain ⟨u, hu⟩ : ∃ u : Nat, IntKind.u64.wrap a = (u : Int) := ⟨a.toNat, by simp [IntKind.wrap, IntKind.bits, IntKind.signed]; omega⟩
  have hua : a = (u : Int) := by rw [← hu]; simp [IntKind.wrap, IntKind.bits, IntKind.signed]; omega
  obtain ⟨j, hj, hjn⟩ : ∃ j : Nat, (u : Int) % (n : Int) = (j : Int) ∧ j < n := ⟨u % n, by simp, Nat.mod_lt _ h0⟩
  have hR : Hid (a % (n : Int) = (j : Int)) := by unfold Hid; rw [hua]; exact hj
  rw [hR.out]
  clear ha hb hua
  go_enter Tryz.func9, Tryz.ntmps9
  go_wp2
  go_ret
  exact ⟨rfl, rfl⟩
/-- All pages' texts. -/
def txt (p : Int → Option (Int × ByteArray)) (j : Nat) : ByteArray := (rd p (j : Int)).2
set_option maxRecDepth 100000 in
set_option maxHeartbeats 400000 in
theorem all_any (w : World) (vb d c : Nat) (sec : ByteArray) (cn en : Int) (f : Nat → Bool) (r : ByteArray) (mb n : Nat) (p : Int → Option (Int × ByteArray)) (stuck : Bool) (h : Vlt w vb d c sec cn en f r mb n p stuck) :
    Calls Tryz.prog 18 #[.pointer (some ⟨vb, 0, none⟩)] w fun e w' => (∃ v, e = .returned v ∧ w'.ownsRow w.heap.size 9 1 v 32 (Tr.strs (txt p) 32)) ∧ Below w.heap.size w w' := by
  obtain ⟨i0, hi0, hz0, hz1, hz2⟩ := info_parts Tr.infoStr
  have HI : Hid (Tryz.prog.info? 9 = some i0 ∧ i0.zero = some (.string ByteArray.empty) ∧ i0.size = 1 ∧ i0.bytes = 16) := ⟨hi0, hz0, hz1, hz2⟩
  clear hi0 hz0 hz1 hz2
  go_enter Tryz.func18, Tryz.ntmps18
  go_wp2_with fail
  go_loopw [3, 4] (fun v i wr => ∃ k : Nat, k ≤ 32 ∧ i = .int .i64 k ∧ wr.ownsRow w.heap.size 9 1 v k (Tr.strs (txt p) k) ∧ Below w.heap.size w wr) (fun _ i _ => 32 - (intOf i).toNat)
  case atStart => exact ⟨0, by omega, rfl, ⟨rfl, Or.inl ⟨rfl, rfl⟩⟩, Below.refl _ _⟩
  case round =>
    obtain ⟨k, hk, rfl, ow, br⟩ := hrel
    by_cases hlt : k < 32
    · have hlt' : (k : Int) < 32 := by omega
      have hVr := h.below br h.blk.lt h.map.lt
      have e1 : getT p (k : Int) = txt p k := by unfold getT txt; rw [if_pos (by omega)]
      have e2 : errV (getC (k : Int)) = .nilIface := by unfold getC; rw [if_pos (by omega)]; rfl
      have hF' : Hid (Tr.strs (txt p) (k + 1) = Tr.strs (txt p) k ++ [.string (txt p k)]) := Tr.strs_succ _ _
      go_wp2_with fail
      refine (get_any wr vb d c sec cn en f r mb n p stuck (k : Int) hVr).mono ?_
      rintro e w2 ⟨rfl, hw2⟩
      obtain rfl : wr = w2 := hw2.symm
      clear hw2
      rw [e1, e2]
      clear e1 e2
      generalize txt p k = X at *
      have s6 := Pg.below_alloc wr (.cells #[.string X] 9)
      have ow6 := row_below ow s6
      have b6 := br.trans (s6.mono br.size)
      have hone : ∀ u ∈ [Value.string X], u.oneCell' = true := by intro u hu; simp at hu; subst hu; rfl
      have hwz := br.size
      go_wp2_with (first
        | (refine wpList_append_lies _ rfl _ _ _ rfl w.heap.size 9 i0 _ 1 16 Tryz.underlying23 HI.out.1 HI.out.2.1 HI.out.2.2.1 HI.out.2.2.2 rfl (by omega) u3 k (Tr.strs (txt p) k) rfl ow6 ⟨wr.heap.size, 0, none⟩ 1 1 [.string X] rfl rfl (World.news_of_block (cs := #[.string X]) (t := 9) (fr := (0, 0)) (heap_alloc_new wr _)) hone (by omega) (by unfold maxLen; omega) (by omega) (by simp; omega) (wr.heap.size + 1) (by simp) ?_; intro g7 cap w7 ow7 gr7 hat7 hlt7)
        | fail)
      refine ⟨⟨k + 1, by omega, by go_num, by rw [hF'.out]; exact ow7, b6.grown gr7 b6.size (fun j e => ?_)⟩, by simp [intOf]; omega⟩
      exact (Dv.ownsRow_lt ow6 j e).1
    · have hk' : k = 32 := by omega
      subst hk'
      go_wp2_with fail
      go_ret
      exact ⟨⟨_, rfl, ow⟩, br⟩
/-- The pages that texts tell. -/
def pgF (ls : List ByteArray) (at' : Int) : Nat → Int → Option ByteArray
  | 0, _ => none
  | k + 1, i => if i = (at' + 7 * (k : Int)) % 32 then ls[k]? else pgF ls at' k i
theorem pgF_some {ls : List ByteArray} {at' : Int} : ∀ {k : Nat} {i : Int} {s : ByteArray}, pgF ls at' k i = some s → (0 ≤ i ∧ i < 32) ∧ s ∈ ls
  | 0, i, s, h => by cases h
  | k + 1, i, s, h => by
    unfold pgF at h
    by_cases e : i = (at' + 7 * (k : Int)) % 32
    · rw [if_pos e] at h; exact ⟨by omega, List.mem_of_getElem? h⟩
    · rw [if_neg e] at h; exact pgF_some h
theorem sv_pgF {ls : List ByteArray} {at' : Int} {k : Nat} {s : ByteArray} (h : ls[k]? = some s) : (fun j => if j = (at' + 7 * (k : Int)) % 32 then some (Value.string s) else sv (pgF ls at' k) j) = sv (pgF ls at' (k + 1)) := by
  funext j
  unfold sv
  conv => rhs; unfold pgF
  by_cases e : j = (at' + 7 * (k : Int)) % 32
  · rw [if_pos e, if_pos e, h]; rfl
  · rw [if_neg e, if_neg e]
theorem mkMapS (w : World) : (Instr.makeMap 38 none).run Tryz.prog w = .ok (.map (some w.heap.size)) (w.alloc (.map #[] 0)) := by kernel_rfl
set_option maxRecDepth 100000 in
set_option maxHeartbeats 400000 in
theorem pages_any (a : Option Addr) (cap : Nat) (ls : List ByteArray) (at' : Int) (w : World) (h : Dv.Texts w (fun _ => False) a ls) (hl : ls.length ≤ 100) (h0 : 0 ≤ at') (h1 : at' ≤ 1000) :
    Calls Tryz.prog 11 #[.slice a ls.length cap, .int .i64 at'] w fun e w' => (e = .returned (.map (some w.heap.size)) ∧ MapF Tryz.prog w' w.heap.size ls.length (sv (pgF ls at' ls.length))) ∧ Below w.heap.size w w' := by
  have hmk := mkMapS
  have m0 : MapF Tryz.prog (w.alloc (.map #[] 0)) w.heap.size 0 (sv (pgF ls at' 0)) := (mapF_made Tryz.prog w).congr fun i _ => rfl
  have g0 := Pg.below_alloc w (.map #[] 0)
  go_enter Tryz.func11, Tryz.ntmps11
  go_wp2_with fail
  generalize w.alloc (.map #[] 0) = w0 at *
  obtain ⟨tm, htm⟩ : ∃ tm, Hid (w.heap.size = tm) := ⟨_, rfl⟩
  rw [htm.out] at m0
  rw [htm.out]
  clear hmk
  go_loopw [6] (fun i wr => ∃ k : Nat, k ≤ ls.length ∧ i = .int .i64 k ∧ MapF Tryz.prog wr tm k (sv (pgF ls at' k)) ∧ Below w.heap.size w wr) (fun i _ => ls.length - (intOf i).toNat)
  case atStart => exact ⟨0, by omega, rfl, m0, g0⟩
  case round =>
    clear m0 g0
    obtain ⟨k, hk, rfl, mr, br⟩ := hrel
    by_cases hlt : k < ls.length
    · obtain ⟨s, hs⟩ : ∃ s, ls[k]? = some s := ⟨_, List.getElem?_eq_getElem hlt⟩
      obtain ⟨g, o, rfl, hg, _, hc⟩ := h k s hs
      have hst : Hid _ := sv_pgF (at' := at') hs
      have cs : wr.drew.cell? ⟨g, o + k, none⟩ = some (.string s) := (World.cell?_of_block (br.block g hg)).trans hc
      have hlt' : (k : Int) < (ls.length : Int) := by omega
      have hk0 : (0 : Int) ≤ (k : Int) := by omega
      obtain ⟨q, hq⟩ : ∃ q, Hid (at' + 7 * (k : Int) = q) := ⟨_, rfl⟩
      have hq1 : Hid (0 ≤ q ∧ q ≤ 2000) := by unfold Hid; rw [← hq.out]; omega
      have hq2 : (7 : Int) * (k : Int) = q - at' := by rw [← hq.out]; omega
      rw [hq.out] at hst
      clear hs hc
      go_wp2_with fail
      refine region_s [(0, true), (1, true), (2, true), (3, true), (4, true), (6, true), (7, true), (8, true), (9, false)] [5] [10] (fun w' => w' = wr.drew) Tr.mixed (by kernel_rfl) (fun _ _ _ _ _ h => h) rfl ?_
      have hw1 : IntKind.i64.wrap (q - at') = q - at' := by have := hq1.out; rw [IntKind.wrap_i64]; omega
      have hw2 : IntKind.i64.wrap q = q := by have := hq1.out; rw [IntKind.wrap_i64]; omega
      have hw3 : at' + (q - at') = q := by omega
      refine lead_pure _ rfl _ rfl rfl (.map (some tm)) (fun w' => by go_simp) ?_
      refine lead_pure _ rfl _ rfl rfl (.int .i64 at') (fun w' => by go_simp) ?_
      refine lead_pure _ rfl _ rfl rfl (.int .i64 (k : Int)) (fun w' => by go_simp) ?_
      refine lead_pure _ rfl _ rfl rfl (.int .i64 (q - at')) (fun w' => by go_simp) ?_
      refine lead_pure _ rfl _ rfl rfl (.int .i64 q) (fun w' => by go_simp) ?_
      refine lead_pure _ rfl _ rfl rfl (.slice (some ⟨g, o, none⟩) ls.length cap) (fun w' => by go_simp) ?_
      refine lead_pure _ rfl _ rfl rfl (.int .i64 (k : Int)) (fun w' => by go_simp) ?_
      refine lead_pure _ rfl _ rfl rfl (.pointer (some ⟨g, o + k, none⟩)) (fun w' => by go_simp) ?_
      refine lead_read _ rfl _ rfl rfl (.string s) (fun w' hS => by subst hS; go_simp) ?_
      simp only [lead_nil_eq]
      simp only [Act.put, List.setIfInBounds_toArray, List.set_cons_succ, List.set_cons_zero]
      refine mid_cons _ rfl rfl fun K hK => ?_
      go_wp2_with fail
      refine (pick_at q 32 wr.drew (by decide) (by decide) hq1.out.1 (by have := hq1.out; omega)).mono ?_
      rintro e w5 ⟨rfl, hw5⟩
      obtain rfl := hw5
      refine hK _ _ rfl ?_
      clear hK K
      simp only [mid_nil_eq]
      simp only [List.filterMap_cons, List.getElem?_toArray, List.getElem?_cons_succ, List.getElem?_cons_zero, List.filterMap_nil]
      refine wpl_putF rfl rfl 38 _ _ _ rfl und3 9 undS tm k (sv (pgF ls at' k)) (q % 32) (.string s) rfl rfl rfl mr.drew (by omega) (kOk_small (by omega) (by omega)) ?_
      intro w7 m7 hu7'
      go_wp2_with fail
      have hu7 : Upd wr w7 tm := ⟨hu7'.os, hu7'.tape, hu7'.output, hu7'.size, hu7'.block⟩
      rw [hst.out] at m7
      have htm' := htm.out
      exact ⟨⟨k + 1, by omega, by go_num, m7, below_upd br hu7 (by omega)⟩, by simp [intOf]; omega⟩
    · have hk' : k = ls.length := by omega
      subst hk'
      go_wp2_with fail
      go_ret
      exact ⟨⟨by rw [← htm.out]; rfl, by rw [htm.out]; exact mr⟩, br⟩
end Go.Proofs.YtkapkphhceknfaaGreatDoor.Vt
namespace Go.Proofs.YtkapkphhceknfaaGreatDoor.Vt
open Go.RowKit
theorem tell_tld (vb d c : Nat) (sec : ByteArray) (n : Nat) (f : Nat → Bool) (r : ByteArray) (mb nn : Nat) (p : Int → Option (Int × ByteArray)) (m : Value) (nm : Nat) (g : Int → Option ByteArray) (O : Nat → Prop) (S : Nat → Nat → UInt8) (v : Value) (lf : Int) (w : World)
    (hV : Vlt w vb d c sec (n : Int) 1 f r mb nn p false) (hM : MapV Tryz.prog w m nm (sv g)) (hg : ∀ i s, g i = some s → (0 ≤ i ∧ i < 32) ∧ s.size ≤ 200) (hD : Dv.Dev w O d S [] (-1) v lf) (hC : Dv.Cnt w c (n : Int)) (hT : Tld S sec n f p)
    (hn : nn + nm ≤ 100000) (hn1 : n < 1000000) (hsec : sec.size ≤ 300) (hO : ∀ k, O k → k < w.heap.size) (o2 : ¬ O vb) (o3 : ¬ O c) (o4 : vb ≠ c) (hK : Sm.KB w) :
    Calls Tryz.prog 12 #[.pointer (some ⟨vb, 0, none⟩), m] w fun e w' => e = .returned .nilIface ∧
      ∃ S' f' CB n' O' v' l', Vlt w' vb d c sec ((n + 1 : Nat) : Int) 1 f' (rootP (nxP p (tel g p ((n + 1 : Nat) : Int)))) CB n' (nxP p (tel g p ((n + 1 : Nat) : Int))) false ∧ w.heap.size ≤ CB ∧ n' ≤ nn + nm ∧
        Tld S' sec (n + 1) f' (nxP p (tel g p ((n + 1 : Nat) : Int))) ∧ Dv.Dev w' O' d S' [] (-1) v' l' ∧ (∀ k, O' k → Dv.gro O w w' k) ∧ Dv.Cnt w' c ((n + 1 : Nat) : Int) ∧ Dv.Chg w w' (fun k => O k ∨ k = c ∨ k = vb) := by
  have hF : ¬ Far g := fun ⟨i, _, h2, h3⟩ => by
    obtain ⟨s, hs⟩ := Option.isSome_iff_exists.1 h2
    exact h3 (hg i s hs).1
  have hWd : ¬ Wide g := fun ⟨i, s, _, h2, h3⟩ => by have := (hg i s h2).2; omega
  have hp : ∀ j : Nat, j < 32 → (rd p j).2.size ≤ 300 := fun j hj => by
    unfold rd
    cases hx : p (j : Int) with
    | none => exact Nat.zero_le _
    | some x => have := (hT.pgs.some' j hj x hx).2.2.2; simp; omega
  have h := tell_ok vb d c sec (n : Int) 1 f r mb nn p m nm g O S [] v lf (n : Int) w hV hM (fun i s hs => by have := (hg i s hs).2; omega) hF hWd hD hC (by omega) hn (by omega) (by omega) (by decide) (by decide) hp hsec (Nat.zero_le _) hO o2 o3 o4 hK
  rw [show (n : Int) + 1 = ((n + 1 : Nat) : Int) from by omega] at h
  refine h.mono ?_
  rintro e w' ⟨rfl, ⟨CB, n', hV', hCB, hn'⟩, ⟨O', v', l', hD', hO'⟩, hC', C'⟩
  refine ⟨rfl, _, _, CB, n', O', v', l', hV', hCB, hn', hT.told (t := tel g p ((n + 1 : Nat) : Int)) hn1 (fun id hi x hx => ?_) (fun i hi hx => ?_) (fun id _ x hx => by rw [(tel_some hx).1]; exact Int.le_refl _), ?_, hO', hC', C'⟩
  · have h1 := tel_some hx
    have h2 := (hg _ _ h1.2).2
    omega
  · obtain ⟨x, hx⟩ := Option.isSome_iff_exists.1 hx
    exact (hg _ _ (tel_some hx).2).1
  · have e : ((n + 1 : Nat) : Int).toNat = n + 1 := by omega
    rw [e, List.nil_append] at hD'
    exact hD'
end Go.Proofs.YtkapkphhceknfaaGreatDoor.Vt
