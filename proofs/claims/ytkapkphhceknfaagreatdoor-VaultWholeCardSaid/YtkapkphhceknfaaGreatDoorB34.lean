/-
  Part of the proof: what a row's condition and a slice of slices of texts give a walk.
  'coffer/cofferkeep.VaultWhole' returns true at every input, and each argument reads behind the call as it read before: the row's statement 'Rows.VaultWholeSaid', under its own condition alone (the two listed variables read as listed when the call begins).
-/
import Derived.Test.YtkapkphhceknfaaGreatDoorB29
import Derived.Test.YtkapkphhceknfaaGreatDoorB16
import Derived.Test.YtkapkphhceknfaaGreatDoorRows
import Derived.ProofKit
import Derived.SliceStrings
import Derived.Lib.SmallJoins
import Derived.OpenShut
import Derived.LaidLaws
import Derived.LaidHandle
import Derived.Stop.Joined
import Derived.Stop.LaidErr
import Derived.Lib.LaidTab
import Derived.MakeChecks
import Derived.Lay
import Derived.Test.YtkapkphhceknfaaGreatDoorB33
namespace Go.Proofs.YtkapkphhceknfaaGreatDoor.Vt
open Go.ChangeShapes Go.WideShapes Go.ChangeAt Go.ChangeMaps Go.RowKit
theorem own : ownKnob Tryz.prog.godebug = none := by kernel_rfl
theorem laidOut : laidOutB Tryz.prog = true := by kernel_rfl
theorem cells9 : Tryz.prog.cellsOf 9 = 1 := by kernel_rfl
theorem cellsT : Tryz.prog.cellsOf 23 = 1 := by kernel_rfl
theorem g_et : Tryz.prog.globalNamed "errors.errorType" = some 0 := by kernel_rfl
theorem one_row : ((List.range 221).filter fun t => Tryz.prog.rowNamed t [101, 114, 114, 111, 114]) = [36] := by kernel_rfl
theorem n_types : Tryz.prog.types.size = 221 := by kernel_rfl
theorem tK : (Tryz.prog.globals[1]?).map (·.type) = some 186 := by kernel_rfl
theorem c32 : Tryz.prog.cellsOf 186 = 64 := by kernel_rfl
theorem c30 : Tryz.prog.cellsOf 155 = 1 := by kernel_rfl
def laidP : List (String × DataW Unit) := Rows.vaultWholeRow.laid
def laidE : List (String × DataW Unit) := [("errors.errorType", Rows.laid_errors_errorType)]
def laidK : List (String × DataW Unit) := [("coffer/sum.roundNumbers", Rows.laid_coffer_sum_roundNumbers)]
theorem eK : (Rows.laid_coffer_sum_roundNumbers : DataW Unit) = Lib.tabData .u32 (Sm.kList.map Int.ofNat) := by kernel_rfl
theorem kList_I : ∀ i : Fin 64, (Sm.kList.map Int.ofNat).getD i.1 0 = I (Sm.kF i.1) := by decide +kernel
/-- What the row's condition gives the walk: the two variables that a run reads. -/
theorem of_laid {W : World} (h : laidMetH Tryz.prog laidP W) : EB W ∧ Sm.KB W := by
  have h' : laidMet Tryz.prog laidK W ∧ handlesMet Tryz.prog laidE W := h
  obtain ⟨hk, hh⟩ := h'
  constructor
  · obtain ⟨name, u, ty, e1, e2, e3, e4, e5⟩ := hh _ (List.mem_singleton.2 rfl)
    have en : name = [101, 114, 114, 111, 114] := (Option.some.inj e1).symm
    subst en
    obtain rfl : 125 = u := Option.some.inj (Eq.trans (Eq.symm (by kernel_rfl)) e2)
    have hm : ty ∈ (List.range 221).filter fun t => Tryz.prog.rowNamed t [101, 114, 114, 111, 114] := List.mem_filter.2 ⟨List.mem_range.2 (by rw [← n_types]; exact e3), e4⟩
    rw [one_row] at hm
    obtain rfl := List.mem_singleton.1 hm
    have hh : typeHandle Tryz.prog 36 = hnd 36 := by kernel_rfl
    rw [hh] at e5
    simpa [EB] using World.var?_cell g_et e5 0
  · unfold laidK at hk
    rw [eK] at hk
    have b := fun i (hi : i < 64) => (Lib.tabIs_of_head (g := 1) (by kernel_rfl) tK Tryz.underlying186 Tryz.underlying155 c30 c32 hk).cell (g := 1) (by kernel_rfl) i (by simpa [Sm.kList] using hi)
    refine ⟨World.block_lt_of_cell? W _ (b 0 (by decide)), fun i hi => ?_⟩
    rw [b i hi]; exact congrArg (fun z => some (Value.int .u32 z)) (kList_I ⟨i, hi⟩)
/-- A world in which both variables lie as listed. -/
noncomputable def wit (os : Os) : World := ((World.holding Tryz.prog os ⟨#[], #[], []⟩).setCell ⟨0, 0, none⟩ (.iface 125 (.agg #[hnd 36]))).layVars Tryz.prog laidK
theorem wit_os (os : Os) : (wit os).os = os := (World.layVars_os _ _ _).trans rfl
section
variable {H : Type} {enc : TypeId × Value → H} {P : Program} {w : World} {base : Nat} {sp : Nat → Bool} {held : Bool}
/-- A slice that can be read: the cells of each element. -/
theorem slice_open {t e : TypeId} {fuel : Nat} {a0 : Option Addr} {len cap : Nat} {x : DataW H × List MemPlace} (ht : P.underlying t = some (.slice e)) (hp : 0 < P.cellsOf e) (h : DataW.trod enc P w base sp held fuel t [.slice a0 len cap] = some x) :
    len ≤ maxLen ∧ ∀ i, i < len → ∃ a cs n y, a0 = some a ∧ a.spot = none ∧ w.cells? base (a.add (i * P.cellsOf e)) (P.cellsOf e) = some cs ∧ DataW.trod enc P w base sp held n e cs = some y := by
  rcases DataW.trod_slice ht h with ⟨h0, _⟩ | ⟨a, len', cap', elems, rest, n, _, hcs, rfl, hb, hl, hm, hlen, hel, hsp, hns⟩
  · simp at h0
    obtain ⟨rfl, rfl, rfl⟩ := h0
    exact ⟨Nat.zero_le _, fun i hi => absurd hi (Nat.not_lt_zero _)⟩
  · simp at hcs
    obtain ⟨rfl, rfl, rfl⟩ := hcs
    refine ⟨Nat.le_trans hl hm, fun i hi => ?_⟩
    have hE := hel i hi
    rw [List.getElem?_eq_getElem (by omega), Option.bind_eq_some_iff] at hE
    obtain ⟨cs, h1, h2⟩ := hE
    have hE0 := hel 0 (by omega)
    rw [List.getElem?_eq_getElem (by omega), Option.bind_eq_some_iff] at hE0
    obtain ⟨cs0, h3, _⟩ := hE0
    obtain ⟨_, hl0, hc0⟩ := World.cells?_some h3
    have hc1 := hc0 0 hp
    rw [List.getElem?_eq_getElem (by omega)] at hc1
    have hs := World.cell?_spot hc1
    simp [Addr.add] at hs
    exact ⟨a, cs, n, _, rfl, hs, h1, h2⟩
end
theorem list_of {α : Type} (p : Nat → α → Prop) : ∀ n : Nat, (∀ i, i < n → ∃ x, p i x) → ∃ l : List α, l.length = n ∧ ∀ i x, l[i]? = some x → p i x
  | 0, _ => ⟨[], rfl, fun i x h => by simp at h⟩
  | n + 1, h => by
    obtain ⟨l, h1, h2⟩ := list_of p n (fun i hi => h i (by omega))
    obtain ⟨x, hx⟩ := h n (by omega)
    refine ⟨l ++ [x], by simp [h1], fun i y hy => ?_⟩
    by_cases hi : i < n
    · rw [List.getElem?_append_left (by omega)] at hy; exact h2 i y hy
    · have : i = n := by
        have := (List.getElem?_eq_some_iff.1 hy).1
        simp [h1] at this; omega
      subst this
      rw [List.getElem?_append_right (by omega), h1, Nat.sub_self] at hy
      simp at hy; subst hy; exact hx
section
variable {H : Type} {enc : TypeId × Value → H} {w : World} {base : Nat} {sp : Nat → Bool} {held : Bool} {fuel : Nat} {a0 : Option Addr} {len cap : Nat} {x : DataW H × List MemPlace}
theorem one_cell {P : Program} {e : TypeId} {a : Addr} {i : Nat} {cs : List Value} (hc : P.cellsOf e = 1) (h : w.cells? base (a.add (i * P.cellsOf e)) (P.cellsOf e) = some cs) (v : Value) (hv : cs = [v]) (hs : a.spot = none) : ∃ g o, a = ⟨g, o, none⟩ ∧ g < w.heap.size ∧ w.cell? ⟨g, o + i, none⟩ = some v := by
  subst hv
  rw [hc, Nat.mul_one] at h
  have h1 := cell_of_cells?_one h
  obtain ⟨b, off, spot⟩ := a
  obtain rfl : spot = none := hs
  rw [Dv.addr_addO] at h1
  exact ⟨b, off, rfl, World.block_lt_of_cell? w _ h1, h1⟩
theorem texts_open (h : DataW.trod enc Tryz.prog w base sp held fuel 23 [.slice a0 len cap] = some x) : ∃ ls : List ByteArray, ls.length = len ∧ len ≤ maxLen ∧ Dv.Texts w (fun _ => False) a0 ls ∧ ∀ s ∈ ls, s.size ≤ maxLen := by
  obtain ⟨hl, hc⟩ := slice_open Tryz.underlying23 (by rw [cells9]; decide) h
  obtain ⟨ls, h1, h2⟩ := list_of (fun i (s : ByteArray) => (∃ g o, a0 = some ⟨g, o, none⟩ ∧ g < w.heap.size ∧ ¬ False ∧ w.cell? ⟨g, o + i, none⟩ = some (.string s)) ∧ s.size ≤ maxLen) len (fun i hi => by
    obtain ⟨a, cs, n, y, rfl, hsp, h3, h4⟩ := hc i hi
    obtain ⟨s, rfl, _, hs⟩ := DataW.trod_string Tryz.underlying9 h4
    obtain ⟨g, o, rfl, h5, h6⟩ := one_cell cells9 h3 _ rfl hsp
    exact ⟨s, ⟨g, o, rfl, h5, id, h6⟩, hs⟩)
  refine ⟨ls, h1, hl, fun i z hz => (h2 i z hz).1, fun z hz => ?_⟩
  obtain ⟨i, hi⟩ := List.getElem?_of_mem hz
  exact (h2 i z hi).2
theorem lists_open (h : DataW.trod enc Tryz.prog w base sp held fuel 22 [.slice a0 len cap] = some x) : ∃ L : List (Option Addr × Nat × List ByteArray), L.length = len ∧ len ≤ maxLen ∧ Lst w a0 L := by
  obtain ⟨hl, hc⟩ := slice_open Tryz.underlying22 (by rw [cellsT]; decide) h
  obtain ⟨L, h1, h2⟩ := list_of (fun i (x : Option Addr × Nat × List ByteArray) => ∃ g o, a0 = some ⟨g, o, none⟩ ∧ g < w.heap.size ∧ w.cell? ⟨g, o + i, none⟩ = some (.slice x.1 x.2.2.length x.2.1) ∧ Dv.Texts w (fun _ => False) x.1 x.2.2 ∧ x.2.2.length ≤ maxLen ∧ ∀ s ∈ x.2.2, s.size ≤ maxLen) len (fun i hi => by
    obtain ⟨a, cs, n, y, rfl, hsp, h3, h4⟩ := hc i hi
    obtain ⟨a3, l3, c3, rfl⟩ : ∃ a3 l3 c3, cs = [.slice a3 l3 c3] := by
      rcases DataW.trod_slice Tryz.underlying23 h4 with ⟨e, _⟩ | ⟨a, len', cap', _, _, _, _, e, _⟩
      · exact ⟨_, _, _, e⟩
      · exact ⟨_, _, _, e⟩
    obtain ⟨ls, rfl, h5, h6, h7⟩ := texts_open h4
    obtain ⟨g, o, rfl, h8, h9⟩ := one_cell cellsT h3 _ rfl hsp
    exact ⟨(a3, c3, ls), g, o, rfl, h8, h9, h6, h5, h7⟩)
  exact ⟨L, h1, hl, h2⟩
end
end Go.Proofs.YtkapkphhceknfaaGreatDoor.Vt
namespace Go.Proofs.YtkapkphhceknfaaGreatDoor.Vt
open Go.ChangeShapes Go.WideShapes Go.ChangeAt Go.ChangeMaps Go.RowKit
section
variable {H : Type} {enc : TypeId × Value → H} {P : Program} {w : World} {base : Nat} {spare : Nat → Bool} {held : Bool} {t0 t1 t2 t3 t4 : TypeId}
/-- Five parameters, taken apart. -/
theorem open5 {args : Array Value} {ds : List (DataW H)} {ps : List MemPlace} (h : DataW.TrodAll enc P w base spare held [t0, t1, t2, t3, t4] args.toList ds ps) :
    ∃ v0 v1 v2 v3 v4 d0 d1 d2 d3 d4 p0 p1 p2 p3 p4, args = #[v0, v1, v2, v3, v4] ∧ ds = [d0, d1, d2, d3, d4] ∧ ps = p0 ++ (p1 ++ p2 ++ p3 ++ p4) ∧ DataW.Trod enc P w base spare held t0 v0 d0 p0 ∧ DataW.Trod enc P w base spare held t1 v1 d1 p1 ∧ DataW.Trod enc P w base spare held t2 v2 d2 p2 ∧ DataW.Trod enc P w base spare held t3 v3 d3 p3 ∧ DataW.Trod enc P w base spare held t4 v4 d4 p4 := by
  obtain ⟨v0, vs, d0, ds', p0, q, ea, rfl, rfl, h0, hr⟩ := trodAll_cons h
  have hr' : DataW.TrodAll enc P w base spare held [t1, t2, t3, t4] vs.toArray.toList ds' q := hr
  obtain ⟨v1, v2, v3, v4, d1, d2, d3, d4, p1, p2, p3, p4, eb, rfl, rfl, h1, h2, h3, h4⟩ := trodAll_four hr'
  refine ⟨v0, v1, v2, v3, v4, d0, d1, d2, d3, d4, p0, p1, p2, p3, p4, ?_, rfl, rfl, h0, h1, h2, h3, h4⟩
  apply Array.toList_inj.1
  rw [ea]
  have : vs = [v1, v2, v3, v4] := by simpa using congrArg Array.toList eb
  rw [this]
end
theorem cells4 : Tryz.prog.cellsOf 4 = 1 := by kernel_rfl
theorem bools_open {H : Type} {enc : TypeId × Value → H} {w : World} {base : Nat} {sp : Nat → Bool} {held : Bool} {fuel : Nat} {a0 : Option Addr} {len cap : Nat} {x : DataW H × List MemPlace} (h : DataW.trod enc Tryz.prog w base sp held fuel 24 [.slice a0 len cap] = some x) :
    ∃ ks : List Bool, ks.length = len ∧ ∀ i x, ks[i]? = some x → ∃ g o, a0 = some ⟨g, o, none⟩ ∧ g < w.heap.size ∧ w.cell? ⟨g, o + i, none⟩ = some (.bool x) := by
  obtain ⟨hl, hc⟩ := slice_open Tryz.underlying24 (by rw [cells4]; decide) h
  obtain ⟨ks, h1, h2⟩ := list_of (fun i (b : Bool) => ∃ g o, a0 = some ⟨g, o, none⟩ ∧ g < w.heap.size ∧ w.cell? ⟨g, o + i, none⟩ = some (.bool b)) len (fun i hi => by
    obtain ⟨a, cs, n, y, rfl, hsp, h3, h4⟩ := hc i hi
    obtain ⟨b, rfl, _⟩ := DataW.trod_bool Tryz.underlying4 h4
    obtain ⟨g, o, rfl, h5, h6⟩ := one_cell cells4 h3 _ rfl hsp
    exact ⟨b, g, o, rfl, h5, h6⟩)
  exact ⟨ks, h1, fun i x hx => h2 i x hx⟩
set_option maxRecDepth 100000 in
theorem whole_lifted (os : Os) (started : os.Started) (H : Type) (enc : TypeId × Value → H) :
    ReturnsInHanded {} Tryz.checked os 3 .any (fun w args => (Rows.vaultWholeSpec.pre enc Tryz.prog Tryz.f3 [] false w args ∧ laidMetH Tryz.prog laidP w) ∧ sizedMet enc Tryz.prog Tryz.f3 (OpenSpec.ofChange Rows.vaultWholeSpec) false w args)
      (Rows.vaultWholeSpec.post enc Tryz.prog Tryz.f3 false true false false) := by
  refine returnsInHanded_of_change_and (C := Tryz.checked) (X := fun w _ => laidMetH Tryz.prog laidP w) (fun _ _ _ hh h => h.of_heap hh) own started (by kernel_rfl) Tryz.func3
    (ChangeSpec.witness_shaped (enc := enc) (C := Tryz.checked) (os := os) (X := fun w _ => laidMetH Tryz.prog laidP w) false (wit os) #[.slice none 0 0, .slice none 0 0, .bool false, .int .i64 0, .slice none 0 0] 8 (wit_os os)
      (World.shaped_of_ZipB (by kernel_rfl) (by kernel_rfl)) (by kernel_rfl) (by kernel_rfl) (by kernel_rfl)
      (laidMetH_of_parts (laidMet_of_run' 8 (by kernel_rfl) (by kernel_rfl)) (by kernel_rfl))) ?_
  intro W base args ds gs before hval0 hW _ _ hL _
  have hval : ∀ (j : Nat) t v, Tryz.f3.params[j]? = some t → args[j]? = some v → Value.okWide Tryz.prog W .any base t v := hval0
  have hW' := hW
  obtain ⟨p, q, hA0, hV, rfl, _, _⟩ := hW
  have hA : DataW.TrodAll enc Tryz.prog W 0 (fun _ => true) true Tryz.f3.params.toList args.toList ds p := hA0
  rw [Tryz.params3] at hA hval
  obtain ⟨v0, v1, v2, v3, v4, d0, d1, d2, d3, d4, p0, p1, p2, p3, p4, rfl, rfl, rfl, h0, h1, h2, h3, h4⟩ := open5 hA
  obtain ⟨rfl, rfl⟩ := trodVars_none hV
  obtain ⟨a0, len, cap, rfl⟩ := okWide_slice Tryz.underlying22 (hval 0 22 v0 rfl rfl)
  obtain ⟨a1, len1, cap1, rfl⟩ := okWide_slice Tryz.underlying23 (hval 1 23 v1 rfl rfl)
  obtain ⟨b2, rfl, rfl, rfl⟩ := open_bool Tryz.underlying4 (hval 2 4 v2 rfl rfl) h2
  obtain ⟨n3, rfl, rfl, rfl, w3⟩ := open_int Tryz.underlying3 (hval 3 3 v3 rfl rfl) h3
  obtain ⟨a4, len4, cap4, rfl⟩ := okWide_slice Tryz.underlying24 (hval 4 24 v4 rfl rfl)
  clear hA0 hval0
  have h0k := h0
  have h1k := h1
  have h4k := h4
  obtain ⟨fu0, hf0⟩ := h0
  obtain ⟨fu1, hf1⟩ := h1
  obtain ⟨fu4, hf4⟩ := h4
  have hlt : ∀ x, x ∈ p0 ∨ x ∈ p1 ∨ x ∈ p4 → x.block < W.heap.size := fun x hx => by
    refine hW'.lt x ?_
    rcases hx with h | h | h <;> simp [h]
  obtain ⟨L, rfl, hm, hLst⟩ := lists_open (w := W) (by simpa [Value.cells] using hf0)
  obtain ⟨ms, rfl, hm1, hTx, hsz⟩ := texts_open (w := W) (by simpa [Value.cells] using hf1)
  obtain ⟨ks, rfl, hks⟩ := bools_open (w := W) (by simpa [Value.cells] using hf4)
  obtain ⟨hE, hK⟩ := of_laid hL
  refine (whole_law a0 cap L a1 cap1 ms b2 n3 a4 cap4 ks W hLst hm hTx hm1 hsz hks hK hE).mono fun e' W' ⟨he, hb⟩ => ?_
  subst he
  simp only [List.append_nil] at hW'
  refine ⟨_, rfl, _, _, _, [], p0 ++ (p1 ++ p4), [], hW', trodAll_mk1 (shut_bool Tryz.underlying4 _), ?_, rfl, hb.frame _, fun h => by cases h⟩
  exact ⟨p0, _, Below.trod laidOut (by kernel_rfl) (of_decide_eq_true (by kernel_rfl)) h0k hb (fun x hx => hlt x (Or.inl hx)), trodAll_mk4 (Below.trod laidOut (by kernel_rfl) (of_decide_eq_true (by kernel_rfl)) h1k hb (fun x hx => hlt x (Or.inr (Or.inl hx)))) (shut_bool Tryz.underlying4 _) (shut_int Tryz.underlying3 w3) (Below.trod laidOut (by kernel_rfl) (of_decide_eq_true (by kernel_rfl)) h4k hb (fun x hx => hlt x (Or.inr (Or.inr hx)))), rfl⟩
theorem vaultWhole_holds : Rows.VaultWholeSaid :=
  OpenClaim.holds_of_wide 3 Tryz.f3 rfl rfl rfl rfl rfl rfl rfl ⟨rfl, rfl, rfl, rfl, rfl⟩ rfl rfl rfl rfl rfl (by kernel_rfl) Tryz.func3 (by kernel_rfl)
    (of_decide_eq_true (by kernel_rfl)) (by unfold Func.isWrapper; first | (rw [if_pos (by decide +kernel)]; kernel_rfl) | (rw [if_neg (by decide +kernel)]; exact ⟨rfl, rfl⟩))
    (fun os started H enc _ => whole_lifted os started H enc)
end Go.Proofs.YtkapkphhceknfaaGreatDoor.Vt
