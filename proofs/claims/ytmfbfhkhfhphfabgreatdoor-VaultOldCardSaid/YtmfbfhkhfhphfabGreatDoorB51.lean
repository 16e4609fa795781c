/-
  Part of the proof: VaultOld is walked.
  Part of the proof: what a row's condition and a slice of slices of texts give a walk.
  'coffer/cofferkeep.VaultOld' returns true at every input, and each argument reads behind the call as it read before: the row's statement 'Rows.VaultOldSaid', under its own condition alone (the two listed variables read as listed when the call begins).
-/
import Derived.Test.YtmfbfhkhfhphfabGreatDoorB50
import Derived.Test.YtmfbfhkhfhphfabGreatDoorB48
import Derived.Test.YtmfbfhkhfhphfabGreatDoorB30
import Derived.Test.YtmfbfhkhfhphfabGreatDoorRows
import Derived.ProofKit
import Derived.SliceStrings
import Derived.Lib.SmallJoins
import Derived.OpenShut
import Derived.LaidLaws
import Derived.LaidHandle
import Derived.Stop.Joined
import Derived.Stop.LaidErr
import Derived.Lib.LaidTab
import Derived.MakeChecks
import Derived.Lay
namespace Go.Proofs.YtmfbfhkhfhphfabGreatDoor.Vt
open Go.RowKit
set_option maxRecDepth 100000 in
set_option maxHeartbeats 400000 in
theorem old_any (a : Option Addr) (cap : Nat) (L : List (Option Addr × Nat × List ByteArray)) (k0 : Int) (w : World) (hL : Lst w a L) (hl : L.length ≤ maxLen) (hK : Sm.KB w) (hE : EB w) :
    Calls Tryz.prog 6 #[.slice a L.length cap, .int .i64 k0] w fun e w' => e = .returned (.bool true) ∧ Below w.heap.size w w' := by
  cases hok : lsB L with
  | false =>
    go_enter Tryz.func6, Tryz.ntmps6
    go_wp2_with fail
    refine (lists_any a cap L w hL hl).mono ?_
    rintro e w' ⟨rfl, rfl⟩
    rw [hok]
    go_wp2_with fail
    go_ret
    exact ⟨rfl, Below.refl _ _⟩
  | true =>
    obtain ⟨sec, hsec⟩ : ∃ sec : ByteArray, Hid (sec = ⟨#[48, 49, 50, 51, 52, 53, 54, 55, 56, 57, 97, 98, 99, 100, 101, 102]⟩) := ⟨_, rfl⟩
    have hs16 : sec.size = 16 := by rw [hsec.out]; rfl
    have hL8 := (lsB_ok hok).1
    have Hlists := lists_any a cap L w hL hl
    rw [hok] at Hlists
    have Hlaid := fun (w1 : World) (g1 : Below w.heap.size w w1) => laid_any a cap L w1 (hL.below g1) hok (hK.below g1) sec hsec.out
    have HLA : Hid _ := Hlaid
    clear Hlaid hok hL hl
    go_enter Tryz.func6, Tryz.ntmps6
    go_wp2_with fail
    refine Hlists.mono ?_
    rintro e w' ⟨rfl, hw'⟩
    obtain rfl : w = w' := hw'.symm
    clear hw' Hlists
    go_wp2_with fail
    refine (kept_any w hK).mono ?_
    rintro e w1 ⟨rfl, g1⟩
    go_wp2_with fail
    refine Calls.mono (HLA.out w1 g1) ?_
    rintro e w2 ⟨D, C, VB, CB, nn, O, dv, lf, S, f, p, r, vH, vI, hs, rfl, hd, hhs⟩
    have b2 := g1.trans (hd.bel.mono g1.size)
    have rI : w2.ownsRow w1.heap.size 30 1 vI (L.length + 1) (hs.map Hs.i) := by have h := hd.rowI; rwa [List.length_map, hhs] at h
    have rH : w2.ownsRow w1.heap.size 30 1 vH (L.length + 1) (hs.map Hs.v) := by have h := hd.rowH; rwa [List.length_map, hhs] at h
    have noH := hd.rowHO
    obtain ⟨gI, cI, rfl, _, _, cellI⟩ := row_val rI (by omega)
    obtain ⟨gH, cH, rfl, _, gH', cellH⟩ := row_val rH (by omega)
    have noH' := noH gH rfl
    clear HLA noH rI rH
    go_wp2_with fail
    refine (pickJ_any k0 (L.length + 1) w2 (by omega) (by omega)).mono ?_
    rintro e w3 ⟨j, rfl, hj, hw3⟩
    obtain rfl : w2 = w3 := hw3.symm
    clear hw3
    obtain ⟨y, hy⟩ : ∃ y, hs[j]? = some y := ⟨_, List.getElem?_eq_getElem (by omega)⟩
    have cI1 : w2.cell? ⟨gI, j, none⟩ = some (.slice (some ⟨y.G, 0, none⟩) 66 66) := cellI j _ (by rw [List.getElem?_map, hy]; rfl)
    have cH1 : w2.cell? ⟨gH, j, none⟩ = some (.slice (some ⟨y.H, 0, none⟩) 32 y.hc) := cellH j _ (by rw [List.getElem?_map, hy]; rfl)
    have hyk := hd.each j y hy
    have hT := hyk.tld
    have hHad := hyk.had
    have hadO := hyk.hadO
    have hImg := hyk.img
    have hImgO := hyk.imgO
    have hj' : (j : Int) < ((L.length + 1 : Nat) : Int) := by omega
    have hDev := hd.dev
    have hCnt := hd.cnt
    have ho2 := hd.o2
    have hown := hd.own
    have hlo := hd.lo
    clear cellI cellH hy hhs hyk hd
    obtain ⟨yS, yf, yp, yH, yc, yG⟩ := y
    simp only [Hs.v] at cI1 cH1 hT hHad hadO hImg hImgO
    go_wp2_with fail
    refine (lay_img D O S yS dv lf w2 yG hDev hImg (fun h => hImgO (Or.inl h))).mono ?_
    rintro e w3 ⟨rfl, ⟨S3, l3, hD3, hSam⟩, C3⟩
    have hC3 := hCnt.chg C3 ho2
    have hT3 := hT.sam hSam
    have cH3 : w3.cell? ⟨gH, j, none⟩ = some (.slice (some ⟨yH, 0, none⟩) 32 yc) := (World.cell?_of_block (C3.block gH gH' (fun h => noH' (Or.inl h)))).trans cH1
    have hHad3 := row_chg hHad C3 (fun g hg h => hadO (Or.inl (own_slice hg ▸ h)))
    have b3 : Below w.heap.size w w3 := C3.to b2 b2.size (fun q hq => by have := (hown q hq).1; have := g1.size; omega)
    have gH3 : gH < w3.heap.size := Nat.lt_of_lt_of_le gH' C3.size
    clear hT hHad hadO hImg hImgO hDev hCnt cI1 cH1 hSam C3 hown hlo b2 g1 noH' gH' ho2
    by_cases hjn : j < L.length
    · have ho := fun (s' : ByteArray) (h : s' = sec) => show Calls Tryz.prog 17 #[.pointer (some ⟨D, 0, none⟩), .pointer (some ⟨C, 0, none⟩), .string s'] w3 _ from h ▸ open_old D C O S3 _ l3 sec L.length j yf yp w3 hD3 hC3 hs16 (hK.below b3) hT3 hjn (by omega)
      have HO : Hid _ := ho
      clear ho hD3 hT3 hHad3 cH3
      have hjn' : (j : Int) < (L.length : Int) := by omega
      go_wp2_with fail
      refine Calls.mono (HO.out _ hsec.out.symm) ?_
      rintro e w4 ⟨rfl, g4⟩
      have hC4 := hC3.below g4 hC3.lt
      have b4 := b3.trans (g4.mono b3.size)
      clear HO g4 hC3
      go_wp2_with fail
      refine (tell_some 15 w4 (hE.below b4)).mono ?_
      rintro e w5 ⟨rfl, g5⟩
      go_wp2_with fail
      refine (Dv.get_any C _ w5 (hC4.below g5 hC4.lt)).mono ?_
      rintro e w6 ⟨rfl, hw6⟩
      obtain rfl : w5 = w6 := hw6.symm
      go_wp2_with fail
      go_ret
      exact ⟨rfl, b4.trans (g5.mono b4.size)⟩
    · obtain rfl : j = L.length := by omega
      have ho := fun (s' : ByteArray) (h : s' = sec) => show Calls Tryz.prog 17 #[.pointer (some ⟨D, 0, none⟩), .pointer (some ⟨C, 0, none⟩), .string s'] w3 _ from h ▸ open_tld D C O S3 _ l3 sec L.length yf yp w3 hD3 hC3 hs16 (hK.below b3) hT3
      have HO : Hid _ := ho
      clear ho hD3 hT3 hC3 hjn
      go_wp2_with fail
      refine Calls.mono (HO.out _ hsec.out.symm) ?_
      rintro e w4 ⟨⟨VB8, CB8, n8, f8, r8, rfl, hV4⟩, g4⟩
      have b4 := b3.trans (g4.mono b3.size)
      have cH4 : w4.cell? ⟨gH, L.length, none⟩ = some (.slice (some ⟨yH, 0, none⟩) 32 yc) := (World.cell?_of_block (g4.block gH gH3)).trans cH3
      have gH4 : gH < w4.heap.size := Nat.lt_of_lt_of_le gH3 g4.size
      have hHad4 := row_below hHad3 g4
      clear HO g4 cH3 gH3 hHad3 b3
      go_wp2_with fail
      have HW : Hid (∀ W', Below w4.heap.size w4 W' → W'.cell? ⟨gH, L.length, none⟩ = some (.slice (some ⟨yH, 0, none⟩) 32 yc)) := fun W' hb => (World.cell?_of_block (hb.block gH gH4)).trans cH4
      have s0 : Below w4.heap.size w4 w4.drew := below_drewN (Below.refl _ _) 1
      refine regS_in 16 (fun W' => Below w4.heap.size w4 W') Tr.mixed rfl ?_
      refine regS_take 0 62 (.nilIface) rfl rfl (by kernel_rfl) (fun _ _ _ h => h) (by kernel_rfl) (fun w hs' => by go_simp) s0 ?_
      refine regS_take 1 63 (.bool true) rfl rfl (by kernel_rfl) (fun _ _ _ h => h) (by kernel_rfl) (fun w hs' => by go_simp) s0 ?_
      refine regS_take 2 64 (.bool true) rfl rfl (by kernel_rfl) (fun _ _ _ h => h) (by kernel_rfl) (fun w hs' => by go_simp) s0 ?_
      refine regS_take 3 65 (.pointer (some ⟨VB8, 0, none⟩)) rfl rfl (by kernel_rfl) (fun _ _ _ h => h) (by kernel_rfl) (fun w hs' => by go_simp) s0 ?_
      refine regS_take 4 66 (.bool true) rfl rfl (by kernel_rfl) (fun _ _ _ h => h) (by kernel_rfl) (fun w hs' => by go_simp) s0 ?_
      refine regS_take 5 67 (.bool true) rfl rfl (by kernel_rfl) (fun _ _ _ h => h) (by kernel_rfl) (fun w hs' => by go_simp) s0 ?_
      refine regS_take 6 68 (.bool true) rfl rfl (by kernel_rfl) (fun _ _ _ h => h) (by kernel_rfl) (fun w hs' => by go_simp) s0 ?_
      refine regS_take 7 69 (.pointer (some ⟨VB8, 0, none⟩)) rfl rfl (by kernel_rfl) (fun _ _ _ h => h) (by kernel_rfl) (fun w hs' => by go_simp) s0 ?_
      refine regS_take 9 71 (.slice (some ⟨gH, 0, none⟩) (L.length + 1) cH) rfl rfl (by kernel_rfl) (fun _ _ _ h => h) (by kernel_rfl) (fun w hs' => by go_simp) s0 ?_
      refine regS_take 10 72 (.int .i64 (L.length : Int)) rfl rfl (by kernel_rfl) (fun _ _ _ h => h) (by kernel_rfl) (fun w hs' => by go_simp) s0 ?_
      refine regS_take 11 73 (.pointer (some ⟨gH, L.length, none⟩)) rfl rfl (by kernel_rfl) (fun _ _ _ h => h) (by kernel_rfl) (fun w hs' => by go_simp; intro h; omega) s0 ?_
      refine regS_take 12 74 (.slice (some ⟨yH, 0, none⟩) 32 yc) rfl rfl (by kernel_rfl) (fun _ _ _ h => h) (by kernel_rfl) (fun W' hs' => by have c0 := HW.out W' hs'; go_simp) s0 ?_
      simp only [Act.put, List.setIfInBounds_toArray, List.set_cons_succ, List.set_cons_zero]
      refine regS_one 8 rfl (by kernel_rfl) (by kernel_rfl) (fun K hK' => ?_)
      go_wp2_with fail
      refine (all_any w4.drew VB8 D C _ _ 1 _ _ CB8 _ _ false (hV4.below s0 hV4.blk.lt hV4.map.lt)).mono ?_
      rintro e w5 ⟨⟨v5, rfl, ow5⟩, g5⟩
      obtain ⟨H5, c5, rfl, _, _, _⟩ := row_val ow5 (by decide)
      have s5 : Below w4.heap.size w4 w5 := s0.trans (g5.mono s0.size)
      refine hK' _ _ s5 ?_
      clear hK' K
      have hHad5 := row_below hHad4 s5
      try simp only [Act.put, List.setIfInBounds_toArray, List.set_cons_succ, List.set_cons_zero]
      refine regS_one 13 rfl (by kernel_rfl) (by kernel_rfl) (fun K hK' => ?_)
      go_wp2_with fail
      refine (equal_rows ow5 hHad5).mono ?_
      rintro e w6 ⟨rfl, g6⟩
      have s6 : Below w4.heap.size w4 w6 := s5.trans (g6.mono s5.size)
      refine hK' _ _ s6 ?_
      clear hK' K
      refine regS_take 14 76 (.bool true) rfl rfl (by kernel_rfl) (fun _ _ _ h => h) (by kernel_rfl) (fun w hs' => by go_simp) s6 ?_
      refine regS_take 15 4 (.bool true) rfl rfl (by kernel_rfl) (fun _ _ _ h => h) (by kernel_rfl) (fun w hs' => by go_simp) s6 ?_
      refine regS_end (by kernel_rfl) ?_
      simp only [Act.put, List.setIfInBounds_toArray, List.set_cons_succ, List.set_cons_zero]
      go_wp2_with fail
      go_ret
      exact ⟨rfl, b4.trans (s6.mono b4.size)⟩
end Go.Proofs.YtmfbfhkhfhphfabGreatDoor.Vt
namespace Go.Proofs.YtmfbfhkhfhphfabGreatDoor.Vt
open Go.ChangeShapes Go.WideShapes Go.ChangeAt Go.ChangeMaps Go.RowKit
theorem own : ownKnob Tryz.prog.godebug = none := by kernel_rfl
theorem laidOut : laidOutB Tryz.prog = true := by kernel_rfl
theorem cells9 : Tryz.prog.cellsOf 9 = 1 := by kernel_rfl
theorem cellsT : Tryz.prog.cellsOf 30 = 1 := by kernel_rfl
theorem g_et : Tryz.prog.globalNamed "errors.errorType" = some 0 := by kernel_rfl
theorem one_row : ((List.range 304).filter fun t => Tryz.prog.rowNamed t [101, 114, 114, 111, 114]) = [35] := by kernel_rfl
theorem n_types : Tryz.prog.types.size = 304 := by kernel_rfl
theorem tK : (Tryz.prog.globals[5]?).map (·.type) = some 264 := by kernel_rfl
theorem c32 : Tryz.prog.cellsOf 264 = 64 := by kernel_rfl
theorem c30 : Tryz.prog.cellsOf 217 = 1 := by kernel_rfl
def laidP : List (String × DataW Unit) := Rows.vaultOldRow.laid
def laidE : List (String × DataW Unit) := [("errors.errorType", Rows.laid_errors_errorType)]
def laidK : List (String × DataW Unit) := [("coffer/sum.roundNumbers", Rows.laid_coffer_sum_roundNumbers)]
theorem eK : (Rows.laid_coffer_sum_roundNumbers : DataW Unit) = Lib.tabData .u32 (Sm.kList.map Int.ofNat) := by kernel_rfl
theorem kList_I : ∀ i : Fin 64, (Sm.kList.map Int.ofNat).getD i.1 0 = I (Sm.kF i.1) := by decide +kernel
/-- What the row's condition gives the walk: the two variables that a run reads. -/
theorem of_laid {W : World} (h : laidMetH Tryz.prog laidP W) : EB W ∧ Sm.KB W := by
  have h' : laidMet Tryz.prog laidK W ∧ handlesMet Tryz.prog laidE W := h
  obtain ⟨hk, hh⟩ := h'
  constructor
  · obtain ⟨name, u, ty, e1, e2, e3, e4, e5⟩ := hh _ (List.mem_singleton.2 rfl)
    have en : name = [101, 114, 114, 111, 114] := (Option.some.inj e1).symm
    subst en
    obtain rfl : 185 = u := Option.some.inj (Eq.trans (Eq.symm (by kernel_rfl)) e2)
    have hm : ty ∈ (List.range 304).filter fun t => Tryz.prog.rowNamed t [101, 114, 114, 111, 114] := List.mem_filter.2 ⟨List.mem_range.2 (by rw [← n_types]; exact e3), e4⟩
    rw [one_row] at hm
    obtain rfl := List.mem_singleton.1 hm
    have hh : typeHandle Tryz.prog 35 = hnd 35 := by kernel_rfl
    rw [hh] at e5
    simpa [EB] using World.var?_cell g_et e5 0
  · unfold laidK at hk
    rw [eK] at hk
    have b := fun i (hi : i < 64) => (Lib.tabIs_of_head (g := 5) (by kernel_rfl) tK Tryz.underlying264 Tryz.underlying217 c30 c32 hk).cell (g := 5) (by kernel_rfl) i (by simpa [Sm.kList] using hi)
    refine ⟨World.block_lt_of_cell? W _ (b 0 (by decide)), fun i hi => ?_⟩
    rw [b i hi]; exact congrArg (fun z => some (Value.int .u32 z)) (kList_I ⟨i, hi⟩)
/-- A world in which both variables lie as listed. -/
noncomputable def wit (os : Os) : World := ((World.holding Tryz.prog os ⟨#[], #[], []⟩).setCell ⟨0, 0, none⟩ (.iface 185 (.agg #[hnd 35]))).layVars Tryz.prog laidK
theorem wit_os (os : Os) : (wit os).os = os := (World.layVars_os _ _ _).trans rfl
section
variable {H : Type} {enc : TypeId × Value → H} {P : Program} {w : World} {base : Nat} {sp : Nat → Bool} {held : Bool}
/-- A slice that can be read: the cells of each element. -/
theorem slice_open {t e : TypeId} {fuel : Nat} {a0 : Option Addr} {len cap : Nat} {x : DataW H × List MemPlace} (ht : P.underlying t = some (.slice e)) (hp : 0 < P.cellsOf e) (h : DataW.trod enc P w base sp held fuel t [.slice a0 len cap] = some x) :
    len ≤ maxLen ∧ ∀ i, i < len → ∃ a cs n y, a0 = some a ∧ a.spot = none ∧ w.cells? base (a.add (i * P.cellsOf e)) (P.cellsOf e) = some cs ∧ DataW.trod enc P w base sp held n e cs = some y := by
  rcases DataW.trod_slice ht h with ⟨h0, _⟩ | ⟨a, len', cap', elems, rest, n, _, hcs, rfl, hb, hl, hm, hlen, hel, hsp, hns⟩
  · simp at h0
    obtain ⟨rfl, rfl, rfl⟩ := h0
    exact ⟨Nat.zero_le _, fun i hi => absurd hi (Nat.not_lt_zero _)⟩
  · simp at hcs
    obtain ⟨rfl, rfl, rfl⟩ := hcs
    refine ⟨Nat.le_trans hl hm, fun i hi => ?_⟩
    have hE := hel i hi
    rw [List.getElem?_eq_getElem (by omega), Option.bind_eq_some_iff] at hE
    obtain ⟨cs, h1, h2⟩ := hE
    have hE0 := hel 0 (by omega)
    rw [List.getElem?_eq_getElem (by omega), Option.bind_eq_some_iff] at hE0
    obtain ⟨cs0, h3, _⟩ := hE0
    obtain ⟨_, hl0, hc0⟩ := World.cells?_some h3
    have hc1 := hc0 0 hp
    rw [List.getElem?_eq_getElem (by omega)] at hc1
    have hs := World.cell?_spot hc1
    simp [Addr.add] at hs
    exact ⟨a, cs, n, _, rfl, hs, h1, h2⟩
end
theorem list_of {α : Type} (p : Nat → α → Prop) : ∀ n : Nat, (∀ i, i < n → ∃ x, p i x) → ∃ l : List α, l.length = n ∧ ∀ i x, l[i]? = some x → p i x
  | 0, _ => ⟨[], rfl, fun i x h => by simp at h⟩
  | n + 1, h => by
    obtain ⟨l, h1, h2⟩ := list_of p n (fun i hi => h i (by omega))
    obtain ⟨x, hx⟩ := h n (by omega)
    refine ⟨l ++ [x], by simp [h1], fun i y hy => ?_⟩
    by_cases hi : i < n
    · rw [List.getElem?_append_left (by omega)] at hy; exact h2 i y hy
    · have : i = n := by
        have := (List.getElem?_eq_some_iff.1 hy).1
        simp [h1] at this; omega
      subst this
      rw [List.getElem?_append_right (by omega), h1, Nat.sub_self] at hy
      simp at hy; subst hy; exact hx
section
variable {H : Type} {enc : TypeId × Value → H} {w : World} {base : Nat} {sp : Nat → Bool} {held : Bool} {fuel : Nat} {a0 : Option Addr} {len cap : Nat} {x : DataW H × List MemPlace}
theorem one_cell {P : Program} {e : TypeId} {a : Addr} {i : Nat} {cs : List Value} (hc : P.cellsOf e = 1) (h : w.cells? base (a.add (i * P.cellsOf e)) (P.cellsOf e) = some cs) (v : Value) (hv : cs = [v]) (hs : a.spot = none) : ∃ g o, a = ⟨g, o, none⟩ ∧ g < w.heap.size ∧ w.cell? ⟨g, o + i, none⟩ = some v := by
  subst hv
  rw [hc, Nat.mul_one] at h
  have h1 := cell_of_cells?_one h
  obtain ⟨b, off, spot⟩ := a
  obtain rfl : spot = none := hs
  rw [Dv.addr_addO] at h1
  exact ⟨b, off, rfl, World.block_lt_of_cell? w _ h1, h1⟩
theorem texts_open (h : DataW.trod enc Tryz.prog w base sp held fuel 30 [.slice a0 len cap] = some x) : ∃ ls : List ByteArray, ls.length = len ∧ len ≤ maxLen ∧ Dv.Texts w (fun _ => False) a0 ls ∧ ∀ s ∈ ls, s.size ≤ maxLen := by
  obtain ⟨hl, hc⟩ := slice_open Tryz.underlying30 (by rw [cells9]; decide) h
  obtain ⟨ls, h1, h2⟩ := list_of (fun i (s : ByteArray) => (∃ g o, a0 = some ⟨g, o, none⟩ ∧ g < w.heap.size ∧ ¬ False ∧ w.cell? ⟨g, o + i, none⟩ = some (.string s)) ∧ s.size ≤ maxLen) len (fun i hi => by
    obtain ⟨a, cs, n, y, rfl, hsp, h3, h4⟩ := hc i hi
    obtain ⟨s, rfl, _, hs⟩ := DataW.trod_string Tryz.underlying9 h4
    obtain ⟨g, o, rfl, h5, h6⟩ := one_cell cells9 h3 _ rfl hsp
    exact ⟨s, ⟨g, o, rfl, h5, id, h6⟩, hs⟩)
  refine ⟨ls, h1, hl, fun i z hz => (h2 i z hz).1, fun z hz => ?_⟩
  obtain ⟨i, hi⟩ := List.getElem?_of_mem hz
  exact (h2 i z hi).2
theorem lists_open (h : DataW.trod enc Tryz.prog w base sp held fuel 22 [.slice a0 len cap] = some x) : ∃ L : List (Option Addr × Nat × List ByteArray), L.length = len ∧ len ≤ maxLen ∧ Lst w a0 L := by
  obtain ⟨hl, hc⟩ := slice_open Tryz.underlying22 (by rw [cellsT]; decide) h
  obtain ⟨L, h1, h2⟩ := list_of (fun i (x : Option Addr × Nat × List ByteArray) => ∃ g o, a0 = some ⟨g, o, none⟩ ∧ g < w.heap.size ∧ w.cell? ⟨g, o + i, none⟩ = some (.slice x.1 x.2.2.length x.2.1) ∧ Dv.Texts w (fun _ => False) x.1 x.2.2 ∧ x.2.2.length ≤ maxLen ∧ ∀ s ∈ x.2.2, s.size ≤ maxLen) len (fun i hi => by
    obtain ⟨a, cs, n, y, rfl, hsp, h3, h4⟩ := hc i hi
    obtain ⟨a3, l3, c3, rfl⟩ : ∃ a3 l3 c3, cs = [.slice a3 l3 c3] := by
      rcases DataW.trod_slice Tryz.underlying30 h4 with ⟨e, _⟩ | ⟨a, len', cap', _, _, _, _, e, _⟩
      · exact ⟨_, _, _, e⟩
      · exact ⟨_, _, _, e⟩
    obtain ⟨ls, rfl, h5, h6, h7⟩ := texts_open h4
    obtain ⟨g, o, rfl, h8, h9⟩ := one_cell cellsT h3 _ rfl hsp
    exact ⟨(a3, c3, ls), g, o, rfl, h8, h9, h6, h5, h7⟩)
  exact ⟨L, h1, hl, h2⟩
end
end Go.Proofs.YtmfbfhkhfhphfabGreatDoor.Vt
namespace Go.Proofs.YtmfbfhkhfhphfabGreatDoor.Vt
open Go.ChangeShapes Go.WideShapes Go.ChangeAt Go.ChangeMaps Go.RowKit
set_option maxRecDepth 100000 in
theorem old_lifted (os : Os) (started : os.Started) (H : Type) (enc : TypeId × Value → H) :
    ReturnsInHanded {} Tryz.checked os 6 .any (fun w args => (Rows.vaultOldSpec.pre enc Tryz.prog Tryz.f6 [] false w args ∧ laidMetH Tryz.prog laidP w) ∧ sizedMet enc Tryz.prog Tryz.f6 (OpenSpec.ofChange Rows.vaultOldSpec) false w args)
      (Rows.vaultOldSpec.post enc Tryz.prog Tryz.f6 false true false false) := by
  refine returnsInHanded_of_change_and (C := Tryz.checked) (X := fun w _ => laidMetH Tryz.prog laidP w) (fun _ _ _ hh h => h.of_heap hh) own started (by kernel_rfl) Tryz.func6
    (ChangeSpec.witness_shaped (enc := enc) (C := Tryz.checked) (os := os) (X := fun w _ => laidMetH Tryz.prog laidP w) false (wit os) #[.slice none 0 0, .int .i64 0] 8 (wit_os os)
      (World.shaped_of_ZipB (by kernel_rfl) (by kernel_rfl)) (by kernel_rfl) (by kernel_rfl) (by kernel_rfl)
      (laidMetH_of_parts (laidMet_of_run' 8 (by kernel_rfl) (by kernel_rfl)) (by kernel_rfl))) ?_
  intro W base args ds gs before hval0 hW _ _ hL _
  have hval : ∀ (j : Nat) t v, Tryz.f6.params[j]? = some t → args[j]? = some v → Value.okWide Tryz.prog W .any base t v := hval0
  have hW' := hW
  obtain ⟨p, q, hA0, hV, rfl, _, _⟩ := hW
  have hA : DataW.TrodAll enc Tryz.prog W 0 (fun _ => true) true Tryz.f6.params.toList args.toList ds p := hA0
  rw [Tryz.params6] at hA hval
  obtain ⟨v0, v1, d0, d1, p0, p1, rfl, rfl, rfl, h0, h1⟩ := trodAll_two hA
  obtain ⟨rfl, rfl⟩ := trodVars_none hV
  obtain ⟨n1, rfl, rfl, rfl, w1⟩ := open_int Tryz.underlying3 (hval 1 3 v1 rfl rfl) h1
  obtain ⟨a0, len, cap, rfl⟩ := okWide_slice Tryz.underlying22 (hval 0 22 v0 rfl rfl)
  clear hA0 hval0
  have h0k := h0
  obtain ⟨fu0, hf0⟩ := h0
  have hlt : ∀ x, x ∈ p0 → x.block < W.heap.size := fun x hx => hW'.lt x (by simp [hx])
  obtain ⟨L, rfl, hm, hLst⟩ := lists_open (w := W) (by simpa [Value.cells] using hf0)
  obtain ⟨hE, hK⟩ := of_laid hL
  refine (old_any a0 cap L n1 W hLst hm hK hE).mono fun e' W' ⟨he, hb⟩ => ?_
  subst he
  simp only [List.append_nil] at hW'
  refine ⟨_, rfl, _, _, _, [], p0 ++ [], [], hW', trodAll_mk1 (shut_bool Tryz.underlying4 _), ?_, rfl, hb.frame _, fun h => by cases h⟩
  exact trodAll_mk2 (Below.trod laidOut (by kernel_rfl) (of_decide_eq_true (by kernel_rfl)) h0k hb hlt) (shut_int Tryz.underlying3 w1)
theorem vaultOld_holds : Rows.VaultOldSaid :=
  OpenClaim.holds_of_wide 6 Tryz.f6 rfl rfl rfl rfl rfl rfl rfl ⟨rfl, rfl, rfl, rfl, rfl⟩ rfl rfl rfl rfl rfl (by kernel_rfl) Tryz.func6 (by kernel_rfl)
    (of_decide_eq_true (by kernel_rfl)) (by unfold Func.isWrapper; first | (rw [if_pos (by decide +kernel)]; kernel_rfl) | (rw [if_neg (by decide +kernel)]; exact ⟨rfl, rfl⟩))
    (fun os started H enc _ => old_lifted os started H enc)
end Go.Proofs.YtmfbfhkhfhphfabGreatDoor.Vt
