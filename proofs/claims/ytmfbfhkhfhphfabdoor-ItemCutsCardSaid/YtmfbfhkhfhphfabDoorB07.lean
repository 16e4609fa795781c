/-
  Part of the proof: what a text's lines tell, is walked.
  Part of the proof: Parse is walked.
  Part of the proof: the keep package's held, alike and pick are walked.
  Part of the proof: the keep package's fact on items as text is walked.
-/
import Derived.Test.YtmfbfhkhfhphfabDoorB06
namespace Go.Proofs.YtmfbfhkhfhphfabDoor.It
open Go.RowKit
theorem infoIt : (Tryd.prog.info? 39).map (fun i => (i.zero, i.size, i.bytes)) = some (some (.agg #[.string ByteArray.empty, .string ByteArray.empty, .slice none 0 0]), 3, 56) := by kernel_rfl
/-- Items' cells, one behind the other. -/
def flat : List ItD → List Value
  | [] => []
  | d :: ds => .string d.x.name :: .string d.x.tag :: d.val :: flat ds
theorem flat_snoc (ds : List ItD) (d : ItD) : flat (ds ++ [d]) = flat ds ++ [.string d.x.name, .string d.x.tag, d.val] := by
  induction ds with
  | nil => rfl
  | cons e ds ih => simp [flat, ih]
theorem flat_get : ∀ (ds : List ItD) (i : Nat) (d : ItD), ds[i]? = some d → (flat ds)[i * 3]? = some (.string d.x.name) ∧ (flat ds)[i * 3 + 1]? = some (.string d.x.tag) ∧ (flat ds)[i * 3 + 2]? = some d.val
  | [], i, d, h => by simp at h
  | e :: ds, 0, d, h => by simp at h; subst h; exact ⟨rfl, rfl, rfl⟩
  | e :: ds, i + 1, d, h => by
    have ih := flat_get ds i d (by simpa using h)
    rw [show (i + 1) * 3 = i * 3 + 3 from by omega, show i * 3 + 3 + 1 = i * 3 + 1 + 3 from by omega, show i * 3 + 3 + 2 = i * 3 + 2 + 3 from by omega]
    exact ih
/-- A slice of items that the call has made. -/
def Own (w : World) (B : Nat) (v : Value) (ds : List ItD) : Prop := w.ownsRow B 39 3 v ds.length (flat ds) ∧ ∀ d ∈ ds, d.Ok w ∧ ∀ g o, d.a = some ⟨g, o, none⟩ → g < w.heap.size ∧ v.ownBlock ≠ some g
theorem Own.nil (w : World) (B : Nat) : Own w B (.slice none 0 0) [] := ⟨⟨rfl, Or.inl ⟨rfl, rfl⟩⟩, fun d h => by cases h⟩
theorem Own.below {w w' : World} {B : Nat} {v : Value} {ds : List ItD} (h : Own w B v ds) (hb : Below w.heap.size w w') : Own w' B v ds :=
  ⟨ownsRow_below h.1 hb, fun d hd => ⟨(h.2 d hd).1.below hb, fun g o e => ⟨Nat.lt_of_lt_of_le ((h.2 d hd).2 g o e).1 hb.size, ((h.2 d hd).2 g o e).2⟩⟩⟩
theorem Own.its {w : World} {B : Nat} {v : Value} {ds : List ItD} (h : Own w B v ds) : ∃ a c, v = .slice a ds.length c ∧ Its w a ds := by
  obtain ⟨⟨h1, ⟨h2, h3⟩ | ⟨g, cap, cur, hv, hg, hh, hc, rr⟩⟩, hO⟩ := h
  · refine ⟨none, 0, by rw [h2, h3], fun i d hd => ?_⟩
    have := (List.getElem?_eq_some_iff.1 hd).1
    omega
  · refine ⟨some ⟨g, 0, none⟩, cap, hv, fun i d hd => ?_⟩
    obtain ⟨f0, f1, f2⟩ := flat_get ds i d hd
    have hr : w.ownsRow B 39 3 (.slice (some ⟨g, 0, none⟩) ds.length cap) ds.length (flat ds) := by rw [← hv]; exact ⟨h1, Or.inr ⟨g, cap, cur, hv, hg, hh, hc, rr⟩⟩
    refine ⟨g, 0, rfl, ?_, ?_, ?_, (hO d (List.mem_of_getElem? hd)).1⟩
    · rw [Nat.zero_add]; exact row_cell hr _ _ f0
    · rw [Nat.zero_add]; exact row_cell hr _ _ f1
    · rw [Nat.zero_add]; exact row_cell hr _ _ f2
theorem okd_grown {w w' : World} {d : ItD} {row : Option Nat} (h : d.Ok w) (hg : w.grownBy w' row) (hne : ∀ g o, d.a = some ⟨g, o, none⟩ → row ≠ some g) : d.Ok w' := by
  refine ⟨fun i z hz => ?_, h.2⟩
  obtain ⟨g, o, e1, e2⟩ := h.1 i z hz
  exact ⟨g, o, e1, grown_cell e2 hg (fun k ek hk => hne g o e1 (by rw [ek, hk]))⟩
/-- What lines answer. -/
def FieldsPost (l : List UInt8) (e : Ending) (w' : World) : Prop := match fieldsP l with
  | some (d, xs) => ∃ a c ds, e = .returned (.tuple #[.int .i64 d, .slice a ds.length c, .bool true]) ∧ xsOf ds = xs ∧ Its w' a ds ∧ ds.length ≤ 60
  | none => e = .returned (.tuple #[.int .i64 0, .slice none 0 0, .bool false])
theorem fieldsPost_no {l : List UInt8} (h : fieldsP l = none) (w' : World) : FieldsPost l (.returned (.tuple #[.int .i64 0, .slice none 0 0, .bool false])) w' := by
  unfold FieldsPost; rw [h]
theorem fieldsPost_ok {l : List UInt8} {d : Int} {xs : List Itm} (h : fieldsP l = some (d, xs)) (a : Option Addr) (c : Nat) (ds : List ItD) (w' : World) (h1 : xsOf ds = xs) (h2 : Its w' a ds) (h3 : ds.length ≤ 60) : FieldsPost l (.returned (.tuple #[.int .i64 d, .slice a ds.length c, .bool true])) w' := by
  unfold FieldsPost; rw [h]; exact ⟨a, c, ds, rfl, h1, h2, h3⟩
theorem cut_lens (l : List UInt8) : (Lib.cut l [10]).1.length ≤ l.length ∧ (Lib.cut l [10]).2.1.length ≤ l.length ∧ (l ≠ [] → (Lib.cut l [10]).2.1.length < l.length) := by
  unfold Lib.cut
  split
  · refine ⟨by simp; omega, by simp, fun h => ?_⟩
    have : 0 < l.length := List.length_pos_iff.2 h
    simp; try omega
  · refine ⟨by simp, by simp, fun h => ?_⟩
    simpa using List.length_pos_iff.2 h
/-- How long a text is. -/
def sLen (v : Value) : Nat := match v with
  | .string s => s.size
  | _ => 0
set_option maxRecDepth 100000 in
set_option maxHeartbeats 4000000 in
theorem fields_any (s : ByteArray) (w : World) (hs : s.size ≤ 100000) (hL : LB w) :
    Calls Tryd.prog 14 #[.string s] w fun e w' => FieldsPost s.data.toList e w' ∧ Below w.heap.size w w' := by
  obtain ⟨c1, c2, _⟩ := cut_lens s.data.toList
  rw [← Lib.size_eq] at c1 c2
  have HF : Hid (fieldsP s.data.toList = match numP (trimP (Lib.cut s.data.toList [10]).1) with
    | none => none
    | some d => (itemsP 60 (Lib.cut s.data.toList [10]).2.1).map fun xs => (d, xs)) := rfl
  have cc := cut_any s w (by omega) hL
  generalize Lib.cut s.data.toList [10] = q at *
  obtain ⟨qa, qb, qc⟩ := q
  simp only at c1 c2 cc HF
  have t4 : (trimP qa).length ≤ qa.length := by unfold trimP; split <;> simp
  cases hn : numP (trimP qa) with
  | none =>
    have HN : Hid (fieldsP s.data.toList = none) := by unfold Hid; rw [HF.out, hn]
    go_enter Tryd.func14, Tryd.ntmps14
    go_wp2_with fail
    refine cc.mono ?_
    rintro e w1 ⟨rfl, g1⟩
    go_wp2_with fail
    refine (trim_any _ w1).mono ?_
    rintro e w2 ⟨rfl, hw⟩
    obtain rfl : w1 = w2 := hw.symm
    clear hw
    go_wp2_with fail
    refine (number_no _ w1 (by rw [Lib.size_eq]; simp; omega) (hL.below g1) hn).mono ?_
    rintro e w3 ⟨⟨z, rfl⟩, g3⟩
    go_wp2_with fail
    refine bodyPost_ret (v := .tuple #[.int .i64 0, .slice none 0 0, .bool false]) (by simp [results, Tryd.results14, go_sem]) rfl ?_
    exact ⟨fieldsPost_no HN.out _, g1.trans (g3.mono g1.size)⟩
  | some d =>
    go_enter Tryd.func14, Tryd.ntmps14
    go_wp2_with fail
    refine cc.mono ?_
    rintro e w1 ⟨rfl, g1⟩
    go_wp2_with fail
    refine (trim_any _ w1).mono ?_
    rintro e w2 ⟨rfl, hw⟩
    obtain rfl : w1 = w2 := hw.symm
    clear hw
    go_wp2_with fail
    refine (number_ok _ w1 (by rw [Lib.size_eq]; simp; omega) d hn).mono ?_
    rintro e w3 ⟨rfl, g3⟩
    have HF3 : Hid (fieldsP s.data.toList = (itemsP 60 qb).map fun xs => (d, xs)) := by unfold Hid; rw [HF.out, hn]
    have hb3 := g1.trans (g3.mono g1.size)
    clear HF cc hn g1 g3
    go_wp2_with fail
    go_loopw [6, 10] (fun rs v wr => ∃ (ds : List ItD) (l : List UInt8), rs = .string (ba l) ∧ l.length ≤ s.size ∧ ds.length ≤ 60 ∧ itemsP 60 qb = (itemsP (60 - ds.length) l).map (xsOf ds ++ ·) ∧ Own wr w.heap.size v ds ∧ Below w.heap.size w wr) (fun rs _ _ => sLen rs)
    case atStart => exact ⟨[], qb, rfl, c2, by simp, by simp [xsOf], Own.nil _ _, hb3⟩
    case round =>
      obtain ⟨ds, l, rfl, hl, h60, hit, hown, hbel⟩ := hrel
      have HIT : Hid (itemsP 60 qb = (itemsP (60 - ds.length) l).map (xsOf ds ++ ·)) := hit
      clear hit hb3
      cases l with
      | nil =>
        have HX : Hid (fieldsP s.data.toList = some (d, xsOf ds)) := by
          unfold Hid
          rw [HF3.out, HIT.out]
          simp [itemsP]
        obtain ⟨a5, c5, rfl, hits⟩ := hown.its
        have HIts : Hid (Its wr a5 ds) := hits
        have hempe : (ba []).toList.isEmpty = true := by rw [Lib.toList_data]; rfl
        clear hown hits
        go_wp2_with fail
        go_ret3
        exact ⟨fieldsPost_ok HX.out a5 c5 ds wr rfl HIts.out h60, hbel⟩
      | cons ch l =>
        have hemp : ¬ (ba (ch :: l)).toList = [] := by rw [Lib.toList_data, ba_list]; simp
        have hempe : (ba (ch :: l)).toList.isEmpty = false := by simpa using hemp
        obtain ⟨a5, c5, hv5, _⟩ := hown.its
        subst hv5
        by_cases hd60 : ds.length = 60
        · have hd60' : (ds.length : Int) = 60 := by omega
          have HX : Hid (fieldsP s.data.toList = none) := by
            unfold Hid
            rw [HF3.out, HIT.out, hd60]
            simp [itemsP]
          clear hown
          go_wp2_with fail
          go_ret3
          exact ⟨fieldsPost_no HX.out _, hbel⟩
        · have hd60' : ¬ (ds.length : Int) = 60 := by omega
          obtain ⟨l1, l2, l3⟩ := cut_lens (ch :: l)
          have l3 := l3 (by simp)
          have hd60e : 60 - ds.length = (59 - ds.length) + 1 := by omega
          have HST : Hid (itemsP (60 - ds.length) (ch :: l) = match itemP (Lib.cut (ch :: l) [10]).1 with
            | none => none
            | some x => (itemsP (59 - ds.length) (Lib.cut (ch :: l) [10]).2.1).map (x :: ·)) := by unfold Hid; rw [hd60e]; rfl
          have cl := cut_any (ba (ch :: l)) wr (by rw [ba_size]; omega) (hL.below hbel)
          rw [ba_list] at cl
          have hbl := ba_size (ch :: l)
          generalize Lib.cut (ch :: l) [10] = q at *
          obtain ⟨qa', qb', qc'⟩ := q
          simp only at l1 l2 l3 cl HST
          clear hd60e
          go_wp2_with fail
          refine cl.mono ?_
          rintro e w4 ⟨rfl, g4⟩
          have hown4 := hown.below g4
          have hb4 := hbel.trans (g4.mono hbel.size)
          clear cl hown hbel g4
          go_wp2_with fail
          refine (itemOf_any (ba qa') w4 (by rw [ba_size]; omega) (hL.below hb4)).mono ?_
          rintro e w5 ⟨hp, g5⟩
          rw [ba_list] at hp
          have hown5 := hown4.below g5
          have hb5 := hb4.trans (g5.mono hb4.size)
          have hg5 : w4.heap.size ≤ w5.heap.size := g5.size
          unfold ItemPost at hp
          cases hx : itemP qa' with
          | none =>
            rw [hx] at hp
            subst hp
            have HX : Hid (fieldsP s.data.toList = none) := by
              unfold Hid
              rw [HF3.out, HIT.out, HST.out, hx]
              simp
            clear hx hown4 hown5 g5
            go_wp2_with fail
            go_ret3
            exact ⟨fieldsPost_no HX.out _, hb5.alloc hb5.size _⟩
          | some x =>
            rw [hx] at hp
            obtain ⟨xa, xc, rfl, hxok, hxg⟩ := hp
            have HN : Hid (itemsP 60 qb = (itemsP (60 - (ds ++ [ItD.mk x xa xc]).length) qb').map (xsOf (ds ++ [ItD.mk x xa xc]) ++ ·)) := by
              have e1 : 60 - (ds ++ [ItD.mk x xa xc]).length = 59 - ds.length := by rw [List.length_append]; show 60 - (ds.length + 1) = 59 - ds.length; omega
              unfold Hid
              rw [e1, HIT.out, HST.out, hx]
              simp only [Option.map_map]
              congr 1
              funext ys
              simp [xsOf]
            have hrow4 := hown4.1
            clear hx hown4 g5 HIT HST
            obtain ⟨nm, tg, zs⟩ := x
            unfold ItD.arr ItD.val
            simp only
            have hB5 : w.heap.size ≤ w5.heap.size := hb5.size
            have g6 := below_alloc w5 (.cells #[.string nm, .string tg, .slice xa zs.length xc] 39)
            have hownA := hown5.below g6
            have hokA := hxok.below g6
            generalize hwA : w5.alloc (.cells #[.string nm, .string tg, .slice xa zs.length xc] 39) = wA at *
            have HWA : Hid (w5.alloc (.cells #[.string nm, .string tg, .slice xa zs.length xc] 39) = wA) := hwA
            clear hwA
            have g7 := below_alloc wA (.cells #[.string nm, .string tg, .slice xa zs.length xc] 39)
            have hownB := hownA.below g7
            have hokB := hokA.below g7
            have hbB := (hb5.trans (g6.mono hb5.size)).trans (g7.mono (by have := g6.size; omega))
            have hsA : w5.heap.size < wA.heap.size := by rw [← HWA.out]; simp
            clear hownA hokA hxok hown5 hb5
            go_wp2_with (at_builtin; refine Hid.out ?_)
            refine Lib.hid ?_
            rw [HWA.out]
            refine wpl_pushZ rfl _ _ 22 rfl w.heap.size 39 (.agg #[.string ByteArray.empty, .string ByteArray.empty, .slice none 0 0]) 3 56 Tryd.underlying22 infoIt rfl (by decide) (.slice a5 ds.length c5) ds.length _ rfl hownB.1 _ _ [.string nm, .string tg, .slice xa zs.length xc] rfl 39 (Blk.new' wA _ _ (by rw [← HWA.out]; simp)) rfl (fun u hu => by simp at hu; rcases hu with rfl | rfl | rfl <;> rfl) (by omega) (by decide) (by simp; omega) ?_
            intro g8 cap8 w8 hrow8 hgrow8 hat8 hlt8
            go_wp2_with fail
            have hbel8 := row_grownBelow hbB hownB.1 hgrow8 (by simp; omega)
            have hne8 : ∀ g o, xa = some ⟨g, o, none⟩ → (Value.slice a5 ds.length c5).ownBlock ≠ some g := fun g o e hb => by
              have h1 := hxg g o e
              have h2 := (row_ownLt hrow4 g hb).2
              omega
            refine ⟨⟨ds ++ [ItD.mk ⟨nm, tg, zs⟩ xa xc], qb', rfl, by omega, by rw [List.length_append]; show ds.length + 1 ≤ 60; omega, HN.out, ⟨?_, ?_⟩, hbel8⟩, ?_⟩
            · rw [flat_snoc, List.length_append]
              exact hrow8
            · have key : ∀ y : ItD, y.Ok (wA.alloc (.cells #[.string nm, .string tg, .slice xa zs.length xc] 39)) → (∀ g o, y.a = some ⟨g, o, none⟩ → g < (wA.alloc (.cells #[.string nm, .string tg, .slice xa zs.length xc] 39)).heap.size ∧ (Value.slice a5 ds.length c5).ownBlock ≠ some g) → y.Ok w8 ∧ ∀ g o, y.a = some ⟨g, o, none⟩ → g < w8.heap.size ∧ (Value.slice (some ⟨g8, 0, none⟩) (ds.length + 1) cap8).ownBlock ≠ some g := by
                intro y hy hya
                refine ⟨okd_grown hy hgrow8 (fun g o e => (hya g o e).2), fun g o e => ⟨Nat.lt_of_lt_of_le (hya g o e).1 hgrow8.size, fun hb => ?_⟩⟩
                have hg8 : g8 = g := by simpa [Value.ownBlock] using hb
                rcases hat8 with h | h
                · exact (hya g o e).2 (by rw [h, hg8])
                · have := (hya g o e).1
                  omega
              intro y hy
              rcases List.mem_append.1 hy with hy | hy
              · exact key y (hownB.2 y hy).1 (hownB.2 y hy).2
              · rw [List.mem_singleton] at hy
                subst hy
                refine key _ hokB (fun g o e => ⟨?_, hne8 g o e⟩)
                have := (hxg g o e).2
                have := g7.size
                omega
            · show (ba qb').size < (ba (ch :: l)).size
              rw [ba_size, ba_size]; exact l3
end Go.Proofs.YtmfbfhkhfhphfabDoor.It
namespace Go.Proofs.YtmfbfhkhfhphfabDoor.It
open Go.RowKit
/-- Just these items are written so. -/
def goodB (l : List UInt8) (d : Int) (xs : List Itm) : Bool := okB d xs && decide (textS d xs = l)
/-- What Parse answers. -/
def ParsePost (l : List UInt8) (e : Ending) (w' : World) : Prop := (∃ d xs, fieldsP l = some (d, xs) ∧ goodB l d xs = true ∧ ∃ a c ds, e = .returned (.tuple #[.int .i64 d, .slice a ds.length c, .nilIface]) ∧ xsOf ds = xs ∧ Its w' a ds ∧ ds.length ≤ 60) ∨ ((∀ d xs, fieldsP l = some (d, xs) → goodB l d xs = false) ∧ e = .returned (.tuple #[.int .i64 0, .slice none 0 0, errF]))
theorem printV_yes {d : Int} {xs : List Itm} (h : okB d xs = true) : printV d xs = .tuple #[.string (ba (textS d xs)), .nilIface] := by
  unfold printV; rw [h]; rfl
set_option maxRecDepth 100000 in
set_option maxHeartbeats 2000000 in
theorem parse_any (s : ByteArray) (w : World) (hs : s.size ≤ 100000) (hL : LB w) :
    Calls Tryd.prog 7 #[.string s] w fun e w' => ParsePost s.data.toList e w' ∧ Below w.heap.size w w' := by
  have hb0 := ba_list
  go_enter Tryd.func7, Tryd.ntmps7
  go_wp2_with fail
  refine (fields_any s w hs hL).mono ?_
  rintro e w1 ⟨hp, g1⟩
  unfold FieldsPost at hp
  cases hf : fieldsP s.data.toList with
  | none =>
    rw [hf] at hp
    have HF : Hid (fieldsP s.data.toList = none) := hf
    clear hf
    subst hp
    go_wp2_with fail
    go_ret3
    exact ⟨Or.inr ⟨fun d xs h => (by rw [HF.out] at h; cases h), rfl⟩, g1⟩
  | some q =>
    obtain ⟨d, xs⟩ := q
    rw [hf] at hp
    have HF : Hid (fieldsP s.data.toList = some (d, xs)) := hf
    clear hf
    obtain ⟨a, c, ds, rfl, hxs, hits, h60⟩ := hp
    subst hxs
    have HI : Hid (Its w1 a ds) := hits
    clear hits
    go_wp2_with fail
    refine (print_any d a c ds w1 HI.out (by unfold maxLen; omega) (hL.below g1)).mono ?_
    rintro e w2 ⟨rfl, g2⟩
    have g3 := g1.trans (g2.mono g1.size)
    by_cases hok : okB d (xsOf ds) = true
    · rw [printV_yes hok]
      by_cases ht : textS d (xsOf ds) = s.data.toList
      · have e1 : (ba (textS d (xsOf ds))).toList = s.toList := by rw [Lib.toList_data, Lib.toList_data, ba_list, ht]
        have HG : Hid (goodB s.data.toList d (xsOf ds) = true) := by unfold Hid goodB; rw [hok]; simp [ht]
        have HI2 : Hid (Its w2 a ds) := HI.out.below g2
        clear ht hok g2
        go_wp2_with fail
        go_ret3
        exact ⟨Or.inl ⟨d, xsOf ds, HF.out, HG.out, a, c, ds, rfl, rfl, HI2.out, h60⟩, g3⟩
      · have e1 : ¬ (ba (textS d (xsOf ds))).toList = s.toList := by rw [Lib.toList_data, Lib.toList_data, ba_list]; exact ht
        have HG : Hid (goodB s.data.toList d (xsOf ds) = false) := by unfold Hid goodB; simp [ht]
        clear ht hok g2
        go_wp2_with fail
        go_ret3
        refine ⟨Or.inr ⟨fun d' xs' h => ?_, rfl⟩, g3⟩
        rw [HF.out] at h
        injection h with h
        injection h with h1 h2
        subst h1 h2
        exact HG.out
        exfalso
        rename_i hh
        simp at hh
        exact e1 hh
    · have hok' : okB d (xsOf ds) = false := by simpa using hok
      rw [printV_no hok']
      have HG : Hid (goodB s.data.toList d (xsOf ds) = false) := by unfold Hid goodB; rw [hok']; rfl
      clear hok hok' g2
      go_wp2_with fail
      go_ret3
      refine ⟨Or.inr ⟨fun d' xs' h => ?_, rfl⟩, g3⟩
      rw [HF.out] at h
      injection h with h
      injection h with h1 h2
      subst h1 h2
      exact HG.out
theorem good_text {d : Int} {xs : List Itm} (h : okB d xs = true) : fieldsP (textS d xs) = some (d, xs) ∧ goodB (textS d xs) d xs = true := by
  obtain ⟨h1, h2, _⟩ := okB_parts h
  exact ⟨fields_text d xs h1 h2 (okB_right h), by unfold goodB; rw [h]; simp⟩
/-- What items are written as is read as these items. -/
theorem parse_text (d : Int) (xs : List Itm) (w : World) (h : okB d xs = true) (hL : LB w) :
    Calls Tryd.prog 7 #[.string (ba (textS d xs))] w fun e w' => (∃ a c ds, e = .returned (.tuple #[.int .i64 d, .slice a ds.length c, .nilIface]) ∧ xsOf ds = xs ∧ Its w' a ds ∧ ds.length ≤ 60) ∧ Below w.heap.size w w' := by
  obtain ⟨h1, h2⟩ := good_text h
  have hl : (ba (textS d xs)).size ≤ 100000 := by
    have := text_len (okB_parts h).1 (okB_right h) 60 (Nat.le_refl _)
    rw [List.take_of_length_le (okB_parts h).2.1] at this
    rw [ba_size]; unfold textS; omega
  refine (parse_any _ w hl hL).mono ?_
  rintro e w' ⟨hp, hb⟩
  rw [ba_list] at hp
  refine ⟨?_, hb⟩
  rcases hp with ⟨d', xs', e1, _, e3⟩ | ⟨e1, _⟩
  · rw [h1] at e1
    injection e1 with e1
    injection e1 with e1 e2
    subst e1 e2
    exact e3
  · have := e1 d xs h1
    rw [h2] at this; cases this
end Go.Proofs.YtmfbfhkhfhphfabDoor.It
namespace Go.Proofs.YtmfbfhkhfhphfabDoor.It
open Go.RowKit
/-- An item is too long to be held. -/
def bigB (x : Itm) : Bool := decide (40 < x.name.size) || decide (40 < x.tag.size) || decide (12 < x.nums.length)
def heldB (xs : List Itm) : Bool := decide (xs.length ≤ 65) && !xs.any bigB
set_option maxHeartbeats 1000000 in
theorem big_any (x : ItD) (w : World) (h : x.Ok w) : Calls Tryd.prog 13 #[.agg x.arr] w fun e w' => e = .returned (.bool (bigB x.x)) ∧ Below w.heap.size w w' := by
  obtain ⟨_, h2, h3, h4, _⟩ := h
  unfold ItD.arr ItD.val
  obtain ⟨⟨nm, tg, zs⟩, a, c⟩ := x
  simp only at h2 h3 h4 ⊢
  unfold maxLen at h2 h3 h4
  have hb := below_alloc w (.cells #[.string nm, .string tg, .slice a zs.length c] 39)
  have HB : Hid (bigB ⟨nm, tg, zs⟩ = (decide (40 < nm.size) || decide (40 < tg.size) || decide (12 < zs.length))) := rfl
  rw [HB.out]
  by_cases c1 : 40 < nm.size
  · have c1' : (40 : Int) < (nm.size : Int) := by omega
    go_enter Tryd.func13, Tryd.ntmps13
    go_wp2
    go_ret
    exact ⟨by simp, hb⟩
  have c1' : ¬ (40 : Int) < (nm.size : Int) := by omega
  by_cases c2 : 40 < tg.size
  · have c2' : (40 : Int) < (tg.size : Int) := by omega
    go_enter Tryd.func13, Tryd.ntmps13
    go_wp2
    go_ret
    exact ⟨by simp, hb⟩
  have c2' : ¬ (40 : Int) < (tg.size : Int) := by omega
  by_cases c3 : 12 < zs.length
  · have c3' : (12 : Int) < (zs.length : Int) := by omega
    go_enter Tryd.func13, Tryd.ntmps13
    go_wp2
    go_ret
    exact ⟨by simp, hb⟩
  have c3' : ¬ (12 : Int) < (zs.length : Int) := by omega
  go_enter Tryd.func13, Tryd.ntmps13
  go_wp2
  go_ret
  exact ⟨by simp, hb⟩
set_option maxHeartbeats 1000000 in
theorem indexBig_any (a : Option Addr) (c : Nat) (ds : List ItD) (w : World) (h : Its w a ds) (hl : ds.length ≤ 65) :
    Calls Tryd.prog 27 #[.slice a ds.length c, .func (.func 13) #[] #[]] w fun e w' => (∃ j : Int, e = .returned (.int .i64 j) ∧ (decide (0 ≤ j) = (xsOf ds).any bigB)) ∧ Below w.heap.size w w' := by
  go_enter Tryd.func27, Tryd.ntmps27
  go_wp2_with fail
  go_loopw [8] (fun i wr => ∃ k : Nat, k ≤ ds.length ∧ i = .int .i64 k ∧ ((xsOf ds).take k).any bigB = false ∧ Below w.heap.size w wr) (fun i _ => ds.length - (intOf i).toNat)
  case atStart => exact ⟨0, by omega, rfl, rfl, Below.refl _ _⟩
  case round =>
    obtain ⟨k, hk, rfl, hp, hbel⟩ := hrel
    have HP : Hid (((xsOf ds).take k).any bigB = false) := hp
    clear hp
    by_cases hlt : k < ds.length
    · have hlt' : (k : Int) < (ds.length : Int) := by omega
      have hr := h.below hbel
      obtain ⟨g, o, rfl, q1, q2, q3, q4⟩ := hr k ds[k] (List.getElem?_eq_getElem hlt)
      have hxk : Hid ((xsOf ds)[k]? = some ds[k].x) := by unfold Hid xsOf; rw [List.getElem?_map, List.getElem?_eq_getElem hlt]; rfl
      generalize ds[k] = x at *
      obtain ⟨⟨nm, tg, zs⟩, xa, xc⟩ := x
      simp only [ItD.val] at q1 q2 q3 hxk
      clear hr
      go_wp2_with fail
      refine (big_any ⟨⟨nm, tg, zs⟩, xa, xc⟩ wr q4).mono ?_
      rintro e w1 ⟨rfl, g1⟩
      have hb1 := hbel.trans (g1.mono hbel.size)
      cases hx : bigB ⟨nm, tg, zs⟩ with
      | true =>
        have HX : Hid ((xsOf ds).any bigB = true) := List.any_eq_true.2 ⟨_, List.mem_of_getElem? hxk.out, hx⟩
        clear q1 q2 q3 q4 g1 hx
        go_wp2_with fail
        go_ret
        exact ⟨⟨k, rfl, by rw [HX.out]; simp⟩, hb1⟩
      | false =>
        have HX : Hid (((xsOf ds).take (k + 1)).any bigB = false) := by
          unfold Hid; rw [List.take_add_one, hxk.out, List.any_append, HP.out]; simp [hx]
        clear q1 q2 q3 q4 g1 hx
        go_wp2_with fail
        exact ⟨⟨k + 1, by omega, by go_num, HX.out, hb1⟩, by simp [intOf]; omega⟩
    · have hk' : k = ds.length := by omega
      subst hk'
      have HX : Hid ((xsOf ds).any bigB = false) := by
        have := HP.out
        rw [List.take_of_length_le (by simp [xsOf])] at this; exact this
      go_wp2_with fail
      go_ret
      exact ⟨⟨-1, rfl, by rw [HX.out]; decide⟩, hbel⟩
theorem containsBig_any (a : Option Addr) (c : Nat) (ds : List ItD) (w : World) (h : Its w a ds) (hl : ds.length ≤ 65) :
    Calls Tryd.prog 12 #[.slice a ds.length c, .func (.func 13) #[] #[]] w fun e w' => e = .returned (.bool ((xsOf ds).any bigB)) ∧ Below w.heap.size w w' := by
  go_enter Tryd.func12, Tryd.ntmps12
  go_wp2_with (go_at_call 27; refine (indexBig_any _ _ _ _ h hl).mono ?_; rintro e w' ⟨⟨j, rfl, hj⟩, g1⟩)
  go_ret
  refine ⟨?_, g1⟩
  rw [← hj]; simp
theorem held_any (a : Option Addr) (c : Nat) (ds : List ItD) (w : World) (h : Its w a ds) (hl : ds.length ≤ maxLen) :
    Calls Tryd.prog 5 #[.slice a ds.length c] w fun e w' => e = .returned (.bool (heldB (xsOf ds))) ∧ Below w.heap.size w w' := by
  unfold maxLen at hl
  have hxl : (xsOf ds).length = ds.length := by simp [xsOf]
  unfold heldB
  rw [hxl]
  clear hxl
  by_cases c1 : ds.length ≤ 65
  · have c1' : (ds.length : Int) ≤ 65 := by omega
    have c1'' : decide (ds.length ≤ 65) = true := by simpa using c1
    rw [c1'']
    cases hx : (xsOf ds).any bigB with
    | true =>
      go_enter Tryd.func5, Tryd.ntmps5
      go_wp2_with (go_at_call 12; refine (containsBig_any _ _ _ _ h c1).mono ?_; rintro e w' ⟨rfl, g1⟩; rw [hx])
      go_ret
      exact ⟨rfl, g1⟩
    | false =>
      go_enter Tryd.func5, Tryd.ntmps5
      go_wp2_with (go_at_call 12; refine (containsBig_any _ _ _ _ h c1).mono ?_; rintro e w' ⟨rfl, g1⟩; rw [hx])
      go_ret
      exact ⟨rfl, g1⟩
  · have c1' : ¬ (ds.length : Int) ≤ 65 := by omega
    go_enter Tryd.func5, Tryd.ntmps5
    go_wp2
    go_ret
    exact ⟨by simp, Below.refl _ _⟩
set_option maxHeartbeats 1000000 in
theorem same1_any (x y : ItD) (w : World) (hx : x.Ok w) (hy : y.Ok w) (he : x.x = y.x) (hl : x.x.nums.length ≤ 1000) : Calls Tryd.prog 22 #[.agg x.arr, .agg y.arr] w fun e w' => e = .returned (.bool true) ∧ Below w.heap.size w w' := by
  have hI := hx.1
  have hJ := hy.1
  unfold ItD.arr ItD.val
  obtain ⟨⟨nm, tg, zs⟩, a, c⟩ := x
  obtain ⟨y', b, d⟩ := y
  simp only at he hI hJ hl ⊢
  subst he
  simp only at hJ ⊢
  have g1 := (below_alloc w (.cells #[.string nm, .string tg, .slice a zs.length c] 39)).trans ((below_alloc (w.alloc (.cells #[.string nm, .string tg, .slice a zs.length c] 39)) (.cells #[.string nm, .string tg, .slice b zs.length d] 39)).mono (by simp))
  have hI1 := hI.below g1
  have hJ1 := hJ.below g1
  go_enter Tryd.func22, Tryd.ntmps22
  go_wp2_with fail
  refine (equal_any a b c d zs _ hI1 hJ1 hl).mono ?_
  rintro e w1 ⟨rfl, g2⟩
  go_wp2_with fail
  go_ret
  exact ⟨rfl, g1.trans (g2.mono g1.size)⟩
set_option maxHeartbeats 2000000 in
theorem equalFunc_any (a b : Option Addr) (c d : Nat) (ds es : List ItD) (w : World) (ha : Its w a ds) (hb : Its w b es) (he : xsOf ds = xsOf es) (hl : ds.length ≤ 65) (hn : ∀ x ∈ xsOf ds, x.nums.length ≤ 1000) :
    Calls Tryd.prog 21 #[.slice a ds.length c, .slice b es.length d, .func (.func 22) #[] #[]] w fun e w' => e = .returned (.bool true) ∧ Below w.heap.size w w' := by
  have hlen : ds.length = es.length := by simpa [xsOf] using congrArg List.length he
  have HE : Hid (xsOf ds = xsOf es) := he
  have HN : Hid (∀ x ∈ xsOf ds, x.nums.length ≤ 1000) := hn
  have hl2 : es.length ≤ 65 := by omega
  rw [← hlen]
  have HL : Hid (ds.length = es.length) := hlen
  clear he hn hlen
  go_enter Tryd.func21, Tryd.ntmps21
  go_wp2_with fail
  go_loopw [17] (fun i wr => ∃ k : Nat, k ≤ ds.length ∧ i = .int .i64 k ∧ Below w.heap.size w wr) (fun i _ => ds.length - (intOf i).toNat)
  case atStart => exact ⟨0, by omega, rfl, Below.refl _ _⟩
  case round =>
    obtain ⟨k, hk, rfl, hbel⟩ := hrel
    by_cases hlt : k < ds.length
    · have hlt' : (k : Int) < (ds.length : Int) := by omega
      have hlt2 : k < es.length := by have := HL.out; omega
      obtain ⟨g, o, rfl, q1, q2, q3, q4⟩ := (ha.below hbel) k ds[k] (List.getElem?_eq_getElem hlt)
      obtain ⟨g', o', rfl, r1, r2, r3, r4⟩ := (hb.below hbel) k es[k] (List.getElem?_eq_getElem hlt2)
      have hxk : (xsOf ds)[k]? = some ds[k].x := by unfold xsOf; rw [List.getElem?_map, List.getElem?_eq_getElem hlt]; rfl
      have hyk : (xsOf es)[k]? = some es[k].x := by unfold xsOf; rw [List.getElem?_map, List.getElem?_eq_getElem hlt2]; rfl
      have hxy : Hid (ds[k].x = es[k].x) := by
        rw [HE.out, hyk] at hxk; injection hxk with h; exact h.symm
      have hnx : Hid (ds[k].x.nums.length ≤ 1000) := HN.out _ (List.mem_of_getElem? hxk)
      clear hxk hyk
      generalize ds[k] = x at *
      generalize es[k] = y at *
      obtain ⟨⟨nm, tg, zs⟩, xa, xc⟩ := x
      obtain ⟨⟨nm', tg', zs'⟩, ya, yc⟩ := y
      simp only [ItD.val] at q1 q2 q3 r1 r2 r3 hxy hnx
      have hg : g < wr.heap.size := World.block_lt_of_cell? wr _ q1
      have hg' : g' < wr.heap.size := World.block_lt_of_cell? wr _ r1
      go_wp2_with fail
      obtain ⟨e1, e2, e3⟩ : nm = nm' ∧ tg = tg' ∧ zs = zs' := by
        have := hxy.out
        injection this with e1 e2 e3
        exact ⟨e1, e2, e3⟩
      have g1 := (below_alloc wr (.cells #[.string nm, .string tg, .slice xa zs.length xc] 39)).trans ((below_alloc (wr.alloc (.cells #[.string nm, .string tg, .slice xa zs.length xc] 39)) (.cells #[.string nm', .string tg', .slice ya zs'.length yc] 39)).mono (by simp))
      refine (same1_any ⟨⟨nm, tg, zs⟩, xa, xc⟩ ⟨⟨nm', tg', zs'⟩, ya, yc⟩ _ (q4.below g1) (r4.below g1) hxy.out hnx.out).mono ?_
      rintro e w1 ⟨rfl, g2⟩
      have hb1 := hbel.trans ((g1.trans (g2.mono g1.size)).mono hbel.size)
      clear q1 q2 q3 q4 r1 r2 r3 r4 g1 g2 e1 e2 e3
      go_wp2_with fail
      exact ⟨⟨k + 1, by omega, by go_num, hb1⟩, by simp [intOf]; omega⟩
    · have hk' : k = ds.length := by omega
      subst hk'
      go_wp2_with fail
      go_ret
      exact ⟨rfl, hbel⟩
theorem alike_any (a b : Option Addr) (c d : Nat) (ds es : List ItD) (w : World) (ha : Its w a ds) (hb : Its w b es) (he : xsOf ds = xsOf es) (hl : ds.length ≤ 65) (hn : ∀ x ∈ xsOf ds, x.nums.length ≤ 1000) :
    Calls Tryd.prog 9 #[.slice a ds.length c, .slice b es.length d] w fun e w' => e = .returned (.bool true) ∧ Below w.heap.size w w' := by
  go_enter Tryd.func9, Tryd.ntmps9
  go_wp2_with (go_at_call 21; refine (equalFunc_any _ _ _ _ _ _ _ ha hb he hl hn).mono ?_; rintro e w' ⟨rfl, g1⟩)
  go_ret
  exact ⟨rfl, g1⟩
theorem pick_any (a : Int) (n : Nat) (w : World) (h0 : 0 < n) (h1 : n ≤ 10000) :
    Calls Tryd.prog 10 #[.int .i64 a, .int .i64 (n : Int)] w fun e w' => ∃ j : Nat, e = .returned (.int .i64 (j : Int)) ∧ j < n ∧ w' = w := by
  obtain ⟨u, hu⟩ : ∃ u : Nat, IntKind.u64.wrap a = (u : Int) := ⟨(a % 18446744073709551616).toNat, by simp [IntKind.wrap, IntKind.bits, IntKind.signed]; omega⟩
  obtain ⟨j, hj, hjn⟩ : ∃ j : Nat, (u : Int) % (n : Int) = (j : Int) ∧ j < n := ⟨u % n, by simp, Nat.mod_lt _ h0⟩
  go_enter Tryd.func10, Tryd.ntmps10
  go_wp2
  go_ret
  exact ⟨j, rfl, hjn, rfl⟩
end Go.Proofs.YtmfbfhkhfhphfabDoor.It
namespace Go.Proofs.YtmfbfhkhfhphfabDoor.It
open Go.RowKit
theorem itoa_one (n : Nat) (h : n < 10) : Lib.itoa (n : Int) = [UInt8.ofNat (48 + n)] := by
  unfold Lib.itoa
  rw [if_neg (by omega), Lib.decDigits, dif_pos (by omega)]; rfl
theorem itoa_neg : Lib.itoa (-2) = [45, 50] := by
  unfold Lib.itoa
  rw [if_pos (by decide), Lib.decDigits, dif_pos (by decide)]; rfl
/-- The two items of the fact. -/
def fx0 : Itm := ⟨⟨#[97]⟩, ⟨#[]⟩, [1, -2]⟩
def fx1 : Itm := ⟨⟨#[98]⟩, ⟨#[116]⟩, [0, 3]⟩
def fxT : List UInt8 := [100, 105, 109, 32, 50, 10, 97, 32, 32, 49, 32, 45, 50, 10, 98, 32, 116, 32, 48, 32, 51, 10]
theorem fx_text : textS 2 [fx0, fx1] = fxT := by
  have h0 : Lib.itoa 0 = [48] := itoa_one 0 (by decide)
  have h1 : Lib.itoa 1 = [49] := itoa_one 1 (by decide)
  have h2 : Lib.itoa 2 = [50] := itoa_one 2 (by decide)
  have h3 : Lib.itoa 3 = [51] := itoa_one 3 (by decide)
  unfold textS headS lineS fx0 fx1
  simp only [List.map_cons, List.map_nil, h0, h1, h2, h3, itoa_neg, Lib.join_cons, Lib.joinTail, linesS]
  rfl
theorem fx_ok : okB 2 [fx0, fx1] = true := by decide +kernel
set_option maxRecDepth 100000 in
set_option maxHeartbeats 2000000 in
theorem listed_any (w : World) (hL : LB w) : Calls Tryd.prog 6 #[] w fun e w' => e = .returned (.bool true) ∧ Below w.heap.size w w' := by
  go_enter Tryd.func6, Tryd.ntmps6
  go_wp2_with fail
  have i0 : Ints (w.alloc (.cells #[.int .i64 1, .int .i64 (-2)] 3)) (some ⟨w.heap.size, 0, none⟩) [1, -2] := fun i z hz => ⟨w.heap.size, 0, rfl, by
    rw [Nat.zero_add, (Blk.new w _ 3).cell]
    match i, hz with
    | 0, hz | 1, hz => simp at hz; subst hz; rfl⟩
  have g1 := below_alloc w (.cells #[.int .i64 1, .int .i64 (-2)] 3)
  have hs1 : (w.alloc (.cells #[.int .i64 1, .int .i64 (-2)] 3)).heap.size = w.heap.size + 1 := by simp
  generalize w.alloc (.cells #[.int .i64 1, .int .i64 (-2)] 3) = w1 at *
  have i1 : Ints (w1.alloc (.cells #[.int .i64 0, .int .i64 3] 3)) (some ⟨w.heap.size + 1, 0, none⟩) [0, 3] := fun i z hz => ⟨w.heap.size + 1, 0, rfl, by
    rw [Nat.zero_add, (Blk.new' w1 _ 3 hs1.symm).cell]
    match i, hz with
    | 0, hz | 1, hz => simp at hz; subst hz; rfl⟩
  have g2 := below_alloc w1 (.cells #[.int .i64 0, .int .i64 3] 3)
  have hs2 : (w1.alloc (.cells #[.int .i64 0, .int .i64 3] 3)).heap.size = w.heap.size + 1 + 1 := by simp [hs1]
  have i0' := i0.below g2
  generalize w1.alloc (.cells #[.int .i64 0, .int .i64 3] 3) = w2 at *
  have hk : Its (w2.alloc (.cells #[.string ⟨#[97]⟩, .string ⟨#[]⟩, .slice (some ⟨w.heap.size, 0, none⟩) 2 2, .string ⟨#[98]⟩, .string ⟨#[116]⟩, .slice (some ⟨w.heap.size + 1, 0, none⟩) 2 2] 39)) (some ⟨w.heap.size + 1 + 1, 0, none⟩) [⟨fx0, some ⟨w.heap.size, 0, none⟩, 2⟩, ⟨fx1, some ⟨w.heap.size + 1, 0, none⟩, 2⟩] := by
    have hb := Blk.new' w2 #[.string ⟨#[97]⟩, .string ⟨#[]⟩, .slice (some ⟨w.heap.size, 0, none⟩) 2 2, .string ⟨#[98]⟩, .string ⟨#[116]⟩, .slice (some ⟨w.heap.size + 1, 0, none⟩) 2 2] 39 hs2.symm
    have g3 := below_alloc w2 (.cells #[.string ⟨#[97]⟩, .string ⟨#[]⟩, .slice (some ⟨w.heap.size, 0, none⟩) 2 2, .string ⟨#[98]⟩, .string ⟨#[116]⟩, .slice (some ⟨w.heap.size + 1, 0, none⟩) 2 2] 39)
    intro i d hd
    match i, hd with
    | 0, hd =>
      simp at hd; subst hd
      exact ⟨_, 0, rfl, hb.cell 0, hb.cell 1, hb.cell 2, i0'.below g3, show 2 ≤ maxLen by decide, show 1 ≤ maxLen by decide, show 0 ≤ maxLen by decide, Nat.le_refl 2⟩
    | 1, hd =>
      simp at hd; subst hd
      exact ⟨_, 0, rfl, hb.cell 3, hb.cell 4, hb.cell 5, i1.below g3, show 2 ≤ maxLen by decide, show 1 ≤ maxLen by decide, show 1 ≤ maxLen by decide, Nat.le_refl 2⟩
  have g3 := (g1.trans (g2.mono g1.size)).trans ((below_alloc w2 (.cells #[.string ⟨#[97]⟩, .string ⟨#[]⟩, .slice (some ⟨w.heap.size, 0, none⟩) 2 2, .string ⟨#[98]⟩, .string ⟨#[116]⟩, .slice (some ⟨w.heap.size + 1, 0, none⟩) 2 2] 39)).mono (by omega))
  generalize w2.alloc (.cells #[.string ⟨#[97]⟩, .string ⟨#[]⟩, .slice (some ⟨w.heap.size, 0, none⟩) 2 2, .string ⟨#[98]⟩, .string ⟨#[116]⟩, .slice (some ⟨w.heap.size + 1, 0, none⟩) 2 2] 39) = w3 at *
  have hpv : printV 2 [fx0, fx1] = .tuple #[.string ⟨fxT.toArray⟩, .nilIface] := by rw [printV_yes fx_ok, fx_text]; rfl
  refine (print_any 2 _ 2 [⟨fx0, some ⟨w.heap.size, 0, none⟩, 2⟩, ⟨fx1, some ⟨w.heap.size + 1, 0, none⟩, 2⟩] w3 hk (show 2 ≤ maxLen by decide) (hL.below g3)).mono ?_
  rintro e w4 ⟨he, g4⟩
  have he' : e = .returned (.tuple #[.string ⟨fxT.toArray⟩, .nilIface]) := by rw [he]; exact congrArg _ hpv
  clear he hpv hk i0 i0' i1
  subst he'
  have hb4 := g3.trans (g4.mono g3.size)
  have hp := parse_text 2 [fx0, fx1] w4 fx_ok (hL.below hb4)
  rw [fx_text] at hp
  unfold fxT
  unfold fxT ba at hp
  go_wp2_with fail
  refine hp.mono ?_
  rintro e w5 ⟨⟨a, c, ds, rfl, hxs, hits, _⟩, g5⟩
  have hlen : ds.length = 2 := by simpa [xsOf] using congrArg List.length hxs
  have hb5 := hb4.trans (g5.mono hb4.size)
  match ds, hlen with
  | [d0, d1], _ =>
    have hd1 : d1.x = fx1 := by
      have := congrArg (fun l : List Itm => l[1]?) hxs
      simpa [xsOf] using this
    obtain ⟨g, o, rfl, _, q2, _⟩ := hits 1 d1 rfl
    rw [hd1] at q2
    have q2' : w5.cell? ⟨g, o + 3 + 1, none⟩ = some (.string ⟨#[116]⟩) := q2
    have hg := World.block_lt_of_cell? w5 _ q2
    clear hxs hits hp g4 g5 hd1 q2
    go_wp2_with fail
    go_ret
    exact ⟨rfl, hb5⟩
end Go.Proofs.YtmfbfhkhfhphfabDoor.It
