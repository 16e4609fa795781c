/-
  Part of the proof: slices.Clone and slices.Reverse over items.
  Part of the proof: plain facts: what is found stands in a row; none that is not is nearer than the last one; in whichever order items stand.
  Part of the proof: NearMoved's closures are walked.
  Part of the proof: the first item that lies too far out for NearMoved, by slices.IndexFunc.
  Part of the proof: a block of structs of the call's own, stored into and cleared in place.
  Part of the proof: slices.DeleteFunc over items of the call's own: those that lie too far out are struck, in place.
-/
import Derived.Shelf.SlGeneric
import Derived.Shelf.SlicesQ.Reverse
import Derived.Test.YtamalmgfhpneaaaDoorB07
import Derived.Lib.SliceRun
namespace Go.Proofs.YtamalmgfhpneaaaDoor.Nr
open Go.Shelf Go.RowKit
open It
def revI_ren : Go.Shelf.Ren := ⟨fun | 35 => 25 | n => n, fun | 22 => 22 | 23 => 43 | 3 => 3 | 4 => 4 | 0 => 0 | n => n, fun | n => n⟩
theorem revI : Go.Proofs.SlLaysE0.n35 Tryd.prog revI_ren := {
  mixed := by kernel_rfl
  f35 := ⟨Tryd.f25.name, by decide, Tryd.func25.trans (congrArg some (by kernel_rfl))⟩
  t0 := Tryd.underlying0
  a0 := Tryd.isAgg0
  z0 := Tryd.sizeOf0
  v0 := Tryd.zeroValue0
  t3 := Tryd.underlying3
  a3 := Tryd.isAgg3
  z3 := Tryd.sizeOf3
  v3 := Tryd.zeroValue3
  t4 := Tryd.underlying4
  a4 := Tryd.isAgg4
  z4 := Tryd.sizeOf4
  v4 := Tryd.zeroValue4
  t22 := Tryd.underlying22
  a22 := Tryd.isAgg22
  z22 := Tryd.sizeOf22
  v22 := Tryd.zeroValue22 }
theorem addr_addO (b o i : Nat) : (⟨b, o, none⟩ : Addr).add i = ⟨b, o + i, none⟩ := by
  simp [Addr.add]
theorem its_cells {w : World} {g o : Nat} {ds : List ItD} (h : Its w (some ⟨g, o, none⟩) ds) (j : Nat) (u : Value) (hj : (flatI ds)[j]? = some u) : w.cell? ⟨g, o + j, none⟩ = some u := by
  have hl : j < ds.length * 3 := by have := (List.getElem?_eq_some_iff.1 hj).1; rwa [flatI_len] at this
  obtain ⟨d, hd⟩ : ∃ d, ds[j / 3]? = some d := ⟨_, List.getElem?_eq_getElem (by omega)⟩
  obtain ⟨q1, q2, q3⟩ := flatI_cell ds _ d hd
  obtain ⟨g', o', e, c1, c2, c3, _⟩ := h _ d hd
  injection e with e
  injection e with e1 e2
  subst e1 e2
  have h3 : j % 3 = 0 ∨ j % 3 = 1 ∨ j % 3 = 2 := by omega
  rcases h3 with h3 | h3 | h3
  · have e : j = j / 3 * 3 := by omega
    rw [e] at hj
    rw [q1] at hj
    injection hj with hj
    subst hj
    conv => lhs; rw [e]
    exact c1
  · have e : j = j / 3 * 3 + 1 := by omega
    rw [e] at hj
    rw [q2] at hj
    injection hj with hj
    subst hj
    conv => lhs; rw [e]
    exact c2
  · have e : j = j / 3 * 3 + 2 := by omega
    rw [e] at hj
    rw [q3] at hj
    injection hj with hj
    subst hj
    conv => lhs; rw [e]
    exact c3
set_option maxHeartbeats 1000000 in
theorem iclone_any (g o c : Nat) (ds : List ItD) (w : World) (h : Its w (some ⟨g, o, none⟩) ds) (h0 : 0 < ds.length) (hl : ds.length ≤ 100) :
    Calls Tryd.prog 24 #[.slice (some ⟨g, o, none⟩) ds.length c] w fun e w' => (∃ g' c', e = .returned (.slice (some ⟨g', 0, none⟩) ds.length c') ∧ w'.ownsRow w.heap.size 43 3 (.slice (some ⟨g', 0, none⟩) ds.length c') ds.length (flatI ds)) ∧ Below w.heap.size w w' := by
  have s1 := below_alloc w (.cells #[] 43)
  have hI := h.below s1
  have hB : Blk (w.alloc (.cells #[] 43)) w.heap.size #[] 43 := Blk.new w _ _
  have ow1 : (w.alloc (.cells #[] 43)).ownsRow w.heap.size 43 3 (.slice (some ⟨w.heap.size, 0, none⟩) 0 0) 0 [] := row_fresh hB (Nat.le_refl _) (by decide) rfl
  have hq : ∀ w : World, (binOp .eql 22 (.slice (some ⟨g, o, none⟩) ds.length c) (.slice none 0 0)).run Tryd.prog w = .ok (.bool false) w := fun w => by kernel_rfl
  obtain ⟨i, hi, hp⟩ := Option.map_eq_some_iff.1 infoIt
  simp only [Prod.mk.injEq] at hp
  obtain ⟨p1, p2, p3⟩ := hp
  have hc := its_cells hI
  clear h hI
  have HI : Hid (Tryd.prog.info? 43 = some i ∧ i.zero = some (.agg #[.string ByteArray.empty, .string ByteArray.empty, .slice none 0 0]) ∧ i.size = 3 ∧ i.bytes = 56) := ⟨hi, p1, p2, p3⟩
  clear hi p1 p2 p3
  go_enter Tryd.func24, Tryd.ntmps24
  go_wp2_with (first
    | (refine wpList_append_lies _ rfl _ _ 22 rfl w.heap.size 43 i (.agg #[.string ByteArray.empty, .string ByteArray.empty, .slice none 0 0]) 3 56 Tryd.underlying22 HI.out.1 HI.out.2.1 HI.out.2.2.1 HI.out.2.2.2 rfl (by decide) (.slice (some ⟨w.heap.size, 0, none⟩) 0 0) 0 [] rfl ow1 ⟨g, o, none⟩ ds.length c (flatI ds) rfl (flatI_len ds) (fun j u hu => by rw [addr_addO]; exact hc j u hu) (flatI_one ds) h0 (by unfold maxLen; omega) (by omega) (by simp) (w.heap.size + 1) (by simp) ?_; intro g6 c6 w6 ow6 gr6 hat6 hlt6)
    | fail)
  go_ret
  have ow7 : w6.ownsRow w.heap.size 43 3 (.slice (some ⟨g6, 0, none⟩) ds.length c6) ds.length (flatI ds) := by simpa using ow6
  exact ⟨⟨g6, c6, by simp, ow7⟩, row_grownBelow s1 ow1 gr6 (by simp)⟩
theorem iclone_nil (w : World) : Calls Tryd.prog 24 #[.slice none 0 0] w fun e w' => e = .returned (.slice none 0 0) ∧ w' = w := by
  have hq : ∀ w : World, (binOp .eql 22 (.slice none 0 0) (.slice none 0 0)).run Tryd.prog w = .ok (.bool true) w := fun w => by kernel_rfl
  go_enter Tryd.func24, Tryd.ntmps24
  go_wp2_with fail
  go_ret
  exact ⟨rfl, rfl⟩
theorem irev_nil (w : World) : Calls Tryd.prog 25 #[.slice none 0 0] w fun e w' => e = .returned (.tuple #[]) ∧ w' = w := AnyQ.slices_Reverse_empty revI none 0 w
def encI (d : ItD) : List Value := [.string d.x.name, .string d.x.tag, d.val]
instance : Inhabited ItD := ⟨⟨⟨⟨#[]⟩, ⟨#[]⟩, []⟩, none, 0⟩⟩
theorem flatKI_get (l : List ItD) (t : Nat) (h : t < l.length * 3) : (flatI l)[t]? = some ((Go.Sort.flatK encI 3 l.toArray)[t]!) := by
  rw [Go.Sort.get_flatK _ _ _ _ (by simpa using h)]
  have hi : t / 3 < l.length := by omega
  obtain ⟨x, hx⟩ : ∃ x, l[t / 3]? = some x := ⟨_, List.getElem?_eq_getElem hi⟩
  have e : l.toArray[t / 3]! = x := by
    rw [getElem!_pos _ _ (by simpa using hi)]
    rw [List.getElem?_eq_getElem hi] at hx
    simpa using hx
  rw [e]
  obtain ⟨q1, q2, q3⟩ := flatI_cell l (t / 3) _ hx
  have h3 : t % 3 = 0 ∨ t % 3 = 1 ∨ t % 3 = 2 := by omega
  rcases h3 with h3 | h3 | h3
  · rw [h3]
    have e2 : t = t / 3 * 3 := by omega
    conv => lhs; rw [e2]
    rw [q1]; rfl
  · rw [h3]
    have e2 : t = t / 3 * 3 + 1 := by omega
    conv => lhs; rw [e2]
    rw [q2]; rfl
  · rw [h3]
    have e2 : t = t / 3 * 3 + 2 := by omega
    conv => lhs; rw [e2]
    rw [q3]; rfl
theorem holdsI {w : World} {B g cap : Nat} {l : List ItD} (h : w.ownsRow B 43 3 (.slice (some ⟨g, 0, none⟩) l.length cap) l.length (flatI l)) (hl0 : 0 < l.length) : Go.Sort.HoldsK encI 3 w g 0 l.toArray := by
  obtain ⟨g', cap', cur, hv, hgB, hgl, hh, hc1, hc2, hs, ht⟩ := own_parts h (by omega)
  injection hv with hv1 hv2 hv3
  injection hv1 with hv1
  injection hv1 with hv1
  subst hv1 hv3
  intro t htl
  rw [Go.Sort.size_flatK] at htl
  have htl' : t < l.length * 3 := by simpa using htl
  have hf := flatKI_get l t htl'
  rw [← ht, List.getElem?_take_of_lt htl', Array.getElem?_toList] at hf
  refine ⟨?_, ?_⟩
  · rw [Nat.zero_add]; simp only [World.cell?, hh]; exact hf
  · simp [World.frozen?, hh]
set_option maxHeartbeats 1000000 in
theorem irev_any (B g cap : Nat) (l : List ItD) (w : World) (h : w.ownsRow B 43 3 (.slice (some ⟨g, 0, none⟩) l.length cap) l.length (flatI l)) (hl0 : 0 < l.length) (hl : l.length ≤ 1000) (hok : ∀ d ∈ l, d.Ok w) (hlow : ∀ d ∈ l, ∀ b o, d.a = some ⟨b, o, none⟩ → b ≠ g) :
    Calls Tryd.prog 25 #[.slice (some ⟨g, 0, none⟩) l.length cap] w fun e w' => e = .returned (.tuple #[]) ∧ Its w' (some ⟨g, 0, none⟩) l.reverse ∧ Below B w w' := by
  have hH := holdsI h hl0
  obtain ⟨g', cap', cur, hv, hgB, hgl, hh, hc1, hc2, hs, ht⟩ := own_parts h (by omega)
  injection hv with hv1 hv2 hv3
  injection hv1 with hv1
  injection hv1 with hv1
  subst hv1 hv3
  have hcon := AnyQ.slices_Reverse revI 3 Tryd.isAgg43 Tryd.sizeOf43 encI (fun _ => rfl) (fun x v hv => by simp [encI] at hv; rcases hv with rfl | rfl | rfl <;> rfl) g 0 cap l.toArray w hH (by simp; omega)
  have hsz : l.toArray.size = l.length := by simp
  rw [hsz] at hcon
  refine hcon.mono ?_
  rintro e w' ⟨rfl, n, rfl⟩
  have hH' := Go.Sort.holdsK_putRowK (enc := encI) (k := 3) (Go.Sort.ahead w n) g 0 l.toArray l.toArray.reverse (Go.Sort.holdsK_ahead (enc := encI) (k := 3) w n g 0 _ hH) (by simp)
  have hbel : Below B w (Go.Sort.putRowK encI 3 (Go.Sort.ahead w n) g 0 l.toArray.reverse) := ⟨rfl, rfl, rfl, by simp [Go.Sort.putRowK, Go.Sort.putRow, Go.Sort.mapBlock, Go.Sort.ahead], fun k hk => by
    simp [Go.Sort.putRowK, Go.Sort.putRow, Go.Sort.mapBlock, Go.Sort.ahead, Array.getElem?_modify, show g ≠ k by omega]⟩
  have hoth : ∀ k, k ≠ g → (Go.Sort.putRowK encI 3 (Go.Sort.ahead w n) g 0 l.toArray.reverse).heap[k]? = w.heap[k]? := fun k hk => by
    simp [Go.Sort.putRowK, Go.Sort.putRow, Go.Sort.mapBlock, Go.Sort.ahead, Array.getElem?_modify, show g ≠ k from fun e => hk e.symm]
  refine ⟨rfl, fun i d hd => ?_, hbel⟩
  have hil : i < l.length := by have := (List.getElem?_eq_some_iff.1 hd).1; simpa using this
  have hdx : l.toArray.reverse[i]! = d := by
    rw [getElem!_pos l.toArray.reverse i (by simpa using hil)]
    have : l.toArray.reverse[i]? = some d := by rw [← hd, ← Array.getElem?_toList]; simp
    rw [Array.getElem?_eq_getElem (by simpa using hil)] at this
    exact Option.some.inj this
  have c0 := (hH'.cell (show i < l.toArray.reverse.size by simpa using hil) (show 0 < 3 by decide)).1
  have c1 := (hH'.cell (show i < l.toArray.reverse.size by simpa using hil) (show 1 < 3 by decide)).1
  have c2 := (hH'.cell (show i < l.toArray.reverse.size by simpa using hil) (show 2 < 3 by decide)).1
  rw [hdx] at c0 c1 c2
  have hm : d ∈ l := by have := List.mem_of_getElem? hd; simpa using this
  obtain ⟨k1, k2⟩ := hok d hm
  refine ⟨g, 0, rfl, c0, c1, c2, ⟨fun j z hz => ?_, k2⟩⟩
  obtain ⟨b, o, e, hc⟩ := k1 j z hz
  refine ⟨b, o, e, ?_⟩
  rw [← hc]
  exact World.cell?_of_block (hoth b (hlow d hm b o e))
end Go.Proofs.YtamalmgfhpneaaaDoor.Nr
namespace Go.Proofs.YtamalmgfhpneaaaDoor.Nr
open Go.RowKit
open It
theorem fnd_names (ys : List Int) (tag : ByteArray) (xs : List Itm) : (fnd ys tag xs).map Prod.fst = (xs.filter (tagP tag)).map fun x => x.name := by
  unfold fnd; rw [List.map_map]; rfl
theorem fnd_nodup {ys : List Int} {tag : ByteArray} {ds : List ItD} (h : (ds.map fun d => d.x.name).Nodup) : (fnd ys tag (xsOf ds)).Nodup := by
  refine List.Pairwise.of_map (S := fun a b => a ≠ b) Prod.fst (fun a b h e => h (by rw [e])) ?_
  rw [fnd_names]
  have e : (xsOf ds).map (fun x => x.name) = ds.map fun d => d.x.name := by unfold xsOf; rw [List.map_map]; rfl
  refine List.Nodup.sublist ?_ (e ▸ h)
  exact List.Sublist.map _ List.filter_sublist
theorem srt_strict {F : List (ByteArray × Int)} (h : F.Nodup) (i j : Nat) (x y : ByteArray × Int) (hij : i < j) (hx : (srt F)[i]? = some x) (hy : (srt F)[j]? = some y) : ltF x y = true := by
  have hn : (srt F).Nodup := (srt_perm F).nodup_iff.2 h
  have hs := srt_sorted F
  obtain ⟨hi, e1⟩ := List.getElem?_eq_some_iff.1 hx
  obtain ⟨hj, e2⟩ := List.getElem?_eq_some_iff.1 hy
  have h1 := List.pairwise_iff_getElem.1 hs i j hi hj hij
  have h2 := List.pairwise_iff_getElem.1 hn i j hi hj hij
  rw [e1, e2] at h1 h2
  cases h3 : ltF x y with
  | true => rfl
  | false => exact absurd (ltF_tot x y h3 h1) h2
theorem lt_cf {x y : ByteArray × Int} (h : ltF x y = true) : cfF x y < 0 := by rw [cfF_neg]; exact h
theorem cf_pos {x y : ByteArray × Int} (h : ltF y x = true) : 0 < cfF x y := by
  have h1 : ¬ cfF x y < 0 := by
    rw [cfF_neg]
    intro h2
    have := ltF_trans x y x h2 h
    rw [ltF_irrefl] at this; cases this
  have h2 : ¬ cfF x y = 0 := by
    rw [cfF_zero]
    intro e; subst e; rw [ltF_irrefl] at h; cases h
  omega
/-- One that is not found is farther than the last one that is. -/
theorem srt_out {F : List (ByteArray × Int)} (h : F.Nodup) (k : Nat) (hk : 1 ≤ k) (f : ByteArray × Int) (hf : f ∈ F) (hn : f ∉ (srt F).take k) : ((srt F).take k).length = k ∧ ∃ y, ((srt F).take k)[k - 1]? = some y ∧ 0 < cfF f y := by
  have hm : f ∈ srt F := (srt_perm F).mem_iff.2 hf
  obtain ⟨j, hj⟩ := List.getElem?_of_mem hm
  have hjk : k ≤ j := by
    rcases Nat.lt_or_ge j k with h' | h'
    · refine absurd (List.mem_of_getElem? (l := (srt F).take k) (i := j) ?_) hn
      rw [List.getElem?_take_of_lt h', hj]
    · exact h'
  have hjl := (List.getElem?_eq_some_iff.1 hj).1
  have hl : ((srt F).take k).length = k := by rw [List.length_take]; omega
  obtain ⟨y, hy⟩ : ∃ y, (srt F)[k - 1]? = some y := ⟨_, List.getElem?_eq_getElem (by omega)⟩
  refine ⟨hl, y, by rw [List.getElem?_take_of_lt (by omega), hy], cf_pos (srt_strict h (k - 1) j y f (by omega) hy hj)⟩
theorem xsOf_reverse (ds : List ItD) : xsOf ds.reverse = (xsOf ds).reverse := by unfold xsOf; rw [List.map_reverse]
theorem fnd_reverse (ys : List Int) (tag : ByteArray) (xs : List Itm) : fnd ys tag xs.reverse = (fnd ys tag xs).reverse := by
  unfold fnd; rw [List.filter_reverse, List.map_reverse]
theorem srt_reverse (ys : List Int) (tag : ByteArray) (ds : List ItD) : srt (fnd ys tag (xsOf ds.reverse)) = srt (fnd ys tag (xsOf ds)) := by
  rw [xsOf_reverse, fnd_reverse]; exact srt_of_perm (List.reverse_perm _)
theorem take_less (T : List (ByteArray × Int)) (k l : Nat) (h : l ≤ k) : (T.take k).take (min l (T.take k).length) = T.take l := by
  rw [List.take_take]
  by_cases h2 : l ≤ (T.take k).length
  · rw [Nat.min_eq_left h2, Nat.min_eq_left h]
  · have h3 : T.length < l := by rw [List.length_take] at h2; omega
    have e : (T.take k).length = T.length := by rw [List.length_take]; omega
    rw [e, Nat.min_eq_right (by omega : T.length ≤ l), Nat.min_eq_left (by omega), List.take_of_length_le (Nat.le_refl _), List.take_of_length_le (by omega)]
theorem fnd_mem {ys : List Int} {tag : ByteArray} {ds : List ItD} {i : Nat} {d : ItD} (h : ds[i]? = some d) (ht : tagP tag d.x = true) : (d.x.name, farI d.x.nums ys) ∈ fnd ys tag (xsOf ds) := by
  unfold fnd
  refine List.mem_map.2 ⟨d.x, List.mem_filter.2 ⟨List.mem_map.2 ⟨d, List.mem_of_getElem? h, rfl⟩, ht⟩, rfl⟩
theorem right_nums {x : Itm} (h : rightB x 2 = true) : x.nums.all numB = true ∧ x.nums.length = 2 := by
  unfold rightB at h
  simp only [Bool.and_eq_true, decide_eq_true_eq] at h
  exact ⟨h.2, by have := h.1.1.1.2; omega⟩
end Go.Proofs.YtamalmgfhpneaaaDoor.Nr
namespace Go.Proofs.YtamalmgfhpneaaaDoor.Nr
open Go.RowKit
open It
def midB (n : Int) : Bool := decide (-900 ≤ n) && decide (n ≤ 900)
/-- Two numbers, and both wide enough inside. -/
def insB (zs : List Int) : Bool := decide ((zs.length : Int) = 2) && zs.all midB
end Go.Proofs.YtamalmgfhpneaaaDoor.Nr
namespace Go.Proofs.YtamalmgfhpneaaaDoor.Nr
open Go.RowKit
open It
end Go.Proofs.YtamalmgfhpneaaaDoor.Nr
namespace Go.Proofs.YtamalmgfhpneaaaDoor.Nr
open Go.RowKit
open It
theorem foldset_get (vs : List Value) : ∀ (c : Array Value) (i j : Nat), i + vs.length ≤ c.size → (foldset c i vs)[j]? = if i ≤ j ∧ j < i + vs.length then vs[j - i]? else c[j]? := by
  induction vs with
  | nil => intro c i j _; simp [foldset]; intro h1 h2; omega
  | cons v vs ih =>
    intro c i j h
    simp only [List.length_cons] at h
    simp only [foldset]
    rw [ih _ _ _ (by simp; omega), Array.getElem?_setIfInBounds]
    by_cases e : j = i
    · subst e
      rw [if_neg (by omega), if_pos rfl, if_pos (by omega), if_pos (by simp)]
      simp
    · by_cases e2 : i ≤ j ∧ j < i + (vs.length + 1)
      · rw [if_pos (by omega), if_pos (by simpa using e2)]
        obtain ⟨d, hd⟩ : ∃ d, j - i = d + 1 := ⟨j - i - 1, by omega⟩
        rw [hd, List.getElem?_cons_succ]; congr 1; omega
      · rw [if_neg (by omega), if_neg (Ne.symm e), if_neg (by simpa using e2)]
theorem foldset_size (vs : List Value) : ∀ (c : Array Value) (i : Nat), (foldset c i vs).size = c.size := by
  induction vs with
  | nil => intro c i; rfl
  | cons v vs ih => intro c i; simp only [foldset]; rw [ih]; simp
/-- Of block g another thing is told, and there may be new ones. -/
structure UpdG (w w' : World) (g : Nat) : Prop where
  os : w'.os = w.os
  tape : w'.tape = w.tape
  output : w'.output = w.output
  size : w.heap.size ≤ w'.heap.size
  block : ∀ k, k < w.heap.size → k ≠ g → w'.heap[k]? = w.heap[k]?
theorem UpdG.refl (w : World) (g : Nat) : UpdG w w g := ⟨rfl, rfl, rfl, Nat.le_refl _, fun _ _ _ => rfl⟩
theorem UpdG.drewN {w w' : World} {g : Nat} (h : UpdG w w' g) (n : Nat) : UpdG w (w'.drewN n) g := ⟨h.os, h.tape, h.output, h.size, h.block⟩
theorem UpdG.upd {w w' w'' : World} {g : Nat} (h : UpdG w w' g) (u : Upd w' w'' g) : UpdG w w'' g :=
  ⟨u.os.trans h.os, u.tape.trans h.tape, u.output.trans h.output, by rw [u.size]; exact h.size, fun k hk hne => (u.block k hne).trans (h.block k hk hne)⟩
theorem UpdG.trans {w w' w'' : World} {g : Nat} (h : UpdG w w' g) (u : UpdG w' w'' g) : UpdG w w'' g :=
  ⟨u.os.trans h.os, u.tape.trans h.tape, u.output.trans h.output, Nat.le_trans h.size u.size, fun k hk hne => (u.block k (Nat.lt_of_lt_of_le hk h.size) hne).trans (h.block k hk hne)⟩
theorem UpdG.alloc {w w' : World} {g : Nat} (h : UpdG w w' g) (o : Obj) : UpdG w (w'.alloc o) g :=
  ⟨h.os, h.tape, h.output, by simp; exact Nat.le_succ_of_le h.size, fun k hk hne => by rw [Below.heap_alloc _ _ _ (Nat.lt_of_lt_of_le hk h.size)]; exact h.block k hk hne⟩
theorem UpdG.updN {w w' w'' : World} {g c : Nat} (h : UpdG w w' g) (u : Upd w' w'' c) (hc : w.heap.size ≤ c) : UpdG w w'' g :=
  ⟨u.os.trans h.os, u.tape.trans h.tape, u.output.trans h.output, by rw [u.size]; exact h.size, fun k hk hne => (u.block k (by omega)).trans (h.block k hk hne)⟩
theorem UpdG.below {w0 w w' : World} {g B : Nat} (h : UpdG w w' g) (hb : Below B w0 w) (hB : B ≤ w.heap.size) (hg : B ≤ g) : Below B w0 w' :=
  hb.trans ⟨h.os, h.tape, h.output, h.size, fun k hk => h.block k (Nat.lt_of_lt_of_le hk hB) (by omega)⟩
theorem Blk.updG {w w' : World} {b g : Nat} {arr : Array Value} {T : TypeId} (h : Blk w b arr T) (hu : UpdG w w' g) (hne : b ≠ g) : Blk w' b arr T := by
  have := h.lt
  unfold Blk at *; rw [hu.block b this hne]; exact h
theorem storeCells_at (P : Program) (w : World) (b off : Nat) (hl : b < w.heap.size) (T : TypeId) : ∀ (vs : List Value) (i : Nat) (c : Array Value), off + i + vs.length ≤ c.size → (∀ v ∈ vs, v.oneCell' = true) →
    (storeCells ⟨b, off, none⟩ vs i).run P (putBlk w b (.cells c T)) = .ok () (putBlk w b (.cells (foldset c (off + i) vs) T)) := by
  intro vs
  induction vs with
  | nil => intro i c _ _; rfl
  | cons v vs ih =>
    intro i c h hv
    simp only [List.length_cons] at h
    have hb : Blk (putBlk w b (.cells c T)) b c T := by unfold Blk putBlk; simp [hl]
    simp only [storeCells, Sem.run_bind, addr_addO]
    rw [run_store _ _ _ _ _ (hv v (by simp)), hb.cell, Array.getElem?_eq_getElem (by omega)]
    simp only [hb.frozen, Bool.false_eq_true, if_false, Result.andThen_ok]
    rw [putBlk_setCell hl, ih _ _ (by simp; omega) (fun x hx => hv x (by simp [hx]))]
    rfl
section
variable {P : Program} {ops : Array Oper} {Q : Exit → Act → World → Prop} {a : Act} {w : World} {rest : List Oper} {o : Oper}
/-- Cells written into a part of a block. -/
theorem wpl_storeAt (hgd : o.guard = none) (hdn : o.dst = none) (t : TypeId) (x y : Operand) (ho : o.op = .store t x y) (n : Nat) (hi0 : (P.info? t).map (·.size) = some n)
    (b off : Nat) (arr : Array Value) (T : TypeId) (vs : Array Value) (hx : a.eval x = .pointer (some ⟨b, off, none⟩)) (hy : a.eval y = .agg vs) (hvs : vs.size = n) (h1 : ∀ v ∈ vs.toList, v.oneCell' = true) (hb : Blk w b arr T) (hn : off + n ≤ arr.size)
    (h : ∀ w', Upd w w' b → Blk w' b (foldset arr off vs.toList) T → wpList P ops Q rest a w') : wpList P ops Q (o :: rest) a w := by
  refine wpList_plain hgd fun K hK => ?_
  obtain ⟨i, hi, hsize⟩ := Option.map_eq_some_iff.1 hi0
  unfold Oper.wp execOp
  have hl := storeCells_at P w b off hb.lt T vs.toList 0 arr (by simp [hvs]; omega) h1
  rw [putBlk_self hb] at hl
  simp only [ho, hx, hy, Instr.storeAt, Instr.sureAddr, storeVar, sizeOf, typeInfo, hi, hsize, Sem.run_bind, Sem.run_pure, run_program, Result.andThen_ok, Value.cells, hvs, ne_eq, not_true, if_false, hl]
  simp only [Oper.upon_skip, hdn, Act.put]
  exact hK _ _ (h _ (putBlk_upd _ _ _) (putBlk_blk hb))
end
theorem zeroCells_size (z : Array Value) (n : Nat) : (Builtin.zeroCells z n).toList.length = n * z.size := by
  simp [Builtin.zeroCells]
theorem zeroCells_one (z : Array Value) (n : Nat) (h : ∀ v ∈ z.toList, v.oneCell' = true) (hz : 0 < z.size) : ∀ v ∈ (Builtin.zeroCells z n).toList, v.oneCell' = true := by
  intro v hv
  simp [Builtin.zeroCells] at hv
  obtain ⟨i, _, rfl⟩ := hv
  refine h _ ?_
  rw [getElem!_pos z _ (Nat.mod_lt _ hz)]
  simp
/-- A slice of structs is cleared, in a block that is known. -/
theorem run_clearZ {P : Program} (w : World) (t e ty : TypeId) (z : Value) (ht : P.underlying t = some (.slice e)) (hv : ∀ w, (zeroValue e).run P w = .ok z w) (h1 : ∀ v ∈ z.cells.toList, v.oneCell' = true) (hz : 0 < z.cells.size) (b o n c : Nat) (hn : 0 < n) (arr : Array Value) (T : TypeId) (hb : Blk w b arr T) (hs : o + n * z.cells.size ≤ arr.size) :
    (Builtin.clear_ #[t] ty #[.slice (some ⟨b, o, none⟩) n c]).run P w = .ok (.tuple #[]) (putBlk w b (.cells (foldset arr o (Builtin.zeroCells z.cells n).toList) T)) := by
  have hst := storeCells_at P w b o hb.lt T (Builtin.zeroCells z.cells n).toList 0 arr (by rw [zeroCells_size]; omega) (zeroCells_one _ _ h1 hz)
  rw [putBlk_self hb] at hst
  obtain ⟨m, rfl⟩ : ∃ m, n = m + 1 := ⟨n - 1, by omega⟩
  simp [Builtin.clear_, run_underlying ht, hv, hst]
end Go.Proofs.YtamalmgfhpneaaaDoor.Nr
namespace Go.Proofs.YtamalmgfhpneaaaDoor.Nr
open Go.RowKit
open It
def inF (d : ItD) : Bool := insB d.x.nums
/-- The first j items are looked at: those that stay lie in front, the rest as it was. -/
structure Kept (cur arr : Array Value) (ds : List ItD) (j : Nat) : Prop where
  size : arr.size = cur.size
  front : arr.toList.take (((ds.take j).filter inF).length * 3) = flatI ((ds.take j).filter inF)
  rest : ∀ t, j * 3 ≤ t → arr[t]? = cur[t]?
theorem kept_len (ds : List ItD) (j : Nat) : ((ds.take j).filter inF).length ≤ j :=
  Nat.le_trans (List.length_filter_le _ _) (by rw [List.length_take]; omega)
theorem filter_succ {ds : List ItD} {j : Nat} {d : ItD} (h : ds[j]? = some d) : (ds.take (j + 1)).filter inF = (ds.take j).filter inF ++ (if inF d then [d] else []) := by
  rw [List.take_add_one, h, List.filter_append]
  cases hd : inF d <;> simp [hd]
theorem Kept.skip {cur arr : Array Value} {ds : List ItD} {j : Nat} {d : ItD} (h : Kept cur arr ds j) (hd : ds[j]? = some d) (hf : inF d = false) : Kept cur arr ds (j + 1) := by
  refine ⟨h.size, ?_, fun t ht => h.rest t (by omega)⟩
  rw [filter_succ hd, hf]; simpa using h.front
theorem Kept.keep {cur arr : Array Value} {ds : List ItD} {j : Nat} {d : ItD} (h : Kept cur arr ds j) (hd : ds[j]? = some d) (hf : inF d = true) (hs : (j + 1) * 3 ≤ cur.size) :
    Kept cur (foldset arr (((ds.take j).filter inF).length * 3) [.string d.x.name, .string d.x.tag, d.val]) ds (j + 1) := by
  have hl := kept_len ds j
  have hsz := h.size
  refine ⟨by rw [foldset_size]; exact h.size, ?_, fun t ht => ?_⟩
  · rw [filter_succ hd, hf, if_pos rfl, flatI_snoc, List.length_append, List.length_singleton, ← h.front]
    generalize ((ds.take j).filter inF).length = i at hl ⊢
    obtain ⟨l, hL⟩ : ∃ l, arr.toList = l := ⟨_, rfl⟩
    have hll : l.length = cur.size := by rw [← hL, Array.length_toList]; exact hsz
    have hget : ∀ t, arr[t]? = l[t]? := fun t => by rw [← hL]; exact Array.getElem?_toList.symm
    apply List.ext_getElem?
    intro t
    have e0 : ∀ t, (foldset arr (i * 3) [.string d.x.name, .string d.x.tag, d.val]).toList[t]? = if i * 3 ≤ t ∧ t < i * 3 + 3 then [Value.string d.x.name, .string d.x.tag, d.val][t - i * 3]? else l[t]? := fun t => by
      rw [← hget, Array.getElem?_toList]
      exact foldset_get _ _ _ _ (by simp; omega)
    rw [hL, List.getElem?_take, e0]
    by_cases h1 : t < i * 3
    · rw [if_pos (by omega), if_neg (by omega), List.getElem?_append_left (by rw [List.length_take]; omega), List.getElem?_take, if_pos h1]
    · rw [List.getElem?_append_right (by rw [List.length_take]; omega), List.length_take, Nat.min_eq_left (by omega)]
      by_cases h2 : t < (i + 1) * 3
      · rw [if_pos h2, if_pos (by omega)]
      · rw [if_neg h2, List.getElem?_eq_none (by simp; omega)]
  · rw [foldset_get _ _ _ _ (by simp; omega), if_neg (by simp only [List.length_cons, List.length_nil]; omega)]
    exact h.rest t (by omega)
theorem Kept.clear {cur arr : Array Value} {ds : List ItD} (h : Kept cur arr ds ds.length) (vs : List Value) (i : Nat) (hi : i = ((ds.take ds.length).filter inF).length) (hv : i * 3 + vs.length = ds.length * 3) (hs : ds.length * 3 ≤ cur.size) : Kept cur (foldset arr (i * 3) vs) ds ds.length := by
  have hsz := h.size
  refine ⟨by rw [foldset_size]; exact h.size, ?_, fun t ht => ?_⟩
  · rw [← h.front, ← hi]
    apply List.ext_getElem?
    intro t
    rw [List.getElem?_take, List.getElem?_take, Array.getElem?_toList, Array.getElem?_toList]
    by_cases h1 : t < i * 3
    · rw [if_pos h1, if_pos h1, foldset_get _ _ _ _ (by omega), if_neg (by omega)]
    · rw [if_neg h1, if_neg h1]
  · rw [foldset_get _ _ _ _ (by omega), if_neg (by omega)]
    exact h.rest t ht
theorem Kept.all {cur : Array Value} {ds : List ItD} {j : Nat} (h : cur.toList.take (ds.length * 3) = flatI ds) (hj : j ≤ ds.length) (hk : ∀ d ∈ ds.take j, inF d = true) : Kept cur cur ds j := by
  refine ⟨rfl, ?_, fun _ _ => rfl⟩
  rw [List.filter_eq_self.2 hk, List.length_take, Nat.min_eq_left hj]
  have e : flatI (ds.take j) = (flatI ds).take (j * 3) := by
    have e2 : flatI ds = flatI (ds.take j) ++ flatI (ds.drop j) := by unfold flatI; rw [← List.flatMap_append, List.take_append_drop]
    rw [e2, List.take_append_of_le_length (by rw [flatI_len, List.length_take]; omega)]
    exact (List.take_of_length_le (by rw [flatI_len, List.length_take]; omega)).symm
  rw [e, ← h, List.take_take, Nat.min_eq_left (by omega)]
theorem Ints.updG {w w' : World} {a : Option Addr} {zs : List Int} {g : Nat} (h : Ints w a zs) (hu : UpdG w w' g) (hne : ∀ b o, a = some ⟨b, o, none⟩ → zs ≠ [] → b ≠ g) : Ints w' a zs := by
  intro i z hz
  obtain ⟨b, o, rfl, hc⟩ := h i z hz
  exact ⟨b, o, rfl, (World.cell?_of_block (hu.block b (World.block_lt_of_cell? w _ hc) (hne b o rfl (by rintro rfl; simp at hz)))).trans hc⟩
theorem okG {w w' : World} {d : ItD} {g : Nat} (h : d.Ok w) (hu : UpdG w w' g) (hne : ∀ b o, d.a = some ⟨b, o, none⟩ → d.x.nums ≠ [] → b ≠ g) : d.Ok w' := ⟨Ints.updG h.1 hu hne, h.2⟩
theorem cells_at {arr : Array Value} {ds : List ItD} {n : Nat} (ht : arr.toList.take (n * 3) = flatI ds) (hn : ds.length = n) (j : Nat) (d : ItD) (hd : ds[j]? = some d) : arr[j * 3]? = some (.string d.x.name) ∧ arr[j * 3 + 1]? = some (.string d.x.tag) ∧ arr[j * 3 + 2]? = some d.val := by
  obtain ⟨q1, q2, q3⟩ := flatI_cell ds j d hd
  have hj : j < ds.length := (List.getElem?_eq_some_iff.1 hd).1
  have key : ∀ t, t < n * 3 → arr[t]? = (flatI ds)[t]? := fun t h => by rw [← ht, List.getElem?_take, if_pos h, Array.getElem?_toList]
  exact ⟨(key _ (by omega)).trans q1, (key _ (by omega)).trans q2, (key _ (by omega)).trans q3⟩
theorem its_blk {w : World} {g : Nat} {arr : Array Value} {ds : List ItD} {T : TypeId} (hb : Blk w g arr T) (ht : arr.toList.take (ds.length * 3) = flatI ds) (hok : ∀ d ∈ ds, d.Ok w) : Its w (some ⟨g, 0, none⟩) ds := by
  intro i d hd
  obtain ⟨q1, q2, q3⟩ := cells_at ht rfl i d hd
  refine ⟨g, 0, rfl, ?_, ?_, ?_, hok d (List.mem_of_getElem? hd)⟩ <;> rw [hb.cell]
  · rw [Nat.zero_add]; exact q1
  · rw [Nat.zero_add]; exact q2
  · rw [Nat.zero_add]; exact q3
theorem szIt : (Tryd.prog.info? 43).map (·.size) = some 3 := by kernel_rfl
end Go.Proofs.YtamalmgfhpneaaaDoor.Nr
