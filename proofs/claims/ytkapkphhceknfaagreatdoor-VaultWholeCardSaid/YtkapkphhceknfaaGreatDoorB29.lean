/-
  Part of the proof: the keep package's pick, all, pages are walked.
  Part of the proof: a Tell, and what is known of the device behind it.
  Part of the proof: plain facts: a device that has been laid down again, and what an elder state says of a later Count.
  Part of the proof: kept is walked: a page that is there again.
  Part of the proof: lists is walked.
-/
import Derived.Test.YtkapkphhceknfaaGreatDoorB25
import Derived.Test.YtkapkphhceknfaaGreatDoorB28
namespace Go.Proofs.YtkapkphhceknfaaGreatDoor.Vt
open Go.RowKit
theorem pick_at (a : Int) (n : Nat) (w : World) (h0 : 0 < n) (h1 : n ≤ 10000) (ha : 0 ≤ a) (hb : a ≤ 9223372036854775807) :
    Calls Tryz.prog 9 #[.int .i64 a, .int .i64 (n : Int)] w fun e w' => e = .returned (.int .i64 (a % (n : Int))) ∧ w' = w := by
  obtain ⟨u, hu⟩ : ∃ u : Nat, IntKind.u64.wrap a = (u : Int) := ⟨a.toNat, by simp [IntKind.wrap, IntKind.bits, IntKind.signed]; omega⟩
  have hua : a = (u : Int) := by rw [← hu]; simp [IntKind.wrap, IntKind.bits, IntKind.signed]; omega
  obtain ⟨j, hj, hjn⟩ : ∃ j : Nat, (u : Int) % (n : Int) = (j : Int) ∧ j < n := ⟨u % n, by simp, Nat.mod_lt _ h0⟩
  have hR : Hid (a % (n : Int) = (j : Int)) := by unfold Hid; rw [hua]; exact hj
  rw [hR.out]
  clear ha hb hua
  go_enter Tryz.func9, Tryz.ntmps9
  go_wp2
  go_ret
  exact ⟨rfl, rfl⟩
/-- All pages' texts. -/
def txt (p : Int → Option (Int × ByteArray)) (j : Nat) : ByteArray := (rd p (j : Int)).2
set_option maxRecDepth 100000 in
set_option maxHeartbeats 400000 in
theorem all_any (w : World) (vb d c : Nat) (sec : ByteArray) (cn en : Int) (f : Nat → Bool) (r : ByteArray) (mb n : Nat) (p : Int → Option (Int × ByteArray)) (stuck : Bool) (h : Vlt w vb d c sec cn en f r mb n p stuck) :
    Calls Tryz.prog 18 #[.pointer (some ⟨vb, 0, none⟩)] w fun e w' => (∃ v, e = .returned v ∧ w'.ownsRow w.heap.size 9 1 v 32 (Tr.strs (txt p) 32)) ∧ Below w.heap.size w w' := by
  obtain ⟨i0, hi0, hz0, hz1, hz2⟩ := info_parts Tr.infoStr
  have HI : Hid (Tryz.prog.info? 9 = some i0 ∧ i0.zero = some (.string ByteArray.empty) ∧ i0.size = 1 ∧ i0.bytes = 16) := ⟨hi0, hz0, hz1, hz2⟩
  clear hi0 hz0 hz1 hz2
  go_enter Tryz.func18, Tryz.ntmps18
  go_wp2_with fail
  go_loopw [3, 4] (fun v i wr => ∃ k : Nat, k ≤ 32 ∧ i = .int .i64 k ∧ wr.ownsRow w.heap.size 9 1 v k (Tr.strs (txt p) k) ∧ Below w.heap.size w wr) (fun _ i _ => 32 - (intOf i).toNat)
  case atStart => exact ⟨0, by omega, rfl, ⟨rfl, Or.inl ⟨rfl, rfl⟩⟩, Below.refl _ _⟩
  case round =>
    obtain ⟨k, hk, rfl, ow, br⟩ := hrel
    by_cases hlt : k < 32
    · have hlt' : (k : Int) < 32 := by omega
      have hVr := h.below br h.blk.lt h.map.lt
      have e1 : getT p (k : Int) = txt p k := by unfold getT txt; rw [if_pos (by omega)]
      have e2 : errV (getC (k : Int)) = .nilIface := by unfold getC; rw [if_pos (by omega)]; rfl
      have hF' : Hid (Tr.strs (txt p) (k + 1) = Tr.strs (txt p) k ++ [.string (txt p k)]) := Tr.strs_succ _ _
      go_wp2_with fail
      refine (get_any wr vb d c sec cn en f r mb n p stuck (k : Int) hVr).mono ?_
      rintro e w2 ⟨rfl, hw2⟩
      obtain rfl : wr = w2 := hw2.symm
      clear hw2
      rw [e1, e2]
      clear e1 e2
      generalize txt p k = X at *
      have s6 := Pg.below_alloc wr (.cells #[.string X] 9)
      have ow6 := row_below ow s6
      have b6 := br.trans (s6.mono br.size)
      have hone : ∀ u ∈ [Value.string X], u.oneCell' = true := by intro u hu; simp at hu; subst hu; rfl
      have hwz := br.size
      go_wp2_with (first
        | (refine wpList_append_lies _ rfl _ _ _ rfl w.heap.size 9 i0 _ 1 16 Tryz.underlying23 HI.out.1 HI.out.2.1 HI.out.2.2.1 HI.out.2.2.2 rfl (by omega) u3 k (Tr.strs (txt p) k) rfl ow6 ⟨wr.heap.size, 0, none⟩ 1 1 [.string X] rfl rfl (World.news_of_block (cs := #[.string X]) (t := 9) (fr := (0, 0)) (heap_alloc_new wr _)) hone (by omega) (by unfold maxLen; omega) (by omega) (by simp; omega) (wr.heap.size + 1) (by simp) ?_; intro g7 cap w7 ow7 gr7 hat7 hlt7)
        | fail)
      refine ⟨⟨k + 1, by omega, by go_num, by rw [hF'.out]; exact ow7, b6.grown gr7 b6.size (fun j e => ?_)⟩, by simp [intOf]; omega⟩
      exact (Dv.ownsRow_lt ow6 j e).1
    · have hk' : k = 32 := by omega
      subst hk'
      go_wp2_with fail
      go_ret
      exact ⟨⟨_, rfl, ow⟩, br⟩
/-- The pages that texts tell. -/
def pgF (ls : List ByteArray) (at' : Int) : Nat → Int → Option ByteArray
  | 0, _ => none
  | k + 1, i => if i = (at' + 7 * (k : Int)) % 32 then ls[k]? else pgF ls at' k i
theorem pgF_some {ls : List ByteArray} {at' : Int} : ∀ {k : Nat} {i : Int} {s : ByteArray}, pgF ls at' k i = some s → (0 ≤ i ∧ i < 32) ∧ s ∈ ls
  | 0, i, s, h => by cases h
  | k + 1, i, s, h => by
    unfold pgF at h
    by_cases e : i = (at' + 7 * (k : Int)) % 32
    · rw [if_pos e] at h; exact ⟨by omega, List.mem_of_getElem? h⟩
    · rw [if_neg e] at h; exact pgF_some h
theorem sv_pgF {ls : List ByteArray} {at' : Int} {k : Nat} {s : ByteArray} (h : ls[k]? = some s) : (fun j => if j = (at' + 7 * (k : Int)) % 32 then some (Value.string s) else sv (pgF ls at' k) j) = sv (pgF ls at' (k + 1)) := by
  funext j
  unfold sv
  conv => rhs; unfold pgF
  by_cases e : j = (at' + 7 * (k : Int)) % 32
  · rw [if_pos e, if_pos e, h]; rfl
  · rw [if_neg e, if_neg e]
theorem mkMapS (w : World) : (Instr.makeMap 38 none).run Tryz.prog w = .ok (.map (some w.heap.size)) (w.alloc (.map #[] 0)) := by kernel_rfl
set_option maxRecDepth 100000 in
set_option maxHeartbeats 400000 in
theorem pages_any (a : Option Addr) (cap : Nat) (ls : List ByteArray) (at' : Int) (w : World) (h : Dv.Texts w (fun _ => False) a ls) (hl : ls.length ≤ 100) (h0 : 0 ≤ at') (h1 : at' ≤ 1000) :
    Calls Tryz.prog 11 #[.slice a ls.length cap, .int .i64 at'] w fun e w' => (e = .returned (.map (some w.heap.size)) ∧ MapF Tryz.prog w' w.heap.size ls.length (sv (pgF ls at' ls.length))) ∧ Below w.heap.size w w' := by
  have hmk := mkMapS
  have m0 : MapF Tryz.prog (w.alloc (.map #[] 0)) w.heap.size 0 (sv (pgF ls at' 0)) := (mapF_made Tryz.prog w).congr fun i _ => rfl
  have g0 := Pg.below_alloc w (.map #[] 0)
  go_enter Tryz.func11, Tryz.ntmps11
  go_wp2_with fail
  generalize w.alloc (.map #[] 0) = w0 at *
  obtain ⟨tm, htm⟩ : ∃ tm, Hid (w.heap.size = tm) := ⟨_, rfl⟩
  rw [htm.out] at m0
  rw [htm.out]
  clear hmk
  go_loopw [6] (fun i wr => ∃ k : Nat, k ≤ ls.length ∧ i = .int .i64 k ∧ MapF Tryz.prog wr tm k (sv (pgF ls at' k)) ∧ Below w.heap.size w wr) (fun i _ => ls.length - (intOf i).toNat)
  case atStart => exact ⟨0, by omega, rfl, m0, g0⟩
  case round =>
    clear m0 g0
    obtain ⟨k, hk, rfl, mr, br⟩ := hrel
    by_cases hlt : k < ls.length
    · obtain ⟨s, hs⟩ : ∃ s, ls[k]? = some s := ⟨_, List.getElem?_eq_getElem hlt⟩
      obtain ⟨g, o, rfl, hg, _, hc⟩ := h k s hs
      have hst : Hid _ := sv_pgF (at' := at') hs
      have cs : wr.drew.cell? ⟨g, o + k, none⟩ = some (.string s) := (World.cell?_of_block (br.block g hg)).trans hc
      have hlt' : (k : Int) < (ls.length : Int) := by omega
      have hk0 : (0 : Int) ≤ (k : Int) := by omega
      obtain ⟨q, hq⟩ : ∃ q, Hid (at' + 7 * (k : Int) = q) := ⟨_, rfl⟩
      have hq1 : Hid (0 ≤ q ∧ q ≤ 2000) := by unfold Hid; rw [← hq.out]; omega
      have hq2 : (7 : Int) * (k : Int) = q - at' := by rw [← hq.out]; omega
      rw [hq.out] at hst
      clear hs hc
      go_wp2_with fail
      refine region_s [(0, true), (1, true), (2, true), (3, true), (4, true), (6, true), (7, true), (8, true), (9, false)] [5] [10] (fun w' => w' = wr.drew) Tr.mixed (by kernel_rfl) (fun _ _ _ _ _ h => h) rfl ?_
      have hw1 : IntKind.i64.wrap (q - at') = q - at' := by have := hq1.out; rw [IntKind.wrap_i64]; omega
      have hw2 : IntKind.i64.wrap q = q := by have := hq1.out; rw [IntKind.wrap_i64]; omega
      have hw3 : at' + (q - at') = q := by omega
      refine lead_pure _ rfl _ rfl rfl (.map (some tm)) (fun w' => by go_simp) ?_
      refine lead_pure _ rfl _ rfl rfl (.int .i64 at') (fun w' => by go_simp) ?_
      refine lead_pure _ rfl _ rfl rfl (.int .i64 (k : Int)) (fun w' => by go_simp) ?_
      refine lead_pure _ rfl _ rfl rfl (.int .i64 (q - at')) (fun w' => by go_simp) ?_
      refine lead_pure _ rfl _ rfl rfl (.int .i64 q) (fun w' => by go_simp) ?_
      refine lead_pure _ rfl _ rfl rfl (.slice (some ⟨g, o, none⟩) ls.length cap) (fun w' => by go_simp) ?_
      refine lead_pure _ rfl _ rfl rfl (.int .i64 (k : Int)) (fun w' => by go_simp) ?_
      refine lead_pure _ rfl _ rfl rfl (.pointer (some ⟨g, o + k, none⟩)) (fun w' => by go_simp) ?_
      refine lead_read _ rfl _ rfl rfl (.string s) (fun w' hS => by subst hS; go_simp) ?_
      simp only [lead_nil_eq]
      simp only [Act.put, List.setIfInBounds_toArray, List.set_cons_succ, List.set_cons_zero]
      refine mid_cons _ rfl rfl fun K hK => ?_
      go_wp2_with fail
      refine (pick_at q 32 wr.drew (by decide) (by decide) hq1.out.1 (by have := hq1.out; omega)).mono ?_
      rintro e w5 ⟨rfl, hw5⟩
      obtain rfl := hw5
      refine hK _ _ rfl ?_
      clear hK K
      simp only [mid_nil_eq]
      simp only [List.filterMap_cons, List.getElem?_toArray, List.getElem?_cons_succ, List.getElem?_cons_zero, List.filterMap_nil]
      refine wpl_putF rfl rfl 38 _ _ _ rfl und3 9 undS tm k (sv (pgF ls at' k)) (q % 32) (.string s) rfl rfl rfl mr.drew (by omega) (kOk_small (by omega) (by omega)) ?_
      intro w7 m7 hu7'
      go_wp2_with fail
      have hu7 : Upd wr w7 tm := ⟨hu7'.os, hu7'.tape, hu7'.output, hu7'.size, hu7'.block⟩
      rw [hst.out] at m7
      have htm' := htm.out
      exact ⟨⟨k + 1, by omega, by go_num, m7, below_upd br hu7 (by omega)⟩, by simp [intOf]; omega⟩
    · have hk' : k = ls.length := by omega
      subst hk'
      go_wp2_with fail
      go_ret
      exact ⟨⟨by rw [← htm.out]; rfl, by rw [htm.out]; exact mr⟩, br⟩
end Go.Proofs.YtkapkphhceknfaaGreatDoor.Vt
namespace Go.Proofs.YtkapkphhceknfaaGreatDoor.Vt
open Go.RowKit
theorem tell_tld (vb d c : Nat) (sec : ByteArray) (n : Nat) (f : Nat → Bool) (r : ByteArray) (mb nn : Nat) (p : Int → Option (Int × ByteArray)) (m : Value) (nm : Nat) (g : Int → Option ByteArray) (O : Nat → Prop) (S : Nat → Nat → UInt8) (v : Value) (lf : Int) (w : World)
    (hV : Vlt w vb d c sec (n : Int) 1 f r mb nn p false) (hM : MapV Tryz.prog w m nm (sv g)) (hg : ∀ i s, g i = some s → (0 ≤ i ∧ i < 32) ∧ s.size ≤ 200) (hD : Dv.Dev w O d S [] (-1) v lf) (hC : Dv.Cnt w c (n : Int)) (hT : Tld S sec n f p)
    (hn : nn + nm ≤ 100000) (hn1 : n < 1000000) (hsec : sec.size ≤ 300) (hO : ∀ k, O k → k < w.heap.size) (o2 : ¬ O vb) (o3 : ¬ O c) (o4 : vb ≠ c) (hK : Sm.KB w) :
    Calls Tryz.prog 12 #[.pointer (some ⟨vb, 0, none⟩), m] w fun e w' => e = .returned .nilIface ∧
      ∃ S' f' CB n' O' v' l', Vlt w' vb d c sec ((n + 1 : Nat) : Int) 1 f' (rootP (nxP p (tel g p ((n + 1 : Nat) : Int)))) CB n' (nxP p (tel g p ((n + 1 : Nat) : Int))) false ∧ w.heap.size ≤ CB ∧ n' ≤ nn + nm ∧
        Tld S' sec (n + 1) f' (nxP p (tel g p ((n + 1 : Nat) : Int))) ∧ Dv.Dev w' O' d S' [] (-1) v' l' ∧ (∀ k, O' k → Dv.gro O w w' k) ∧ Dv.Cnt w' c ((n + 1 : Nat) : Int) ∧ Dv.Chg w w' (fun k => O k ∨ k = c ∨ k = vb) := by
  have hF : ¬ Far g := fun ⟨i, _, h2, h3⟩ => by
    obtain ⟨s, hs⟩ := Option.isSome_iff_exists.1 h2
    exact h3 (hg i s hs).1
  have hWd : ¬ Wide g := fun ⟨i, s, _, h2, h3⟩ => by have := (hg i s h2).2; omega
  have hp : ∀ j : Nat, j < 32 → (rd p j).2.size ≤ 300 := fun j hj => by
    unfold rd
    cases hx : p (j : Int) with
    | none => exact Nat.zero_le _
    | some x => have := (hT.pgs.some' j hj x hx).2.2.2; simp; omega
  have h := tell_ok vb d c sec (n : Int) 1 f r mb nn p m nm g O S [] v lf (n : Int) w hV hM (fun i s hs => by have := (hg i s hs).2; omega) hF hWd hD hC (by omega) hn (by omega) (by omega) (by decide) (by decide) hp hsec (Nat.zero_le _) hO o2 o3 o4 hK
  rw [show (n : Int) + 1 = ((n + 1 : Nat) : Int) from by omega] at h
  refine h.mono ?_
  rintro e w' ⟨rfl, ⟨CB, n', hV', hCB, hn'⟩, ⟨O', v', l', hD', hO'⟩, hC', C'⟩
  refine ⟨rfl, _, _, CB, n', O', v', l', hV', hCB, hn', hT.told (t := tel g p ((n + 1 : Nat) : Int)) hn1 (fun id hi x hx => ?_) (fun i hi hx => ?_) (fun id _ x hx => by rw [(tel_some hx).1]; exact Int.le_refl _), ?_, hO', hC', C'⟩
  · have h1 := tel_some hx
    have h2 := (hg _ _ h1.2).2
    omega
  · obtain ⟨x, hx⟩ := Option.isSome_iff_exists.1 hx
    exact (hg _ _ (tel_some hx).2).1
  · have e : ((n + 1 : Nat) : Int).toNat = n + 1 := by omega
    rw [e, List.nil_append] at hD'
    exact hD'
end Go.Proofs.YtkapkphhceknfaaGreatDoor.Vt
namespace Go.Proofs.YtkapkphhceknfaaGreatDoor.Vt
open Go.RowKit
/-- An image, as texts. -/
def imgL (S : Nat → Nat → UInt8) : List ByteArray := (List.range 66).map fun k => sb 256 (S k)
theorem imgL_len (S : Nat → Nat → UInt8) : (imgL S).length = 66 := by simp [imgL]
theorem imgT {w : World} {O : Nat → Prop} {G : Nat} {S : Nat → Nat → UInt8} {T : TypeId} (h : Blk w G (Dv.ts 66 fun k => sb 256 (S k)) T) (hG : ¬ O G) : Dv.Texts w O (some ⟨G, 0, none⟩) (imgL S) := by
  intro i x hx
  have hi : i < 66 := by have := (List.getElem?_eq_some_iff.1 hx).1; simpa [imgL_len] using this
  refine ⟨G, 0, rfl, h.lt, hG, ?_⟩
  have e : x = sb 256 (S i) := by
    unfold imgL at hx
    rw [List.getElem?_map, List.getElem?_range hi] at hx
    injection hx with hx
    exact hx.symm
  rw [Nat.zero_add, h.cell, Dv.ts_get _ _ _ hi, e]
theorem sb_back (f : Nat → UInt8) : sb 256 (Dv.bAt (sb 256 f)) = sb 256 f := by
  refine sb_congr _ _ _ fun j hj => ?_
  unfold Dv.bAt sb
  simp [hj]
/-- Two devices say the same. -/
def Sam (S S' : Nat → Nat → UInt8) : Prop := ∀ k, k < 66 → sb 256 (S' k) = sb 256 (S k)
theorem lay_sam (S T : Nat → Nat → UInt8) : Sam T (Dv.layS S (imgL T) 66) := by
  intro k hk
  unfold Dv.layS
  rw [if_pos hk]
  have : (imgL T).getD k ByteArray.empty = sb 256 (T k) := by
    unfold imgL
    rw [List.getD_eq_getElem?_getD, List.getElem?_map, List.getElem?_range hk]; rfl
  rw [this, sb_back]
theorem SupAt.sam {S S' : Nat → Nat → UInt8} {sec : ByteArray} {b : Nat} {c : Option Int} (hs : Sam S S') (hb : b < 66) (h : SupAt S [] sec b c) : SupAt S' [] sec b c := by
  unfold SupAt at *
  rw [read_nil, hs b hb]
  rw [read_nil] at h
  exact h
theorem Tld.sam {S S' : Nat → Nat → UInt8} {sec : ByteArray} {n : Nat} {f : Nat → Bool} {p : Int → Option (Int × ByteArray)} (hs : Sam S S') (h : Tld S sec n f p) : Tld S' sec n f p := by
  refine ⟨⟨fun id hi x hx => ?_, fun id hi hx => ?_, h.pgs.keys⟩, fun h1 => ?_, ?_, fun h0 => ?_, h.n1, fun b h1 h2 => by rw [hs b h2]; exact h.low b h1 h2⟩
  · rw [hs _ (plc_lt f id hi)]; exact h.pgs.some' id hi x hx
  · rw [hs _ (plc_lt f id hi)]; exact h.pgs.none' id hi hx
  · rw [hs _ (by omega)]; exact h.sup h1
  · obtain ⟨x, h1, h2⟩ := h.old
    exact ⟨x, h1.sam hs (by omega), h2⟩
  · obtain ⟨h1, h2, h3⟩ := h.new h0
    exact ⟨h1.sam hs (by decide), h2.sam hs (by decide), h3⟩
/-- No block of Supers is of so great a Count. -/
theorem Tld.elder {S : Nat → Nat → UInt8} {sec : ByteArray} {n : Nat} {f : Nat → Bool} {p : Int → Option (Int × ByteArray)} (h : Tld S sec n f p) (m b : Nat) (hm : n < m) (hb : b < 2) : ∃ x, SupAt S [] sec b x ∧ x ≠ some (m : Int) := by
  by_cases h0 : n = 0
  · subst h0
    obtain ⟨h1, h2, _⟩ := h.new rfl
    by_cases hb0 : b = 0
    · subst hb0; exact ⟨none, h1, fun e => by cases e⟩
    · obtain rfl : b = 1 := by omega
      exact ⟨none, h2, fun e => by cases e⟩
  · by_cases hbn : b = n % 2
    · subst hbn
      exact ⟨some (n : Int), on_sup (h.on (by omega)), fun e => by injection e with e; omega⟩
    · obtain rfl : b = (n + 1) % 2 := by omega
      obtain ⟨x, h1, h2⟩ := h.old
      exact ⟨x, h1, fun e => by have := h2 _ e; omega⟩
end Go.Proofs.YtkapkphhceknfaaGreatDoor.Vt
namespace Go.Proofs.YtkapkphhceknfaaGreatDoor.Vt
open Go.RowKit
theorem wpl_insertW {P : Program} {ops : Array Oper} {Q : Exit → Act → World → Prop} {a : Act} {w : World} {rest : List Oper} {o : Oper} (hw : Region.wanted o (yielded ops a.tmps) = true) (hdn : o.dst = none) (t : TypeId) (m x y : Operand) (ho : o.op = .insert t m x y) (vm vx vy : Value) (hm : a.eval m = vm) (hx : a.eval x = vx) (hy : a.eval y = vy) (w' : World) (hr : (Instr.mapUpdate t vm vx vy).run P w = .ok () w')
    (h : wpList P ops Q rest a w') : wpList P ops Q (o :: rest) a w := by
  refine BigFrame.wpList_want hw fun K hK => ?_
  unfold Oper.wp execOp
  simp only [ho, hm, hx, hy, Sem.run_bind, Sem.run_pure, Result.andThen_ok, hr]
  simp only [Oper.upon_skip, hdn, Act.put]
  exact hK _ _ h
/-- One page that says one letter. -/
def g3 (j : Int) : Option ByteArray := if j = 3 then some ⟨#[120]⟩ else none
theorem g3_sv : (fun j => if j = 3 then some (Value.string ⟨#[120]⟩) else (fun _ => none) j) = sv g3 := by
  funext j; unfold sv g3; by_cases e : j = 3
  · rw [if_pos e, if_pos e]; rfl
  · rw [if_neg e, if_neg e]; rfl
theorem g3_ok : ∀ i s, g3 i = some s → (0 ≤ i ∧ i < 32) ∧ s.size ≤ 200 := fun i s h => by
  unfold g3 at h
  by_cases e : i = 3
  · rw [if_pos e] at h; injection h with h; subst h; subst e; exact ⟨by omega, by decide⟩
  · rw [if_neg e] at h; cases h
theorem g3_get (c : Int) : getT (nxP (fun _ => none) (tel g3 (fun _ => none) c)) 3 = ⟨#[120]⟩ := by
  have h1 : tel g3 (fun _ => none) c 3 = some (c, ⟨#[120]⟩) := by
    unfold tel g3
    rw [if_pos rfl]
    simp only [Option.bind_some]
    rw [if_neg (by decide +kernel)]
  unfold getT
  rw [if_pos (by decide)]
  unfold rd nxP
  rw [h1]; rfl
theorem lose_nil (S : Nat → Nat → UInt8) (k : Nat → Bool) : Dv.loseS S [] k 0 = S := rfl
set_option maxRecDepth 100000 in
set_option maxHeartbeats 400000 in
theorem kept_any (w : World) (hK : Sm.KB w) : Calls Tryz.prog 5 #[] w fun e w' => e = .returned (.bool true) ∧ Below w.heap.size w w' := by
  go_enter Tryz.func5, Tryz.ntmps5
  go_wp2_with fail
  refine (Dv.dnew_any w).mono ?_
  rintro e w2 ⟨rfl, hD2, g2, z2⟩
  have Z2 : Hid (w2.heap.size = w.heap.size + 1) := z2
  clear z2
  have g3 := Pg.below_alloc w2 (.cells #[.int .i64 0] 56)
  have b3 := g2.trans (g3.mono g2.size)
  have hC3 : Dv.Cnt (w2.alloc (.cells #[.int .i64 0] 56)) w2.heap.size 0 := Blk.new w2 _ _
  have hD3 := hD2.below g3
  have z3 : Hid ((w2.alloc (.cells #[.int .i64 0] 56)).heap.size = w2.heap.size + 1) := by unfold Hid; simp
  have ho := fun (sec : ByteArray) (h : sec.size = 16) => open_0 _ _ _ _ _ _ _ _ sec _ hD3 hC3 (by decide) h (hK.below b3) ((par_zS (supK_size sec)).1)
  have HO : Hid _ := ho
  clear g2 g3 hD2 ho
  go_wp2_with fail
  refine Calls.mono (HO.out _ rfl) ?_
  rintro e w4 ⟨⟨VB, CB, rfl, hV4', hVB, hCB⟩, g4⟩
  obtain ⟨sec, hs, hs16, hV4⟩ : ∃ sec : ByteArray, Hid (_ = sec) ∧ sec.size = 16 ∧ Vlt w4 VB w.heap.size w2.heap.size sec ((0 : Nat) : Int) 1 (fun _ => false) ⟨#[]⟩ CB 0 (fun _ => none) false := ⟨_, rfl, rfl, hV4'⟩
  have b4 := b3.trans (g4.mono b3.size)
  have hD4 := hD3.below g4
  have hC4 : Dv.Cnt w4 w2.heap.size ((0 : Nat) : Int) := hC3.below g4 hC3.lt
  have hVl := hV4.blk.lt
  have hCl := hV4.map.lt
  have z4 := g4.size
  rw [z3.out] at hVB hCB z4
  generalize w2.alloc (.cells #[.int .i64 0] 56) = w3 at *
  obtain ⟨D, hDD⟩ : ∃ D, Hid (w.heap.size = D) := ⟨_, rfl⟩
  obtain ⟨C, hCC⟩ : ∃ C, Hid (w2.heap.size = C) := ⟨_, rfl⟩
  rw [hDD.out] at hV4 hD4 Z2
  rw [hCC.out] at hV4 hC4 Z2 hVB hCB z4
  rw [hDD.out, hCC.out]
  clear hD3 hC3 b3 HO g4 hV4' z3
  go_wp2_with fail
  refine (count_any w4 VB D C sec _ 1 _ _ CB 0 _ false hV4).mono ?_
  rintro e w5 ⟨rfl, hw5⟩
  obtain rfl : w4 = w5 := hw5.symm
  clear hw5
  rw [show ((0 : Nat) : Int) = 0 from rfl]
  have hmk := mkMapS
  obtain ⟨w5, hr5, m5, gr5, z5⟩ := (mapF_made Tryz.prog w4).update (t := 38) und3 undS (by decide) (i := 3) (by decide) (.string ⟨#[120]⟩)
  rw [g3_sv] at m5
  have u5 := upd_of_grown gr5 z5
  have s5 : Below w4.heap.size w4 w5 := below_upd (Pg.below_alloc w4 (.map #[] 0)) u5 (Nat.le_refl _)
  have b5 := b4.trans (s5.mono b4.size)
  have hV5 := hV4.below s5 hV4.blk.lt hV4.map.lt
  have hD5 := hD4.below s5
  have hC5 := hC4.below s5 hC4.lt
  have z5' := s5.size
  go_wp2_with (first
    | (refine wpl_insertW (by kernel_rfl) rfl 38 _ _ _ rfl (.map (some w4.heap.size)) (.int .i64 3) (.string ⟨#[120]⟩) rfl rfl rfl w5 hr5 ?_)
    | fail)
  have hT := tld_new sec
  refine (tell_tld VB D C sec 0 _ _ CB 0 _ (.map (some w4.heap.size)) 1 g3 (fun q => q = D) _ _ _ w5 hV5 (Or.inr ⟨_, rfl, m5⟩) g3_ok hD5 hC5 hT (by decide) (by decide) (by omega) (fun q hq => by subst hq; have := Z2.out; omega) (fun h => by have := Z2.out; omega) (fun h => by have := Z2.out; omega) (by omega) (hK.below b5)).mono ?_
  rintro e w6 ⟨rfl, S6, f6, CB6, n6, O6, v6, l6, hV6, hCB6, hn6, hT6, hD6, hO6, hC6, C6⟩
  have e1 : ((0 + 1 : Nat) : Int) = 1 := rfl
  have hw0 := b5.size
  have b6 : Below w.heap.size w w6 := C6.to b5 b5.size (fun q hq => by
    have := Z2.out
    have := hDD.out
    rcases hq with rfl | rfl | rfl <;> omega)
  have hCO : ¬ O6 C := fun h => by
    have := Z2.out
    rcases hO6 C h with h | h
    · omega
    · omega
  have hOn := hT6.on (by decide)
  obtain ⟨xo, hxo, hxo'⟩ := hT6.old
  clear hV4 hV5 hD4 hD5 hC4 hC5 m5 u5 s5 gr5 hr5 hT C6 hV6 hmk
  go_wp2_with fail
  refine (Dv.crash_any D O6 S6 [] (-1) v6 l6 w6 hD6 none 0 [] (by decide) (fun i x hx => by simp at hx)).mono ?_
  rintro e w7 ⟨rfl, ⟨l7, hD7⟩, C7⟩
  have hC7 := hC6.chg C7 hCO
  have b7 : Below w.heap.size w w7 := C7.to b6 b6.size (fun q hq => by
    have := hDD.out
    rcases hO6 q hq with h | h
    · omega
    · omega)
  have hop := fun (s' : ByteArray) (h : s' = sec) => show Calls Tryz.prog 15 #[.pointer (some ⟨D, 0, none⟩), .pointer (some ⟨C, 0, none⟩), .string s'] w7 _ from h ▸ open_some D C O6 S6 [] (-1) _ _ sec 1 xo 1 f6 _ w7 hD7 hC7 (by decide) hs16 (hK.below b7) hxo (fun e => by have := hxo' _ e; omega) hOn
  have HO2 : Hid _ := hop
  clear hop hxo hxo' hOn hT6 hD6 hC6 C7 hD7
  go_wp2_with fail
  refine Calls.mono (HO2.out _ hs.out) ?_
  rintro e w8 ⟨⟨VB8, CB8, rfl, hV8, hVB8, hCB8⟩, g8⟩
  have hC8 := hC7.below g8 hC7.lt
  have b8 := b7.trans (g8.mono b7.size)
  rw [show ((1 : Nat) : Int) = 1 from rfl, hs.out] at hV8
  have hC8' : Dv.Cnt w8 C 1 := hC8
  clear HO2 hC7 b7 g8 hC8
  have hg := g3_get 1
  go_wp2_with fail
  refine (count_any w8 VB8 D C sec 1 1 _ _ CB8 32 _ false hV8).mono ?_
  rintro e w9 ⟨rfl, hw9⟩
  obtain rfl : w8 = w9 := hw9.symm
  clear hw9
  go_wp2_with fail
  refine (get_any w8 VB8 D C sec 1 1 _ _ CB8 32 _ false 3 hV8).mono ?_
  rintro e w9 ⟨rfl, hw9⟩
  obtain rfl : w8 = w9 := hw9.symm
  clear hw9
  have e3 : errV (getC 3) = .nilIface := by unfold getC; rw [if_pos (by decide)]; rfl
  rw [hg, e3]
  clear hg e3 hV8
  go_wp2_with fail
  refine (Dv.get_any C 1 w8 hC8').mono ?_
  rintro e wa ⟨rfl, hwa⟩
  obtain rfl : w8 = wa := hwa.symm
  clear hwa
  go_wp2_with fail
  go_ret
  exact ⟨rfl, b8⟩
end Go.Proofs.YtkapkphhceknfaaGreatDoor.Vt
namespace Go.Proofs.YtkapkphhceknfaaGreatDoor.Vt
open Go.RowKit
theorem l11_any (s : ByteArray) (w : World) (hs : s.size ≤ maxLen) : Calls Tryz.prog 23 #[.string s] w fun e w' => e = .returned (.bool (decide (200 < s.size))) ∧ w' = w := by
  unfold maxLen at hs
  go_enter Tryz.func23, Tryz.ntmps23
  go_wp2
  go_ret
  refine ⟨?_, rfl⟩
  simp
  omega
set_option maxHeartbeats 400000 in
/-- No text is too long: -1; else a number that is not below 0. -/
theorem idx1_any (a : Option Addr) (cap : Nat) (ls : List ByteArray) (w : World) (h : Dv.Texts w (fun _ => False) a ls) (hl : ls.length ≤ 6) (hs : ∀ s ∈ ls, s.size ≤ maxLen) :
    Calls Tryz.prog 34 #[.slice a ls.length cap, .func (.func 23) #[] #[]] w fun e w' => (∃ j : Int, e = .returned (.int .i64 j) ∧ (decide (0 ≤ j) = ls.any fun s => decide (200 < s.size))) ∧ w' = w := by
  go_enter Tryz.func34, Tryz.ntmps34
  go_wp2_with fail
  go_loop [8] (fun i => ∃ k : Nat, k ≤ ls.length ∧ i = .int .i64 k ∧ ∀ s ∈ ls.take k, s.size ≤ 200) (fun i => ls.length - (intOf i).toNat)
  case atStart => exact ⟨0, by omega, rfl, fun s hs => by simp at hs⟩
  case round =>
    obtain ⟨k, hk, rfl, hp⟩ := hrel
    by_cases hlt : k < ls.length
    · obtain ⟨g, o, rfl, hg, _, hc⟩ := h k ls[k] (List.getElem?_eq_getElem hlt)
      have hm : ls[k] ∈ ls := List.getElem_mem hlt
      have htk : Hid (ls.take (k + 1) = ls.take k ++ [ls[k]]) := by unfold Hid; rw [List.take_add_one, List.getElem?_eq_getElem hlt]; rfl
      have hsz := hs _ hm
      have hlt' : (k : Int) < (ls.length : Int) := by omega
      generalize ls[k] = x at *
      by_cases hx : 200 < x.size
      · have dx : decide (200 < x.size) = true := decide_eq_true hx
        go_wp2_with (go_at_call 23; refine (l11_any _ _ hsz).mono ?_; rintro e w' ⟨rfl, rfl⟩; rw [dx])
        go_ret
        refine ⟨⟨k, rfl, ?_⟩, rfl⟩
        have : ls.any (fun s => decide (200 < s.size)) = true := List.any_eq_true.2 ⟨x, hm, dx⟩
        rw [this]; simp
      · have dx : decide (200 < x.size) = false := decide_eq_false hx
        go_wp2_with (go_at_call 23; refine (l11_any _ _ hsz).mono ?_; rintro e w' ⟨rfl, rfl⟩; rw [dx])
        go_round
        case rel =>
          refine ⟨k + 1, by omega, by go_num, fun s hs' => ?_⟩
          rw [htk.out] at hs'
          rcases List.mem_append.1 hs' with h' | h'
          · exact hp s h'
          · simp at h'; subst h'; omega
        case measure => simp [intOf]; omega
    · have hk' : k = ls.length := by omega
      subst hk'
      rw [List.take_length] at hp
      have : ls.any (fun s => decide (200 < s.size)) = false := by
        rw [List.any_eq_false]; intro s hs'; have := hp s hs'; simp; omega
      go_wp2_with fail
      go_ret
      exact ⟨⟨-1, rfl, by first | decide | (rw [this]; decide)⟩, rfl⟩
theorem con1_any (a : Option Addr) (cap : Nat) (ls : List ByteArray) (w : World) (h : Dv.Texts w (fun _ => False) a ls) (hl : ls.length ≤ 6) (hs : ∀ s ∈ ls, s.size ≤ maxLen) :
    Calls Tryz.prog 22 #[.slice a ls.length cap, .func (.func 23) #[] #[]] w fun e w' => e = .returned (.bool (ls.any fun s => decide (200 < s.size))) ∧ w' = w := by
  go_enter Tryz.func22, Tryz.ntmps22
  go_wp2_with (go_at_call 34; refine (idx1_any _ _ _ _ h hl hs).mono ?_; rintro e w' ⟨⟨j, rfl, hj⟩, rfl⟩)
  go_ret
  refine ⟨?_, rfl⟩
  rw [← hj]; simp
/-- A list of texts that may be told. -/
def l1B (ls : List ByteArray) : Bool := decide (6 < ls.length) || ls.any fun s => decide (200 < s.size)
theorem l1_any (a : Option Addr) (cap : Nat) (ls : List ByteArray) (w : World) (h : Dv.Texts w (fun _ => False) a ls) (hl : ls.length ≤ maxLen) (hs : ∀ s ∈ ls, s.size ≤ maxLen) :
    Calls Tryz.prog 21 #[.slice a ls.length cap] w fun e w' => e = .returned (.bool (l1B ls)) ∧ w' = w := by
  unfold maxLen at hl
  by_cases hlt : ls.length ≤ 6
  · have d1 : decide ((6 : Int) < (ls.length : Int)) = false := by simp; omega
    go_enter Tryz.func21, Tryz.ntmps21
    go_wp2_with (go_at_call 22; refine (con1_any _ _ _ _ h hlt hs).mono ?_; rintro e w' ⟨rfl, rfl⟩)
    go_ret
    refine ⟨?_, rfl⟩
    have d2 : decide (6 < ls.length) = false := decide_eq_false (by omega)
    simp [l1B, d2]
  · have d1 : decide ((6 : Int) < (ls.length : Int)) = true := by simp; omega
    go_enter Tryz.func21, Tryz.ntmps21
    go_wp2
    go_ret
    refine ⟨?_, rfl⟩
    have d2 : decide (6 < ls.length) = true := decide_eq_true (by omega)
    simp [l1B, d2]
/-- A slice of slices of texts: where each lies, its capacity, its texts. -/
def Lst (w : World) (a : Option Addr) (L : List (Option Addr × Nat × List ByteArray)) : Prop :=
  ∀ i x, L[i]? = some x → ∃ g o, a = some ⟨g, o, none⟩ ∧ g < w.heap.size ∧ w.cell? ⟨g, o + i, none⟩ = some (.slice x.1 x.2.2.length x.2.1) ∧ Dv.Texts w (fun _ => False) x.1 x.2.2 ∧ x.2.2.length ≤ maxLen ∧ ∀ s ∈ x.2.2, s.size ≤ maxLen
theorem Lst.below {w w' : World} {a : Option Addr} {L : List (Option Addr × Nat × List ByteArray)} (h : Lst w a L) (hb : Below w.heap.size w w') : Lst w' a L := fun i x hx => by
  obtain ⟨g, o, h1, h2, h3, h4, h5⟩ := h i x hx
  exact ⟨g, o, h1, Nat.lt_of_lt_of_le h2 hb.size, (World.cell?_of_block (hb.block g h2)).trans h3, h4.chg ((Dv.Chg.refl w (fun _ => False)).below hb) (fun _ _ h => h), h5⟩
set_option maxHeartbeats 400000 in
theorem idx2_any (a : Option Addr) (cap : Nat) (L : List (Option Addr × Nat × List ByteArray)) (w : World) (h : Lst w a L) (hl : L.length ≤ 8) :
    Calls Tryz.prog 33 #[.slice a L.length cap, .func (.func 21) #[] #[]] w fun e w' => (∃ j : Int, e = .returned (.int .i64 j) ∧ (decide (0 ≤ j) = L.any fun x => l1B x.2.2)) ∧ w' = w := by
  go_enter Tryz.func33, Tryz.ntmps33
  go_wp2_with fail
  go_loop [8] (fun i => ∃ k : Nat, k ≤ L.length ∧ i = .int .i64 k ∧ ∀ x ∈ L.take k, l1B x.2.2 = false) (fun i => L.length - (intOf i).toNat)
  case atStart => exact ⟨0, by omega, rfl, fun s hs => by simp at hs⟩
  case round =>
    obtain ⟨k, hk, rfl, hp⟩ := hrel
    by_cases hlt : k < L.length
    · obtain ⟨g, o, rfl, hg, hc, ht, hz1, hz2⟩ := h k L[k] (List.getElem?_eq_getElem hlt)
      have hm : L[k] ∈ L := List.getElem_mem hlt
      have htk : Hid (L.take (k + 1) = L.take k ++ [L[k]]) := by unfold Hid; rw [List.take_add_one, List.getElem?_eq_getElem hlt]; rfl
      have hlt' : (k : Int) < (L.length : Int) := by omega
      generalize L[k] = x at *
      cases dx : l1B x.2.2 with
      | true =>
        go_wp2_with (go_at_call 21; refine (l1_any _ _ _ _ ht hz1 hz2).mono ?_; rintro e w' ⟨rfl, rfl⟩; rw [dx])
        go_ret
        refine ⟨⟨k, rfl, ?_⟩, rfl⟩
        have : L.any (fun x => l1B x.2.2) = true := List.any_eq_true.2 ⟨x, hm, dx⟩
        rw [this]; simp
      | false =>
        go_wp2_with (go_at_call 21; refine (l1_any _ _ _ _ ht hz1 hz2).mono ?_; rintro e w' ⟨rfl, rfl⟩; rw [dx])
        go_round
        case rel =>
          refine ⟨k + 1, by omega, by go_num, fun s hs' => ?_⟩
          rw [htk.out] at hs'
          rcases List.mem_append.1 hs' with h' | h'
          · exact hp s h'
          · simp at h'; subst h'; exact dx
        case measure => simp [intOf]; omega
    · have hk' : k = L.length := by omega
      subst hk'
      rw [List.take_length] at hp
      have : L.any (fun x => l1B x.2.2) = false := by
        rw [List.any_eq_false]; intro s hs'; rw [hp s hs']; decide
      go_wp2_with fail
      go_ret
      exact ⟨⟨-1, rfl, by first | decide | (rw [this]; decide)⟩, rfl⟩
theorem con2_any (a : Option Addr) (cap : Nat) (L : List (Option Addr × Nat × List ByteArray)) (w : World) (h : Lst w a L) (hl : L.length ≤ 8) :
    Calls Tryz.prog 20 #[.slice a L.length cap, .func (.func 21) #[] #[]] w fun e w' => e = .returned (.bool (L.any fun x => l1B x.2.2)) ∧ w' = w := by
  go_enter Tryz.func20, Tryz.ntmps20
  go_wp2_with (go_at_call 33; refine (idx2_any _ _ _ _ h hl).mono ?_; rintro e w' ⟨⟨j, rfl, hj⟩, rfl⟩)
  go_ret
  refine ⟨?_, rfl⟩
  rw [← hj]; simp
/-- Lists are few, and short enough. -/
def lsB (L : List (Option Addr × Nat × List ByteArray)) : Bool := decide (L.length ≤ 8) && !(L.any fun x => l1B x.2.2)
theorem lists_any (a : Option Addr) (cap : Nat) (L : List (Option Addr × Nat × List ByteArray)) (w : World) (h : Lst w a L) (hl : L.length ≤ maxLen) :
    Calls Tryz.prog 4 #[.slice a L.length cap] w fun e w' => e = .returned (.bool (lsB L)) ∧ w' = w := by
  unfold maxLen at hl
  by_cases hlt : L.length ≤ 8
  · go_enter Tryz.func4, Tryz.ntmps4
    go_wp2_with (go_at_call 20; refine (con2_any _ _ _ _ h hlt).mono ?_; rintro e w' ⟨rfl, rfl⟩)
    go_ret
    refine ⟨?_, rfl⟩
    simp [lsB, hlt]
  · have d1 : decide ((L.length : Int) ≤ 8) = false := by simp; omega
    go_enter Tryz.func4, Tryz.ntmps4
    go_wp2
    go_ret
    refine ⟨?_, rfl⟩
    simp [lsB, hlt]
theorem lsB_ok {L : List (Option Addr × Nat × List ByteArray)} (h : lsB L = true) : L.length ≤ 8 ∧ ∀ x ∈ L, x.2.2.length ≤ 6 ∧ ∀ s ∈ x.2.2, s.size ≤ 200 := by
  unfold lsB l1B at h
  simp at h
  exact ⟨h.1, fun x hx => ⟨(h.2 x.1 x.2.1 x.2.2 hx).1, fun s hs => (h.2 x.1 x.2.1 x.2.2 hx).2 s hs⟩⟩
end Go.Proofs.YtkapkphhceknfaaGreatDoor.Vt
