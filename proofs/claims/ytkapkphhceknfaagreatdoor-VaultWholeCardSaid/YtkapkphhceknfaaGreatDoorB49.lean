/-
  Part of the proof: laid is walked: lists are told, one behind the other.
  Part of the proof: a device that is laid down again is opened; texts that are the same are equal.
-/
import Derived.Test.YtkapkphhceknfaaGreatDoorB48
import Derived.Test.YtkapkphhceknfaaGreatDoorB26
namespace Go.Proofs.YtkapkphhceknfaaGreatDoor.Vt
open Go.RowKit
theorem results_tmp5 {fn : Func} {t u v x y : Tmp} (h : fn.results = #[.tmp t, .tmp u, .tmp v, .tmp x, .tmp y]) (tmps : Array Value) (P : Program) (w : World) :
    (results fn tmps).run P w = .ok (.tuple #[tmps.getD t undef, tmps.getD u undef, tmps.getD v undef, tmps.getD x undef, tmps.getD y undef]) w := by
  simp [results, h]
theorem rows_ne {w : World} {B B' : Nat} {z z' : Nat} {v v' : Value} {n n' : Nat} {xs xs' : List Value} {e e' : TypeId} (h : w.ownsRow B e z v n xs) (h' : w.ownsRow B' e' z' v' n' xs') (he : e ≠ e') (g : Nat) (hg : v.ownBlock = some g) : v'.ownBlock ≠ some g := fun hg' => by
  obtain ⟨c1, h1⟩ := row_tag h g hg
  obtain ⟨c2, h2⟩ := row_tag h' g hg'
  exact tag_ne h1 h2 he rfl
theorem row_blk_ne {w : World} {B : Nat} {z : Nat} {v : Value} {n : Nat} {xs : List Value} {e T : TypeId} {b : Nat} {arr : Array Value} (h : w.ownsRow B e z v n xs) (h' : Blk w b arr T) (he : e ≠ T) : v.ownBlock ≠ some b := fun hg => by
  obtain ⟨c1, h1⟩ := row_tag h b hg
  exact tag_ne h1 h' he rfl
theorem own_slice {b n c : Nat} {g : Nat} (h : (Value.slice (some ⟨b, 0, none⟩) n c).ownBlock = some g) : g = b := by
  simp only [Value.ownBlock, Option.some.injEq] at h; exact h.symm
set_option maxRecDepth 100000 in
set_option maxHeartbeats 400000 in
theorem laid_any (a : Option Addr) (cap : Nat) (L : List (Option Addr × Nat × List ByteArray)) (w : World) (hL : Lst w a L) (hok : lsB L = true) (hK : Sm.KB w) (sec : ByteArray) (hsec : sec = ⟨#[48, 49, 50, 51, 52, 53, 54, 55, 56, 57, 97, 98, 99, 100, 101, 102]⟩) :
    Calls Tryz.prog 6 #[.slice a L.length cap] w fun e w' => ∃ D C VB CB nn O dv lf S f p r vH vI hs,
      e = .returned (.tuple #[.pointer (some ⟨D, 0, none⟩), .pointer (some ⟨C, 0, none⟩), .pointer (some ⟨VB, 0, none⟩), vH, vI]) ∧
      Ld w w' D C VB CB sec L.length nn O dv lf S f p r vH vI (hs.map Hs.v) (hs.map Hs.i) hs ∧ hs.length = L.length + 1 ∧ nn ≤ 6 * L.length ∧ ∃ y, hs[L.length]? = some y ∧ y.p = p := by
  obtain ⟨hL8, hLx⟩ := lsB_ok hok
  have hs16 : sec.size = 16 := by subst hsec; rfl
  have hsec' : Hid (sec = ⟨#[48, 49, 50, 51, 52, 53, 54, 55, 56, 57, 97, 98, 99, 100, 101, 102]⟩) := hsec
  clear hsec hok
  go_enter Tryz.func6, Tryz.ntmps6
  go_wp2_with fail
  refine (Dv.dnew_any w).mono ?_
  rintro e w2 ⟨rfl, hD2, g2, z2⟩
  have Z2 : Hid (w2.heap.size = w.heap.size + 1) := z2
  clear z2
  have g3 := Pg.below_alloc w2 (.cells #[.int .i64 0] 56)
  have b3 := g2.trans (g3.mono g2.size)
  have hC3 : Dv.Cnt (w2.alloc (.cells #[.int .i64 0] 56)) w2.heap.size 0 := Blk.new w2 _ _
  have hD3 := hD2.below g3
  have z3 : Hid ((w2.alloc (.cells #[.int .i64 0] 56)).heap.size = w2.heap.size + 1) := by unfold Hid; simp
  have ho := fun (s' : ByteArray) (h : s' = sec) => show Calls Tryz.prog 15 #[.pointer (some ⟨w.heap.size, 0, none⟩), .pointer (some ⟨w2.heap.size, 0, none⟩), .string s'] (w2.alloc (.cells #[.int .i64 0] 56)) _ from h ▸ open_0 _ _ _ _ _ _ _ _ sec _ hD3 hC3 (by decide) hs16 (hK.below b3) ((par_zS (supK_size sec)).1)
  have HO : Hid _ := ho
  clear g2 g3 hD2 ho
  go_wp2_with fail
  refine Calls.mono (HO.out _ hsec'.out.symm) ?_
  rintro e w4 ⟨⟨VB, CB, rfl, hV4', hVB, hCB⟩, g4⟩
  have hV4 : Vlt w4 VB w.heap.size w2.heap.size sec ((0 : Nat) : Int) 1 (fun _ => false) ⟨#[]⟩ CB 0 (fun _ => none) false := by rw [hsec'.out]; exact hV4'
  have b4 := b3.trans (g4.mono b3.size)
  have hD4 := hD3.below g4
  have hC4 : Dv.Cnt w4 w2.heap.size ((0 : Nat) : Int) := hC3.below g4 hC3.lt
  have hVl := hV4.blk.lt
  have hCl := hV4.map.lt
  have z4 := g4.size
  rw [z3.out] at hVB hCB z4
  generalize w2.alloc (.cells #[.int .i64 0] 56) = w3 at *
  obtain ⟨D, hDD⟩ : ∃ D, Hid (w.heap.size = D) := ⟨_, rfl⟩
  obtain ⟨C, hCC⟩ : ∃ C, Hid (w2.heap.size = C) := ⟨_, rfl⟩
  have hD4' : Dv.Dev w4 (fun k => k = D) D (fun _ _ => 0) [] (-1) (.slice none 0 0) 0 := by rw [← hDD.out]; exact hD4
  rw [hDD.out] at hV4 Z2
  rw [hCC.out] at hV4 hC4 Z2 hVB hCB z4
  have hw : w.heap.size ≤ w4.heap.size := b4.size
  have hl0 : Ld w w4 D C VB CB sec 0 0 (fun k => k = D) (.slice none 0 0) 0 (fun _ _ => 0) (fun _ => false) (fun _ => none) ⟨#[]⟩ (.slice none 0 0) (.slice none 0 0) [] [] [] :=
    ⟨hV4, hD4', hC4, tld_new sec, fun k hk => by { have := Z2.out; have := hDD.out; subst hk; omega }, fun h => by { have := Z2.out; omega }, fun h => by { have := Z2.out; omega }, by omega, ⟨by { have := Z2.out; have := hDD.out; omega }, by { have := Z2.out; have := hDD.out; omega }⟩,
      ⟨rfl, Or.inl ⟨rfl, rfl⟩⟩, (fun g hg => by cases hg), ⟨rfl, Or.inl ⟨rfl, rfl⟩⟩, (fun g hg => by cases hg), (fun g hg => by cases hg), (fun k y hy => by simp at hy), b4⟩
  rw [hDD.out, hCC.out]
  clear hD3 hC3 b3 HO g4 hV4' z3 hD4 hD4' hC4 hV4 hVl hCl hVB hCB z4
  go_wp2_with fail
  refine (all_any w4 VB D C sec _ 1 _ _ CB 0 _ false hl0.vlt).mono ?_
  rintro e w5 ⟨⟨v5, rfl, ow5⟩, g5⟩
  obtain ⟨H5, c5, rfl, hH5, hH5', _⟩ := row_val ow5 (by decide)
  have hl5 := hl0.below g5
  have s6 := Pg.below_alloc w5 (.cells #[.slice (some ⟨H5, 0, none⟩) 32 c5] 23)
  have hl6 := hl5.below s6
  have ow6 := row_below ow5 s6
  have B6 : Blk (w5.alloc (.cells #[.slice (some ⟨H5, 0, none⟩) 32 c5] 23)) w5.heap.size #[.slice (some ⟨H5, 0, none⟩) 32 c5] 23 := Blk.new w5 _ _
  have z6 : Hid ((w5.alloc (.cells #[.slice (some ⟨H5, 0, none⟩) 32 c5] 23)).heap.size = w5.heap.size + 1) := by unfold Hid; simp
  have hb5 := hl5.bel.size
  have hl7 := hl6.setH (v2 := .slice (some ⟨w5.heap.size, 0, none⟩) 1 1) (L2 := [.slice (some ⟨H5, 0, none⟩) 32 c5]) (row_fresh B6 hb5 (by decide) rfl) (fun g hg hx => by have := own_slice hg; have := (hl5.busy _ hx).2; omega) (fun g hg hi => by cases hi)
  clear B6 hl6
  go_wp2_with fail
  generalize w5.alloc (.cells #[.slice (some ⟨H5, 0, none⟩) 32 c5] 23) = w6 at *
  refine (Dv.image_any D _ _ [] (-1) _ _ w6 hl7.dev).mono ?_
  rintro e w7 ⟨rfl, B7, g7⟩
  obtain ⟨G7, hG7⟩ : ∃ G, Hid (w6.heap.size = G) := ⟨_, rfl⟩
  have hl8 := hl7.below g7
  have ow7 := row_below ow6 g7
  have s8 := Pg.below_alloc w7 (.cells #[.slice (some ⟨w6.heap.size, 0, none⟩) 66 66] 23)
  have hl9 := hl8.below s8
  have ow9 := row_below ow7 s8
  have G9 := B7.below s8 B7.lt
  have B9 : Blk (w7.alloc (.cells #[.slice (some ⟨w6.heap.size, 0, none⟩) 66 66] 23)) w7.heap.size #[.slice (some ⟨w6.heap.size, 0, none⟩) 66 66] 23 := Blk.new w7 _ _
  have hb7 := hl8.bel.size
  have hz7 := g7.size
  have hle : w6.heap.size < w7.heap.size := B7.lt
  have hl10 := hl9.setI (v2 := .slice (some ⟨w7.heap.size, 0, none⟩) 1 1) (L2 := [.slice (some ⟨w6.heap.size, 0, none⟩) 66 66]) (row_fresh B9 hb7 (by decide) rfl) (fun g hg hx => by have := own_slice hg; have := (hl8.busy _ hx).2; omega) (fun g hg hi => by have := own_slice hg; have := own_slice hi; have := z6.out; omega)
  have hla := hl10.more ⟨fun _ _ => 0, fun _ => false, fun _ => none, H5, c5, w6.heap.size⟩ rfl rfl rfl rfl (row_base ow9 hw) (fun hx => by have h1 : H5 < w4.heap.size := (hl0.busy _ hx).2; omega) G9 (fun hx => by have h1 : w6.heap.size < w6.heap.size := (hl7.busy _ hx).2; omega)
  clear hl0 hl5 hl7 hl8 hl9 hl10 B9 G9 ow9 s8 B7 ow7 ow6 ow5 s6 z6 g7 g5
  go_wp2_with fail
  generalize w7.alloc (.cells #[.slice (some ⟨w6.heap.size, 0, none⟩) 66 66] 23) = w8 at *
  generalize w7.heap.size = t7 at *
  generalize w6.heap.size = t6 at *
  generalize w5.heap.size = t5 at *
  clear hz7 hb7 hle hb5
  go_loopw [11, 12, 13] (fun vH vI i wr => ∃ k nn CB O dv lf S f p r hs, k ≤ L.length ∧ i = .int .i64 k ∧ nn ≤ 6 * k ∧ hs.length = k + 1 ∧ Ld w wr D C VB CB sec k nn O dv lf S f p r vH vI (hs.map Hs.v) (hs.map Hs.i) hs ∧ ∃ y, hs[k]? = some y ∧ y.p = p) (fun _ _ i _ => L.length - (intOf i).toNat)
  case atStart => exact ⟨0, 0, CB, _, _, _, _, _, _, _, [⟨fun _ _ => 0, fun _ => false, fun _ => none, H5, c5, t6⟩], by omega, rfl, Nat.le_refl _, rfl, hla, _, rfl, rfl⟩
  case round =>
    clear hla
    obtain ⟨k, nn, CB1, O, dv, lf, S, f, p, r, hs, hk, rfl, hnn, hhs, hd, hlast⟩ := hrel
    by_cases hlt : k < L.length
    · clear hlast
      obtain ⟨g, o, rfl, hg, hc, ht, hz1, hz2⟩ := hL.below hd.bel k L[k] (List.getElem?_eq_getElem hlt)
      have hx := hLx _ (List.getElem_mem hlt)
      generalize L[k] = x at *
      obtain ⟨xa, xc, xs⟩ := x
      obtain ⟨hx6, hxs⟩ := hx
      have hlt' : (k : Int) < (L.length : Int) := by omega
      simp only at hc ht hz1 hz2 hx6 hxs
      go_wp2_with fail
      refine (pages_any xa xc xs (k : Int) wr ht (by omega) (by omega) (by omega)).mono ?_
      rintro e w2 ⟨⟨rfl, mm⟩, g2⟩
      have hd2 := hd.below g2
      generalize wr.heap.size = tm at *
      go_wp2_with fail
      refine (tell_tld VB D C sec k f r CB1 nn p (.map (some tm)) xs.length (pgF xs (k : Int) xs.length) O S dv lf w2 hd2.vlt (Or.inr ⟨_, rfl, mm⟩) (fun i s h => ⟨(pgF_some h).1, hxs s (pgF_some h).2⟩) hd2.dev hd2.cnt hd2.tld (by omega) (by omega) (by omega) (fun q hq => (hd2.own q hq).2) hd2.o1 hd2.o2 hd2.o3 (hK.below hd2.bel)).mono ?_
      rintro e w3 ⟨rfl, S3, f3, CB3, n3, O3, v3, l3, hV3, hCB3, hn3, hT3, hD3, hO3, hC3, C3⟩
      have hd3 := hd2.told hV3 hT3 hD3 hO3 hC3 C3
      generalize nxP p (tel (pgF xs (k : Int) xs.length) p ((k + 1 : Nat) : Int)) = p3 at *
      generalize rootP p3 = r3 at *
      have hn3' : Hid (n3 ≤ 6 * (k + 1)) := by unfold Hid; omega
      clear hV3 hT3 hD3 hO3 hC3 C3 hd hd2 mm g2 hCB3 hn3 hnn
      go_wp2_with fail
      refine (all_any w3 VB D C sec _ 1 _ _ CB3 _ _ false hd3.vlt).mono ?_
      rintro e w4 ⟨⟨v4, rfl, ow4⟩, g4⟩
      obtain ⟨H4, c4, rfl, hH4, hH4', _⟩ := row_val ow4 (by decide)
      have hd4 := hd3.below g4
      have s5 := Pg.below_alloc w4 (.cells #[.slice (some ⟨H4, 0, none⟩) 32 c4] 23)
      have hd5 := hd4.below s5
      have ow5 := row_below ow4 s5
      have B5 : Blk (w4.alloc (.cells #[.slice (some ⟨H4, 0, none⟩) 32 c4] 23)) w4.heap.size #[.slice (some ⟨H4, 0, none⟩) 32 c4] 23 := Blk.new w4 _ _
      have rH : (w4.alloc (.cells #[.slice (some ⟨H4, 0, none⟩) 32 c4] 23)).ownsRow w.heap.size 23 1 u11 (k + 1) (hs.map Hs.v) := by have h := hd5.rowH; rwa [List.length_map, hhs] at h
      have hb5 := hd5.bel.size
      have nH : ¬ Busy O3 C VB H4 := fun hx => by have := (hd3.busy _ hx).2; omega
      have hbase : w.heap.size ≤ w3.heap.size := hd3.bel.size
      go_wp2_with (first
        | (refine wpl_pushR rfl _ _ _ rfl w.heap.size 23 (.slice none 0 0) 1 24 Tryz.underlying22 infoTexts rfl (by decide) u11 (k + 1) (hs.map Hs.v) rfl rH w4.heap.size 1 [.slice (some ⟨H4, 0, none⟩) 32 c4] rfl 23 B5 rfl (fun u hu => by { simp at hu; subst hu; rfl }) (by omega) (by decide) hb5 ?_; intro g6 c6 w6 ow6 gr6 hat6 hlt6)
        | fail)
      obtain ⟨hd6, C6⟩ := hd5.pushH (v := .slice (some ⟨H4, 0, none⟩) 32 c4) (g := g6) rfl (by rw [List.length_map, hhs]; exact ow6) gr6 hat6
      have ow6' := row_chg ow5 C6 (fun g hg e => rows_ne ow5 rH (by decide) g hg e)
      clear hd3 hd4 hd5 rH B5 s5 ow4 ow5 ow6 gr6 hat6 hb5 hH4 hH4' C6 g4
      refine (Dv.image_any D O3 S3 [] (-1) v3 l3 w6 hd6.dev).mono ?_
      rintro e w7 ⟨rfl, B7, g7⟩
      have hd7 := hd6.below g7
      have ow7 := row_below ow6' g7
      have s8 := Pg.below_alloc w7 (.cells #[.slice (some ⟨w6.heap.size, 0, none⟩) 66 66] 23)
      have hd8 := hd7.below s8
      have ow8 := row_below ow7 s8
      have G8 := B7.below s8 B7.lt
      have B8 : Blk (w7.alloc (.cells #[.slice (some ⟨w6.heap.size, 0, none⟩) 66 66] 23)) w7.heap.size #[.slice (some ⟨w6.heap.size, 0, none⟩) 66 66] 23 := Blk.new w7 _ _
      have rI : (w7.alloc (.cells #[.slice (some ⟨w6.heap.size, 0, none⟩) 66 66] 23)).ownsRow w.heap.size 23 1 u12 (k + 1) (hs.map Hs.i) := by have h := hd8.rowI; rwa [List.length_map, hhs] at h
      have hb8 := hd8.bel.size
      have nG : ¬ Busy O3 C VB w6.heap.size := fun hx => by have := (hd6.busy _ hx).2; omega
      clear hd6 hd7 ow6' ow7 B7 s8 g7
      generalize w6.heap.size = t9 at *
      go_wp2_with (first
        | (refine wpl_pushR rfl _ _ _ rfl w.heap.size 23 (.slice none 0 0) 1 24 Tryz.underlying22 infoTexts rfl (by decide) u12 (k + 1) (hs.map Hs.i) rfl rI w7.heap.size 1 [.slice (some ⟨t9, 0, none⟩) 66 66] rfl 23 B8 rfl (fun u hu => by { simp at hu; subst hu; rfl }) (by omega) (by decide) hb8 ?_; intro g9 c9 w9 ow9 gr9 hat9 hlt9)
        | fail)
      obtain ⟨hd9, C9⟩ := hd8.pushI (v := .slice (some ⟨t9, 0, none⟩) 66 66) (g := g9) rfl (by rw [List.length_map, hhs]; exact ow9) gr9 hat9
      have ow9' := row_chg ow8 C9 (fun g hg e => rows_ne ow8 rI (by decide) g hg e)
      have G9 := G8.chg C9 (fun e => row_blk_ne rI G8 (by decide) e)
      have hda := hd9.more ⟨S3, f3, p3, H4, c4, t9⟩ hhs rfl rfl rfl (row_base ow9' hbase) nH G9 nG
      refine ⟨⟨k + 1, n3, CB3, O3, v3, l3, S3, f3, p3, r3, hs ++ [⟨S3, f3, p3, H4, c4, t9⟩], by omega, by go_num, hn3'.out, by simp [hhs], ?_, ⟨S3, f3, p3, H4, c4, t9⟩, by simp [hhs], rfl⟩, by simp [intOf]; omega⟩
      rw [List.map_append, List.map_append]
      exact hda
    · have hk' : k = L.length := by omega
      subst hk'
      go_wp2_with fail
      refine bodyPost_ret (results_tmp5 rfl _ _ _) rfl ?_
      exact ⟨_, _, _, _, _, _, _, _, _, _, _, _, _, _, _, rfl, hd, hhs, hnn, hlast⟩
end Go.Proofs.YtkapkphhceknfaaGreatDoor.Vt
namespace Go.Proofs.YtkapkphhceknfaaGreatDoor.Vt
open Go.RowKit
theorem open_tld (d c : Nat) (O : Nat → Prop) (S : Nat → Nat → UInt8) (v : Value) (lf : Int) (sec : ByteArray) (n : Nat) (f : Nat → Bool) (p : Int → Option (Int × ByteArray)) (w : World) (hD : Dv.Dev w O d S [] (-1) v lf) (hC : Dv.Cnt w c (n : Int)) (hsec : sec.size = 16) (hK : Sm.KB w) (hT : Tld S sec n f p) :
    Calls Tryz.prog 15 #[.pointer (some ⟨d, 0, none⟩), .pointer (some ⟨c, 0, none⟩), .string sec] w fun e w' => (∃ VB CB n' f' r, e = .returned (.tuple #[.pointer (some ⟨VB, 0, none⟩), .nilIface]) ∧ Vlt w' VB d c sec (n : Int) 1 f' r CB n' p false) ∧ Below w.heap.size w w' := by
  by_cases h0 : n = 0
  · subst h0
    obtain ⟨_, h1, rfl⟩ := hT.new rfl
    refine (open_0 d c O S [] (-1) v lf sec w hD hC (by decide) hsec hK h1).mono ?_
    rintro e w' ⟨⟨VB, CB, rfl, hV, _, _⟩, g⟩
    exact ⟨⟨VB, CB, _, _, _, rfl, hV⟩, g⟩
  · obtain ⟨x, hx, hx'⟩ := hT.old
    refine (open_some d c O S [] (-1) v lf sec n x 1 f p w hD hC (by decide) hsec hK hx (fun e => by have := hx' _ e; omega) (hT.on (by omega))).mono ?_
    rintro e w' ⟨⟨VB, CB, rfl, hV, _, _⟩, g⟩
    exact ⟨⟨VB, CB, _, _, _, rfl, hV⟩, g⟩
theorem open_old (d c : Nat) (O : Nat → Prop) (S : Nat → Nat → UInt8) (v : Value) (lf : Int) (sec : ByteArray) (n k : Nat) (f : Nat → Bool) (p : Int → Option (Int × ByteArray)) (w : World) (hD : Dv.Dev w O d S [] (-1) v lf) (hC : Dv.Cnt w c (n : Int)) (hsec : sec.size = 16) (hK : Sm.KB w) (hT : Tld S sec k f p) (hk : k < n) (hn : n ≤ 1000000) :
    Calls Tryz.prog 15 #[.pointer (some ⟨d, 0, none⟩), .pointer (some ⟨c, 0, none⟩), .string sec] w fun e w' => e = .returned (.tuple #[.pointer none, .iface 41 (.int .i64 15)]) ∧ Below w.heap.size w w' := by
  obtain ⟨x, hx, hx'⟩ := hT.elder (n + 1) ((n + 1) % 2) (by omega) (by omega)
  obtain ⟨y, hy, hy'⟩ := hT.elder n (n % 2) hk (by omega)
  exact open_spoilt d c O S [] (-1) v lf sec n x y w hD hC (by decide) hsec hK (by omega) (by omega) hx hx' hy hy'
theorem pickJ_any (a : Int) (n : Nat) (w : World) (h0 : 0 < n) (h1 : n ≤ 10000) :
    Calls Tryz.prog 9 #[.int .i64 a, .int .i64 (n : Int)] w fun e w' => ∃ j : Nat, e = .returned (.int .i64 (j : Int)) ∧ j < n ∧ w' = w := by
  obtain ⟨u, hu⟩ : ∃ u : Nat, IntKind.u64.wrap a = (u : Int) := ⟨(a % 18446744073709551616).toNat, by simp [IntKind.wrap, IntKind.bits, IntKind.signed]; omega⟩
  obtain ⟨j, hj, hjn⟩ : ∃ j : Nat, (u : Int) % (n : Int) = (j : Int) ∧ j < n := ⟨u % n, by simp, Nat.mod_lt _ h0⟩
  go_enter Tryz.func9, Tryz.ntmps9
  go_wp2
  go_ret
  exact ⟨j, rfl, hjn, rfl⟩
/-- A row of texts, as texts. -/
def tls (f : Nat → ByteArray) : List ByteArray := (List.range 32).map f
theorem row_texts {w : World} {B g c : Nat} {f : Nat → ByteArray} (h : w.ownsRow B 9 1 (.slice (some ⟨g, 0, none⟩) 32 c) 32 (Tr.strs f 32)) : Dv.Texts w (fun _ => False) (some ⟨g, 0, none⟩) (tls f) := by
  intro i x hx
  have hi : i < 32 := by have := (List.getElem?_eq_some_iff.1 hx).1; simpa [tls] using this
  obtain ⟨g', o, e, hg, hc⟩ := Tr.own_tx h i hi
  refine ⟨g', o, e, hg, fun hf => hf, ?_⟩
  rw [hc]
  unfold tls at hx
  rw [List.getElem?_map, List.getElem?_range hi] at hx
  injection hx with hx
  rw [← hx]
set_option maxHeartbeats 400000 in
theorem equal_same (a b : Option Addr) (c d : Nat) (ls : List ByteArray) (w : World) (ha : Dv.Texts w (fun _ => False) a ls) (hb : Dv.Texts w (fun _ => False) b ls) (hl : ls.length ≤ 1000) :
    Calls Tryz.prog 17 #[.slice a ls.length c, .slice b ls.length d] w fun e w' => e = .returned (.bool true) ∧ Below w.heap.size w w' := by
  go_enter Tryz.func17, Tryz.ntmps17
  go_wp2_with fail
  go_loopw [13] (fun i wr => ∃ k n : Nat, k ≤ ls.length ∧ i = .int .i64 k ∧ wr = w.drewN n) (fun i _ => ls.length - (intOf i).toNat)
  case atStart => exact ⟨0, 0, by omega, rfl, rfl⟩
  case round =>
    obtain ⟨k, n, hk, rfl, rfl⟩ := hrel
    by_cases hlt : k < ls.length
    · obtain ⟨g, o, rfl, hg, _, hc⟩ := ha k ls[k] (List.getElem?_eq_getElem hlt)
      obtain ⟨g', o', rfl, hg', _, hc'⟩ := hb k ls[k] (List.getElem?_eq_getElem hlt)
      have hlt' : (k : Int) < (ls.length : Int) := by omega
      generalize ls[k] = x at *
      go_wp2_with fail
      go_quiet (fail)
      go_wp2
      go_light
      exact ⟨⟨k + 1, n + nq, by omega, by go_num, rfl⟩, by simp [intOf]; omega⟩
    · go_wp2_with fail
      go_ret
      exact ⟨rfl, below_drewN (Below.refl _ _) n⟩
theorem equal_rows {w : World} {B B' g g' c c' : Nat} {f : Nat → ByteArray} (h : w.ownsRow B 9 1 (.slice (some ⟨g, 0, none⟩) 32 c) 32 (Tr.strs f 32)) (h' : w.ownsRow B' 9 1 (.slice (some ⟨g', 0, none⟩) 32 c') 32 (Tr.strs f 32)) :
    Calls Tryz.prog 17 #[.slice (some ⟨g, 0, none⟩) 32 c, .slice (some ⟨g', 0, none⟩) 32 c'] w fun e w' => e = .returned (.bool true) ∧ Below w.heap.size w w' := by
  have e := equal_same (some ⟨g, 0, none⟩) (some ⟨g', 0, none⟩) c c' (tls f) w (row_texts h) (row_texts h') (by simp [tls])
  rwa [show (tls f).length = 32 from by simp [tls]] at e
end Go.Proofs.YtkapkphhceknfaaGreatDoor.Vt
