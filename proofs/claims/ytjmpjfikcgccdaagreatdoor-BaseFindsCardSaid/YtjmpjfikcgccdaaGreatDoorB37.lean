/-
  Part of the proof of BaseFindsCard (BA32 and on).
-/
import Derived.Test.YtjmpjfikcgccdaaGreatDoorB36
import Derived.SliceStrings
import Derived.LaidLaws
import Derived.LaidHandle
import Derived.Stop.Joined
import Derived.Stop.LaidErr
import Derived.Lib.LaidTab
import Derived.Lay
namespace Go.Proofs.YtjmpjfikcgccdaaGreatDoor.Bs
open Go.ChangeShapes Go.WideShapes Go.ChangeAt Go.ChangeMaps Go.RowKit
open It Nr Vt
section
variable {H:Type} {enc:TypeId × Value -> H}
theorem handed_both {a:Assume} {C:Checked} {os:Os} {f:FuncId} {fn:Func} {s:ChangeSpec} {conds:List PathCond} {apart fresh handsOn again:Bool} {X:World -> Array Value -> Prop}
    (hX:∀ (w w':World) (args:Array Value),w.heap = w'.heap -> X w args -> X w' args)
    (own:ownKnob C.prog.godebug = none) (started:os.Started) (noInit:C.prog.inits.idxOf? f = none) (hfn:C.prog.funcs[f]? = some fn)
    (witness:∃ (w:World) (tape:Tape) (i:Input),w.os = os ∧ (w.forCall tape i).Shaped C.prog ∧ i.vars = [] ∧ Input.okWide C.prog (w.forCall tape i) .any w.heap.size f i ∧
      ((s.pre enc C.prog fn conds apart (w.forCall tape i).memory i.args ∧ X (w.forCall tape i).memory i.args) ∧ sizedMet enc C.prog fn (OpenSpec.ofChange s) apart (w.forCall tape i).memory i.args) ∧ a.holds C.prog (lone (Frame.enter C.prog f i.args .normal) [] (w.forCall tape i)))
    (contract:∀ (W:World) (base:Nat) (args:Array Value) (ds gs:List (DataW H)) (before:List MemPlace),
      (∀ (j:Nat) t v,fn.params[j]? = some t -> args[j]? = some v -> Value.okWide C.prog W .any base t v) ->
      DataW.Whole enc C.prog fn.params.toList s.vars apart W args.toList ds gs before ->
      W.ShapedOpen C.prog -> X W args ->
      Calls C.prog f args W fun e W' => ∃ v,e = .returned v ∧ s.post enc C.prog fn apart fresh handsOn again W args v W') :
    ReturnsInHanded a C os f .any (fun w args => (s.pre enc C.prog fn conds apart w args ∧ X w args) ∧ sizedMet enc C.prog fn (OpenSpec.ofChange s) apart w args) (s.post enc C.prog fn apart fresh handsOn again):=by
  refine returnsInHanded_of_calls own started noInit witness ?_
  intro w tape i _ hsh _ hok hpre hholds
  obtain ⟨_,_,_,fn',hfn',_,_,_,_,hval⟩:=hok
  have e:fn' = fn:=Option.some.inj (hfn'.symm.trans hfn)
  subst e
  obtain ⟨⟨⟨ds,gs,before,hw,hc⟩,hx⟩,hz⟩:=hpre
  have hw':=DataW.Whole.of_heap (w':=w.forCall tape i) (by rfl) hw
  refine (contract (w.forCall tape i) w.heap.size i.args ds gs before hval hw' hsh (hX _ _ _ (by rfl) hx)).mono fun e W' ⟨v,he,hp⟩ => ?_
  subst he
  exact ChangeSpec.post_blind hp
end
theorem iface_var {P:Program} {n nm:String} {d:DataW Unit} {r:List (String × DataW Unit)} {W:World} {g:Nat} {ti:TypeId} {ms:Array (String × TypeId)}
    (h:laidMet P ((n,.iface nm d) :: r) W) (hg:P.globalNamed n = some g) (ht:(P.globals[g]?).map (·.type) = some ti) (hi:P.underlying ti = some (.interface ms)):∃ u v,W.cell? ⟨g,0,none⟩ = some (.iface u v):=by
  obtain ⟨ps,⟨g0,t0,cs0,f0,p0,q0,hg0,ht0,hv0,hd0,_,_⟩,_,_⟩:=h
  obtain rfl:=Option.some.inj (hg.symm.trans hg0)
  obtain rfl:=Option.some.inj (ht.symm.trans ht0)
  have key:∃ u v,cs0.toList = [.iface u v]:=by
    generalize cs0.toList = l at hd0
    cases f0 with
    | zero => simp [DataW.trod] at hd0
    | succ f0 =>
      rcases l with _ | ⟨x,_ | ⟨y,l⟩⟩
      · simp [DataW.trod,hi] at hd0
      · cases x <;> simp [DataW.trod,hi] at hd0
        exact ⟨_,_,rfl⟩
      · simp [DataW.trod,hi] at hd0
  obtain ⟨u,v,e⟩:=key
  refine ⟨u,v,?_⟩
  have e':cs0 = #[.iface u v]:=by apply Array.toList_inj.1;simpa using e
  subst e'
  have h0:=World.var?_cell hg0 hv0 0
  simpa using h0
theorem tPow:(Tryz.prog.globals[4]?).map (·.type) = some 418:=by kernel_rfl
theorem uPow:Tryz.prog.underlying 418 = some (.array 20 107):=by kernel_rfl
theorem u64:Tryz.prog.underlying 107 = some (.int .u64):=by kernel_rfl
theorem c64:Tryz.prog.cellsOf 107 = 1:=by kernel_rfl
theorem cPow:Tryz.prog.cellsOf 418 = 20:=by kernel_rfl
theorem gES:(Tryz.prog.globals[2]?).map (·.type) = some 40:=by kernel_rfl
theorem gER:(Tryz.prog.globals[3]?).map (·.type) = some 40:=by kernel_rfl
theorem ePow:(Rows.laid_internal_strconv_uint64pow10:DataW Unit) = Lib.tabData .u64 Lib.pow10Tab:=by kernel_rfl
theorem g_et : Tryz.prog.globalNamed "errors.errorType" = some 0 := by kernel_rfl
theorem one_row:((List.range 469).filter fun t => Tryz.prog.rowNamed t [101,114,114,111,114]) = [40]:=by kernel_rfl
theorem n_types:Tryz.prog.types.size = 469:=by kernel_rfl
theorem tK:(Tryz.prog.globals[7]?).map (·.type) = some 102:=by kernel_rfl
theorem c32:Tryz.prog.cellsOf 102 = 64:=by kernel_rfl
theorem c30:Tryz.prog.cellsOf 100 = 1:=by kernel_rfl
theorem eK:(Rows.laid_coffer_sum_roundNumbers:DataW Unit) = Lib.tabData .u32 (Sm.kList.map Int.ofNat):=by kernel_rfl
theorem kList_I:∀ i:Fin 64,(Sm.kList.map Int.ofNat).getD i.1 0 = I (Sm.kF i.1):=by decide +kernel
def laidW:List (String × DataW Unit):=Rows.baseWaitsRow.laid
def laidE : List (String × DataW Unit) := [("errors.errorType", Rows.laid_errors_errorType)]
def laidD : List (String × DataW Unit) := [("math/bits.deBruijn32tab", Rows.laid_math_bits_deBruijn32tab), ("math/bits.deBruijn64tab", Rows.laid_math_bits_deBruijn64tab), ("internal/strconv.uint64pow10", Rows.laid_internal_strconv_uint64pow10), ("unicode/utf8.acceptRanges", Rows.laid_unicode_utf8_acceptRanges), ("strconv.ErrRange", Rows.laid_strconv_ErrRange), ("strconv.ErrSyntax", Rows.laid_strconv_ErrSyntax), ("coffer/sum.roundNumbers", Rows.laid_coffer_sum_roundNumbers), ("unicode/utf8.first", Rows.laid_unicode_utf8_first)]
theorem of_laid {W:World} (h:laidMetH Tryz.prog laidW W) (hs:W.ShapedOpen Tryz.prog):Sm.KB W ∧ LB W ∧ EB W:=by
  have h':laidMet Tryz.prog laidD W ∧ handlesMet Tryz.prog laidE W:=h
  obtain ⟨hk,hh⟩:=h'
  have h2:=laidMet.tail (laidMet.tail hk)
  have h4:=laidMet.tail (laidMet.tail h2)
  have h5:=laidMet.tail h4
  have h6:=laidMet.tail h5
  rw [ePow] at h2
  rw [eK] at h6
  refine ⟨?_,⟨laysM145.s1_3 W hs,iface_var h5 (by kernel_rfl) gES Tryz.underlying40,iface_var h4 (by kernel_rfl) gER Tryz.underlying40,Lib.tabBelow_of_tabIs (Lib.tabIs_of_head (g:=4) (by kernel_rfl) tPow uPow u64 c64 cPow h2)⟩,?_⟩
  · have b:=fun i (hi:i < 64) => (Lib.tabIs_of_head (g:=7) (by kernel_rfl) tK Tryz.underlying102 Tryz.underlying100 c30 c32 h6).cell (g:=7) (by kernel_rfl) i (by simpa [Sm.kList] using hi)
    refine ⟨World.block_lt_of_cell? W _ (b 0 (by decide)),fun i hi => ?_⟩
    rw [b i hi];exact congrArg (fun z => some (Value.int .u32 z)) (kList_I ⟨i,hi⟩)
  · obtain ⟨name,u,ty,e1,e2,e3,e4,e5⟩:=hh _ (List.mem_singleton.2 rfl)
    have en:name = [101,114,114,111,114]:=(Option.some.inj e1).symm
    subst en
    obtain rfl:282 = u:=Option.some.inj (Eq.trans (Eq.symm (by kernel_rfl)) e2)
    have hm:ty ∈ (List.range 469).filter fun t => Tryz.prog.rowNamed t [101,114,114,111,114]:=List.mem_filter.2 ⟨List.mem_range.2 (by rw [<- n_types];exact e3),e4⟩
    rw [one_row] at hm
    obtain rfl:=List.mem_singleton.1 hm
    have hh:typeHandle Tryz.prog 40 = hnd 40:=by kernel_rfl
    rw [hh] at e5
    simpa [EB] using World.var?_cell g_et e5 0
noncomputable def wit (os:Os):World:=((World.holding Tryz.prog os ⟨#[],#[],[]⟩).setCell ⟨0,0,none⟩ (.iface 282 (.agg #[hnd 40]))).layVars Tryz.prog laidD
theorem wit_os (os:Os):(wit os).os = os:=(World.layVars_os _ _ _).trans rfl
theorem cellsDd:Tryz.prog.cellsOf 87 = 4:=by kernel_rfl
theorem list4 {α:Type} {l:List α} (h:l.length = 4):∃ a b c d,l = [a,b,c,d]:=by
  match l,h with
  | [a,b,c,d],_ => exact ⟨a,b,c,d,rfl⟩
section
variable {H:Type} {enc:TypeId × Value -> H} {w:World} {base:Nat} {sp:Nat -> Bool} {held:Bool} {fuel:Nat} {a0:Option Addr} {len cap:Nat} {x:DataW H × List MemPlace}
theorem item_of {fuel:Nat} {v0 v1 v2:Value} {x:DataW H × List MemPlace} (h:DataW.trod enc Tryz.prog w base sp held fuel 45 [v0,v1,v2] = some x):∃ d:ItD,v0 = .string d.x.name ∧ v1 = .string d.x.tag ∧ v2 = d.val ∧ d.Ok w:=by
  obtain ⟨y0,y1,y2,n,_,hl,h0,h1,h2⟩:=Go.Deep.trod_struct3 Tryz.underlying45 h
  simp only [cells9,cellsIs,List.drop_succ_cons,List.drop_zero,List.take_succ_cons,List.take_zero] at h0 h1 h2
  obtain ⟨s,e0,_,hsz⟩:=DataW.trod_string Tryz.underlying9 h0
  obtain ⟨t,e1,_,htz⟩:=DataW.trod_string Tryz.underlying9 h1
  injection e0 with e0
  injection e1 with e1
  subst e0 e1
  obtain ⟨a3,l3,c3,rfl⟩:∃ a3 l3 c3,v2 = .slice a3 l3 c3:=by
    rcases DataW.trod_slice Tryz.underlying23 h2 with ⟨e,_⟩ | ⟨a,len',cap',_,_,_,_,e,_⟩
    · injection e with e;exact ⟨_,_,_,e⟩
    · injection e with e;exact ⟨_,_,_,e⟩
  obtain ⟨zs,rfl,hz1,hz2,hI⟩:=Nr.ints_open h2
  exact ⟨⟨⟨s,t,zs⟩,a3,c3⟩,rfl,rfl,rfl,hI,hz1,hsz,htz,hz2⟩
theorem deeds_open (h:DataW.trod enc Tryz.prog w base sp held fuel 80 [.slice a0 len cap] = some x):∃ ds:List DeD,ds.length = len ∧ len <= maxLen ∧ Dds w a0 ds:=by
  obtain ⟨hl,hl2,hc⟩:=Nr.slice_open Tryz.underlying80 (by rw [cellsDd];decide) h
  obtain ⟨l,h1,h2⟩:=Nr.list_of (fun i (d:DeD) => ∃ g o,a0 = some ⟨g,o,none⟩ ∧ w.cell? ⟨g,o + i * 4,none⟩ = some (.int .i64 d.wh) ∧ w.cell? ⟨g,o + i * 4 + 1,none⟩ = some (.string d.it.x.name) ∧ w.cell? ⟨g,o + i * 4 + 2,none⟩ = some (.string d.it.x.tag) ∧ w.cell? ⟨g,o + i * 4 + 3,none⟩ = some d.it.val ∧ d.it.Ok w) len (fun i hi => by
    obtain ⟨a,cs,n,y,rfl,hsp,h3,h4⟩:=hc i hi
    rw [cellsDd] at h3
    obtain ⟨b,off,spot⟩:=a
    obtain rfl:spot = none:=hsp
    rw [addr_addO] at h3
    obtain ⟨y0,y1,m,_,hl4,k0,k1⟩:=trod_struct2 Tryz.underlying87 h4
    obtain ⟨_,hl4',hcell⟩:=World.cells?_some h3
    obtain ⟨v0,v1,v2,v3,rfl⟩:∃ v0 v1 v2 v3,cs = [v0,v1,v2,v3]:=list4 hl4'
    have c0:=hcell 0 (by decide)
    have c1:=hcell 1 (by decide)
    have c2:=hcell 2 (by decide)
    have c3:=hcell 3 (by decide)
    rw [addr_addO] at c0 c1 c2 c3
    simp only [cells3,cellsIt,List.drop_succ_cons,List.drop_zero,List.take_succ_cons,List.take_zero] at k0 k1
    obtain ⟨wh,e0,_,_⟩:=DataW.trod_int Tryz.underlying3 k0
    injection e0 with e0
    subst e0
    obtain ⟨d,rfl,rfl,rfl,hd⟩:=item_of k1
    exact ⟨⟨wh,d⟩,b,off,rfl,c0,c1,c2,c3,hd⟩)
  exact ⟨l,h1,hl,h2⟩
end
end Go.Proofs.YtjmpjfikcgccdaaGreatDoor.Bs
