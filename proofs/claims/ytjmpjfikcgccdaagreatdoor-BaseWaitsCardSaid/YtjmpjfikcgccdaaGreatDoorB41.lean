/-
  Part of the proof of BaseWaitsCard (BA33 and on).
-/
import Derived.Test.YtjmpjfikcgccdaaGreatDoorB40
namespace Go.Proofs.YtjmpjfikcgccdaaGreatDoor.Bs
open Go.ChangeShapes Go.WideShapes Go.ChangeAt Go.ChangeMaps Go.RowKit
open It Nr Vt
theorem wit_laid (os:Os) (args:Array Value):laidMetH Tryz.prog laidW ((wit os).forCall (fun _ _ => 0) ⟨#[],args,[]⟩).memory:=
  laidMetH_of_parts (laidMet_of_run' 8 (by kernel_rfl) (by kernel_rfl)) (by kernel_rfl)
set_option maxRecDepth 100000 in
theorem baseWaits_lifted (os:Os) (started:os.Started) (H:Type) (enc:TypeId × Value -> H) :
    ReturnsInHanded {} Tryz.checked os 4 .any (fun w args => (Rows.baseWaitsSpec.pre enc Tryz.prog Tryz.f4 [] false w args ∧ laidMetH Tryz.prog laidW w) ∧ sizedMet enc Tryz.prog Tryz.f4 (OpenSpec.ofChange Rows.baseWaitsSpec) false w args)
      (Rows.baseWaitsSpec.post enc Tryz.prog Tryz.f4 false true false false):=by
  refine handed_both (C:=Tryz.checked) (X:=fun w _ => laidMetH Tryz.prog laidW w) (fun _ _ _ hh h => h.of_heap hh) own started (by kernel_rfl) Tryz.func4
    (ChangeSpec.witness_shaped (enc:=enc) (C:=Tryz.checked) (os:=os) (X:=fun w _ => laidMetH Tryz.prog laidW w) false (wit os) #[.slice none 0 0] 8 (wit_os os)
      (World.shaped_of_ZipB (by kernel_rfl) (by kernel_rfl)) (by kernel_rfl) (by kernel_rfl) (by kernel_rfl)
      (wit_laid os _)) ?_
  intro W base args ds gs before hval0 hW hsh hL
  have hval:∀ (j:Nat) t v,Tryz.f4.params[j]? = some t -> args[j]? = some v -> Value.okWide Tryz.prog W .any base t v:=hval0
  have hW':=hW
  obtain ⟨p,q,hA0,hV,rfl,_,_⟩:=hW
  have hA:DataW.TrodAll enc Tryz.prog W 0 (fun _ => true) true Tryz.f4.params.toList args.toList ds p:=hA0
  rw [Tryz.params4] at hA hval
  obtain ⟨v0,d0,rfl,rfl,h0⟩:=trodAll_one hA
  obtain ⟨rfl,rfl⟩:=trodVars_none hV
  obtain ⟨a0,len,cap,rfl⟩:=okWide_slice Tryz.underlying80 (hval 0 80 v0 rfl rfl)
  clear hA0 hval0
  have h0k:=h0
  obtain ⟨fu0,hf0⟩:=h0
  have hlt:∀ x,x ∈ p -> x.block < W.heap.size:=fun x hx => hW'.lt x (by simp [hx])
  obtain ⟨dd,rfl,hm,hD⟩:=deeds_open (w:=W) (by simpa [Value.cells] using hf0)
  obtain ⟨hK,hLB,hE⟩:=of_laid hL hsh
  refine (waits_any a0 cap dd W hD hK hLB hE).mono fun e' W' ⟨he,hb⟩ => ?_
  subst he
  simp only [List.append_nil] at hW'
  refine ⟨_,rfl,_,_,_,[],p ++ [],[],hW',trodAll_mk1 (shut_bool Tryz.underlying4 _),?_,rfl,hb.frame _,fun h => by cases h⟩
  exact trodAll_cons_mk (Below.trod laidOut (by kernel_rfl) (of_decide_eq_true (by kernel_rfl)) h0k hb hlt) trodAll_mk0
end Go.Proofs.YtjmpjfikcgccdaaGreatDoor.Bs
