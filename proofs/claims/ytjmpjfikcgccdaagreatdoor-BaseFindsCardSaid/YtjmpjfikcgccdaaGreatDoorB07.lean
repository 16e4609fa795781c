/-
  Part of the proof of BaseFindsCard (N2 and on).
-/
import Derived.Test.YtjmpjfikcgccdaaGreatDoorB06
import Derived.Shelf.SlSortCmp.WholeK
import Derived.Lib.Bytealg
import Derived.Shelf.SlGeneric
import Derived.Shelf.Small.Strs
namespace Go.Proofs.YtjmpjfikcgccdaaGreatDoor.Nr
open Go.RowKit
theorem cB_neg:∀ a b:List UInt8,Lib.compareBytes b a = - Lib.compareBytes a b
  | [],[] => rfl
  | [],_ :: _ => rfl
  | _ :: _,[] => rfl
  | a :: xs,b :: ys => by
    have ih:=cB_neg xs ys
    unfold Lib.compareBytes
    by_cases h1:a < b
    · have h2:¬ b < a:=by rw [UInt8.lt_iff_toNat_lt] at *;omega
      rw [if_neg h2,if_pos h1,if_pos h1];rfl
    · by_cases h2:b < a
      · rw [if_pos h2,if_neg h1,if_pos h2]
      · rw [if_neg h2,if_neg h1,if_neg h1,if_neg h2];exact ih
theorem cB_zero:∀ a b:List UInt8,Lib.compareBytes a b = 0 -> a = b
  | [],[],_ => rfl
  | [],_ :: _,h => by cases h
  | _ :: _,[],h => by cases h
  | a :: xs,b :: ys,h => by
    unfold Lib.compareBytes at h
    by_cases h1:a < b
    · rw [if_pos h1] at h;cases h
    · by_cases h2:b < a
      · rw [if_neg h1,if_pos h2] at h;cases h
      · rw [if_neg h1,if_neg h2] at h
        have e:a = b:=by
          apply UInt8.toNat_inj.1
          rw [UInt8.lt_iff_toNat_lt] at *;omega
        rw [e,cB_zero xs ys h]
theorem cB_self:∀ a:List UInt8,Lib.compareBytes a a = 0
  | [] => rfl
  | a :: xs => by
    unfold Lib.compareBytes
    have h:¬ a < a:=by rw [UInt8.lt_iff_toNat_lt];omega
    rw [if_neg h,if_neg h];exact cB_self xs
theorem cB_trans:∀ a b c:List UInt8,Lib.compareBytes a b < 0 -> Lib.compareBytes b c < 0 -> Lib.compareBytes a c < 0
  | [],[],_,h,_ => by simp [Lib.compareBytes] at h
  | [],_ :: _,[],_,h => by simp [Lib.compareBytes] at h
  | [],_ :: _,_ :: _,_,_ => by simp [Lib.compareBytes]
  | _ :: _,[],_,h,_ => by simp [Lib.compareBytes] at h
  | _ :: _,_ :: _,[],_,h => by simp [Lib.compareBytes] at h
  | a :: xs,b :: ys,c :: us,h1,h2 => by
    have ih:=cB_trans xs ys us
    unfold Lib.compareBytes at h1 h2 ⊢
    simp only [UInt8.lt_iff_toNat_lt] at *
    split at h1
    · split at h2
      · rw [if_pos (by omega)];decide
      · split at h2
        · omega
        · rw [if_pos (by omega)];decide
    · split at h1
      · omega
      · split at h2
        · rw [if_pos (by omega)];decide
        · split at h2
          · omega
          · rw [if_neg (by omega),if_neg (by omega)];exact ih h1 h2
def encF (x:ByteArray × Int):List Value:=[.string x.1,.int .i64 x.2]
def cfF (x y:ByteArray × Int):Int:=if x.2 = y.2 then Lib.compareBytes x.1.data.toList y.1.data.toList else Lib.compareInt x.2 y.2
def ltF (x y:ByteArray × Int):Bool:=ltOf cfF x y
theorem ltF_iff (x y:ByteArray × Int):ltF x y = true ↔ x.2 < y.2 ∨ x.2 = y.2 ∧ Lib.compareBytes x.1.data.toList y.1.data.toList < 0:=by
  unfold ltF ltOf cfF Lib.compareInt
  rw [decide_eq_true_eq]
  by_cases h:x.2 = y.2
  · rw [if_pos h]
    exact ⟨fun h' => Or.inr ⟨h,h'⟩,fun h' => h'.elim (fun h' => by omega) (fun h' => h'.2)⟩
  · rw [if_neg h]
    by_cases h1:x.2 < y.2
    · rw [if_pos h1];exact ⟨fun _ => Or.inl h1,fun _ => by decide⟩
    · rw [if_neg h1]
      have h2:x.2 > y.2:=by omega
      rw [if_pos h2]
      exact ⟨fun h' => by omega,fun h' => by omega⟩
theorem ltF_irrefl (x:ByteArray × Int):ltF x x = false:=by
  cases h:ltF x x with
  | false => rfl
  | true =>
    rcases (ltF_iff x x).1 h with h | h
    · omega
    · have:=cB_self x.1.data.toList;omega
theorem ltF_trans (x y z:ByteArray × Int) (h1:ltF x y = true) (h2:ltF y z = true):ltF x z = true:=by
  rw [ltF_iff] at *
  rcases h1 with h1 | ⟨e1,h1⟩
  · rcases h2 with h2 | ⟨e2,h2⟩
    · exact Or.inl (by omega)
    · exact Or.inl (by omega)
  · rcases h2 with h2 | ⟨e2,h2⟩
    · exact Or.inl (by omega)
    · exact Or.inr ⟨by omega,cB_trans _ _ _ h1 h2⟩
theorem ba_inj {a b:ByteArray} (h:a.data.toList = b.data.toList):a = b:=by
  cases a;cases b;simp only [ByteArray.mk.injEq];exact Array.toList_inj.1 h
theorem ltF_tot (x y:ByteArray × Int) (h1:ltF x y = false) (h2:ltF y x = false):x = y:=by
  have n1:¬ ltF x y = true:=by rw [h1];decide
  have n2:¬ ltF y x = true:=by rw [h2];decide
  rw [ltF_iff] at n1 n2
  have e:x.2 = y.2:=by omega
  have hc:=cB_neg x.1.data.toList y.1.data.toList
  have e1:x.1 = y.1:=ba_inj (cB_zero _ _ (by
    by_cases q1:Lib.compareBytes x.1.data.toList y.1.data.toList < 0
    · exact absurd (Or.inr ⟨e,q1⟩) n1
    · by_cases q2:Lib.compareBytes y.1.data.toList x.1.data.toList < 0
      · exact absurd (Or.inr ⟨e.symm,q2⟩) n2
      · omega))
  exact Prod.ext e1 e
theorem ltF_ntrans (x y z:ByteArray × Int) (h1:ltF x y = false) (h2:ltF y z = false):ltF x z = false:=by
  cases h:ltF x z with
  | false => rfl
  | true =>
    cases h3:ltF y x with
    | true => rw [ltF_trans y x z h3 h] at h2;cases h2
    | false =>
      have:=ltF_tot x y h1 h3
      subst this
      rw [h] at h2;cases h2
theorem swoF:Sort.SWO (ltOf cfF):=⟨ltF_irrefl,ltF_trans,ltF_ntrans⟩
def srt (l:List (ByteArray × Int)):List (ByteArray × Int):=l.mergeSort fun x y => !ltF y x
theorem srt_perm (l:List (ByteArray × Int)):(srt l).Perm l:=List.mergeSort_perm _ _
theorem srt_sorted (l:List (ByteArray × Int)):(srt l).Pairwise fun x y => ltF y x = false:=by
  have h:=List.pairwise_mergeSort (le:=fun x y:ByteArray × Int => !ltF y x) (fun a b c h1 h2 => by
    simp only [Bool.not_eq_true'] at *
    exact ltF_ntrans c b a h2 h1) (fun a b => by
    cases h1:ltF b a <;> cases h2:ltF a b
    · rfl
    · rfl
    · rfl
    · have:=ltF_trans a b a h2 h1;rw [ltF_irrefl] at this;cases this) l
  exact h.imp fun {a b} h => by simpa using h
theorem srt_of_perm {l l':List (ByteArray × Int)} (h:l.Perm l'):srt l = srt l':=by
  refine List.Perm.eq_of_pairwise (le:=fun x y => ltF y x = false) (fun a b _ _ h1 h2 => (ltF_tot b a h1 h2).symm) (srt_sorted l) (srt_sorted l') ((srt_perm l).trans (h.trans (srt_perm l').symm))
theorem srt_len (l:List (ByteArray × Int)):(srt l).length = l.length:=(srt_perm l).length_eq
def farK (zs ys:List Int) (k:Nat):Int:=(((zs.zip ys).take k).map fun p => (p.1 - p.2) * (p.1 - p.2)).foldl (· + ·) 0
def farI (zs ys:List Int):Int:=farK zs ys (min zs.length ys.length)
theorem farK_succ {zs ys:List Int} {k:Nat} {z y:Int} (hz:zs[k]? = some z) (hy:ys[k]? = some y):farK zs ys (k + 1) = farK zs ys k + (z - y) * (z - y):=by
  unfold farK
  have:(zs.zip ys)[k]? = some (z,y):=by rw [List.getElem?_zip_eq_some];exact ⟨hz,hy⟩
  rw [List.take_add_one,this]
  simp
end Go.Proofs.YtjmpjfikcgccdaaGreatDoor.Nr
namespace Go.Proofs.YtjmpjfikcgccdaaGreatDoor.Nr
open Go.Shelf Go.RowKit
def lays106_ren:Go.Shelf.Ren:=⟨fun | 106 => 134 | 213 => 209 | 265 => 267 | n => n,fun | 9 => 9 | 3 => 3 | n => n,fun | n => n⟩
theorem lays106:Go.Proofs.Lays.n106 Tryz.prog lays106_ren:={
  mixed:=by kernel_rfl
  f106:=Tryz.func134.trans (congrArg some (by kernel_rfl))
  f213:=Tryz.func209.trans (congrArg some (by kernel_rfl))
  f265:=Tryz.func267.trans (congrArg some (by kernel_rfl))
  t3:=Tryz.underlying3
  a3:=Tryz.isAgg3
  z3:=Tryz.sizeOf3
  v3:=Tryz.zeroValue3
  t9:=Tryz.underlying9
  a9:=Tryz.isAgg9
  z9:=Tryz.sizeOf9
  v9:=Tryz.zeroValue9 }
def sortF_ren:Go.Shelf.Ren:=⟨fun | 6 => 97 | 15 => 126 | 14 => 153 | 28 => 195 | 29 => 196 | 20 => 223 | 21 => 224 | 22 => 225 | 23 => 226 | 24 => 227 | 25 => 228 | 26 => 229 | 27 => 230 | 46 => 284 | 47 => 285 | 48 => 286 | 49 => 287 | 50 => 288 | 57 => 330 | n => n,fun | 22 => 73 | 24 => 94 | 25 => 170 | 3 => 3 | 39 => 175 | 0 => 0 | 53 => 100 | 55 => 107 | 4 => 4 | 46 => 315 | 45 => 314 | 50 => 276 | 5 => 5 | 9 => 9 | 66 => 369 | 70 => 37 | 76 => 409 | 77 => 387 | n => n,fun | n => n⟩
theorem sortF:Go.Proofs.SlLaysF0.n6 Tryz.prog sortF_ren:={
  mixed:=by kernel_rfl
  f6:=⟨Tryz.f97.name,by decide,Tryz.func97.trans (congrArg some (by kernel_rfl))⟩
  f14:=⟨Tryz.f153.name,by decide,Tryz.func153.trans (congrArg some (by kernel_rfl))⟩
  f15:=Tryz.func126.trans (congrArg some (by kernel_rfl))
  f20:=⟨Tryz.f223.name,by decide,Tryz.func223.trans (congrArg some (by kernel_rfl))⟩
  f21:=⟨Tryz.f224.name,by decide,Tryz.func224.trans (congrArg some (by kernel_rfl))⟩
  f22:=⟨Tryz.f225.name,by decide,Tryz.func225.trans (congrArg some (by kernel_rfl))⟩
  f23:=⟨Tryz.f226.name,by decide,Tryz.func226.trans (congrArg some (by kernel_rfl))⟩
  f24:=⟨Tryz.f227.name,by decide,Tryz.func227.trans (congrArg some (by kernel_rfl))⟩
  f25:=⟨Tryz.f228.name,by decide,Tryz.func228.trans (congrArg some (by kernel_rfl))⟩
  f26:=⟨Tryz.f229.name,by decide,Tryz.func229.trans (congrArg some (by kernel_rfl))⟩
  f27:=⟨Tryz.f230.name,by decide,Tryz.func230.trans (congrArg some (by kernel_rfl))⟩
  f28:=Tryz.func195.trans (congrArg some (by kernel_rfl))
  f29:=Tryz.func196.trans (congrArg some (by kernel_rfl))
  f46:=⟨Tryz.f284.name,by decide,Tryz.func284.trans (congrArg some (by kernel_rfl))⟩
  f47:=Tryz.func285.trans (congrArg some (by kernel_rfl))
  f48:=Tryz.func286.trans (congrArg some (by kernel_rfl))
  f49:=⟨Tryz.f287.name,by decide,Tryz.func287.trans (congrArg some (by kernel_rfl))⟩
  f50:=⟨Tryz.f288.name,by decide,Tryz.func288.trans (congrArg some (by kernel_rfl))⟩
  f57:=⟨Tryz.f330.name,by decide,Tryz.func330.trans (congrArg some (by kernel_rfl))⟩
  t0:=Tryz.underlying0
  a0:=Tryz.isAgg0
  z0:=Tryz.sizeOf0
  v0:=Tryz.zeroValue0
  t3:=Tryz.underlying3
  a3:=Tryz.isAgg3
  z3:=Tryz.sizeOf3
  v3:=Tryz.zeroValue3
  t4:=Tryz.underlying4
  a4:=Tryz.isAgg4
  z4:=Tryz.sizeOf4
  v4:=Tryz.zeroValue4
  t5:=Tryz.underlying5
  a5:=Tryz.isAgg5
  z5:=Tryz.sizeOf5
  v5:=Tryz.zeroValue5
  t9:=Tryz.underlying9
  a9:=Tryz.isAgg9
  z9:=Tryz.sizeOf9
  v9:=Tryz.zeroValue9
  t22:=Tryz.underlying73
  a22:=Tryz.isAgg73
  z22:=Tryz.sizeOf73
  v22:=Tryz.zeroValue73
  t25:=Tryz.underlying170
  a25:=Tryz.isAgg170
  z25:=Tryz.sizeOf170
  v25:=Tryz.zeroValue170
  t39:=Tryz.underlying175
  a39:=Tryz.isAgg175
  z39:=Tryz.sizeOf175
  v39:=Tryz.zeroValue175
  t45:=Tryz.underlying314
  a45:=Tryz.isAgg314
  z45:=Tryz.sizeOf314
  v45:=Tryz.zeroValue314
  t46:=Tryz.underlying315
  a46:=Tryz.isAgg315
  z46:=Tryz.sizeOf315
  v46:=Tryz.zeroValue315
  t50:=Tryz.underlying276
  a50:=Tryz.isAgg276
  z50:=Tryz.sizeOf276
  v50:=Tryz.zeroValue276
  t53:=Tryz.underlying100
  a53:=Tryz.isAgg100
  z53:=Tryz.sizeOf100
  v53:=Tryz.zeroValue100
  t55:=Tryz.underlying107
  a55:=Tryz.isAgg107
  z55:=Tryz.sizeOf107
  v55:=Tryz.zeroValue107
  t66:=Tryz.underlying369
  a66:=Tryz.isAgg369
  z66:=Tryz.sizeOf369
  v66:=Tryz.zeroValue369
  t70:=Tryz.underlying37
  a70:=Tryz.isAgg37
  z70:=Tryz.sizeOf37
  v70:=Tryz.zeroValue37
  t76:=Tryz.underlying409
  a76:=Tryz.isAgg409
  z76:=Tryz.sizeOf409
  v76:=Tryz.zeroValue409
  t77:=Tryz.underlying387
  a77:=Tryz.isAgg387
  z77:=Tryz.sizeOf387
  v77:=Tryz.zeroValue387 }
theorem strCmp_any (a b:ByteArray) (w:World):Calls Tryz.prog 134 #[.string a,.string b] w fun e w' => e = .returned (.int .i64 (Lib.compareBytes a.data.toList b.data.toList)) ∧ w' = w:=Any.strings_Compare lays106 a b w
theorem len0_any (w:World):Calls Tryz.prog 126 #[.int .u64 0] w fun e w' => e = .returned (.int .i64 0) ∧ w' = w:=by
  have h:=Any.bits_Len (SlLaysF0.n15.bits (P:=Tryz.prog) (ρ:=sortF_ren) { sortF with }) 0 w (by omega) (by omega)
  exact h
set_option maxHeartbeats 1000000 in
theorem insNone_any (p:Option Addr) (cap:Nat) (fv:Value) (w:World) :
    Calls Tryz.prog 223 #[.slice p 0 cap,.int .i64 0,.int .i64 0,fv] w fun e w' => e = .returned (.tuple #[]) ∧ w' = w:=by
  go_enter Tryz.func223,Tryz.ntmps223
  go_wp2
  refine wp_loop_rounds 1 ?_
  rw [rounds_succ]
  go_wp2
  go_end0
  exact ⟨rfl,rfl⟩
set_option maxHeartbeats 1000000 in
theorem pdqNone_any (p:Option Addr) (cap:Nat) (lim:Int) (fv:Value) (w:World) :
    Calls Tryz.prog 153 #[.slice p 0 cap,.int .i64 0,.int .i64 0,.int .i64 lim,fv] w fun e w' => e = .returned (.tuple #[]) ∧ w' = w:=by
  go_enter Tryz.func153,Tryz.ntmps153
  go_wp2
  refine wp_loop_rounds 1 ?_
  rw [rounds_succ]
  go_wp2_with (go_at_call 223;refine (insNone_any _ _ _ _).mono ?_;rintro e w' ⟨rfl,rfl⟩)
  (try simp only [Exit.inBlock,Exit.then]);refine bodyPost_ret (results_none rfl _ _ _) rfl ?_
  exact ⟨rfl,rfl⟩
theorem sortNone_any (p:Option Addr) (cap:Nat) (fv:Value) (w:World) :
    Calls Tryz.prog 97 #[.slice p 0 cap,fv] w fun e w' => e = .returned (.tuple #[]) ∧ w' = w:=by
  go_enter Tryz.func97,Tryz.ntmps97
  go_wp2_with (first
    | (go_at_call 126;refine (len0_any _).mono ?_;rintro e w' ⟨rfl,rfl⟩)
    | (go_at_call 153;refine (pdqNone_any _ _ _ _ _).mono ?_;rintro e w' ⟨rfl,rfl⟩))
  go_end0
  exact ⟨rfl,rfl⟩
end Go.Proofs.YtjmpjfikcgccdaaGreatDoor.Nr
namespace Go.Proofs.YtjmpjfikcgccdaaGreatDoor.Nr
open Go.RowKit
open It
theorem nearOut_any (n:Int) (w:World):Calls Tryz.prog 152 #[.int .i64 n] w fun e w' => e = .returned (.bool (!numB n)) ∧ w' = w:=by
  go_enter Tryz.func152,Tryz.ntmps152
  by_cases h1:-1000 <= n <;> by_cases h2:n <= 1000 <;>
  · go_wp2
    go_ret
    exact ⟨by simp [numB,h1,h2],rfl⟩
set_option maxHeartbeats 400000 in
theorem indexInts_any (a:Option Addr) (c:Nat) (zs:List Int) (w:World) (h:Ints w a zs) (hl:zs.length <= maxLen) :
    Calls Tryz.prog 185 #[.slice a zs.length c,.func (.func 152) #[] #[]] w fun e w' => (∃ j:Int,e = .returned (.int .i64 j) ∧ (decide (0 <= j) = !zs.all numB)) ∧ w' = w:=by
  unfold maxLen at hl
  go_enter Tryz.func185,Tryz.ntmps185
  go_wp2_with fail
  go_loop [8] (fun i => ∃ k:Nat,k <= zs.length ∧ i = .int .i64 k ∧ (zs.take k).all numB = true) (fun i => zs.length - (intOf i).toNat)
  case atStart => exact ⟨0,by omega,rfl,by simp⟩
  case round =>
    obtain ⟨k,hk,rfl,hp⟩:=hrel
    by_cases hlt:k < zs.length
    · have HP:Hid ((zs.take k).all numB = true):=hp
      clear hp
      obtain ⟨g,o,rfl,hc⟩:=h k zs[k] (List.getElem?_eq_getElem hlt)
      have hg:g < w.heap.size:=World.block_lt_of_cell? w _ hc
      have htk:Hid (zs[k]? = some zs[k]):=List.getElem?_eq_getElem hlt
      have hlt':(k:Int) < (zs.length:Int):=by omega
      generalize zs[k] = x at *
      by_cases hx:numB x = true
      · go_wp2_with (go_at_call 152;refine (nearOut_any _ _).mono ?_;rintro e w' ⟨rfl,rfl⟩;rw [hx])
        go_round
        case rel => exact ⟨k + 1,by omega,by go_num,by rw [List.take_add_one,htk.out,List.all_append,HP.out];simp [hx]⟩
        case measure => simp [intOf];omega
      · have hx':numB x = false:=by simpa using hx
        go_wp2_with (go_at_call 152;refine (nearOut_any _ _).mono ?_;rintro e w' ⟨rfl,rfl⟩;rw [hx'])
        go_ret
        refine ⟨⟨k,rfl,?_⟩,rfl⟩
        have:zs.all numB = false:=by rw [List.all_eq_false];exact ⟨x,List.mem_of_getElem? htk.out,by simp [hx']⟩
        rw [this];simp
    · have hk':k = zs.length:=by omega
      subst hk'
      rw [List.take_length] at hp
      have HP:Hid (zs.all numB = true):=hp
      clear hp
      go_wp2_with fail
      go_ret
      exact ⟨⟨-1,rfl,by rw [HP.out];decide⟩,rfl⟩
theorem containsInts_any (a:Option Addr) (c:Nat) (zs:List Int) (w:World) (h:Ints w a zs) (hl:zs.length <= maxLen) :
    Calls Tryz.prog 118 #[.slice a zs.length c,.func (.func 152) #[] #[]] w fun e w' => e = .returned (.bool (!zs.all numB)) ∧ w' = w:=by
  go_enter Tryz.func118,Tryz.ntmps118
  go_wp2_with (go_at_call 185;refine (indexInts_any _ _ _ _ h hl).mono ?_;rintro e w' ⟨⟨j,rfl,hj⟩,rfl⟩)
  go_ret
  refine ⟨?_,rfl⟩
  rw [<- hj];simp
def askB (dim:Int) (zs:List Int) (k:Int):Bool:=decide ((zs.length:Int) = dim) && decide (1 <= k) && decide (k <= 60) && zs.all numB
set_option maxHeartbeats 400000 in
theorem ask_any (dim:Int) (a:Option Addr) (c:Nat) (zs:List Int) (k:Int) (w:World) (h:Ints w a zs) (hl:zs.length <= maxLen) :
    Calls Tryz.prog 95 #[.int .i64 dim,.slice a zs.length c,.int .i64 k] w fun e w' => e = .returned (.bool (askB dim zs k)) ∧ w' = w:=by
  have hl':zs.length <= 9223372036854775807:=hl
  have HA:Hid (askB dim zs k = (decide ((zs.length:Int) = dim) && decide (1 <= k) && decide (k <= 60) && zs.all numB)):=rfl
  rw [HA.out]
  by_cases c1:(zs.length:Int) = dim
  rotate_left
  · have c1':decide ((zs.length:Int) = dim) = false:=by simpa using c1
    go_enter Tryz.func95,Tryz.ntmps95
    go_wp2
    go_ret
    exact ⟨by rw [c1'];rfl,rfl⟩
  subst c1
  by_cases c2:1 <= k
  rotate_left
  · have c2':k < 1:=by omega
    go_enter Tryz.func95,Tryz.ntmps95
    go_wp2
    go_ret
    exact ⟨by rw [decide_eq_false (show ¬ (1 <= k) by omega)];simp,rfl⟩
  have c2':¬ k < 1:=by omega
  by_cases c3:k <= 60
  rotate_left
  · have c3':60 < k:=by omega
    go_enter Tryz.func95,Tryz.ntmps95
    go_wp2
    go_ret
    exact ⟨by rw [decide_eq_false (show ¬ (k <= 60) by omega)];simp,rfl⟩
  have c3':¬ 60 < k:=by omega
  have HB:Hid ((decide ((zs.length:Int) = (zs.length:Int)) && decide (1 <= k) && decide (k <= 60) && zs.all numB) = zs.all numB):=by unfold Hid;simp [c2,c3]
  rw [HB.out]
  go_enter Tryz.func95,Tryz.ntmps95
  go_wp2_with (go_at_call 118;refine (containsInts_any _ _ _ _ h hl).mono ?_;rintro e w' ⟨rfl,rfl⟩)
  go_ret
  exact ⟨by simp,rfl⟩
set_option maxHeartbeats 400000 in
theorem far_any (a b:Option Addr) (c d:Nat) (zs ys:List Int) (w:World) (ha:Ints w a zs) (hb:Ints w b ys) (hl:zs.length <= 100) (hz:zs.all numB = true) (hy:ys.all numB = true) :
    Calls Tryz.prog 96 #[.slice a zs.length c,.slice b ys.length d] w fun e w' => e = .returned (.int .i64 (farI zs ys)) ∧ ∃ n,w' = w.drewN n:=by
  have HZ:Hid (∀ z ∈ zs,-1000 <= z ∧ z <= 1000):=fun z hz' => by have:=List.all_eq_true.1 hz z hz';simpa [numB] using this
  have HY:Hid (∀ z ∈ ys,-1000 <= z ∧ z <= 1000):=fun z hz' => by have:=List.all_eq_true.1 hy z hz';simpa [numB] using this
  obtain ⟨m,hm⟩:∃ m,Hid (min zs.length ys.length = m):=⟨_,rfl⟩
  have hmz:m <= zs.length:=by rw [<- hm.out];omega
  have hmy:m <= ys.length:=by rw [<- hm.out];omega
  have HF:Hid (farI zs ys = farK zs ys m):=by unfold Hid farI;rw [hm.out]
  have hmin:min (zs.length:Int) (ys.length:Int) = (m:Int):=by rw [<- hm.out];omega
  rw [HF.out]
  clear hz hy
  go_enter Tryz.func96,Tryz.ntmps96
  go_wp2_with fail
  go_loopw [5,13] (fun s i wr => ∃ k n:Nat,k <= m ∧ i = .int .i64 k ∧ s = .int .i64 (farK zs ys k) ∧ Hid (0 <= farK zs ys k ∧ farK zs ys k <= 4000000 * k) ∧ wr = w.drewN n) (fun _ i _ => m - (intOf i).toNat)
  case atStart => exact ⟨0,0,by omega,rfl,rfl,by unfold Hid farK;simp,rfl⟩
  case round =>
    obtain ⟨k,n,hk,rfl,rfl,HB,rfl⟩:=hrel
    by_cases hlt:k < m
    · have hzk:zs[k]? = some zs[k]:=List.getElem?_eq_getElem (by omega)
      have hyk:ys[k]? = some ys[k]:=List.getElem?_eq_getElem (by omega)
      obtain ⟨g,o,rfl,q1⟩:=ha k _ hzk
      obtain ⟨g',o',rfl,q2⟩:=hb k _ hyk
      have hs:Hid _:=farK_succ hzk hyk
      have b1:=HZ.out _ (List.mem_of_getElem? hzk)
      have b2:=HY.out _ (List.mem_of_getElem? hyk)
      have hlt':(k:Int) < (m:Int):=by omega
      generalize zs[k] = z at *
      generalize ys[k] = y at *
      obtain ⟨dd,hdd⟩:∃ dd,z - y = dd:=⟨_,rfl⟩
      have hd0:Hid (0 <= dd * dd ∧ dd * dd <= 4000000):=by
        have h1:-2000 <= dd:=by omega
        have h2:dd <= 2000:=by omega
        have h3:(2000 - dd) * (2000 + dd) ≥ 0:=Int.mul_nonneg (by omega) (by omega)
        have h4:(2000 - dd) * (2000 + dd) = 4000000 - dd * dd:=by
          rw [Int.sub_mul,Int.mul_add,Int.mul_add,Int.mul_comm dd 2000];omega
        exact ⟨by rcases Int.le_total 0 dd with h | h
                  · exact Int.mul_nonneg h h
                  · have:=Int.mul_nonneg (show 0 <= -dd by omega) (show 0 <= -dd by omega);rwa [Int.neg_mul_neg] at this,by omega⟩
      obtain ⟨qq,hqq⟩:∃ qq,dd * dd = qq:=⟨_,rfl⟩
      have hw1:IntKind.i64.wrap dd = dd:=by rw [IntKind.wrap_i64];omega
      have hw2:IntKind.i64.wrap qq = qq:=by have:=hd0.out;rw [IntKind.wrap_i64];omega
      have HS:Hid (farK zs ys (k + 1) = farK zs ys k + qq):=by have:=hs.out;rw [hdd,hqq] at this;exact this
      have HQ:Hid (0 <= qq ∧ qq <= 4000000):=by rw [<- hqq];exact hd0.out
      generalize farK zs ys k = s at *
      have hw3:IntKind.i64.wrap (s + qq) = s + qq:=by have:=HB.out;have:=HQ.out;rw [IntKind.wrap_i64];omega
      clear hs hd0
      go_wp2_with fail
      go_quiet (fail)
      go_wp2
      go_light
      refine ⟨⟨k + 1,n + nq,by omega,by go_num,by rw [HS.out],?_,rfl⟩,by simp [intOf];omega⟩
      have:=HB.out
      have:=HQ.out
      unfold Hid
      rw [HS.out]
      omega
    · have hk':k = m:=by omega
      subst hk'
      go_wp2_with fail
      go_ret
      exact ⟨rfl,n,rfl⟩
theorem cmpInt_any (x y:Int) (w:World):Calls Tryz.prog 154 #[.int .i64 x,.int .i64 y] w fun e w' => e = .returned (.int .i64 (Lib.compareInt x y)) ∧ w' = w:=by
  have hN:∀ (x:Int) (w:World),Calls Tryz.prog 231 #[.int .i64 x] w fun e w' => e = .returned (.bool false) ∧ w' = w:=fun x w => by
    go_enter Tryz.func231,Tryz.ntmps231
    go_wp2
    go_ret
    exact ⟨rfl,rfl⟩
  by_cases h1:x < y
  · have e:Lib.compareInt x y = -1:=if_pos h1
    rw [e]
    go_enter Tryz.func154,Tryz.ntmps154
    go_wp2_with (go_at_call 231;refine (hN _ _).mono ?_;rintro e w' ⟨rfl,rfl⟩)
    go_ret
    exact ⟨rfl,rfl⟩
  · by_cases h2:y < x
    · have e:Lib.compareInt x y = 1:=by unfold Lib.compareInt;rw [if_neg h1,if_pos h2]
      rw [e]
      go_enter Tryz.func154,Tryz.ntmps154
      go_wp2_with (go_at_call 231;refine (hN _ _).mono ?_;rintro e w' ⟨rfl,rfl⟩)
      go_ret
      exact ⟨rfl,rfl⟩
    · have e:Lib.compareInt x y = 0:=by unfold Lib.compareInt;rw [if_neg h1,if_neg (by omega)]
      rw [e]
      go_enter Tryz.func154,Tryz.ntmps154
      go_wp2_with (go_at_call 231;refine (hN _ _).mono ?_;rintro e w' ⟨rfl,rfl⟩)
      go_ret
      exact ⟨rfl,rfl⟩
set_option maxHeartbeats 400000 in
theorem compare_any (x y:ByteArray × Int) (w:World):Calls Tryz.prog 98 #[.agg #[.string x.1,.int .i64 x.2],.agg #[.string y.1,.int .i64 y.2]] w fun e w' => e = .returned (.int .i64 (cfF x y)) ∧ ∃ os,w' = Go.Sort.grow w os:=by
  obtain ⟨xn,xf⟩:=x
  obtain ⟨yn,yf⟩:=y
  by_cases h:xf = yf
  · have e:cfF (xn,xf) (yn,yf) = Lib.compareBytes xn.data.toList yn.data.toList:=if_pos h
    rw [e]
    subst h
    go_enter Tryz.func98,Tryz.ntmps98
    go_wp2_with (go_at_call 134;refine (strCmp_any _ _ _).mono ?_;rintro e w' ⟨rfl,rfl⟩)
    go_ret
    exact ⟨rfl,_,by rw [Go.Sort.alloc_eq_grow,Go.Sort.alloc_eq_grow,Go.Sort.grow_grow]⟩
  · have e:cfF (xn,xf) (yn,yf) = Lib.compareInt xf yf:=if_neg h
    rw [e]
    go_enter Tryz.func98,Tryz.ntmps98
    go_wp2_with (go_at_call 154;refine (cmpInt_any _ _ _).mono ?_;rintro e w' ⟨rfl,rfl⟩)
    go_ret
    exact ⟨rfl,_,by rw [Go.Sort.alloc_eq_grow,Go.Sort.alloc_eq_grow,Go.Sort.grow_grow]⟩
def flatF (l:List (ByteArray × Int)):List Value:=l.flatMap encF
theorem flatF_len (l:List (ByteArray × Int)):(flatF l).length = l.length * 2:=by
  induction l with
  | nil => rfl
  | cons x l ih => show (encF x ++ flatF l).length = _;rw [List.length_append,ih,List.length_cons];simp [encF];omega
theorem flatF_snoc (l:List (ByteArray × Int)) (x:ByteArray × Int):flatF (l ++ [x]) = flatF l ++ [.string x.1,.int .i64 x.2]:=by simp [flatF,encF]
theorem flatF_cell:∀ (l:List (ByteArray × Int)) (i:Nat) (x:ByteArray × Int),l[i]? = some x -> (flatF l)[i * 2]? = some (.string x.1) ∧ (flatF l)[i * 2 + 1]? = some (.int .i64 x.2)
  | [],i,x,h => by simp at h
  | y :: l,0,x,h => by simp at h;subst h;exact ⟨rfl,rfl⟩
  | y :: l,i + 1,x,h => by
    have ih:=flatF_cell l i x (by simpa using h)
    have e:flatF (y :: l) = .string y.1 :: .int .i64 y.2 :: flatF l:=rfl
    rw [e,show (i + 1) * 2 = i * 2 + 1 + 1 from by omega]
    simpa using ih
def Fnds (w:World) (v:Value) (l:List (ByteArray × Int)):Prop:=∃ a c,v = .slice a l.length c ∧ l.length <= c ∧ ∀ i x,l[i]? = some x -> ∃ g o,a = some ⟨g,o,none⟩ ∧ g < w.heap.size ∧ w.cell? ⟨g,o + i * 2,none⟩ = some (.string x.1) ∧ w.cell? ⟨g,o + i * 2 + 1,none⟩ = some (.int .i64 x.2)
theorem Fnds.below {w w':World} {v:Value} {l:List (ByteArray × Int)} (h:Fnds w v l) (hb:Below w.heap.size w w'):Fnds w' v l:=by
  obtain ⟨a,c,h1,h2,h3⟩:=h
  refine ⟨a,c,h1,h2,fun i x hx => ?_⟩
  obtain ⟨g,o,q1,q2,q3,q4⟩:=h3 i x hx
  exact ⟨g,o,q1,Nat.lt_of_lt_of_le q2 hb.size,(World.cell?_of_block (hb.block g q2)).trans q3,(World.cell?_of_block (hb.block g q2)).trans q4⟩
theorem below_grow {B:Nat} {w w':World} (h:Below B w w') (os:Array Obj) (hB:B <= w'.heap.size):Below B w (Go.Sort.grow w' os):=
  ⟨h.os,h.tape,h.output,by show w.heap.size <= (w'.heap ++ os).size;rw [Array.size_append];have:=h.size;omega,fun k hk => by
    rw [<- h.block k hk]
    show (w'.heap ++ os)[k]? = w'.heap[k]?
    rw [Array.getElem?_append_left (by omega)]⟩
theorem own_parts {w:World} {B:Nat} {e:TypeId} {z:Nat} {v:Value} {n:Nat} {xs:List Value} (h:w.ownsRow B e z v n xs) (hn:0 < n * z) :
    ∃ g cap cur,v = .slice (some ⟨g,0,none⟩) n cap ∧ B <= g ∧ g < w.heap.size ∧ w.heap[g]? = some (.cells cur e (0,0)) ∧ n <= cap ∧ cap <= maxLen ∧ cur.size = cap * z ∧ cur.toList.take (n * z) = xs:=by
  obtain ⟨h1,⟨h2,h3⟩ | ⟨g,cap,cur,hv,hgB,hh,hc1,hc2,hs,ht⟩⟩:=h
  · exfalso;rw [h3] at hn;simp at hn
  · exact ⟨g,cap,cur,hv,hgB,(Array.getElem?_eq_some_iff.1 hh).1,hh,hc1,hc2,hs,ht⟩
theorem flatK_get (l:List (ByteArray × Int)) (t:Nat) (h:t < l.length * 2):(flatF l)[t]? = some ((Go.Sort.flatK encF 2 l.toArray)[t]!):=by
  rw [Go.Sort.get_flatK _ _ _ _ (by simpa using h)]
  have hi:t / 2 < l.length:=by omega
  obtain ⟨x,hx⟩:∃ x,l[t / 2]? = some x:=⟨_,List.getElem?_eq_getElem hi⟩
  have e:l.toArray[t / 2]! = x:=by
    rw [getElem!_pos _ _ (by simpa using hi)]
    rw [List.getElem?_eq_getElem hi] at hx
    simpa using hx
  rw [e]
  obtain ⟨q1,q2⟩:=flatF_cell l (t / 2) _ hx
  rcases Nat.mod_two_eq_zero_or_one t with h0 | h0
  · rw [h0]
    have e2:t = t / 2 * 2:=by omega
    conv => lhs;rw [e2]
    rw [q1];rfl
  · rw [h0]
    have e2:t = t / 2 * 2 + 1:=by omega
    conv => lhs;rw [e2]
    rw [q2];rfl
set_option maxHeartbeats 1000000 in
theorem sort_any (B g cap:Nat) (l:List (ByteArray × Int)) (w:World) (h:w.ownsRow B 94 2 (.slice (some ⟨g,0,none⟩) l.length cap) l.length (flatF l)) (hl0:0 < l.length) (hl:l.length <= 1000) (hB:B <= w.heap.size) :
    Calls Tryz.prog 97 #[.slice (some ⟨g,0,none⟩) l.length cap,.func (.func 98) #[] #[]] w fun e w' => e = .returned (.tuple #[]) ∧ Fnds w' (.slice (some ⟨g,0,none⟩) l.length cap) (srt l) ∧ Below B w w':=by
  obtain ⟨g',cap',cur,hv,hgB,hgl,hh,hc1,hc2,hs,ht⟩:=own_parts h (by omega)
  injection hv with hv1 hv2 hv3
  injection hv1 with hv1
  injection hv1 with hv1
  subst hv1 hv3
  have hH:Go.Sort.HoldsK encF 2 w g 0 l.toArray:=by
    intro t htl
    rw [Go.Sort.size_flatK] at htl
    have htl':t < l.length * 2:=by simpa using htl
    have hf:=flatK_get l t htl'
    rw [<- ht,List.getElem?_take_of_lt htl',Array.getElem?_toList] at hf
    refine ⟨?_,?_⟩
    · rw [Nat.zero_add];simp only [World.cell?,hh];exact hf
    · simp [World.frozen?,hh]
  have eg:∀ args w,(callFunc 98 args).run Tryz.prog w = .ok (.enter 98 args) w:=enters_of Tryz.func98 (by kernel_rfl) rfl
  have hcon:=AnyQ.slices_SortFunc sortF 2 Tryz.isAgg94 Tryz.sizeOf94 encF (fun _ => rfl) (fun x v hv => by simp [encF] at hv;rcases hv with rfl | rfl <;> rfl) cfF swoF 98 #[] g 0 cap l.toArray w eg
    (fun m os dk _ x y => (compare_any x y _).mono fun e w' ⟨he,os',hw⟩ => ⟨he,0,os',hw⟩) hH hgl (by simp;omega)
  have hsz:l.toArray.size = l.length:=by simp
  rw [hsz] at hcon
  refine hcon.mono ?_
  rintro e w' ⟨rfl,d',n,os,hp,hso,rfl⟩
  obtain ⟨p1,_,p3⟩:=hp
  have p1':d'.size = l.length:=by rw [p1];simp
  have hd:d'.toList = srt l:=by
    have e1:(d'.extract 0 l.length).toList = d'.toList:=by rw [<- p1'];simp
    have e2:(l.toArray.extract 0 l.length).toList = l:=by simp
    rw [e1,e2] at p3
    refine List.Perm.eq_of_pairwise (le:=fun x y => ltF y x = false) (fun a b _ _ h1 h2 => (ltF_tot b a h1 h2).symm) ?_ (srt_sorted l) (p3.trans (srt_perm l).symm)
    rw [List.pairwise_iff_getElem]
    intro i j hi hj hij
    have:=hso i j (Nat.zero_le _) hij (by simpa [p1'] using hj)
    rw [getElem!_pos _ _ (by simpa using hj),getElem!_pos _ _ (by simpa using hi)] at this
    have this':ltF d'[j] d'[i] = false:=this
    simpa using this'
  have hH':=Go.Sort.holdsK_grow (enc:=encF) (k:=2) (Go.Sort.putRowK encF 2 (Go.Sort.ahead w n) g 0 d') os g 0 d' (by simpa [Go.Sort.putRowK,Go.Sort.ahead] using hgl) (Go.Sort.holdsK_putRowK (enc:=encF) (k:=2) (Go.Sort.ahead w n) g 0 l.toArray d' (Go.Sort.holdsK_ahead (enc:=encF) (k:=2) w n g 0 _ hH) (by simpa using p1'))
  have hbel:Below B w (Go.Sort.putRowK encF 2 (Go.Sort.ahead w n) g 0 d'):=⟨rfl,rfl,rfl,by simp [Go.Sort.putRowK,Go.Sort.putRow,Go.Sort.mapBlock,Go.Sort.ahead],fun k hk => by
    simp [Go.Sort.putRowK,Go.Sort.putRow,Go.Sort.mapBlock,Go.Sort.ahead,Array.getElem?_modify,show g ≠ k by omega]⟩
  refine ⟨rfl,⟨_,cap,by rw [srt_len],by rw [srt_len];exact hc1,fun i x hx => ?_⟩,below_grow hbel os (Nat.le_trans hB hbel.size)⟩
  rw [<- hd] at hx
  have hil:i < d'.size:=by have:=(List.getElem?_eq_some_iff.1 hx).1;simpa using this
  have hdx:d'[i]! = x:=by
    rw [getElem!_pos d' i hil]
    rw [Array.getElem?_toList,Array.getElem?_eq_getElem hil] at hx
    exact Option.some.inj hx
  have c0:=(hH'.cell hil (show 0 < 2 by decide)).1
  have c1:=(hH'.cell hil (show 1 < 2 by decide)).1
  rw [hdx] at c0 c1
  refine ⟨g,0,rfl,?_,c0,c1⟩
  show g < ((Go.Sort.putRowK encF 2 (Go.Sort.ahead w n) g 0 d').heap ++ os).size
  rw [Array.size_append]
  have:=hbel.size
  omega
theorem mixed:Tryz.prog.follows .mixedOrders = true:=by kernel_rfl
def tagP (tag:ByteArray) (x:Itm):Bool:=decide (tag.toList = []) || decide (x.tag.toList = tag.toList)
def fnd (ys:List Int) (tag:ByteArray) (xs:List Itm):List (ByteArray × Int):=(xs.filter (tagP tag)).map fun x => (x.name,farI x.nums ys)
theorem fnd_step {ys:List Int} {tag:ByteArray} {xs:List Itm} {k:Nat} {x:Itm} (h:xs[k]? = some x):fnd ys tag (xs.take (k + 1)) = fnd ys tag (xs.take k) ++ if tagP tag x then [(x.name,farI x.nums ys)] else []:=by
  unfold fnd
  rw [List.take_add_one,h,List.filter_append,List.map_append]
  show _ ++ ([x].filter (tagP tag)).map _ = _
  cases hx:tagP tag x <;> simp [hx]
theorem fnd_len (ys:List Int) (tag:ByteArray) (xs:List Itm):(fnd ys tag xs).length <= xs.length:=by
  unfold fnd;rw [List.length_map];exact List.length_filter_le _ _
theorem Fnds.cut {w:World} {a:Option Addr} {n c:Nat} {l:List (ByteArray × Int)} (h:Fnds w (.slice a n c) l) (m:Nat) (hm:m <= n):Fnds w (.slice a m c) (l.take m):=by
  obtain ⟨a',c',h1,h2,h3⟩:=h
  injection h1 with h1 h4 h5
  subst h1 h4 h5
  refine ⟨a,c,by rw [List.length_take,Nat.min_eq_left hm],by rw [List.length_take];omega,fun i x hx => h3 i x ?_⟩
  rw [List.getElem?_take] at hx
  split at hx
  · exact hx
  · cases hx
theorem infoF:(Tryz.prog.info? 94).map (fun i => (i.zero,i.size,i.bytes)) = some (some (.agg #[.string ByteArray.empty,.int .i64 0]),2,24):=by kernel_rfl
theorem top_no (dim:Int) (a:Option Addr) (n c:Nat) (b:Option Addr) (d:Nat) (ys:List Int) (k:Int) (tag:ByteArray) (w:World) (hy:Ints w b ys) (hyl:ys.length <= maxLen) (hask:askB dim ys k = false) :
    Calls Tryz.prog 40 #[.int .i64 dim,.slice a n c,.slice b ys.length d,.int .i64 k,.string tag] w fun e w' => e = .returned (.tuple #[.slice none 0 0,errA]) ∧ w' = w:=by
  go_enter Tryz.func40,Tryz.ntmps40
  go_wp2_with (go_at_call 95;refine (ask_any _ _ _ _ _ _ hy hyl).mono ?_;rintro e w' ⟨rfl,rfl⟩;rw [hask])
  go_ret2
  exact ⟨rfl,rfl⟩
set_option maxHeartbeats 1000000 in
theorem top_ok (dim:Int) (a:Option Addr) (c:Nat) (ds:List ItD) (b:Option Addr) (d:Nat) (ys:List Int) (k:Int) (tag:ByteArray) (w:World) (h:Its w a ds) (hl:ds.length <= 100) (hy:Ints w b ys) (hyl:ys.length <= maxLen) (hask:askB dim ys k = true)
    (hnum:∀ x ∈ ds,x.x.nums.all numB = true ∧ x.x.nums.length <= 100) :
    Calls Tryz.prog 40 #[.int .i64 dim,.slice a ds.length c,.slice b ys.length d,.int .i64 k,.string tag] w fun e w' => (∃ v,e = .returned (.tuple #[v,.nilIface]) ∧ Fnds w' v ((srt (fnd ys tag (xsOf ds))).take k.toNat)) ∧ Below w.heap.size w w':=by
  have hk:1 <= k ∧ k <= 60:=by simp [askB] at hask;exact ⟨hask.1.1.2,hask.1.2⟩
  have hyn:ys.all numB = true:=by unfold askB at hask;rw [Bool.and_eq_true] at hask;exact hask.2
  have HK:Hid (1 <= k ∧ k <= 60):=hk
  have HYN:Hid (ys.all numB = true):=hyn
  have HN:Hid (∀ x ∈ ds,x.x.nums.all numB = true ∧ x.x.nums.length <= 100):=hnum
  clear hk hyn hnum
  go_enter Tryz.func40,Tryz.ntmps40
  go_wp2_with (go_at_call 95;refine (ask_any _ _ _ _ _ _ hy hyl).mono ?_;rintro e w' ⟨rfl,hw'⟩;obtain rfl:w = w':=hw'.symm;clear hw';rw [hask])
  clear hask
  have hxl:(xsOf ds).length = ds.length:=by simp [xsOf]
  go_loopw [12,23] (fun v i wr => ∃ m:Nat,m <= ds.length ∧ i = .int .i64 m ∧ wr.ownsRow w.heap.size 94 2 v (fnd ys tag ((xsOf ds).take m)).length (flatF (fnd ys tag ((xsOf ds).take m))) ∧ (fnd ys tag ((xsOf ds).take m) = [] -> v = .slice none 0 0) ∧ Below w.heap.size w wr) (fun _ i _ => ds.length - (intOf i).toNat)
  case atStart => exact ⟨0,by omega,rfl,⟨rfl,Or.inl ⟨rfl,rfl⟩⟩,fun _ => rfl,Below.refl _ _⟩
  case round =>
    obtain ⟨m,hm,rfl,ow,hnil,br⟩:=hrel
    by_cases hlt:m < ds.length
    · have hr:=h.below br
      have hyr:=hy.below br
      have hdm:ds[m]? = some ds[m]:=List.getElem?_eq_getElem hlt
      obtain ⟨g,o,rfl,q1,q2,q3,q4⟩:=hr m ds[m] hdm
      have hxk:(xsOf ds)[m]? = some ds[m].x:=by unfold xsOf;rw [List.getElem?_map,hdm];rfl
      have HST:Hid _:=fnd_step (ys:=ys) (tag:=tag) hxk
      have hnm:=HN.out _ (List.mem_of_getElem? hdm)
      have hll:(fnd ys tag ((xsOf ds).take m)).length <= 100:=by have:=fnd_len ys tag ((xsOf ds).take m);rw [List.length_take] at this;omega
      have HNIL:Hid _:=hnil
      generalize ds[m] = x at *
      obtain ⟨⟨nm,tg,zs⟩,xa,xc⟩:=x
      simp only [ItD.val] at q1 q2 q3 hxk hnm
      have q5:Ints wr xa zs:=q4.1
      have hlt':(m:Int) < (ds.length:Int):=by omega
      generalize fnd ys tag ((xsOf ds).take m) = F at *
      obtain ⟨F',hF'⟩:∃ F',Hid (fnd ys tag ((xsOf ds).take (m + 1)) = F'):=⟨_,rfl⟩
      have s1:=below_alloc wr (.cells #[.string nm,.string tg,.slice xa zs.length xc] 45)
      have b1:=br.trans (s1.mono br.size)
      clear hr hnil hxk hdm q4
      by_cases ht:tagP tag ⟨nm,tg,zs⟩ = true
      · have HS2:Hid (F' = F ++ [(nm,farI zs ys)]):=by
          have h:=HST.out
          rw [hF'.out,if_pos ht] at h
          exact h
        have hgo:tag.toList = [] ∨ (¬ tag.toList = [] ∧ tg.toList = tag.toList):=by
          unfold tagP at ht
          rw [Bool.or_eq_true,decide_eq_true_eq,decide_eq_true_eq] at ht
          by_cases e:tag.toList = []
          · exact Or.inl e
          · exact Or.inr ⟨e,ht.resolve_left e⟩
        clear ht HST
        have jb:Blk (wr.alloc (.cells #[.string nm,.string tg,.slice xa zs.length xc] 45)) wr.heap.size #[.string nm,.string tg,.slice xa zs.length xc] 45:=Blk.new wr _ _
        obtain ⟨w2,hw2⟩:∃ w2,Hid (wr.alloc (.cells #[.string nm,.string tg,.slice xa zs.length xc] 45) = w2):=⟨_,rfl⟩
        have HW2:Hid (∀ W',Below w2.heap.size w2 W' -> Blk W' wr.heap.size #[.string nm,.string tg,.slice xa zs.length xc] 45):=fun W' hb => by rw [<- hw2.out] at hb;exact jb.below hb jb.lt
        have s1':Below wr.heap.size wr w2:=by rw [<- hw2.out];exact s1
        have b1':Below w.heap.size w w2:=br.trans (s1'.mono br.size)
        have ow2:=ownsRow_below ow s1'
        have q52:=q5.below s1'
        have hy2:=hyr.below s1'
        have hwz:=b1'.size
        rcases hgo with hgo | ⟨hgo,hgo2⟩ <;> (
          go_wp2_with fail
          rw [hw2.out]
          refine region_s [(0,true),(1,true),(2,false),(3,true),(4,false),(5,true)] [6,7,8] [9,10] (fun W' => Below w2.heap.size w2 W') mixed (by kernel_rfl) (fun _ _ _ _ _ h => h) (below_drewN (Below.refl _ _) 1) ?_
          refine lead_pure _ rfl _ rfl rfl u12 (fun w' => by go_simp) ?_
          refine lead_pure _ rfl _ rfl rfl (.pointer (some ⟨wr.heap.size,0,none⟩)) (fun w' => by go_simp) ?_
          refine lead_read _ rfl _ rfl rfl (.string nm) (fun w' hS => by have c0:=(HW2.out w' hS).cell 0;go_simp) ?_
          refine lead_pure _ rfl _ rfl rfl (.pointer (some ⟨wr.heap.size,2,none⟩)) (fun w' => by go_simp) ?_
          refine lead_read _ rfl _ rfl rfl (.slice xa zs.length xc) (fun w' hS => by have c0:=(HW2.out w' hS).cell 2;go_simp) ?_
          refine lead_pure _ rfl _ rfl rfl (.slice b ys.length d) (fun w' => by go_simp) ?_
          simp only [lead_nil_eq]
          simp only [Act.put,List.setIfInBounds_toArray,List.set_cons_succ,List.set_cons_zero]
          have sd:Below w2.heap.size w2 w2.drew:=below_drewN (Below.refl _ _) 1
          refine mid_cons _ rfl rfl fun K hK => ?_
          go_wp2_with fail
          refine (far_any xa b xc d zs ys _ (q52.below sd) (hy2.below sd) hnm.2 hnm.1 HYN.out).mono ?_
          rintro e W2 ⟨rfl,n2,rfl⟩
          have s3:Below w2.heap.size w2 (w2.drew.drewN n2):=below_drewN sd n2
          refine hK _ _ s3 ?_
          clear hK K
          generalize w2.drew.drewN n2 = w3 at *
          generalize farI zs ys = fr at *
          refine mid_cons _ rfl rfl fun K hK => ?_
          go_wp2_with fail
          refine hK _ _ s3 ?_
          clear hK K
          refine mid_cons _ rfl rfl fun K hK => ?_
          go_wp2_with fail
          have s4:=below_alloc w3 (.cells #[.string nm,.int .i64 fr] 94)
          have s34:=s3.trans (s4.mono s3.size)
          refine hK _ _ s34 ?_
          clear hK K
          simp only [mid_nil_eq]
          simp only [List.filterMap_cons,List.getElem?_toArray,List.getElem?_cons_succ,List.getElem?_cons_zero,List.filterMap_nil]
          have ow4:=ownsRow_below ow2 s34
          have b4:=b1'.trans (s34.mono b1'.size)
          have hz4:=b4.size
          refine wpl_pushZ rfl _ _ 73 rfl w.heap.size 94 (.agg #[.string ByteArray.empty,.int .i64 0]) 2 24 Tryz.underlying73 infoF rfl (by decide) u12 F.length (flatF F) rfl ow4 w3.heap.size 1 [.string nm,.int .i64 fr] rfl 94 (Blk.new w3 _ _) rfl (fun u hu => by simp at hu;rcases hu with rfl | rfl <;> rfl) (by omega) (by decide) hz4 ?_
          intro g6 c6 w6 ow6 gr6 hat6 hlt6
          go_wp2_with fail
          refine ⟨⟨m + 1,by omega,by go_num,?_,?_,row_grownBelow b4 ow4 gr6 b4.size⟩,by simp [intOf];omega⟩
          · rw [hF'.out,HS2.out,List.length_append,flatF_snoc];exact ow6
          · rw [hF'.out,HS2.out];intro h;simp at h)
      · have HS2:Hid (F' = F):=by
          have h:=HST.out
          rw [hF'.out,if_neg ht,List.append_nil] at h
          exact h
        have hno:¬ tag.toList = [] ∧ ¬ tg.toList = tag.toList:=by
          unfold tagP at ht
          rw [Bool.or_eq_true,decide_eq_true_eq,decide_eq_true_eq] at ht
          exact ⟨fun e => ht (Or.inl e),fun e => ht (Or.inr e)⟩
        obtain ⟨hgo,hgo2⟩:=hno
        have hge:tag.toList.isEmpty = false:=by simpa using hgo
        have hg2:(tg.toList == tag.toList) = false:=by simpa using hgo2
        clear ht HST
        go_wp2_with fail
        refine ⟨⟨m + 1,by omega,by go_num,?_,?_,b1⟩,by simp [intOf];omega⟩
        · rw [hF'.out,HS2.out];exact ownsRow_below ow s1
        · rw [hF'.out,HS2.out];exact HNIL.out
    · have hm':m = ds.length:=by omega
      subst hm'
      rw [List.take_of_length_le (by rw [hxl];omega)] at ow hnil
      have hll:(fnd ys tag (xsOf ds)).length <= 100:=by have:=fnd_len ys tag (xsOf ds);omega
      obtain ⟨F,hF⟩:∃ F,Hid (fnd ys tag (xsOf ds) = F):=⟨_,rfl⟩
      rw [hF.out] at ow hnil hll
      have hq:=HK.out
      clear hxl h hy
      cases hf:F with
      | nil =>
        have hv:=hnil hf
        subst hv
        clear ow hnil
        have hmin:min k 0 = 0:=by omega
        go_wp2_with (go_at_call 97;refine (sortNone_any _ _ _ _).mono ?_;rintro e w' ⟨rfl,rfl⟩)
        go_ret2
        rw [hF.out,hf]
        exact ⟨⟨_,rfl,none,0,by simp [srt],by simp [srt],fun i x hx => by simp [srt] at hx⟩,br⟩
      | cons x0 F0 =>
        have hpos:0 < F.length:=by rw [hf];simp
        obtain ⟨g,cap,cur,rfl,hgB,hgl,hh,hc1,hc2,_⟩:=own_parts ow (by omega)
        have HS:=sort_any w.heap.size g cap F wr ow hpos (by omega) br.size
        obtain ⟨mm,hmm⟩:∃ mm:Nat,Hid (min k.toNat F.length = mm):=⟨_,rfl⟩
        have hmin:min k (F.length:Int) = (mm:Int):=by rw [<- hmm.out];omega
        have hmc:mm <= F.length:=by rw [<- hmm.out];omega
        have hmcap:mm <= cap:=by omega
        clear hf hh ow hnil
        go_wp2_with (go_at_call 97;refine HS.mono ?_;rintro e w6 ⟨rfl,hFn,b6⟩)
        go_ret2
        have e:(srt F).take k.toNat = (srt F).take mm:=by
          rw [<- hmm.out]
          by_cases h:k.toNat <= F.length
          · rw [Nat.min_eq_left h]
          · rw [Nat.min_eq_right (by omega),List.take_of_length_le (by rw [srt_len];omega),List.take_of_length_le (by rw [srt_len];omega)]
        rw [hF.out,e]
        exact ⟨⟨_,rfl,hFn.cut mm hmc⟩,br.trans b6⟩
def flatI (ds:List ItD):List Value:=ds.flatMap fun d => [.string d.x.name,.string d.x.tag,d.val]
theorem flatI_len (ds:List ItD):(flatI ds).length = ds.length * 3:=by
  induction ds with
  | nil => rfl
  | cons x l ih => show ([_,_,_] ++ flatI l).length = _;rw [List.length_append,ih,List.length_cons];simp;omega
theorem flatI_snoc (ds:List ItD) (d:ItD):flatI (ds ++ [d]) = flatI ds ++ [.string d.x.name,.string d.x.tag,d.val]:=by simp [flatI]
theorem flatI_cell:∀ (ds:List ItD) (i:Nat) (d:ItD),ds[i]? = some d -> (flatI ds)[i * 3]? = some (.string d.x.name) ∧ (flatI ds)[i * 3 + 1]? = some (.string d.x.tag) ∧ (flatI ds)[i * 3 + 2]? = some d.val
  | [],i,x,h => by simp at h
  | y :: l,0,x,h => by simp at h;subst h;exact ⟨rfl,rfl,rfl⟩
  | y :: l,i + 1,x,h => by
    have ih:=flatI_cell l i x (by simpa using h)
    have e:flatI (y :: l) = .string y.x.name :: .string y.x.tag :: y.val :: flatI l:=rfl
    rw [e,show (i + 1) * 3 = i * 3 + 1 + 1 + 1 from by omega]
    simpa using ih
theorem flatI_one (ds:List ItD):∀ u ∈ flatI ds,u.oneCell' = true:=by
  intro u hu
  unfold flatI at hu
  obtain ⟨d,_,hd⟩:=List.mem_flatMap.1 hu
  simp at hd
  rcases hd with rfl | rfl | rfl <;> rfl
theorem its_own {w:World} {B:Nat} {v:Value} {ds:List ItD} (h:w.ownsRow B 45 3 v ds.length (flatI ds)) (hok:∀ d ∈ ds,d.Ok w):∃ a c,v = .slice a ds.length c ∧ Its w a ds:=by
  by_cases h0:ds.length = 0
  · have hd:ds = []:=List.eq_nil_of_length_eq_zero h0
    subst hd
    obtain ⟨h1,⟨h2,_⟩ | ⟨g,cap,cur,hv,_⟩⟩:=h
    · exact ⟨none,0,h2,fun i d hd => by simp at hd⟩
    · exact ⟨some ⟨g,0,none⟩,cap,hv,fun i d hd => by simp at hd⟩
  · obtain ⟨g,cap,cur,rfl,_,_,_,_,_,_⟩:=own_parts h (by omega)
    refine ⟨some ⟨g,0,none⟩,cap,rfl,fun i d hd => ?_⟩
    obtain ⟨q1,q2,q3⟩:=flatI_cell ds i d hd
    refine ⟨g,0,rfl,?_,?_,?_,hok d (List.mem_of_getElem? hd)⟩
    · rw [Nat.zero_add];exact row_cell h _ _ q1
    · rw [Nat.zero_add];exact row_cell h _ _ q2
    · rw [Nat.zero_add];exact row_cell h _ _ q3
theorem infoIt:(Tryz.prog.info? 45).map (fun i => (i.zero,i.size,i.bytes)) = some (some (.agg #[.string ByteArray.empty,.string ByteArray.empty,.slice none 0 0]),3,56):=by kernel_rfl
end Go.Proofs.YtjmpjfikcgccdaaGreatDoor.Nr
