import Derived.Test.YtejlincnnonhaaaGreatP4
import Derived.Shelf.SlicesE.Delete
import Derived.Lib.OwnBridge
namespace Go.Proofs.YtejlincnnonhaaaGreat
open Go.RowKit Go.Proofs.Tryz
open Value renaming int->J,slice->Jj,pointer->JJ
open IntKind renaming i64->Jq
open Option renaming none->O,some->I
open Ending renaming returned->Jz
open Obj renaming cells->JZ
set_option linter.unusedVariables false
set_option maxRecDepth 100000
set_option maxHeartbeats 16000000
open Go.RowKit Go.Shelf Go.Lib Go.Sort
def Na:Option (TypeId × Nat)->Value
 | none=>.nilIface
 | some (T,g)=>.iface T (JJ (I ⟨g,0,O⟩))
theorem Nb:OneCell Na:=fun x=>by cases x <;> rfl
def QE:Ren:=⟨fun _=>46,fun | 22=>85 | 23=>70 | n=>n,fun n=>n⟩
theorem Qq:SlLaysE.n45 prog QE:={
 mixed:=by kernel_rfl
 f45 := ⟨"slices.Delete[[]mullion/layout.part,mullion/layout.part]", by decide, func46.trans (congrArg I (by kernel_rfl))⟩
 t0:=underlying0
 a0:=isAgg0
 z0:=sizeOf0
 v0:=zeroValue0
 t3:=underlying3
 a3:=isAgg3
 z3:=sizeOf3
 v3:=zeroValue3
 t4:=underlying4
 a4:=isAgg4
 z4:=sizeOf4
 v4:=zeroValue4
 t22:=underlying85
 a22:=isAgg85
 z22:=sizeOf85
 v22:=zeroValue85
 a23:=isAgg70
 z23:=sizeOf70 }
theorem aB.enc {W:World}{B:Nat}:∀{ts:List Tree} {vs:List Value} {fp:List Nat},aB W B ts vs fp->∃aa:List (Option (TypeId × Nat)),vs=aa.map Na
 | [],vs,fp,h=>⟨[],h.1⟩
 | t::ts,vs,fp,h=>by
   obtain⟨v,vs',f,f',rfl,h2,h3,rfl⟩:=h
   obtain⟨aa,rfl⟩:=aB.enc h3
   obtain⟨g,hv,_⟩:=h2.own
   rcases hv with rfl | rfl
   . exact⟨I (_,g)::aa,rfl⟩
   . exact⟨I (_,g)::aa,rfl⟩
theorem H9 (pg L cap i:Nat)(vs:List Value)(aa:List (Option (TypeId × Nat)))(w:World)(xl:vs=aa.map Na)(h:w.ownsRow 0 70 1 (Jj (I ⟨pg,0,O⟩) L cap) L vs)(hi:i < L):
 Calls prog 46 #[Jj (I ⟨pg,0,O⟩) L cap,J Jq i,J Jq ((i+1:Nat):Int)] w fun e w'=>e=Jz (Jj (I ⟨pg,0,O⟩) (L-1) cap)/\w'.ownsRow 0 70 1 (Jj (I ⟨pg,0,O⟩) (L-1) cap) (L-1) (vs.eraseIdx i)/\But [pg] w w':=by
 subst xl
 obtain⟨g,c,hv,_,am,Rt,tf,hl,hH⟩:=holds_of_ownsRow h (by intro e;cases e)
 cases hv
 obtain⟨i0,AH,_,db,_⟩:=bH kN
 have hsz:aa.toArray.size=L:=by simpa using hl
 have hc:=AnyE.slices_Delete Qq Na Nb O zeroValue70 i0 AH db pg 0 cap i (i+1) aa.toArray w hH (by omega) tf (by omega) (by omega)
 rw[hsz,show L-(i+1-i)=L-1 by omega] at hc
 refine hc.mono ?_
 rintro e w' ⟨rfl,q,rfl⟩
 have hy:(aa.take i++aa.drop (i+1)++List.replicate (i+1-i) O).length=L:=by simp;omega
 refine⟨rfl,?_,?_⟩
 . have:=ownsRow_putRow (enc:=Na) (q:=q) (k:=L-1) h hy (by omega)
   have e1:(aa.take i++aa.drop (i+1)++List.replicate (i+1-i) O).take (L-1)=aa.eraseIdx i:=by
    rw[List.eraseIdx_eq_take_drop_succ,List.take_left' (by simp;omega)]
   rw[e1] at this
   rw[show (aa.map Na).eraseIdx i=(aa.eraseIdx i).map Na by rw[List.eraseIdx_eq_take_drop_succ,List.eraseIdx_eq_take_drop_succ,List.map_append,List.map_take,List.map_drop]]
   exact this
 . have hb:Below pg w (putRow Na (Sort.ahead w q) pg 0 (aa.take i++aa.drop (i+1)++List.replicate (i+1-i) O).toArray):=below_putRow (Below.refl _ _) (Nat.le_refl _)
   refine⟨hb.os,hb.tape,hb.output,hb.size,fun k hk hn=> ?_⟩
   have a7:k≠pg:=by simpa using hn
   simp[putRow,mapBlock,Sort.ahead,Array.getElem?_modify,Ne.symm a7]
end Go.Proofs.YtejlincnnonhaaaGreat
