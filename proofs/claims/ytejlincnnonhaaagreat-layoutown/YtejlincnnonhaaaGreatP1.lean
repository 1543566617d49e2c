import Derived.Test.YtejlincnnonhaaaGreatP0
import Derived.Deep.QuietTactic
namespace Go.Proofs.YtejlincnnonhaaaGreat
open Go.RowKit Go.Proofs.Tryz
open Value renaming int->J,slice->Jj,pointer->JJ
open IntKind renaming i64->Jq
open Option renaming none->O,some->I
open Ending renaming returned->Jz
open Obj renaming cells->JZ
set_option linter.unusedVariables false
set_option maxRecDepth 100000
set_option maxHeartbeats 16000000
section
variable {P:Program} {ops:Array Oper} {md:Region.Mode} {C:World->Prop}
def wpAnyL (P:Program)(md:Region.Mode)(ops:Array Oper)(C:World->Prop)(T:Array Bool->Act->Prop):Nat->Array Bool->Act->Prop
 | 0,listed,a=>T listed a
 | fuel+1,listed,a=>Region.ready md ops listed≠[]/\∀i∈Region.ready md ops listed,qOp P ops C i (wpAnyL P md ops C T fuel (listed.setIfInBounds i true)) a
theorem zx {T:Array Bool->Act->Prop}{Q:Exit->Act->World->Prop}{m:Nat}(hT:∀listed a w,C w->T listed a->wpAny P md ops Q m listed a w):
 ∀(fuel:Nat) (listed:Array Bool) (a:Act) (w:World),C w->wpAnyL P md ops C T fuel listed a->wpAny P md ops Q (fuel+m) listed a w
 | 0,_,_,_,hw,h=>by rw[Nat.zero_add];exact hT _ _ _ hw h
 | fuel+1,_,_,_,hw,h=>by
   rw[show fuel+1+m=(fuel+m)+1 by omega]
   exact⟨fun h0=>absurd h0 h.1,fun i hi=>wpOp_of_qOp hw (fun a' w' AD=>zx hT fuel _ a' w' AD) (h.2 i hi)⟩
def xM (md:Region.Mode)(ops:Array Oper)(listed:Array Bool):Prop:=
 ∀(j:Nat) (oj:Oper),ops[j]?=I oj->listed.getD j true=true->∀e∈oj.after,Region.binds md e=true->listed.getD e.on false=true
theorem xM.set {listed:Array Bool}(h:xM md ops listed){j:Nat}(hj:j∈Region.ready md ops listed):xM md ops (listed.setIfInBounds j true):=by
 intro k ok hk hl e he hb
 obtain⟨_,oj,pA,c8⟩:=mem_ready.1 hj
 by_cases oe:j=k
 . subst oe
   rw[pA] at hk
   cases hk
   exact getD_set_true (c8 e he hb)
 . rw[getD_set_ne true oe] at hl
   exact getD_set_true (h k ok hk hl e he hb)
def JV (md:Region.Mode)(ops:Array Oper)(n:Nat)(listed:Array Bool):Prop:=
 n∈Region.ready md ops listed/\(∀j∈Region.ready md ops listed,j=n)/\∀(j:Nat) (oj:Oper),ops[j]?=I oj->j≠n->listed.getD j true=true
theorem vZ {listed:Array Bool}{i:Nat}(h0:listed.getD i true=false)(h1:listed.getD i false=true):False:=by
 rcases Nat.lt_or_ge i listed.size with h' | h'
 . simp[h'] at h0 h1;rw[h0] at h1;cases h1
 . simp[Array.getElem?_eq_none h'] at h1
theorem wpAnyL_first {n:Nat}{U:Act->Prop}{i:Nat}{oi:Oper}{v:Value}(hi:ops[i]?=I oi)(bE:i≠n)(SR:∀(j:Nat) (o:Oper) cs b,ops[j]?=I o->o.op≠.select cs b)
 (mB:∃(j:Nat) (oj:Oper),ops[j]?=I oj/\∃e∈oj.after,Region.binds md e=true/\e.on=i):
 ∀(fuel:Nat) (listed:Array Bool) (a:Act),xM md ops listed->
  (∀(j:Nat) (oj:Oper),ops[j]?=I oj->j≠i->listed.getD j true=false->(∀e∈oj.after,Region.binds md e=true->e.on≠i)->oi.apart ops oj=true)->
  i∈Region.ready md ops listed->YieldsIn P ops C oi v a->
  wpAnyL P md ops C (fun l a=>JV md ops n l/\U a) fuel (listed.setIfInBounds i true) (a.put oi.dst v)->wpAnyL P md ops C (fun l a=>JV md ops n l/\U a) (fuel+1) listed a:=by
 intro fuel
 induction fuel with
 | zero=>
   intro listed a sj _ hr hy H
   refine⟨fun h=>(by rw[h] at hr;cases hr),fun j hj=> ?_⟩
   by_cases dl:j=i
   . subst dl;exact hy.qOp hi H
   . exfalso
     have Mw:=H.1.2.1 j (ready_mono hj dl)
     subst Mw
     have Rs:=(mem_ready.1 hr).1
     obtain⟨k,ok,bN,e,he,hb,LO⟩:=mB
     by_cases YM:k=j
     . subst YM
       obtain⟨_,oj,pA,c8⟩:=mem_ready.1 hj
       rw[bN] at pA
       cases pA
       exact vZ Rs (LO ▸ c8 e he hb)
     . by_cases wj:k=i
       . subst wj
         obtain⟨_,oj,pA,c8⟩:=mem_ready.1 hr
         rw[bN] at pA
         cases pA
         exact vZ Rs (LO ▸ c8 e he hb)
       . have hl:=H.1.2.2 k ok bN YM
         rw[getD_set_ne true (Ne.symm wj)] at hl
         exact vZ Rs (LO ▸ sj k ok bN hl e he hb)
 | succ fuel ih=>
   intro listed a sj KB hr hy H
   refine⟨fun h=>(by rw[h] at hr;cases hr),fun j hj=> ?_⟩
   by_cases dl:j=i
   . subst dl;exact hy.qOp hi H
   . have h1:=H.2 j (ready_mono hj dl)
     obtain⟨uW,oj,pA,c8⟩:=mem_ready.1 hj
     have Wg:∀e∈oj.after,Region.binds md e=true->e.on≠i:=fun e he hb heq=>vZ (mem_ready.1 hr).1 (heq ▸ c8 e he hb)
     have h2:=qOp_put pA (KB j oj pA dl uW Wg) (fun cs b=>SR i oi cs b hi) (fun cs b=>SR j oj cs b pA) hy h1
     have MA:∀k ok,ops[k]?=I ok->k≠i->(listed.setIfInBounds j true).getD k true=false->
      (∀e∈ok.after,Region.binds md e=true->e.on≠i)->oi.apart ops ok=true:=fun k ok hk wj Rs AE=>by
      refine KB k ok hk wj ?_ AE
      by_cases oe:j=k
      . subst oe;exact uW
      . rw[getD_set_ne true oe] at Rs;exact Rs
     refine qOp_mono (fun a' h3=>ih (listed.setIfInBounds j true) a' (sj.set hj) MA (ready_mono hr (Ne.symm dl)) h3.1 ?_) h2
     rw[Array.setIfInBounds_comm _ _ dl]
     exact h3.2
def Ap (md:Region.Mode)(ops:Array Oper)(n:Nat):Bool:=
 (List.range n).all fun i=>(List.range ops.size).any fun j=>match ops[j]? with
   | some oj=>oj.after.toList.any fun e=>Region.binds md e&&e.on==i
   | none=>false
theorem Aq {n:Nat}(h:Ap md ops n=true)(i:Nat)(hi:i < n):∃(j:Nat) (oj:Oper),ops[j]?=I oj/\∃e∈oj.after,Region.binds md e=true/\e.on=i:=by
 have h1:=List.all_eq_true.1 h i (List.mem_range.2 hi)
 obtain⟨j,_,h2⟩:=List.any_eq_true.1 h1
 split at h2
 . rename_i oj pA
   obtain⟨e,he,h3⟩:=List.any_eq_true.1 h2
   simp only[Bool.and_eq_true,beq_iff_eq] at h3
   exact⟨j,oj,pA,e,by simpa using he,h3.1,h3.2⟩
 . cases h2
theorem wpAnyL_lex {n:Nat}{U:Act->Prop}(hs:Region.noSelect ops=true)(hn:ops.size=n+1)(hd:Ap md ops n=true):∀(l:List Oper) (k:Nat) (listed:Array Bool) (a:Act),k+l.length=n->(∀j,j < l.length->l[j]?=ops[k+j]?)->
 xM md ops listed->(∀j,j < k->listed.getD j true=true)->
 Region.lexFrom md ops (l.length+1) k listed=true->wpQuiet P ops C U l a->wpAnyL P md ops C (fun l a=>JV md ops n l/\U a) l.length listed a
 | [],k,listed,_,hk,_,_,am,hB,h=>by
   have rS:k=n:=hk
   subst rS
   simp only[List.length_nil,Region.lexFrom,Bool.and_eq_true] at hB
   obtain⟨⟨hr,_⟩,he⟩:=hB
   have Ri:Region.ready md ops (listed.setIfInBounds k true)=[]:=by simpa using he
   refine⟨⟨by simpa using hr,fun j hj=> ?_,fun j oj pA a7=>am j ?_⟩,h⟩
   . by_cases oe:j=k
     . exact oe
     . have:=ready_mono hj oe
       rw[Ri] at this
       cases this
   . have:=(Array.getElem?_eq_some_iff.1 pA).1
     omega
 | o::l,k,listed,a,hk,hl,sj,am,hB,h=>by
   have h0:ops[k]?=I o:=by simpa using (hl 0 (by simp)).symm
   have eD:=hB
   unfold Region.lexFrom at eD
   simp only[Bool.and_eq_true] at eD
   obtain⟨⟨hr,hf⟩,tW⟩:=eD
   have KV:k∈Region.ready md ops listed:=by simpa using hr
   have cg:qOp P ops C k (wpQuiet P ops C U l) a:=by unfold qOp;simp only[h0];exact h
   obtain⟨v,hy,hK⟩:=yieldsIn_of_qOp h0 cg
   simp only[List.length_cons] at hk
   refine wpAnyL_first h0 (by omega) (Region.noSelect_spec hs) (Aq hd k (by omega)) l.length listed a sj (Region.free_spec h0 hf) KV hy
    (wpAnyL_lex hs hn hd l (k+1) _ _ (by omega) (fun j hj=> ?_) (sj.set KV) (fun j hj=> ?_) tW hK)
   . have:=hl (j+1) (by simp;omega)
     simpa [Nat.add_assoc,Nat.add_comm 1 j] using this
   . by_cases oe:k=j
     . subst oe
       by_cases hsz:k < listed.size
       . simp[hsz]
       . simp[Nat.le_of_not_lt hsz]
     . rw[getD_set_ne true oe]
       exact am j (by omega)
theorem bQ {id:Nat}{Q:Exit->Act->World->Prop}{a:Act}{w:World}{l:List Oper}(n:Nat)(o:Oper)(ho:l[n]?=I o)(hn:l.length=n+1)(hm:P.follows .mixedOrders=true)(hB:Region.lexB .any l.toArray=true)(hd:Ap .any l.toArray n=true)
 (h:wpQuiet P l.toArray (fun w'=>∃m,w'=w.drewN m) (fun a'=>∀m,∀K:Act->World->Prop,(∀a w,Q .normal a w->K a w)->if Region.wanted o (yielded l.toArray a'.tmps)=true then o.wp P a' (w.drewN m) K Q else K (a'.put o.dst undef) (w.drewN m)) (l.take n) a):(Code.region id l.toArray true).wp P Q a w:=by
 simp only[Region.lexB,Bool.and_eq_true] at hB
 refine wp_region_any hm ?_
 have hsz:l.toArray.size=n+1:=by simpa using hn
 have am:(l.take n).length=n:=by simp;omega
 have H:=wpAnyL_lex (C:=fun w'=>∃m,w'=w.drewN m) (md:=.any) hB.1 hsz hd (l.take n) 0 (Array.replicate l.toArray.size false) a (by omega) (fun j hj=>by rw[am] at hj;simp[List.getElem?_take_of_lt hj]) (fun j oj pA hl=>by
  have hj:=(Array.getElem?_eq_some_iff.1 pA).1
  have:(Array.replicate l.toArray.size false).getD j true=false:=by
   rw[Array.getD_eq_getD_getElem?,Array.getElem?_eq_getElem (by simpa using hj)]
   simp
  rw[this] at hl
  cases hl) (fun j hj=>absurd hj (Nat.not_lt_zero j)) (by rw[am];rw[hsz] at hB;simpa [hsz] using hB.2) h
 have H2:=zx (Q:=Q) (m:=1) (fun listed a' w' hC hT=> ?_) (l.take n).length _ a _ ⟨1,rfl⟩ H
 . rw[am] at H2
   rw[hsz]
   rw[hsz] at H2
   exact H2
 . obtain⟨⟨hr,co,c8⟩,hU⟩:=hT
   obtain⟨m,rfl⟩:=hC
   refine⟨fun h0=>(by rw[h0] at hr;cases hr),fun i hi=> ?_⟩
   have bE:=co i hi
   subst bE
   have hoo:l.toArray[i]?=I o:=by simpa using ho
   unfold wpOp
   simp only[hoo]
   have Wh:Region.ready Region.Mode.any l.toArray (listed.setIfInBounds i true)=[]:=by
    refine List.eq_nil_iff_forall_not_mem.2 fun j hj=> ?_
    obtain⟨uW,oj,pA,_⟩:=mem_ready.1 hj
    by_cases dl:i=j
    . subst dl
      by_cases hs:i < listed.size
      . simp[hs] at uW
      . simp[Nat.le_of_not_lt hs] at uW
    . rw[getD_set_ne true dl,c8 j oj pA (Ne.symm dl)] at uW
      cases uW
   have hL:=hU m (wpAny P .any l.toArray Q 0 (listed.setIfInBounds i true)) (fun a w hq=>⟨Wh,hq⟩)
   split
   . rename_i hw
     rw[if_pos hw] at hL
     exact .inl hL
   . rename_i hw
     rw[if_neg hw] at hL
     exact hL
end
end Go.Proofs.YtejlincnnonhaaaGreat
