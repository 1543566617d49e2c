import Derived.Test.YtejlincnnonhaaaGreatP10
import Derived.Test.YtejlincnnonhaaaGreatP11
namespace Go.Proofs.YtejlincnnonhaaaGreat
open Go.RowKit Go.Proofs.Tryz
open Value renaming int->J,slice->Jj,pointer->JJ
open IntKind renaming i64->Jq
open Option renaming none->O,some->I
open Ending renaming returned->Jz
open Obj renaming cells->JZ
set_option linter.unusedVariables false
set_option maxRecDepth 100000
set_option maxHeartbeats 16000000
open Go.RowKit Go.Lib
def tJ (g i:Nat)(b:Box)(k:Int)(pg L:Nat)(vs us:List Value)(root:Value)(w:World)(e:Ending)(w':World):Prop:=
 e=Jz root/\∃g' c',aX w' g b k (Jj (I ⟨g',0,O⟩) (L-1+us.length) c')/\w'.ownsRow 0 70 1 (Jj (I ⟨g',0,O⟩) (L-1+us.length) c') (L-1+us.length) (vs.take i++(us++vs.drop (i+1)))/\(g'=pg\/w.heap.size<=g')/\But [g,pg] w w'
theorem G6 (root:Value)(wg wo wn wc g i:Nat)(b:Box)(k:Int)(pg L cap:Nat)(vs:List Value)(s:Tree)(v:Value)(us:List Value)(w:World)(Q0:w.cell? ⟨wg,wo,O⟩=I (JJ (I ⟨g,0,O⟩)))(kr:w.cell? ⟨wg,wo+1,O⟩=I (J Jq i))(Fo:1<=wn)(hS:aX w g b k (Jj (I ⟨pg,0,O⟩) L cap))(hR:w.ownsRow 0 70 1 (Jj (I ⟨pg,0,O⟩) L cap) L vs)(hi:i < L)(hL:L<=1000)(hF:FV w k s v us)(yo:g≠pg)(AE:s.bY k=false):
 Calls prog 42 #[root,Jj (I ⟨wg,wo,O⟩) wn wc,v] w (tJ g i b k pg L vs us root w):=by
 have hu:=hF.no AE
 subst hu
 obtain⟨T,gi,Fs,Fa,HP⟩:=hF.part
 have hv:=HP.val
 subst hv
 have q4:w.cell? ⟨g,4,O⟩=I (J Jq k):=ae hS 4
 have q5:w.cell? ⟨g,5,O⟩=I (Jj (I ⟨pg,0,O⟩) L cap):=ae hS 5
 have m1:=HP.mA
 have m2:=HP.fA
 have m3:=HP.nA
 have iu:Hid (∀m,Calls prog Fa #[JJ (I ⟨gi,0,O⟩),J Jq k] ((w.alloc (JZ #[JJ (I ⟨g,0,O⟩),J Jq i] 88)).drewN m) fun e w'=>e=Jz (JJ O)/\(w.alloc (JZ #[JJ (I ⟨g,0,O⟩),J Jq i] 88)).drewN m=w'):=fun m=>by
  have sX:=HP.cA k _ (below_drewN ((Below.refl _ _).alloc (Nat.le_refl _) (JZ #[JJ (I ⟨g,0,O⟩),J Jq i] 88)) m)
  rw[AE] at sX
  exact sX
 obtain⟨cur,hg,a1,a2,a3,a4,a5⟩:=kM hR
 obtain⟨old,hold⟩:∃old,w.cell? ⟨pg,i,O⟩=I old:=by
  rw[ae hg]
  exact⟨_,Array.getElem?_eq_getElem (by omega)⟩
 have A6:w.frozen? ⟨pg,i,O⟩=false:=ai hg i
 have HE:Hid (∀X,Below w.heap.size w X->tJ g i b k pg L vs [.iface T (JJ (I ⟨gi,0,O⟩))] root w (Jz root) (X.setCell ⟨pg,i,O⟩ (.iface T (JJ (I ⟨gi,0,O⟩))))):=by
  intro X hX
  have cg:=(World.ownsRow.stored (own_below hR hX) i (.iface T (JJ (I ⟨gi,0,O⟩)))).1
  have cF:vs.set i (.iface T (JJ (I ⟨gi,0,O⟩)))=vs.take i++([.iface T (JJ (I ⟨gi,0,O⟩))]++vs.drop (i+1)):=by
   rw[List.set_eq_take_append_cons_drop,if_pos (by omega)]
   rfl
  rw[cF] at cg
  refine⟨rfl,pg,cap,?_,?_,.inl rfl,?_⟩
  . rw[show L-1+[Value.iface T (JJ (I ⟨gi,0,O⟩))].length=L by show L-1+1=L;omega]
    exact (Below.heap_setCell _ _ _ _ yo).trans (hS.below hX)
  . rw[show L-1+[Value.iface T (JJ (I ⟨gi,0,O⟩))].length=L by show L-1+1=L;omega]
    exact cg
  . have h1:But [g,pg] w X:=⟨hX.os,hX.tape,hX.output,hX.size,fun q hq _=>hX.block q hq⟩
    exact h1.trans ((But.grown (grownBy_set X pg i _)).mono (by simp))
 have q4a:∀o,(w.alloc o).cell? ⟨g,4,O⟩=I (J Jq k):=fun o=>cell?_alloc_some o q4
 have q5a:∀o,(w.alloc o).cell? ⟨g,5,O⟩=I (Jj (I ⟨pg,0,O⟩) L cap):=fun o=>cell?_alloc_some o q5
 have holda:∀o,(w.alloc o).cell? ⟨pg,i,O⟩=I old:=fun o=>cell?_alloc_some o hold
 have hfza:∀o,(w.alloc o).frozen? ⟨pg,i,O⟩=false:=fun o=>by
  rw[World.frozen?_of_block (w':=w.alloc o) (w:=w) (a:=⟨pg,i,O⟩) (((Below.refl _ _).alloc (Nat.le_refl _) o).block pg (lt_of_block hg))]
  exact A6
 clear HP hF hS hR AE yo hg a1 a2 a3 a4 a5
 go_enter func42,ntmps42
 go_wp2_with fail
 refine wp_region_quiet_lit (by kernel_rfl) (by kernel_rfl) ?_
 repeat (quiet_step ((exact Calls.quiet_of_same ((iu.out _).mono fun e w' h=>⟨h.1,h.2.symm⟩))))
 refine wpQuiet_nil ?_
 intro _ AD
 obtain⟨nq,Ma⟩:=AD
 subst Ma
 go_wp2
 go_region
 go_wp2
 go_ret
 exact HE.out _ (Below.drew (below_drewN ((Below.refl _ _).alloc (Nat.le_refl _) _) nq))
theorem wQ (t:Tree)(hz:t.size<=500):(ag t).ks.length<=500:=by
 cases t with
 | leaf b p=>exact Nat.zero_le _
 | split b k ts=>
   show (nodesOf ts).length<=500
   change 1+sizes ts<=500 at hz
   have:=aI ts
   rw[ax]
   omega
theorem EM {l:List aj}{t t1:Tree}{k z n id:Int}{bf:Bool}(hU:wU l t t1 k z n id bf)(sa:Option Addr)(sn sc:Nat)(f:List Nat)(w:World)(ab:(ag t1).In w (Jj sa sn sc) f):
 Calls prog 62 #[J Jq k,.agg (aC (ag t1) (Jj sa sn sc)),.agg #[J Jq 1,J Jq (dh t k n).w,J Jq (dh t k n).h,J Jq id,Jj O 0 0],.bool bf] w fun e w'=>∃ta tn tc fp',e=Jz (.agg (aC (ag (eF k bf t1 (.leaf (dh t k n) id))) (Jj ta tn tc)))/\(ag (eF k bf t1 (.leaf (dh t k n) id))).In w' (Jj ta tn tc) fp'/\Below w.heap.size w w':=by
 have hB:=hU.beside
 have hz:=lay_size hU.lay
 have kl:=wQ t1 (by rw[hU.z1];omega)
 have r7:=t1.aF hU.s1
 have gn:=t.aF hU.lay.sound
 have ck:=hU.low
 have xp:=nK t k n hU.kind
 have bj:=hU.box1
 have Hj:(Node.mk 1 (dh t k n).w (dh t k n).h id []).In w (Jj O 0 0) []:=⟨[],[],World.ownsRow_nil _ _ _ _,⟨rfl,rfl⟩,rfl⟩
 have Br:ag (.leaf (dh t k n) id)=.mk 1 (dh t k n).w (dh t k n).h id []:=rfl
 rw[<- bV,<- bW] at r7
 have key:∀(N:Node),N=ag (eF k bf t1 (.leaf (dh t k n) id))->∀e w',rU N (f++[]) w e w'->∃ta tn tc fp',e=Jz (.agg (aC (ag (eF k bf t1 (.leaf (dh t k n) id))) (Jj ta tn tc)))/\(ag (eF k bf t1 (.leaf (dh t k n) id))).In w' (Jj ta tn tc) fp'/\Below w.heap.size w w':=by
  rintro N rfl e w' ⟨ta,tn,tc,fp',h1,h2,_,h3⟩
  exact⟨ta,tn,tc,fp',h1,h2,h3⟩
 have aE:=hB.node
 rcases hU.kind with hk | hk
 . subst hk
   have hb:dh t 2 n=⟨0,0,n,t.box.h⟩:=xp
   have h1h:t1.box.h=t.box.h:=by rw[bj];rfl
   have nb:(0<=(dh t 2 n).w/\(dh t 2 n).w<=1000)/\(0<=(dh t 2 n).h/\(dh t 2 n).h<=1000):=by
    rw[hb]
    show (0<=n/\n<=1000)/\(0<=t.box.h/\t.box.h<=1000)
    omega
   cases bf with
   | false=>
     refine (xI (ag t1) (.mk 1 (dh t 2 n).w (dh t 2 n).h id []) sa sn sc O 0 0 f [] w ab Hj kl (by simp[Node.ks]) (by omega) nb).mono (key _ ?_)
     rw[aE,jL 2 (.inl rfl),<- Br,jL 2 (.inl rfl),bV,bW,<- eP]
     rfl
   | true=>
     refine (Cc (ag t1) (.mk 1 (dh t 2 n).w (dh t 2 n).h id []) sa sn sc O 0 0 f [] w ab Hj kl (by simp[Node.ks]) (by omega) nb).mono (key _ ?_)
     rw[aE,jL 2 (.inl rfl),<- Br,jL 2 (.inl rfl),bV,bW,bV,<- eP]
     show Node.mk 2 ((dh t 2 n).w+t1.box.w+1) (dh t 2 n).h 0 _=Node.mk 2 (t1.box.w+(dh t 2 n).w+1) t1.box.h 0 _
     rw[h1h,show (dh t 2 n).h=t.box.h by rw[hb],Int.add_comm (dh t 2 n).w t1.box.w]
     rfl
 . subst hk
   have hb:dh t 3 n=⟨0,0,t.box.w,n⟩:=xp
   have h1w:t1.box.w=t.box.w:=by rw[bj];rfl
   have nb:(0<=(dh t 3 n).w/\(dh t 3 n).w<=1000)/\(0<=(dh t 3 n).h/\(dh t 3 n).h<=1000):=by
    rw[hb]
    show (0<=t.box.w/\t.box.w<=1000)/\(0<=n/\n<=1000)
    omega
   cases bf with
   | false=>
     refine (xJ (ag t1) (.mk 1 (dh t 3 n).w (dh t 3 n).h id []) sa sn sc O 0 0 f [] w ab Hj kl (by simp[Node.ks]) (by omega) nb).mono (key _ ?_)
     rw[aE,jL 3 (.inr rfl),<- Br,jL 3 (.inr rfl),bV,bW,<- eP]
     rfl
   | true=>
     refine (Ce (ag t1) (.mk 1 (dh t 3 n).w (dh t 3 n).h id []) sa sn sc O 0 0 f [] w ab Hj kl (by simp[Node.ks]) (by omega) nb).mono (key _ ?_)
     rw[aE,jL 3 (.inr rfl),<- Br,jL 3 (.inr rfl),bV,bW,bW,<- eP]
     show Node.mk 3 (dh t 3 n).w ((dh t 3 n).h+t1.box.h+1) 0 _=Node.mk 3 t1.box.w (t1.box.h+(dh t 3 n).h+1) 0 _
     rw[h1w,show (dh t 3 n).w=t.box.w by rw[hb],Int.add_comm (dh t 3 n).h t1.box.h]
     rfl
def jT (w:World)(B:Nat)(A:Nat->Prop)(v:Value)(ns:List Node):Prop:=∃fs,kV w B v ns fs/\∀y∈fs,A y
theorem jT.nil (w:World)(B:Nat)(A:Nat->Prop):jT w B A (Jj O 0 0) []:=⟨[],kV.nil _ _,fun y hy=>by cases hy⟩
theorem jT.below {w w':World}{B:Nat}{A:Nat->Prop}{v:Value}{ns:List Node}(h:jT w B A v ns)(hb:Below w.heap.size w w'):jT w' B A v ns:=by
 obtain⟨fs,h1,h2⟩:=h
 exact⟨fs,h1.below hb,h2⟩
theorem jT.sl {w:World}{B:Nat}{A:Nat->Prop}{v:Value}{ns:List Node}(h:jT w B A v ns):∃a c,v=Jj a ns.length c:=by
 obtain⟨fs,⟨cs,h1,_⟩,_⟩:=h
 exact dG h1
theorem jT.lt {w:World}{B:Nat}{A:Nat->Prop}{v:Value}{ns:List Node}(h:jT w B A v ns):∀g,v.ownBlock=I g->B<=g/\g < w.heap.size:=by
 obtain⟨fs,h1,_⟩:=h
 exact h1.lt
theorem jT.one {wr:World}{B g L cap:Nat}{A:Nat->Prop}{ns:List Node}(h:jT wr B A (Jj (I ⟨g,0,O⟩) L cap) ns)(hA:∀y,wr.heap.size<=y->A y)(i:Nat)(n:Node)(hi:ns[i]?=I n):
 ∃sa sn sc f,n.In wr (Jj sa sn sc) f/\(∀q∈f,q < wr.heap.size/\A q)/\kG wr g (i*5) n (Jj sa sn sc)/\(∀o,wr.frozen? ⟨g,o,O⟩=false)/\
  ∀X n' sl' f',Below wr.heap.size wr X->n'.In X sl' f'->(∀q∈f',q∈f\/wr.heap.size<=q)->jT (gq X g (i*5) n' sl') B A (Jj (I ⟨g,0,O⟩) L cap) (ns.set i n'):=by
 have am:=(h.lt g (by simp[Value.ownBlock])).2
 obtain⟨fs,⟨cs,h1,h2,h3⟩,h4⟩:=h
 have hL:L=ns.length:=by
  obtain⟨a,c,e⟩:=dG h1
  cases e
  rfl
 subst hL
 have Kc:g ∉ fs:=h3 g (by simp[Value.ownBlock])
 obtain⟨sl,f,e1,e2,e3⟩:=aY.one h2 i n hi
 have vQ:=(List.getElem?_eq_some_iff.1 hi).1
 obtain⟨sl2,f2,g1,g2,g3⟩:=h2.get i n hi
 have hcell:∀o,o < 5->wr.cell? ⟨g,i*5+o,O⟩=(fQ n sl2)[o]?:=fun o ho=>by
  rw[World.ownsRow.cellAt h1 (i*5+o) (by omega),g3 o ho]
 obtain⟨ad,c,av⟩:=g1.sl
 subst av
 refine⟨ad,_,c,f2,g1,fun y hy=>⟨g1.lt y hy,h4 y (g2 y hy)⟩,⟨hcell 0 (by omega),hcell 1 (by omega),hcell 2 (by omega),hcell 3 (by omega),hcell 4 (by omega)⟩,fun o=>World.ownsRow.frozenAt h1 o,fun X n' sl' f' hb hn hf=> ?_⟩
 have Mk:∀q∈f',q≠g:=fun q hq e=>by
  rcases hf q hq with h8 | h8
  . exact Kc (e ▸ g2 q h8)
  . omega
 have eA:∀q∈fs,(gq X g (i*5) n' sl').heap[q]?=wr.heap[q]?:=fun q hq=>by
  have hqg:q≠g:=fun e=>Kc (e ▸ hq)
  rw[dO _ _ _ _ _ q hqg]
  exact hb.block q (h2.lt q hq)
 obtain⟨fp',k1,k2⟩:=e3 _ n' sl' f' eA (hn.keep fun q hq=>dO _ _ _ _ _ q (Mk q hq))
 refine⟨fp',⟨_,?_,k1,fun g' me bE=> ?_⟩,fun y hy=> ?_⟩
 . rw[List.length_set]
   exact uf (dE h1 fun q hq=>hb.block q (iD h1 q hq)) (i*5) n' sl'
 . have:g'=g:=by simpa [Value.ownBlock,eq_comm] using me
   subst this
   rcases k2 g' bE with h6 | h6
   . exact Kc h6
   . exact Mk g' h6 rfl
 . rcases k2 y hy with h6 | h6
   . exact h4 y h6
   . rcases hf y h6 with h7 | h7
     . exact h4 y (g2 y h7)
     . exact hA y h7
theorem uu {ops:Array Oper}{o:Oper}{a:Act}{K:Act->World->Prop}{Q:Exit->Act->World->Prop}{E:Prop}(w:World)(e9:o.guard=O)(s x:Operand)
 (ho:o.op=.call { callee:=.builtin .append,args:=#[s,x],argTypes:=#[51,51] })
 (B:Nat) (v:Value) (m:Nat) (cs:List Value) (n:Node) (sa:Option Addr) (sn sc:Nat) (hs:a.eval s=v) (bm:w.ownsRow B 53 5 v m cs) (hx:a.eval x=Jj (I ⟨w.heap.size,0,O⟩) 1 1) (hlen:m<=1000000) (hB:B<=w.heap.size)
 (h:∀v' w',(∀cs,(w.alloc (.cells (aC n (Jj sa sn sc)) 53)).ownsRow B 53 5 v m cs->w'.ownsRow B 53 5 v' (m+1) (cs++fQ n (Jj sa sn sc)))->(w.alloc (.cells (aC n (Jj sa sn sc)) 53)).grownBy w' v.ownBlock->(v'.ownBlock=v.ownBlock\/∃g,v'.ownBlock=I g/\w.heap.size<=g)->(∃ra rc,v'=Jj ra (m+1) rc)->K (a.put o.dst v') w'):if Region.wanted o (yielded ops a.tmps)=true then Oper.wp prog o a (w.alloc (.cells (aC n (Jj sa sn sc)) 53)) K Q else E:=by
 have hw:Region.wanted o (yielded ops a.tmps)=true:=by simp[Region.wanted,e9]
 rw[if_pos hw]
 obtain⟨i0,hi,eh,db,cJ⟩:=bH eX
 obtain⟨v',w',hr,h2,h3,h4,h5⟩:=run_append_own_at (P:=prog) (w.alloc (.cells (aC n (Jj sa sn sc)) 53)) B 51 o.type 53 i0 _ 5 56 underlying51 hi eh db cJ rfl (by decide) v m cs (World.ownsRow.alloc bm _) ⟨w.heap.size,0,O⟩ 1 1 (fQ n (Jj sa sn sc)) rfl
  (fun j u hu=>by
    rw[show (⟨w.heap.size,0,O⟩:Addr).add j=⟨w.heap.size,j,O⟩ by unfold Addr.add;split <;> simp_all,dW,<- oQ]
    exact hu)
  (fun u hu=>by
    have ll:u∈[Value.int .i64 n.k,J Jq n.w,J Jq n.h,J Jq n.i,Jj sa sn sc]:=hu
    simp only[List.mem_cons,List.not_mem_nil,or_false] at ll
    rcases ll with rfl | rfl | rfl | rfl | rfl <;> rfl)
  (by unfold maxLen;omega) (by omega) (by have:(w.alloc (.cells (aC n (Jj sa sn sc)) 53)).heap.size=w.heap.size+1:=by simp
                                          omega)
 unfold Oper.wp execOp
 simp only[ho,resolve,invoke,builtin,Sem.run_bind,Sem.run_pure,Result.andThen_ok,List.map_toArray,List.map_cons,List.map_nil,hs,hx,hr]
 refine h v' w' (fun cs' Cx=> ?_) h3 ?_ (dG h2)
 . have:=Ba (World.ownsRow.alloc bm _) Cx
   subst this
   exact h2
 . rcases h5 with h5 | h5
   . exact .inl h5
   . exact .inr ⟨_,h5,by simp⟩
theorem jT.snoc {w W w':World}{B:Nat}{A:Nat->Prop}{v v':Value}{ns:List Node}(h:jT w B A v ns)(hW:Below w.heap.size w W){n:Node}{sl:Value}{f:List Nat}(hn:n.In w sl f)(hd:∀g,v.ownBlock=I g->g ∉ f)(RB:∀y∈f,A y)(h1:∀cs,W.ownsRow B 53 5 v ns.length cs->w'.ownsRow B 53 5 v' (ns.length+1) (cs++fQ n sl))(h2:W.grownBy w' v.ownBlock)(h3:v'.ownBlock=v.ownBlock\/∃g,v'.ownBlock=I g/\w.heap.size<=g)(hB:B<=w.heap.size):jT w' B A v' (ns++[n])/\Below B w w':=by
 have am:=h.lt
 obtain⟨fs,k1,k2⟩:=h
 refine⟨⟨fs++f,k1.grow hW (ms:=[n]) ⟨sl,[],f,[],by simp,hn,⟨rfl,rfl⟩,by simp⟩ hd h1 h2 h3,fun y hy=> ?_⟩,?_⟩
 . rcases List.mem_append.1 hy with h | h
   . exact k2 y h
   . exact RB y h
 . exact⟨h2.os.trans hW.os,h2.tape.trans hW.tape,h2.output.trans hW.output,Nat.le_trans hW.size h2.size,fun q hq=>(h2.block q (by have:=hW.size;omega) fun e=>by have:=(am q e.symm).1;omega).trans (hW.block q (by omega))⟩
theorem aB.QC {W:World}{B:Nat}:∀{ts:List Tree} {vs:List Value} {fp:List Nat},aB W B ts vs fp->fp.Nodup->∀(i:Nat) t,ts[i]?=I t->
 ∃v f,vs[i]?=I v/\t.At W B v f/\f.Nodup/\(∀x∈f,x∈fp)/\∀W' t',(∀q∈fp,q ∉ f->W'.heap[q]?=W.heap[q]?)->t'.At W' B v f->aB W' B (ts.set i t') vs fp
 | [],vs,fp,h,_,i,t,hi=>by cases hi
 | t::ts,vs,fp,h,hn,0,t',hi=>by
   obtain⟨v,vs',f,f',rfl,h2,h3,rfl⟩:=h
   cases hi
   obtain⟨n1,n2,n3⟩:=List.nodup_append.1 hn
   refine⟨v,f,rfl,h2,n1,fun x hx=>List.mem_append_left _ hx,fun W' t' hb ht=>⟨v,vs',f,f',rfl,ht,h3.keep fun g hg=>hb g (List.mem_append_right _ hg) fun hf=>n3 g hf g hg rfl,rfl⟩⟩
 | t::ts,vs,fp,h,hn,i+1,t',hi=>by
   obtain⟨v,vs',f,f',rfl,h2,h3,rfl⟩:=h
   obtain⟨n1,n2,n3⟩:=List.nodup_append.1 hn
   obtain⟨v1,f1,e1,e2,e3,e4,e5⟩:=aB.QC h3 n2 i t' hi
   exact⟨v1,f1,e1,e2,e3,fun x hx=>List.mem_append_right _ (e4 x hx),fun W' t'' hb ht=>⟨v,vs',f,f',rfl,h2.keep fun g hg=>hb g (List.mem_append_left _ hg) fun hf=>n3 g hg g (e4 g hf) rfl,e5 W' t'' (fun q hq Pp=>hb q (List.mem_append_right _ hq) Pp) ht,rfl⟩⟩
def Om (W:World)(k:Int)(g:Nat):Prop:=∃k',W.cell? ⟨g,4,O⟩=I (J Jq k')/\k'≠k
structure FY (W:World)(k:Int)(t:Tree)(v:Value)(fp:List Nat)(st:List (Nat × Nat))(qs:List Nat)(a:Nat)(j g:Nat)(b:Box)(ts:List Tree)(f':List Nat):Prop where
 at_:st[j]?=I (g,a)
 ahead:∀(i:Nat) (s:Nat × Nat),i < j->st[i]?=I s->Om W k s.1
 kind:W.cell? ⟨g,4,O⟩=I (J Jq k)
 sub:t.cO qs=I (.split b k ts)
 here:(Tree.split b k ts).At W 0 (dA g) f'
 nd:f'.Nodup
 inn:∀q∈f',q∈fp
 put:∀W' s',(∀q∈fp,q ∉ f'->W'.heap[q]?=W.heap[q]?)->s'.At W' 0 (dA g) f'->(t.putAt qs s').At W' 0 v fp
theorem EC {W:World}{k:Int}:∀(ps:List Nat) {t:Tree} {v v':Value} {fp:List Nat} {st:List (Nat × Nat)},t.At W 0 v fp->fp.Nodup->Reach W v ps v' st->
 (iT k t ps=O->∀(i:Nat) (s:Nat × Nat),st[i]?=I s->Om W k s.1)/\(∀qs a,iT k t ps=I (qs,a)->∃j g b ts f',FY W k t v fp st qs a j g b ts f')
 | [],t,v,v',fp,st,h,aE,hr=>by
   obtain⟨_,rfl⟩:=hr
   exact⟨fun _ i s hi=>by simp at hi,fun qs a hn=>by simp[iT] at hn⟩
 | i::ps,.leaf b p,v,v',fp,st,h,aE,hr=>by
   obtain⟨g,pg,n,cap,vi,st',rfl,_⟩:=hr
   obtain⟨g',e,_⟩:=h
   cases e
 | i::ps,.split b k' ts,v,v',fp,st,h,aE,hr=>by
   have bq:=h
   obtain⟨g,pg,n,cap,vi,st',rfl,h1,h2,h3,h4,rfl⟩:=hr
   obtain⟨g',sl,vs,fs,e,k2,k3,k4,rfl⟩:=h
   cases e
   have av:sl=Jj (I ⟨pg,0,O⟩) n cap:=by
    have:=ae k2 5
    rw[h1] at this
    exact (Option.some.inj this).symm
   subst av
   have Hh:vs.length=n:=by
    rcases k3.2 with ⟨e,_⟩ | ⟨g0,cap0,cur,e,_⟩
    . cases e
    . injection e with _ e2 _
      exact e2.symm
   have dk:=k4.length
   obtain⟨u,hu⟩:∃u,ts[i]?=I u:=⟨_,List.getElem?_eq_getElem (by omega)⟩
   obtain⟨n1,n2⟩:=List.nodup_cons.1 aE
   obtain⟨n3,n4,n5⟩:=List.nodup_append.1 n2
   obtain⟨v1,f1,e1,e2,e3,e4,e5⟩:=aB.QC k4 n4 i u hu
   have Ax:vi=v1:=by
    have ZX:=k3
    rw[Hh] at ZX
    have:=World.ownsRow.cellAt ZX i (by omega)
    rw[h3,e1] at this
    exact Option.some.inj this
   subst Ax
   have ZY:W.cell? ⟨g,4,O⟩=I (J Jq k'):=ae k2 4
   obtain⟨ih1,ih2⟩:=EC (k:=k) ps e2 e3 h4
   cases hn:iT k u ps with
   | some r=>
     obtain⟨qs',a'⟩:=r
     have Uk:iT k (.split b k' ts) (i::ps)=I (i::qs',a'):=by simp only[iT,hu,hn]
     rw[Uk]
     refine⟨fun e=>(by cases e),fun qs a e=> ?_⟩
     cases e
     obtain⟨j,gg,bb,tt,f',hN⟩:=ih2 _ _ hn
     refine⟨j,gg,bb,tt,f',?_,?_,hN.kind,?_,hN.here,hN.nd,fun q hq=>List.mem_cons_of_mem _ (List.mem_append_right _ (e4 q (hN.inn q hq))),fun W' s' hb ej=> ?_⟩
     . rw[List.getElem?_append_left (List.getElem?_eq_some_iff.1 hN.at_).1]
       exact hN.at_
     . intro i2 s rA hs
       have pZ:=(List.getElem?_eq_some_iff.1 hN.at_).1
       rw[List.getElem?_append_left (by omega)] at hs
       exact hN.ahead i2 s rA hs
     . simp only[Tree.cO,hu]
       exact hN.sub
     . have l6:(Tree.split b k' ts).putAt (i::qs') s'=.split b k' (ts.set i (u.putAt qs' s')):=by simp[Tree.putAt,hu]
       rw[l6]
       refine⟨g,_,vs,fs,rfl,?_,?_,e5 W' _ (fun q hq Pp=>hb q (List.mem_cons_of_mem _ (List.mem_append_right _ hq)) fun e=>Pp (hN.inn q e)) (hN.put W' s' (fun q hq Pp=>hb q (List.mem_cons_of_mem _ (List.mem_append_right _ (e4 q hq))) Pp) ej),rfl⟩
       . exact (hb g List.mem_cons_self fun e=>n1 (List.mem_append_right _ (e4 g (hN.inn g e)))).trans k2
       . exact dU k3 fun q hq=>hb q (List.mem_cons_of_mem _ (List.mem_append_left _ hq)) fun e=>n5 q hq q (e4 q (hN.inn q e)) rfl
   | none=>
     have ih:=ih1 hn
     by_cases l8:k'=k
     . subst l8
       have Uk:iT k' (.split b k' ts) (i::ps)=I ([],i):=by simp only[iT,hu,hn,if_true]
       rw[Uk]
       refine⟨fun e=>(by cases e),fun qs a e=> ?_⟩
       cases e
       refine⟨st'.length,g,b,ts,_,by simp,?_,ZY,rfl,bq,aE,fun q hq=>hq,fun W' s' _ ej=>ej⟩
       intro i2 s rA hs
       rw[List.getElem?_append_left rA] at hs
       exact ih i2 s hs
     . have Uk:iT k (.split b k' ts) (i::ps)=O:=by simp only[iT,hu,hn,if_neg l8]
       rw[Uk]
       refine⟨fun _ i2 s hs=> ?_,fun qs a e=>(by cases e)⟩
       by_cases rA:i2 < st'.length
       . rw[List.getElem?_append_left rA] at hs
         exact ih i2 s hs
       . rw[List.getElem?_append_right (by omega)] at hs
         have:i2-st'.length=0:=by
          have:=(List.getElem?_eq_some_iff.1 hs).1
          simp at this
          omega
         rw[this] at hs
         cases hs
         exact⟨k',ZY,l8⟩
end Go.Proofs.YtejlincnnonhaaaGreat
