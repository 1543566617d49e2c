import Derived.Test.YtejlincnnonhaaaGreatP12
namespace Go.Proofs.YtejlincnnonhaaaGreat
open Go.RowKit Go.Proofs.Tryz
open Value renaming int->J,slice->Jj,pointer->JJ
open IntKind renaming i64->Jq
open Option renaming none->O,some->I
open Ending renaming returned->Jz
open Obj renaming cells->JZ
set_option linter.unusedVariables false
set_option maxRecDepth 100000
set_option maxHeartbeats 16000000
def dH (ts us:List Tree)(a i:Nat):List Tree:=if i<=a then ts.take i else us.take (i-1)
def gQ (k:Int)(rs:List Tree):List Tree:=rs.flatMap (iw k)
theorem zI (k:Int)(rs:List Tree)(j:Nat)(r:Tree)(h:rs[j]?=I r):gQ k (rs.take (j+1))=gQ k (rs.take j)++iw k r:=by
 unfold gQ
 rw[List.take_add_one,h]
 simp
def OkB (fp:List Nat)(w:World)(y:Nat):Prop:=(y∈fp\/w.heap.size<=y)/\y≠w.heap.size+1
theorem o8 {fp:List Nat}{w:World}{n:Nat}(h:w.heap.size+2<=n):∀y,n<=y->OkB fp w y:=fun y hy=>⟨.inr (by omega),by omega⟩
def Made (k wd ht:Int)(A:Nat->Prop)(wl:World)(ns:List Node)(wx:World):Prop:=∃sa sn sc,wx.heap[wl.heap.size]?=I (JZ #[J Jq k,J Jq wd,J Jq ht,J Jq 0,Jj sa sn sc] 53 (0,0))/\(∃fs,kV wx (wl.heap.size+1) (Jj sa sn sc) ns fs/\∀y∈fs,y≠wl.heap.size/\A y)/\Below wl.heap.size wl wx
structure ML (q:Int)(k:Int)(ts us:List Tree)(a:Nat):Prop where
 next:∀(i:Nat) t,ts[i]?=I t->i≠a->(a≠0\/2<=i)->dH ts us a (i+1)=dH ts us a i++[t]
 other:∀(i:Nat) bl p,ts[i]?=I (.leaf bl p)->i≠a->p≠q
 here:∀t,ts[a]?=I t->∃bl x u,t=.leaf bl q/\Str x k (bl.ext k+1) u/\(1<=bl.ext k/\bl.ext k<=1000)/\((0 < a/\(dH ts us a a)[a-1]?=I x/\(dH ts us a a).length=a/\dH ts us a (a+1)=(dH ts us a a).set (a-1) u)\/(a=0/\2<=ts.length/\ts[1]?=I x/\dH ts us a 2=[u]))
theorem JA (q k:Int)(ts:List Tree)(h:q ∉ kF ts):ML q k ts ts ts.length:=by
 have hk:∀i,i<=ts.length->dH ts ts ts.length i=ts.take i:=fun i hi=>if_pos hi
 refine⟨fun i t hi _ _=> ?_,fun i bl p hi _ e=>h (oJ q ts i _ hi (by simp[Tree.idl,e])),fun t ht=> ?_⟩
 . have am:=(List.getElem?_eq_some_iff.1 hi).1
   rw[hk i (by omega),hk (i+1) (by omega),List.take_add_one,hi]
   rfl
 . rw[List.getElem?_eq_none (Nat.le_refl _)] at ht
   cases ht
theorem AQ {B:Nat}{W0 W:World}(h:Below B W0 W)(g o:Nat)(hg:B<=g)(n:Node)(sl:Value):Below B W0 (gq W g o n sl):=by
 have hs:∀(X:World) (a:Addr) (v:Value),B<=a.block->Below B W0 X->Below B W0 (X.setCell a v):=fun X a v ha hX=>⟨hX.os,hX.tape,hX.output,by simpa using hX.size,fun q hq=>(heap_setCell_other X a q v (by omega)).trans (hX.block q hq)⟩
 unfold gq
 exact hs _ _ _ hg (hs _ _ _ hg (hs _ _ _ hg (hs _ _ _ hg (hs _ _ _ hg h))))
theorem Ai (b:Box)(k q:Int)(ts us:List Tree)(a gk L cap:Nat)(fp:List Nat)(w:World)(hW:ML q k ts us a)(hL:ts.length=L)(hL1:2<=L/\L<=100)(ha:a<=L)
 (hK:∀(i:Nat) t,ts[i]?=I t->∃sa sn sc f,(∀y∈f,y∈fp)/\(ag t).In w (Jj sa sn sc) f/\kG w gk (i*5) (ag t) (Jj sa sn sc)) (Post:Ending->World->Prop) (rs:List Tree) (io:bi ts) (Tn:k=2\/k=3) (husl:us.length<=100)
 (gh:rs.length=(dH ts us a L).length) (hlen:∀j,(gQ k (rs.take j)).length<=1000) (NA:∀r∈rs,(ag r).ks.length<=1000)
 (To:∀(j:Nat) t r,(dH ts us a L)[j]?=I t->rs[j]?=I r->((ag t).k=1/\r=t)\/((ag t).k≠1/\∀sl f X,(ag t).In X sl f->Calls prog 64 #[.agg (aC (ag t) sl),J Jq q] X (uD r f X)))
 (co:(dH ts us a L).length=1->∀wr sa sn sc f v0 v1 v2 v3 v4 u,dH ts us a L=[u]->Below w.heap.size w wr->(ag u).In wr (Jj sa sn sc) f->w.heap.size+1 < wr.heap.size->(∀y∈f,OkB fp w y)->Post (Jz (.agg (aC (ag u) (Jj sa sn sc)))) (fB wr (w.heap.size+1) v0 v1 v2 v3 v4))
 (xF:(dH ts us a L).length≠1->∀wr sa sn sc f v0 v1 v2 v3 v4,Below w.heap.size w wr->(Node.mk k b.w b.h 0 (nodesOf (gQ k rs))).In wr (Jj sa sn sc) f->w.heap.size+1 < wr.heap.size->(∀y∈f,OkB fp w y)->Post (Jz (.agg #[J Jq k,J Jq b.w,J Jq b.h,J Jq 0,Jj sa sn sc])) (fB wr (w.heap.size+1) v0 v1 v2 v3 v4)):
 Calls prog 64 #[.agg #[J Jq k,J Jq b.w,J Jq b.h,J Jq 0,Jj (I ⟨gk,0,O⟩) L cap],J Jq q] w Post:=by
 obtain⟨W0,Kx⟩:∃W0,(w.alloc (JZ #[J Jq k,J Jq b.w,J Jq b.h,J Jq 0,Jj (I ⟨gk,0,O⟩) L cap] 53)).alloc (JZ #[J Jq 0,J Jq 0,J Jq 0,J Jq 0,Jj O 0 0] 53)=W0:=⟨_,rfl⟩
 have nv:Hid (Below w.heap.size w W0/\W0.heap.size=w.heap.size+2/\W0.heap[w.heap.size+1]?=I (JZ #[J Jq 0,J Jq 0,J Jq 0,J Jq 0,Jj O 0 0] 53 (0,0))/\W0.heap[w.heap.size]?=I (JZ #[J Jq k,J Jq b.w,J Jq b.h,J Jq 0,Jj (I ⟨gk,0,O⟩) L cap] 53 (0,0))):=by
  rw[<- Kx]
  obtain⟨O1,rk⟩:∃o,Obj.cells #[J Jq k,J Jq b.w,J Jq b.h,J Jq 0,Jj (I ⟨gk,0,O⟩) L cap] 53=o:=⟨_,rfl⟩
  obtain⟨O2,nB⟩:∃o,Obj.cells #[J Jq 0,J Jq 0,J Jq 0,J Jq 0,Jj O 0 0] 53=o:=⟨_,rfl⟩
  have s1:(w.alloc O1).heap.size=w.heap.size+1:=by simp
  show Below _ _ _/\_/\_/\_
  rw[rk,nB]
  refine⟨((Below.refl _ _).alloc (Nat.le_refl _) O1).alloc (by omega) O2,by simp,?_,?_⟩
  . have:=heap_alloc_new (w.alloc O1) O2
    rw[s1] at this
    rw[this]
  . exact (Below.heap_alloc _ _ _ (by omega)).trans (heap_alloc_new _ _)
 have RA:Hid (jT W0 (w.heap.size+2) (OkB fp w) (Jj O 0 0) (nodesOf (dH ts us a 0))/\Below (w.heap.size+2) W0 W0):=by
  refine⟨?_,Below.refl _ _⟩
  have:dH ts us a 0=[]:=by
   unfold dH
   rw[if_pos (Nat.zero_le _)]
   rfl
  rw[this]
  exact jT.nil _ _ _
 have HK:=zh hK
 have HW:=zh hW
 have DG:=zh io
 have NB:=zh Tn
 have xT:Hid ((∀j,(gQ k (rs.take j)).length<=1000)/\∀r∈rs,(ag r).ks.length<=1000):=⟨hlen,NA⟩
 have tQ:=zh gh
 have eJ:=zh To
 have cB:=zh co
 have lv:=zh xF
 have HL:=zh hL
 have HE:=zh Kx
 clear hK hW hL Kx io hlen NA gh To co xF Tn
 go_enter func64,ntmps64
 go_wp2_with fail
 rw[HE.out]
 go_loopw [5,6] (fun vk vi wr=>∃i:Nat,i<=L/\vi=J Jq i/\(i=0\/a≠0\/2<=i)/\∃ka kn kc,vk=Jj ka kn kc/\Hid (jT wr (w.heap.size+2) (OkB fp w) (Jj ka kn kc) (nodesOf (dH ts us a i))/\Below (w.heap.size+2) W0 wr)) (fun vk vi _=>L-(intOf vi).toNat)
 case atStart=>exact⟨0,Nat.zero_le _,rfl,.inl rfl,O,0,0,rfl,RA⟩
 case round=>
  obtain⟨i,hi,rfl,AH,ka,kn,kc,rfl,HI⟩:=hrel
  have hblk:wr.heap[w.heap.size]?=I (JZ #[J Jq k,J Jq b.w,J Jq b.h,J Jq 0,Jj (I ⟨gk,0,O⟩) L cap] 53 (0,0)):=(HI.out.2.block w.heap.size (by omega)).trans nv.out.2.2.2
  have p0:wr.cell? ⟨w.heap.size,0,O⟩=I (J Jq k):=ae hblk 0
  have p4:wr.cell? ⟨w.heap.size,4,O⟩=I (Jj (I ⟨gk,0,O⟩) L cap):=ae hblk 4
  have p0a:∀o,(wr.alloc o).cell? ⟨w.heap.size,0,O⟩=I (J Jq k):=fun o=>(((Below.refl _ _).alloc (Nat.le_refl _) o).cell (p:=⟨w.heap.size,0,O⟩) (World.block_lt_of_cell? wr _ p0)).trans p0
  have oS:=hblk
  clear hblk
  by_cases am:i < L
  . obtain⟨t,ht⟩:∃t,ts[i]?=I t:=⟨_,List.getElem?_eq_getElem (by rw[HL.out];exact am)⟩
    obtain⟨sa,sn,sc,f,qb,ab,lR⟩:=HK.out i t ht
    have pe:Below w.heap.size w wr:=⟨HI.out.2.os.trans nv.out.1.os,HI.out.2.tape.trans nv.out.1.tape,HI.out.2.output.trans nv.out.1.output,Nat.le_trans nv.out.1.size HI.out.2.size,fun x hx=>(HI.out.2.block x (by omega)).trans (nv.out.1.block x hx)⟩
    have kO:=ab.below pe
    have Tp:gk < w.heap.size:=World.block_lt_of_cell? w _ lR.q0
    have l5:∀o,wr.cell? ⟨gk,o,O⟩=w.cell? ⟨gk,o,O⟩:=fun o=>World.cell?_of_block (w':=wr) (w:=w) (a:=⟨gk,o,O⟩) (pe.block gk Tp)
    have c0:=(l5 _).trans lR.q0
    have c1:=(l5 _).trans lR.q1
    have c2:=(l5 _).trans lR.q2
    have c3:=(l5 _).trans lR.q3
    have c4:=(l5 _).trans lR.q4
    by_cases Ge:i=a
    . subst Ge
      obtain⟨bl,x,u,rfl,zE,ju,kh⟩:=HW.out.here t ht
      have hwE:IntKind.i64.wrap (bl.ext k+1)=bl.ext k+1:=by rw[IntKind.wrap_i64];omega
      have HX:Hid (∀X,Calls prog 57 #[.agg #[J Jq 1,J Jq bl.w,J Jq bl.h,J Jq q,Jj sa sn sc],J Jq k] X fun e w'=>e=Jz (J Jq (bl.ext k))/\Below X.heap.size X w'):=fun X=>by
       have:=eQ (.mk 1 bl.w bl.h q []) sa sn sc k X
       exact this
      have c0':wr.cell? ⟨gk,i*5,O⟩=I (J Jq 1):=c0
      have c1':wr.cell? ⟨gk,i*5+1,O⟩=I (J Jq bl.w):=c1
      have c2':wr.cell? ⟨gk,i*5+2,O⟩=I (J Jq bl.h):=c2
      have c3':wr.cell? ⟨gk,i*5+3,O⟩=I (J Jq q):=c3
      clear c0 c1 c2 c3
      rcases kh with ⟨nu,hx,hlen,cF⟩ | ⟨h0,uE,hx,cF⟩
      . obtain⟨c,rfl⟩:∃c,i=c+1:=⟨i-1,by omega⟩
        rw[Nat.add_sub_cancel] at hx cF
        have iN:kn=c+1:=by
         obtain⟨a',c',e⟩:=HI.out.1.sl
         cases e
         rw[ax,hlen]
        subst iN
        obtain⟨g,D1⟩:∃g,ka=I ⟨g,0,O⟩:=by
         obtain⟨fks,⟨cs,o1,_⟩,_⟩:=HI.out.1
         rcases o1.2 with ⟨_,e0⟩ | ⟨g,cap',cur,e,_⟩
         . rw[ax,hlen] at e0
           omega
         . injection e with ea _ _
           exact⟨g,ea⟩
        subst D1
        obtain⟨xa,xn,xc,fx,x1,x2,x3,x4,x5⟩:=HI.out.1.one (o8 (by have:=HI.out.2.size;rw[nv.out.2.1] at this;exact this)) c (ag x) (dS _ c x hx)
        have sY:=(HI.out.1.lt g (by simp[Value.ownBlock])).2
        have hgB:=(HI.out.1.lt g (by simp[Value.ownBlock])).1
        have HS:Hid (∀X,Below wr.heap.size wr X->X.cell? ⟨w.heap.size,0,O⟩=I (J Jq k)/\(∀o,X.frozen? ⟨g,o,O⟩=false)/\kG X g (c*5) (ag x) (Jj xa xn xc)/\Calls prog 63 #[.agg (aC (ag x) (Jj xa xn xc)),J Jq k,J Jq (bl.ext k+1)] X fun e w'=>∃nr ta tn tc,e=Jz (.agg (aC nr (Jj ta tn tc)))/\Below X.heap.size X w'/\(jT (gq w' g (c*5) nr (Jj ta tn tc)) (w.heap.size+2) (OkB fp w) (Jj (I ⟨g,0,O⟩) (c+1) kc) (nodesOf (dH ts us (c+1) (c+1+1)))/\Below (w.heap.size+2) W0 (gq w' g (c*5) nr (Jj ta tn tc)))):=fun X hX=>by
         have xr:∀o,X.cell? ⟨g,o,O⟩=wr.cell? ⟨g,o,O⟩:=fun o=>World.cell?_of_block (w':=X) (w:=wr) (a:=⟨g,o,O⟩) (hX.block g sY)
         refine⟨(hX.cell (p:=⟨w.heap.size,0,O⟩) (World.block_lt_of_cell? wr _ p0)).trans p0,fun o=> ?_,⟨(xr _).trans x3.q0,(xr _).trans x3.q1,(xr _).trans x3.q2,(xr _).trans x3.q3,(xr _).trans x3.q4⟩,?_⟩
         . rw[World.frozen?_of_block (w':=X) (w:=wr) (a:=⟨g,o,O⟩) (hX.block g sY)]
           exact x4 o
         . refine (pR x k (bl.ext k+1) u _ fx X zE (x1.below hX)).mono fun e w' h=> ?_
           obtain⟨ta,tn,tc,f',he,h1,h2,h3⟩:=h
           have hB:Below wr.heap.size wr w':=af hX h3
           refine⟨ag u,ta,tn,tc,he,h3,?_,?_⟩
           . rw[cF,nP]
             refine x5 w' (ag u) _ f' hB h1 fun y hy=> ?_
             rcases h2 y hy with h4 | h4
             . exact .inl h4
             . exact .inr (Nat.le_trans hX.size h4)
           . have hb0:Below (w.heap.size+2) W0 w':=HI.out.2.trans (hB.mono (by have:=HI.out.2.size;rw[nv.out.2.1] at this;exact this))
             exact AQ hb0 g (c*5) hgB _ _
        have EA:IntKind.i64.wrap ((c:Int)+1-1)=(c:Int):=by rw[IntKind.wrap_i64];omega
        have Ru:(c:Int) < (c:Int)+1:=by omega
        have hwc0:IntKind.i64.wrap (c:Int)=(c:Int):=by rw[IntKind.wrap_i64];omega
        have mx:c < c+1:=by omega
        obtain⟨nx,Lg⟩:∃nx,ag x=nx:=⟨_,rfl⟩
        rw[Lg] at HS
        unfold aC at HS
        clear x1 x2 x3 x4 x5 cF hx hlen lR ab l5 pe kO HI HE RA Lg zE
        go_wp2_with fail
        refine (HX.out _).mono ?_
        rintro e w2 ⟨rfl,al⟩
        have aD:Hid (Below wr.heap.size wr w2):=af ((Below.refl _ _).alloc (Nat.le_refl _) _) al
        obtain⟨s0,sf,⟨y0,y1,y2,y3,y4⟩,u7⟩:=HS.out w2 aD.out
        have Ek:Hid (Calls prog 63 #[.agg #[J Jq nx.k,J Jq nx.w,J Jq nx.h,J Jq nx.i,Jj xa xn xc],J Jq k,J Jq (bl.ext k+1)] w2.drew _):=(HS.out w2.drew aD.out.drew).2.2.2
        clear al u7 HX c0' c1' c2' c3' c4 p4
        go_wp2_with fail
        go_region_with (go_at_call 63;refine Ek.out.mono ?_;rintro e w3 ⟨nr,ta,tn,tc,rfl,aM,Li⟩;have qu:=af aD.out.drew aM;obtain⟨s02,sf2,⟨z0,z1,z2,z3,z4⟩,hS3⟩:=HS.out w3 qu;clear hS3 qu aM)
        all_goals (
         have Lk:=zh Li
         clear Li Ek HS aD s0 sf y0 y1 y2 y3 y4 z0 z1 z2 z3 z4 s02 sf2
         go_wp2_with fail
         go_roundw
         case rel=>exact⟨c+1+1,by omega,by go_num,by omega,_,_,_,rfl,Lk⟩
         case measure=>simp[intOf];omega)
      . subst h0
        have WC:dH ts us 0 0=[]:=by
         unfold dH
         rw[if_pos (Nat.le_refl _)]
         rfl
        have iN:kn=0:=by
         obtain⟨a',c',e⟩:=HI.out.1.sl
         cases e
         rw[ax,WC]
         rfl
        subst iN
        have WE:jT wr (w.heap.size+2) (OkB fp w) (Jj ka 0 kc) []:=by
         have:=HI.out.1
         rw[WC] at this
         exact this
        obtain⟨xa,xn,xc,fx,Tg,x1,x3⟩:=HK.out 1 x hx
        have hsz:w.heap.size+2<=wr.heap.size:=by rw[<- nv.out.2.1];exact HI.out.2.size
        have HS:Hid (∀X,Below wr.heap.size wr X->X.cell? ⟨w.heap.size,0,O⟩=I (J Jq k)/\X.cell? ⟨w.heap.size,4,O⟩=I (Jj (I ⟨gk,0,O⟩) L cap)/\kG X gk 5 (ag x) (Jj xa xn xc)/\Calls prog 63 #[.agg (aC (ag x) (Jj xa xn xc)),J Jq k,J Jq (bl.ext k+1)] X fun e w'=>∃nr ta tn tc,e=Jz (.agg (aC nr (Jj ta tn tc)))/\(w'.ownsRow (w.heap.size+2) 53 5 (Jj ka 0 kc) 0 []/\w.heap.size+2<=w'.heap.size)/\∀v' w6,(∀cs,(w'.alloc (.cells (aC nr (Jj ta tn tc)) 53)).ownsRow (w.heap.size+2) 53 5 (Jj ka 0 kc) 0 cs->w6.ownsRow (w.heap.size+2) 53 5 v' (0+1) (cs++fQ nr (Jj ta tn tc)))->(w'.alloc (.cells (aC nr (Jj ta tn tc)) 53)).grownBy w6 (Value.slice ka 0 kc).ownBlock->(v'.ownBlock=(Value.slice ka 0 kc).ownBlock\/∃g,v'.ownBlock=I g/\w'.heap.size<=g)->jT w6 (w.heap.size+2) (OkB fp w) v' (nodesOf (dH ts us 0 2))/\Below (w.heap.size+2) W0 w6):=fun X hX=>by
         have xr:∀o,X.cell? ⟨gk,o,O⟩=w.cell? ⟨gk,o,O⟩:=fun o=>(World.cell?_of_block (w':=X) (w:=wr) (a:=⟨gk,o,O⟩) (hX.block gk (Nat.lt_of_lt_of_le Tp pe.size))).trans (l5 o)
         refine⟨(hX.cell (p:=⟨w.heap.size,0,O⟩) (World.block_lt_of_cell? wr _ p0)).trans p0,(hX.cell (p:=⟨w.heap.size,4,O⟩) (World.block_lt_of_cell? wr _ p4)).trans p4,⟨(xr _).trans x3.q0,(xr _).trans x3.q1,(xr _).trans x3.q2,(xr _).trans x3.q3,(xr _).trans x3.q4⟩,?_⟩
         refine (pR x k (bl.ext k+1) u _ fx X zE ((x1.below pe).below hX)).mono fun e w' h=> ?_
         obtain⟨ta,tn,tc,f',he,h1,h2,h3⟩:=h
         have hB:Below wr.heap.size wr w':=af hX h3
         have hO:=WE.below hB
         refine⟨ag u,ta,tn,tc,he,⟨?_,Nat.le_trans hsz hB.size⟩,fun v' w6 e1 e2 e3=> ?_⟩
         . obtain⟨fks,⟨cs,o1,_⟩,_⟩:=hO
           have:cs=[]:=List.length_eq_zero_iff.1 (by have:=o1.1;simpa using this)
           subst this
           exact o1
         . have h4:=hO.snoc ((Below.refl _ _).alloc (Nat.le_refl _) _) h1 (fun g hg bE=>by
            have h5:=WE.lt g hg
            rcases h2 g bE with h6 | h6
            . have:=x1.lt g h6
              omega
            . have:=hX.size
              omega) (fun y hy=>by
            rcases h2 y hy with h6 | h6
            . exact⟨.inl (Tg y h6),by have:=x1.lt y h6;omega⟩
            . exact o8 hsz y (Nat.le_trans hX.size h6)) e1 e2 e3 (Nat.le_trans hsz hB.size)
           rw[cF]
           exact⟨h4.1,(HI.out.2.trans (hB.mono hsz)).trans h4.2⟩
        obtain⟨nx,Lg⟩:∃nx,ag x=nx:=⟨_,rfl⟩
        rw[Lg] at HS
        unfold aC at HS
        rw[Nat.zero_mul] at c0' c1' c2' c3' c4
        have rL:(1:Int) < (L:Int):=by omega
        clear x1 x3 cF hx lR ab l5 pe kO HI HE RA Lg zE WE WC
        go_wp2_with fail
        refine (HX.out _).mono ?_
        rintro e w2 ⟨rfl,al⟩
        have aD:Hid (Below wr.heap.size wr w2):=af ((Below.refl _ _).alloc (Nat.le_refl _) _) al
        obtain⟨s0,s4,⟨y0,y1,y2,y3,y4⟩,u7⟩:=HS.out w2 aD.out
        have Ek:Hid (Calls prog 63 #[.agg #[J Jq nx.k,J Jq nx.w,J Jq nx.h,J Jq nx.i,Jj xa xn xc],J Jq k,J Jq (bl.ext k+1)] w2.drew _):=(HS.out w2.drew aD.out.drew).2.2.2
        clear al u7 HX c0' c1' c2' c3' c4 p4 HS
        go_wp2_with fail
        go_region_law (first
         | (refine uu w3 rfl _ _ rfl (w.heap.size+2) (Jj ka 0 kc) 0 [] nr ta tn tc (by simp[Act.eval]) If.out.1 (by simp[Act.eval]) (by omega) If.out.2 ?_;intro v' w6 a1 a2 a3 a4;have he:=U9.out v' w6 a1 a2 a3;obtain⟨ra,rc,il⟩:=a4;subst il;have rT:Hid (jT w6 (w.heap.size+2) (OkB fp w) (Jj ra (0+1) rc) (nodesOf (dH ts us 0 2))/\Below (w.heap.size+2) W0 w6):=he;clear a1 a2 a3 he)
         | (go_simp;go_at_call 63;refine Ek.out.mono ?_;rintro e w3 ⟨nr,ta,tn,tc,rfl,si,Zb⟩;have If:Hid (w3.ownsRow (w.heap.size+2) 53 5 (Jj ka 0 kc) 0 []/\w.heap.size+2<=w3.heap.size):=si;have U9:Hid (∀v' w6,(∀cs,(w3.alloc (.cells (aC nr (Jj ta tn tc)) 53)).ownsRow (w.heap.size+2) 53 5 (Jj ka 0 kc) 0 cs->w6.ownsRow (w.heap.size+2) 53 5 v' (0+1) (cs++fQ nr (Jj ta tn tc)))->(w3.alloc (.cells (aC nr (Jj ta tn tc)) 53)).grownBy w6 (Value.slice ka 0 kc).ownBlock->(v'.ownBlock=(Value.slice ka 0 kc).ownBlock\/∃g,v'.ownBlock=I g/\w3.heap.size<=g)->jT w6 (w.heap.size+2) (OkB fp w) v' (nodesOf (dH ts us 0 2))/\Below (w.heap.size+2) W0 w6):=Zb;clear si Zb))
        all_goals (
         go_wp2_with fail
         go_roundw
         case rel=>exact⟨2,by omega,by go_num,by omega,_,_,_,rfl,rT⟩
         case measure=>simp[intOf];omega)
    . have x7:¬((ag t).k=1/\(ag t).i=q):=by
       cases t with
       | leaf bl p=>exact fun h=>HW.out.other i bl p ht Ge h.2
       | split b' k' ts'=>
         intro h
         have h1:=(bF ts i _ ht DG.out).1
         have h2:k'=1:=h.1
         omega
      obtain⟨nn,aR⟩:∃nn,ag t=nn:=⟨_,rfl⟩
      rw[aR] at x7 c0 c1 c2 c3 kO
      obtain⟨fks,⟨cs,o1,o2,o3⟩,_⟩:=HI.out.1
      have iN:(nodesOf (dH ts us a i)).length=kn:=by
       obtain⟨a',c',e⟩:=dG o1
       cases e
       rfl
      rw[iN] at o1
      have sA:kn<=1000000:=by
       rw[<- iN,ax]
       unfold dH
       have h1:=HL.out
       split
       . rw[List.length_take];omega
       . rw[List.length_take];omega
      have hsz:w.heap.size+2<=wr.heap.size:=by rw[<- nv.out.2.1];exact HI.out.2.size
      have eN:Hid (∀o,(wr.alloc o).ownsRow (w.heap.size+2) 53 5 (Jj ka kn kc) kn cs):=fun o=>o1.alloc o
      have fg:Hid (∀o,w.heap.size+2<=(wr.alloc o).heap.size):=fun o=>by
       show _<=_
       have:(wr.alloc o).heap.size=wr.heap.size+1:=by simp
       omega
      have Lg:=HW.out.next i t ht Ge (by omega)
      have bA:Hid (∀o v' w',(∀cs,((wr.alloc o).alloc (.cells (aC nn (Jj sa sn sc)) 53)).ownsRow (w.heap.size+2) 53 5 (Jj ka kn kc) kn cs->w'.ownsRow (w.heap.size+2) 53 5 v' (kn+1) (cs++fQ nn (Jj sa sn sc)))->((wr.alloc o).alloc (.cells (aC nn (Jj sa sn sc)) 53)).grownBy w' (Value.slice ka kn kc).ownBlock->(v'.ownBlock=(Value.slice ka kn kc).ownBlock\/∃g,v'.ownBlock=I g/\(wr.alloc o).heap.size<=g)->jT w' (w.heap.size+2) (OkB fp w) v' (nodesOf (dH ts us a (i+1)))/\Below (w.heap.size+2) W0 w'):=fun o v' w' e1 e2 e3=>by
       have r7:(wr.alloc o).heap.size=wr.heap.size+1:=by simp
       have eD:Below wr.heap.size wr ((wr.alloc o).alloc (.cells (aC nn (Jj sa sn sc)) 53)):=((Below.refl _ _).alloc (Nat.le_refl _) o).alloc (by omega) _
       have:=HI.out.1.snoc eD kO (fun g hg bE=>by
        have h1:=(HI.out.1.lt g hg).1
        have h2:=ab.lt g bE
        omega) (fun y hy=>⟨.inl (qb y hy),by have:=ab.lt y hy;omega⟩) (by rw[iN];exact e1) e2 (by
         rcases e3 with e3 | ⟨g,e3,h4⟩
         . exact .inl e3
         . exact .inr ⟨g,e3,by omega⟩) hsz
       refine⟨?_,HI.out.2.trans this.2⟩
       rw[Lg,eP,show nodesOf [t]=[nn] by rw[<- aR];rfl]
       exact this.1
      clear Lg o1 o2 o3 iN hsz lR ab l5 pe kO HI HE RA aR
      by_cases kl:nn.k=1
      . have NN:(nn.k==1)=true:=by simpa using kl
        have tB:(nn.i==q)=false:=by
         have:¬nn.i=q:=fun e=>x7 ⟨kl,e⟩
         simpa using this
        clear x7 kl
        go_wp2_with (at_builtin;refine jd (wr.alloc (JZ #[J Jq nn.k,J Jq nn.w,J Jq nn.h,J Jq nn.i,Jj sa sn sc] 53)) rfl _ _ rfl (w.heap.size+2) (Jj ka kn kc) kn cs nn sa sn sc ?y1 (eN.out _) ?y2 ?x1 (fg.out _) ?_;(case y1=>rfl);(case y2=>simp[Act.eval]);(case x1=>omega);intro v' w6 a1 a2 a3 a4;have he:=bA.out _ v' w6 a1 a2 a3;obtain⟨ra,rc,il⟩:=a4;subst il;have rT:Hid (jT w6 (w.heap.size+2) (OkB fp w) (Jj ra (kn+1) rc) (nodesOf (dH ts us a (i+1)))/\Below (w.heap.size+2) W0 w6):=he;clear a1 a2 a3 he)
        go_roundw
        case rel=>exact⟨i+1,by omega,by go_num,by omega,ra,kn+1,rc,rfl,rT⟩
        case measure=>simp[intOf];omega
      . have NN:(nn.k==1)=false:=by simpa using kl
        clear x7 kl
        go_wp2_with (at_builtin;refine jd (wr.alloc (JZ #[J Jq nn.k,J Jq nn.w,J Jq nn.h,J Jq nn.i,Jj sa sn sc] 53)) rfl _ _ rfl (w.heap.size+2) (Jj ka kn kc) kn cs nn sa sn sc ?y1 (eN.out _) ?y2 ?x1 (fg.out _) ?_;(case y1=>rfl);(case y2=>simp[Act.eval]);(case x1=>omega);intro v' w6 a1 a2 a3 a4;have he:=bA.out _ v' w6 a1 a2 a3;obtain⟨ra,rc,il⟩:=a4;subst il;have rT:Hid (jT w6 (w.heap.size+2) (OkB fp w) (Jj ra (kn+1) rc) (nodesOf (dH ts us a (i+1)))/\Below (w.heap.size+2) W0 w6):=he;clear a1 a2 a3 he)
        go_roundw
        case rel=>exact⟨i+1,by omega,by go_num,by omega,ra,kn+1,rc,rfl,rT⟩
        case measure=>simp[intOf];omega
  . have vQ:i=L:=by omega
    subst vQ
    have pe:Below w.heap.size w wr:=⟨HI.out.2.os.trans nv.out.1.os,HI.out.2.tape.trans nv.out.1.tape,HI.out.2.output.trans nv.out.1.output,Nat.le_trans nv.out.1.size HI.out.2.size,fun x hx=>(HI.out.2.block x (by omega)).trans (nv.out.1.block x hx)⟩
    have hsz:w.heap.size+2<=wr.heap.size:=by rw[<- nv.out.2.1];exact HI.out.2.size
    have bp:=(HI.out.2.block (w.heap.size+1) (by omega)).trans nv.out.2.2.1
    obtain⟨fl,li⟩:∃fl,dH ts us a i=fl:=⟨_,rfl⟩
    rw[li] at HI eJ cB lv tQ
    have iN:kn=fl.length:=by
     obtain⟨a',c',e⟩:=HI.out.1.sl
     cases e
     rw[ax]
    have pt:kn<=100:=by
     rw[iN,<- li]
     unfold dH
     have:=HL.out
     split
     . rw[List.length_take];omega
     . rw[List.length_take];omega
    by_cases co:fl.length=1
    . obtain⟨u,rfl⟩:∃u,fl=[u]:=by
       match fl,co with
       | [u],_=>exact⟨u,rfl⟩
      rw[co] at iN
      subst iN
      obtain⟨g,D1⟩:∃g,ka=I ⟨g,0,O⟩:=by
       obtain⟨fks,⟨cs,o1,_⟩,_⟩:=HI.out.1
       rcases o1.2 with ⟨_,e0⟩ | ⟨g,cap',cur,e,_⟩
       . cases e0
       . injection e with ea _ _
         exact⟨g,ea⟩
      subst D1
      obtain⟨xa,xn,xc,fx,x1,x2,⟨y0,y1,y2,y3,y4⟩,_,_⟩:=HI.out.1.one (o8 hsz) 0 (ag u) rfl
      rw[Nat.zero_mul] at y0 y1 y2 y3 y4
      have HF:Hid (∀v0 v1 v2 v3 v4,Post (Jz (.agg (aC (ag u) (Jj xa xn xc)))) (fB wr (w.heap.size+1) v0 v1 v2 v3 v4)):=fun v0 v1 v2 v3 v4=>cB.out rfl wr xa xn xc fx v0 v1 v2 v3 v4 u rfl pe x1 (by omega) (fun y hy=>(x2 y hy).2)
      have r0:wr.cell? ⟨w.heap.size+1,0,O⟩=I (J Jq 0):=ae bp 0
      have r1:wr.cell? ⟨w.heap.size+1,1,O⟩=I (J Jq 0):=ae bp 1
      have r2:wr.cell? ⟨w.heap.size+1,2,O⟩=I (J Jq 0):=ae bp 2
      have r3:wr.cell? ⟨w.heap.size+1,3,O⟩=I (J Jq 0):=ae bp 3
      have r4:wr.cell? ⟨w.heap.size+1,4,O⟩=I (Jj O 0 0):=ae bp 4
      have f0:=ai bp 0
      have f1:=ai bp 1
      have f2:=ai bp 2
      have f3:=ai bp 3
      have f4:=ai bp 4
      obtain⟨nn,aR⟩:∃nn,ag u=nn:=⟨_,rfl⟩
      rw[aR] at HF y0 y1 y2 y3
      unfold aC at HF
      clear bp pe hsz x1 x2 HI cB lv eJ tQ xT aR oS HE RA li
      go_wp2
      exact bodyPost_ret (v:=.agg #[J Jq nn.k,J Jq nn.w,J Jq nn.h,J Jq nn.i,Jj xa xn xc]) (by simp[results,results64,go_sem,r0,r1,r2,r3,r4]) rfl (HF.out _ _ _ _ _)
    . have kl:¬(kn=1):=by omega
      have dt:¬((kn:Int)=1):=by omega
      have Li:((kn:Int)==1)=false:=by simpa using dt
      have p1:wr.cell? ⟨w.heap.size,1,O⟩=I (J Jq b.w):=ae oS 1
      have p2:wr.cell? ⟨w.heap.size,2,O⟩=I (J Jq b.h):=ae oS 2
      have p3:wr.cell? ⟨w.heap.size,3,O⟩=I (J Jq 0):=ae oS 3
      have pw:Hid (∀(j:Nat) t,fl[j]?=I t->∃g2 sa sn sc f,ka=I ⟨g2,0,O⟩/\g2 < wr.heap.size/\(∀y∈f,OkB fp w y)/\(ag t).In wr (Jj sa sn sc) f/\kG wr g2 (j*5) (ag t) (Jj sa sn sc)):=fun j t hj=>by
       have nu:0 < fl.length:=by have:=(List.getElem?_eq_some_iff.1 hj).1;omega
       obtain⟨g,D1⟩:∃g,ka=I ⟨g,0,O⟩:=by
        obtain⟨fks,⟨cs,o1,_⟩,_⟩:=HI.out.1
        rcases o1.2 with ⟨_,e0⟩ | ⟨g,cap',cur,e,_⟩
        . rw[ax] at e0
          omega
        . injection e with ea _ _
          exact⟨g,ea⟩
       subst D1
       obtain⟨xa,xn,xc,fx,x1,x2,x3,_,_⟩:=HI.out.1.one (o8 hsz) j (ag t) (dS _ j t hj)
       exact⟨g,xa,xn,xc,fx,rfl,(HI.out.1.lt g (by simp[Value.ownBlock])).2,fun y hy=>(x2 y hy).2,x1,x3⟩
      have HB:Hid (Below w.heap.size w wr/\w.heap.size+2<=wr.heap.size/\wr.heap[w.heap.size+1]?=I (JZ #[J Jq 0,J Jq 0,J Jq 0,J Jq 0,Jj O 0 0] 53 (0,0))/\wr.heap[w.heap.size]?=I (JZ #[J Jq k,J Jq b.w,J Jq b.h,J Jq 0,Jj (I ⟨gk,0,O⟩) i cap] 53 (0,0))):=⟨pe,hsz,bp,oS⟩
      have se:Hid (Made k b.w b.h (OkB fp w) wr (nodesOf (gQ k (rs.take 0))) (wr.alloc (JZ #[J Jq k,J Jq b.w,J Jq b.h,J Jq 0,Jj O 0 0] 53))):=⟨O,0,0,heap_alloc_new _ _,⟨[],kV.nil _ _,fun y hy=>by cases hy⟩,(Below.refl _ _).alloc (Nat.le_refl _) _⟩
      have Tq:=zh iN
      clear oS pe hsz bp HI iN HE RA li HK HW
      obtain⟨wl,Rf⟩:∃wl,wl=wr:=⟨_,rfl⟩
      subst Rf
      go_wp2_with fail
      go_loopw [10] (fun v wx=>∃j:Nat,j<=kn/\v=J Jq j/\Hid (Made k b.w b.h (OkB fp w) wl (nodesOf (gQ k (rs.take j))) wx)) (fun v _=>kn-(intOf v).toNat)
      case atStart=>exact⟨0,Nat.zero_le _,rfl,se⟩
      case round=>
       obtain⟨j,hj,rfl,HM⟩:=hrel
       clear p0 p0a p1 p2 p3 p4 se
       obtain⟨ma,mn,mc,ef,⟨fm,bS,oo⟩,da⟩:=HM.out
       have ft:wr.heap[w.heap.size]?=I (JZ #[J Jq k,J Jq b.w,J Jq b.h,J Jq 0,Jj (I ⟨gk,0,O⟩) i cap] 53 (0,0)):=(da.block w.heap.size (by have:=HB.out.2.1;omega)).trans HB.out.2.2.2
       have b0:wr.cell? ⟨w.heap.size,0,O⟩=I (J Jq k):=ae ft 0
       have hml:=lt_of_block ef
       by_cases pZ:j < kn
       . obtain⟨t,ht⟩:∃t,fl[j]?=I t:=⟨_,List.getElem?_eq_getElem (by rw[<- Tq.out];exact pZ)⟩
         obtain⟨r,hr⟩:∃r,rs[j]?=I r:=⟨_,List.getElem?_eq_getElem (by rw[tQ.out,<- Tq.out];exact pZ)⟩
         obtain⟨g2,sa,sn,sc,f,D1,eO,RB,ab,lR⟩:=pw.out j t ht
         subst D1
         have kO:=ab.below da
         have l5:∀o,wr.cell? ⟨g2,o,O⟩=wl.cell? ⟨g2,o,O⟩:=fun o=>World.cell?_of_block (w':=wr) (w:=wl) (a:=⟨g2,o,O⟩) (da.block g2 eO)
         have c0:=(l5 _).trans lR.q0
         have c1:=(l5 _).trans lR.q1
         have c2:=(l5 _).trans lR.q2
         have c3:=(l5 _).trans lR.q3
         have c4:=(l5 _).trans lR.q4
         have HJ:Hid (∀X na nn' nc f',Below wr.heap.size wr X->(ag r).In X (Jj na nn' nc) f'->(∀y∈f',y∈f\/wr.heap.size<=y)->X.cell? ⟨wl.heap.size,4,O⟩=I (Jj ma mn mc)/\X.frozen? ⟨wl.heap.size,4,O⟩=false/\X.cell? ⟨w.heap.size,0,O⟩=I (J Jq k)/\Calls prog 85 #[Jj ma mn mc,J Jq k,.agg (aC (ag r) (Jj na nn' nc))] X fun e Y=>∃ra rn rc,e=Jz (Jj ra rn rc)/\Y.cell? ⟨wl.heap.size,4,O⟩=I (Jj ma mn mc)/\Y.frozen? ⟨wl.heap.size,4,O⟩=false/\Made k b.w b.h (OkB fp w) wl (nodesOf (gQ k (rs.take (j+1)))) (Y.setCell ⟨wl.heap.size,4,O⟩ (Jj ra rn rc))):=fun X na nn' nc f' hX KV qq=>by
          have od:=(hX.block wl.heap.size hml).trans ef
          have lc:(nodesOf (gQ k (rs.take j))).length<=1000:=by rw[ax];exact xT.out.1 j
          refine⟨ae od 4,ai od 4,(hX.cell (p:=⟨w.heap.size,0,O⟩) (World.block_lt_of_cell? wr _ b0)).trans b0,?_⟩
          refine (yw k (ag r) na nn' nc f' (wl.heap.size+1) (Jj ma mn mc) _ fm X (bS.below hX) KV (fun g hg bE=> ?_) (by have:=hX.size;omega) lc (xT.out.2 r (List.mem_of_getElem? hr))).mono ?_
          . have h1:=bS.lt g hg
            rcases qq g bE with h2 | h2
            . have:=ab.lt g h2
              omega
            . omega
          . rintro e Y ⟨ra,rn,rc,rfl,⟨gs,Rr,h1⟩,h2⟩
            have Tr:=HB.out.2.1
            have Cv:∀y∈fm++gs,y≠wl.heap.size/\OkB fp w y:=fun y hy=>by
             rcases List.mem_append.1 hy with h | h
             . exact oo y h
             . rcases qq y (Rr y h) with h4 | h4
               . have:=ab.lt y h4
                 exact⟨by omega,RB y h4⟩
               . exact⟨by omega,o8 Tr y (by have:=da.size;omega)⟩
            have E1:=(h2.block wl.heap.size (by omega)).trans od
            refine⟨ra,rn,rc,rfl,ae E1 4,ai E1 4,ra,rn,rc,?_,?_,?_⟩
            . exact heap_setCell_same Y wl.heap.size 4 _ _ _ E1
            . rw[zI k rs j r hr,eP,<- jL k NB.out]
              obtain⟨cs,o1,o2,o3⟩:=h1
              refine⟨fm++gs,⟨cs,dE o1 fun y hy=>heap_setCell_other _ _ _ _ ?_,o2.keep fun y hy=>heap_setCell_other _ _ _ _ ?_,o3⟩,Cv⟩
              . have:=(World.ownsRow.lt o1 y (by simpa using hy)).1
                show y≠wl.heap.size
                omega
              . exact (Cv y hy).1
            . have bj:Below wl.heap.size wl Y:=⟨h2.os.trans (hX.os.trans da.os),h2.tape.trans (hX.tape.trans da.tape),h2.output.trans (hX.output.trans da.output),Nat.le_trans da.size (Nat.le_trans hX.size h2.size),fun y hy=>(h2.block y (by omega)).trans ((hX.block y (by have:=da.size;omega)).trans (da.block y hy))⟩
              exact below_grown bj (grownBy_set _ _ _ _) (Nat.le_refl _)
         have NX:∀y∈f,y < wl.heap.size:=ab.lt
         obtain⟨nn,aR⟩:∃nn,ag t=nn:=⟨_,rfl⟩
         have N1:∀o,(wr.alloc o).heap.size=wr.heap.size+1:=fun o=>by simp
         rcases eJ.out j t r ht hr with ⟨vf,rfl⟩ | ⟨vf,Ln⟩
         . obtain⟨j4,jf,j0,E2⟩:=HJ.out (wr.alloc (JZ #[J Jq nn.k,J Jq nn.w,J Jq nn.h,J Jq nn.i,Jj sa sn sc] 53)) sa sn sc f ((Below.refl _ _).alloc (Nat.le_refl _) _) (kO.below ((Below.refl _ _).alloc (Nat.le_refl _) _)) (fun y hy=>.inl hy)
           rw[aR] at E2 vf c0 c1 c2 c3
           unfold aC at E2
           have Ts:=zh E2
           have NN:(nn.k != 1)=false:=by simpa using vf
           clear E2 vf ab lR kO l5 ef bS oo da HM ft aR HJ NX N1 ht hr eO hml
           go_wp2_with fail
           refine Ts.out.mono ?_
           rintro e Y ⟨ra,rn,rc,rfl,y4,yf,ie⟩
           have gx:=zh ie
           clear ie Ts
           go_wp2_with fail
           go_roundw
           case rel=>exact⟨j+1,by omega,by go_num,gx⟩
           case measure=>simp[intOf];omega
         . have tm:=Ln (Jj sa sn sc) f (wr.alloc (JZ #[J Jq nn.k,J Jq nn.w,J Jq nn.h,J Jq nn.i,Jj sa sn sc] 53)) (kO.below ((Below.refl _ _).alloc (Nat.le_refl _) _))
           rw[aR] at tm vf c0 c1 c2 c3
           unfold aC at tm
           have Zc:=zh tm
           have NN:(nn.k != 1)=true:=by simpa using vf
           have ix:Hid (∀w' na nn' nc f',Below (wr.heap.size+1) (wr.alloc (JZ #[J Jq nn.k,J Jq nn.w,J Jq nn.h,J Jq nn.i,Jj sa sn sc] 53)) w'->(ag r).In w' (Jj na nn' nc) f'->(∀y∈f',y∈f\/wr.heap.size+1<=y)->∀X,X=fB w' wr.heap.size (J Jq (ag r).k) (J Jq (ag r).w) (J Jq (ag r).h) (J Jq (ag r).i) (Jj na nn' nc)->w'.cell? ⟨wl.heap.size,4,O⟩=I (Jj ma mn mc)/\w'.cell? ⟨w.heap.size,0,O⟩=I (J Jq k)/\w'.heap[wr.heap.size]?=I (JZ #[J Jq nn.k,J Jq nn.w,J Jq nn.h,J Jq nn.i,Jj sa sn sc] 53 (0,0))/\Calls prog 85 #[Jj ma mn mc,J Jq k,.agg (aC (ag r) (Jj na nn' nc))] X fun e Y=>∃ra rn rc,e=Jz (Jj ra rn rc)/\Y.cell? ⟨wl.heap.size,4,O⟩=I (Jj ma mn mc)/\Y.frozen? ⟨wl.heap.size,4,O⟩=false/\Made k b.w b.h (OkB fp w) wl (nodesOf (gQ k (rs.take (j+1)))) (Y.setCell ⟨wl.heap.size,4,O⟩ (Jj ra rn rc))):=fun w' na nn' nc f' cC KV qq X hX=>by
            subst hX
            have AD:Below wr.heap.size wr w':=by
             have h1:Below wr.heap.size wr (wr.alloc (JZ #[J Jq nn.k,J Jq nn.w,J Jq nn.h,J Jq nn.i,Jj sa sn sc] 53)):=(Below.refl _ _).alloc (Nat.le_refl _) _
             exact⟨cC.os.trans h1.os,cC.tape.trans h1.tape,cC.output.trans h1.output,Nat.le_trans h1.size cC.size,fun y hy=>(cC.block y (by omega)).trans (h1.block y hy)⟩
            have hB:=bC AD wr.heap.size (Nat.le_refl _) (J Jq (ag r).k) (J Jq (ag r).w) (J Jq (ag r).h) (J Jq (ag r).i) (Jj na nn' nc)
            have a7:∀y∈f',y≠wr.heap.size:=fun y hy=>by
             rcases qq y hy with h | h
             . have h1:=NX y h
               have h2:=da.size
               omega
             . omega
            obtain⟨q1,q2,q3,q4⟩:=HJ.out _ na nn' nc f' hB (KV.keep fun y hy=>fD _ _ _ _ _ _ _ y (a7 y hy)) (fun y hy=>by
             rcases qq y hy with h | h
             . exact .inl h
             . exact .inr (by omega))
            have WF:w'.heap[wl.heap.size]?=wr.heap[wl.heap.size]?:=AD.block _ hml
            refine⟨?_,(AD.cell (p:=⟨w.heap.size,0,O⟩) (World.block_lt_of_cell? wr _ b0)).trans b0,?_,q4⟩
            . exact ae (WF.trans ef) 4
            . exact (cC.block wr.heap.size (by omega)).trans (heap_alloc_new _ _)
           have hne1:¬wl.heap.size=wr.heap.size:=by omega
           have Tt:¬w.heap.size=wr.heap.size:=by have:=HB.out.2.1;have:=da.size;omega
           have hne3:¬wr.heap.size=wl.heap.size:=by omega
           have hne4:¬wr.heap.size=w.heap.size:=by omega
           clear tm vf ab lR kO l5 ef bS oo da HM ft aR HJ ht hr eO Ln NX
           go_wp2_with fail
           refine Zc.out.mono ?_
           rintro e w' ⟨na,nn',nc,f',rfl,cj,qq,cC⟩
           rw[N1] at qq cC
           obtain⟨v4,v0,vb,E2⟩:=ix.out w' na nn' nc f' cC cj qq _ rfl
           unfold fB at E2
           unfold aC at E2
           obtain⟨nr,Hx⟩:∃nr,ag r=nr:=⟨_,rfl⟩
           rw[Hx] at E2
           unfold aC
           rw[Hx]
           have Ts:=zh E2
           have e0:w'.cell? ⟨wr.heap.size,0,O⟩=I (J Jq nn.k):=ae vb 0
           have e1:w'.cell? ⟨wr.heap.size,1,O⟩=I (J Jq nn.w):=ae vb 1
           have e2:w'.cell? ⟨wr.heap.size,2,O⟩=I (J Jq nn.h):=ae vb 2
           have e3:w'.cell? ⟨wr.heap.size,3,O⟩=I (J Jq nn.i):=ae vb 3
           have e4:w'.cell? ⟨wr.heap.size,4,O⟩=I (Jj sa sn sc):=ae vb 4
           have f0:=ai vb 0
           have f1:=ai vb 1
           have f2:=ai vb 2
           have f3:=ai vb 3
           have f4:=ai vb 4
           clear E2 cj qq cC vb ix Zc Hx N1 c0 c1 c2 c3 c4 b0
           go_wp2_with fail
           refine Ts.out.mono ?_
           rintro e Y ⟨ra,rn,rc,rfl,y4,yf,ie⟩
           have gx:=zh ie
           clear ie Ts
           go_wp2_with fail
           go_roundw
           case rel=>exact⟨j+1,by omega,by go_num,gx⟩
           case measure=>simp[intOf];omega
       . have oe:j=kn:=by omega
         subst oe
         have Tv:rs.take j=rs:=List.take_of_length_le (by rw[tQ.out,<- Tq.out];exact Nat.le_refl _)
         rw[Tv] at bS
         have ab:=bS.in_ k b.w b.h 0
         have bp:wr.heap[w.heap.size+1]?=I (JZ #[J Jq 0,J Jq 0,J Jq 0,J Jq 0,Jj O 0 0] 53 (0,0)):=(da.block (w.heap.size+1) (by have:=HB.out.2.1;omega)).trans HB.out.2.2.1
         have HF:Hid (∀v0 v1 v2 v3 v4,Post (Jz (.agg #[J Jq k,J Jq b.w,J Jq b.h,J Jq 0,Jj ma mn mc])) (fB wr (w.heap.size+1) v0 v1 v2 v3 v4)):=fun v0 v1 v2 v3 v4=>lv.out co wr ma mn mc _ v0 v1 v2 v3 v4 (af HB.out.1 da) ab (by have:=HB.out.2.1;omega) (fun y h=>by
          rcases List.mem_append.1 h with h | h
          . exact o8 HB.out.2.1 y (by have:=(bS.lt y (by simpa using h)).1;omega)
          . exact (oo y h).2)
         have n0:wr.cell? ⟨wl.heap.size,0,O⟩=I (J Jq k):=ae ef 0
         have n1:wr.cell? ⟨wl.heap.size,1,O⟩=I (J Jq b.w):=ae ef 1
         have n2:wr.cell? ⟨wl.heap.size,2,O⟩=I (J Jq b.h):=ae ef 2
         have n3:wr.cell? ⟨wl.heap.size,3,O⟩=I (J Jq 0):=ae ef 3
         have n4:wr.cell? ⟨wl.heap.size,4,O⟩=I (Jj ma mn mc):=ae ef 4
         have r0:wr.cell? ⟨w.heap.size+1,0,O⟩=I (J Jq 0):=ae bp 0
         have r1:wr.cell? ⟨w.heap.size+1,1,O⟩=I (J Jq 0):=ae bp 1
         have r2:wr.cell? ⟨w.heap.size+1,2,O⟩=I (J Jq 0):=ae bp 2
         have r3:wr.cell? ⟨w.heap.size+1,3,O⟩=I (J Jq 0):=ae bp 3
         have r4:wr.cell? ⟨w.heap.size+1,4,O⟩=I (Jj O 0 0):=ae bp 4
         have f0:=ai bp 0
         have f1:=ai bp 1
         have f2:=ai bp 2
         have f3:=ai bp 3
         have f4:=ai bp 4
         clear ef bS oo da ab bp HM ft pw HB xT eJ cB lv tQ Tv hml b0
         go_wp2
         exact bodyPost_ret (v:=.agg #[J Jq k,J Jq b.w,J Jq b.h,J Jq 0,Jj ma mn mc]) (by simp[results,results64,go_sem,r0,r1,r2,r3,r4]) rfl (HF.out _ _ _ _ _)
theorem tX (k:Int)(t:Tree):sizes (iw k t)<=t.size:=by
 cases t with
 | leaf b p=>exact Nat.le_refl _
 | split b k' ts=>
   show sizes (if k'=k then ts else [.split b k' ts])<=1+sizes ts
   split
   . omega
   . show 1+sizes ts+0<=1+sizes ts
     omega
theorem qH (k:Int):∀(rs:List Tree),sizes (gQ k rs)<=sizes rs
 | []=>Nat.le_refl _
 | t::rs=>by
   show sizes (iw k t++gQ k rs)<=t.size+sizes rs
   rw[dw]
   have:=tX k t
   have:=qH k rs
   omega
theorem lM (b:Box)(k:Int):∀(ts:List Tree),au ts b k=true->gQ k ts=ts
 | [],_=>rfl
 | t::ts,h=>by
   unfold au at h
   simp only[Bool.and_eq_true,decide_eq_true_eq,Bool.not_eq_true'] at h
   show iw k t++gQ k ts=t::ts
   rw[vO h.1.2.1,lM b k ts h.2]
   rfl
theorem uG (k:Int)(a b:List Tree):gQ k (a++b)=gQ k a++gQ k b:=by
 unfold gQ
 exact List.flatMap_append
theorem Jw (q:Int){t t':Tree}(h:Shut q t t'):t.sound=true->t.kinds->t'.size<=t.size:=by
 induction h with
 | keep t _=>exact fun _ _=>Nat.le_refl _
 | here b k ts a bl x u us hG _=>
   intro hs hk
   have hO:=wK hs hk hG
   have h1:=hO.size
   show _<=1+sizes ts
   match us,h1 with
   | [],_=>show 1+0<=_;omega
   | [c],h1=>
     change c.size+0+1=sizes ts at h1
     show c.size<=_
     omega
   | c::d::r,h1=>
     show 1+sizes (c::d::r)<=_
     omega
 | deep b k ts i s s' hi Fc hS nj ih=>
   intro hs hk
   have pf:=hs
   unfold Tree.sound at hs
   simp only[Bool.and_eq_true,decide_eq_true_eq] at hs
   have ar:=aO ts b k i s hi hs.2.1
   simp only[Bool.and_eq_true] at ar
   have h1:=ih ar.1 (bF ts i s hi hk.2)
   have h2:=tX k s'
   have h3:sizes ts=sizes (ts.take i)+(s.size+sizes (ts.drop (i+1))):=by
    conv=>lhs;rw[uC hi]
    rw[dw]
    rfl
   show 1+sizes (ts.take i++(iw k s'++ts.drop (i+1)))<=1+sizes ts
   rw[dw,dw]
   omega
theorem Ho (q k:Int)(ts:List Tree)(h:∀(i:Nat) bl p,ts[i]?=I (.leaf bl p)->p≠q):ML q k ts ts ts.length:=by
 have hk:∀i,i<=ts.length->dH ts ts ts.length i=ts.take i:=fun i hi=>if_pos hi
 refine⟨fun i t hi _ _=> ?_,fun i bl p hi _=>h i bl p hi,fun t ht=> ?_⟩
 . have am:=(List.getElem?_eq_some_iff.1 hi).1
   rw[hk i (by omega),hk (i+1) (by omega),List.take_add_one,hi]
   rfl
 . rw[List.getElem?_eq_none (Nat.le_refl _)] at ht
   cases ht
theorem oN (ts:List Tree)(a i:Nat):(ts.eraseIdx a)[i]?=if i < a then ts[i]? else ts[i+1]?:=List.getElem?_eraseIdx
theorem Jy {q k:Int}{ts us:List Tree}{a:Nat}{bl:Box}{x u:Tree}(hG:Gone k ts a bl q x u us)(h2:2<=ts.length)(hq:q ∉ kF (ts.eraseIdx a))(hb:1<=bl.ext k/\bl.ext k<=1000):ML q k ts us a:=by
 have zb:=(List.getElem?_eq_some_iff.1 hG.leaf).1
 have j2:us.length+1=ts.length:=by
  rw[hG.list,List.length_set,List.length_eraseIdx_of_lt zb]
  omega
 refine⟨fun i t hi Ge h0=> ?_,fun i bl' p hi Ge e=>hq ?_,fun t ht=> ?_⟩
 . have am:=(List.getElem?_eq_some_iff.1 hi).1
   unfold dH
   by_cases ub:i < a
   . rw[if_pos (by omega),if_pos (by omega),List.take_add_one,hi]
     rfl
   . rw[if_neg (by omega),if_neg (by omega),Nat.add_sub_cancel]
     have Mo:us[i-1]?=I t:=by
      rw[hG.list,List.getElem?_set_ne (by omega),oN,if_neg (by omega),show i-1+1=i by omega]
      exact hi
     have:=List.take_add_one (l:=us) (i:=i-1)
     rw[show i-1+1=i by omega,Mo] at this
     exact this
 . have bE:∃j:Nat,(ts.eraseIdx a)[j]?=I (Tree.leaf bl' p):=by
    by_cases ub:i < a
    . exact⟨i,by rw[oN,if_pos ub];exact hi⟩
    . exact⟨i-1,by rw[oN,if_neg (by omega),show i-1+1=i by omega];exact hi⟩
   obtain⟨j,hj⟩:=bE
   exact oJ q _ j _ hj (by simp[Tree.idl,e])
 . rw[hG.leaf] at ht
   cases ht
   refine⟨bl,x,u,rfl,hG.str,hb,?_⟩
   have D1:dH ts us a a=ts.take a:=if_pos (Nat.le_refl _)
   rcases Nat.eq_zero_or_pos a with h0 | h0
   . right
     subst h0
     have hn:=hG.near
     rw[oN,if_neg (by omega)] at hn
     refine⟨rfl,h2,hn,?_⟩
     unfold dH
     rw[if_neg (by omega),hG.list]
     obtain⟨c,r,hc⟩:∃c r,ts.eraseIdx 0=c::r:=by
      cases he:ts.eraseIdx 0 with
      | nil=>
        have:=List.length_eraseIdx_of_lt zb
        rw[he] at this
        simp at this
        omega
      | cons c r=>exact⟨c,r,rfl⟩
     rw[hc]
     rfl
   . left
     have hn:=hG.near
     rw[oN,if_pos (by omega)] at hn
     refine⟨h0,?_,?_,?_⟩
     . rw[D1,List.getElem?_take_of_lt (by omega)]
       exact hn
     . rw[D1,List.length_take]
       omega
     . unfold dH
       rw[if_neg (by omega),if_pos (Nat.le_refl _),Nat.add_sub_cancel,hG.list,List.take_set]
       congr 1
       rw[List.eraseIdx_eq_take_drop_succ,List.take_left' (by rw[List.length_take];omega)]
theorem xg (t:Tree)(hk:t.kinds):((∃bl p,t=.leaf bl p)/\(ag t).k=1)\/((∃b k ts,t=.split b k ts)/\(ag t).k≠1):=by
 cases t with
 | leaf bl p=>exact .inl ⟨⟨bl,p,rfl⟩,rfl⟩
 | split b k ts=>
   refine .inr ⟨⟨b,k,ts,rfl⟩,?_⟩
   show k≠1
   have:=hk.1
   omega
theorem rJ (q:Int):∀(N:Nat) (t:Tree),t.size<=N->t.size<=100->(∃b k ts,t=.split b k ts)->t.sound=true->t.kinds->∀t',Shut q t t'->∀sl fp w,(ag t).In w sl fp->Calls prog 64 #[.agg (aC (ag t) sl),J Jq q] w (uD t' fp w)
 | 0,t,hN,_,_,_,_,_,_=>by
   have:=t.kK
   omega
 | N+1,t,hN,hz,⟨b,k,ts,ht⟩,hs,hk,t',hS=>by
   subst ht
   intro sl fp w ab
   have pf:=hs
   unfold Tree.sound at hs
   simp only[Bool.and_eq_true,decide_eq_true_eq] at hs
   have h2:=hs.1.1
   have gd:=aI ts
   have Kb:1+sizes ts<=100:=hz
   have hN':1+sizes ts<=N+1:=hN
   have fo:=ab
   obtain⟨cs,fs,o1,o2,cf⟩:=ab
   have lc:(nodesOf ts).length=ts.length:=ax ts
   obtain⟨gk,cap,rfl⟩:∃gk cap,sl=Jj (I ⟨gk,0,O⟩) ts.length cap:=by
    rcases o1.2 with ⟨_,e0⟩ | ⟨g,cap,cur,e,_⟩
    . omega
    . exact⟨g,cap,by rw[e,lc]⟩
   rw[lc] at o1
   have hK:∀(i:Nat) t,ts[i]?=I t->∃sa sn sc f,(∀y∈f,y∈fp)/\(ag t).In w (Jj sa sn sc) f/\kG w gk (i*5) (ag t) (Jj sa sn sc):=fun i t hi=>by
    obtain⟨sl2,f2,g1,g2,g3⟩:=o2.get i (ag t) (dS ts i t hi)
    have vQ:=(List.getElem?_eq_some_iff.1 hi).1
    have hcell:∀o,o < 5->w.cell? ⟨gk,i*5+o,O⟩=(fQ (ag t) sl2)[o]?:=fun o ho=>by
     rw[World.ownsRow.cellAt o1 (i*5+o) (by omega),g3 o ho]
    obtain⟨ad,c,av⟩:=g1.sl
    subst av
    exact⟨ad,_,c,f2,fun y hy=>by rw[cf];exact List.mem_append_right _ (g2 y hy),g1,⟨hcell 0 (by omega),hcell 1 (by omega),hcell 2 (by omega),hcell 3 (by omega),hcell 4 (by omega)⟩⟩
   have Gk:∀(t2:Tree) wr sa sn sc f v0 v1 v2 v3 v4,Below w.heap.size w wr->(ag t2).In wr (Jj sa sn sc) f->w.heap.size+1 < wr.heap.size->(∀y∈f,OkB fp w y)->uD t2 fp w (Jz (.agg (aC (ag t2) (Jj sa sn sc)))) (fB wr (w.heap.size+1) v0 v1 v2 v3 v4):=fun t2 wr sa sn sc f v0 v1 v2 v3 v4 hb hi am bN=>
    ⟨sa,sn,sc,f,rfl,hi.keep fun y hy=>fD _ _ _ _ _ _ _ y (bN y hy).2,fun y hy=>(bN y hy).1,bC hb _ (by omega) _ _ _ _ _⟩
   have ox:∀rs:List Tree,sizes rs<=200->∀j,(gQ k (rs.take j)).length<=1000:=fun rs hr j=>by
    have h1:=aI (gQ k (rs.take j))
    have h3:=qH k (rs.take j)
    have h4:sizes (rs.take j)<=sizes rs:=by
     conv=>rhs;rw[<- List.take_append_drop j rs]
     rw[dw]
     omega
    omega
   have yq:∀r:Tree,r.size<=200->(ag r).ks.length<=1000:=fun r hr=>by
    have:=wQ r (by omega)
    omega
   have jp:∀(us:List Tree) (b':Box),au us b' k=true->bi us->sizes us<=sizes ts->q ∉ kF us->∀(j:Nat) t r,us[j]?=I t->us[j]?=I r->((ag t).k=1/\r=t)\/((ag t).k≠1/\∀sl f X,(ag t).In X sl f->Calls prog 64 #[.agg (aC (ag t) sl),J Jq q] X (uD r f X)):=fun us b' hsu hku hzu hqu j t r hj hr=>by
    rw[hj] at hr
    cases hr
    have ar:=aO us b' k j t hj hsu
    simp only[Bool.and_eq_true] at ar
    have eB:=bF us j t hj hku
    have Yq:=bI us j t hj
    rcases xg t eB with ⟨_,h1⟩ | ⟨h0,h1⟩
    . exact .inl ⟨h1,rfl⟩
    . exact .inr ⟨h1,fun sl f X hX=>rJ q N t (by omega) (by omega) h0 ar.1 eB t (.keep t fun h=>hqu (oJ q us j t hj h)) sl f X hX⟩
   have BE:∀Post,Calls prog 64 #[.agg #[J Jq k,J Jq b.w,J Jq b.h,J Jq 0,Jj (I ⟨gk,0,O⟩) ts.length cap],J Jq q] w Post->Calls prog 64 #[.agg (aC (ag (.split b k ts)) (Jj (I ⟨gk,0,O⟩) ts.length cap)),J Jq q] w Post:=fun Post h=>h
   cases hS with
   | keep _ hq=>
     have Dd:q ∉ kF ts:=hq
     have gj:dH ts ts ts.length ts.length=ts:=by
      unfold dH
      rw[if_pos (Nat.le_refl _),List.take_length]
     refine BE _ (Ai b k q ts ts ts.length gk ts.length cap fp w (JA q k ts Dd) rfl ⟨h2,by omega⟩ (Nat.le_refl _) hK _ ts hk.2 hk.1 (by omega) (by rw[gj]) (ox ts (by omega)) (fun r hr=> ?_) (by rw[gj];exact jp ts b hs.2.1 hk.2 (Nat.le_refl _) Dd) (fun h=>by rw[gj] at h;omega) (fun _ wr sa sn sc f v0 v1 v2 v3 v4 hb hi am bN=> ?_))
     . obtain⟨j,hj⟩:=List.getElem?_of_mem hr
       have:=bI ts j r hj
       exact yq r (by omega)
     . rw[lM b k ts hs.2.1] at hi
       exact Gk (.split b k ts) wr sa sn sc f v0 v1 v2 v3 v4 hb hi am bN
   | here _ _ _ a bl x u us hG hq=>
     have hO:=wK pf hk hG
     have j2:=hO.len
     have C7:=hO.size
     have zb:=(List.getElem?_eq_some_iff.1 hG.leaf).1
     have ao:=FO pf hk hG
     have Mp:(Tree.leaf bl q).sound=true:=by
      have:=aO ts b k a _ hG.leaf hs.2.1
      simp only[Bool.and_eq_true] at this
      exact this.1
     have pe:=df bl k ((Tree.leaf bl q).aF Mp)
     have gj:dH ts us a ts.length=us:=by
      unfold dH
      rw[if_neg (by omega),List.take_of_length_le (by omega)]
     have hll2:=aI us
     refine BE _ (Ai b k q ts us a gk ts.length cap fp w (Jy hG h2 (by rw[<- ao];exact hq) pe) rfl ⟨h2,by omega⟩ (by omega) hK _ us hk.2 hk.1 (by omega) (by rw[gj]) (ox us (by omega)) (fun r hr=> ?_) (by rw[gj];exact jp us b hO.sound hO.kinds (by omega) hq) (fun h1 wr sa sn sc f v0 v1 v2 v3 v4 c hc hb hi am bN=> ?_) (fun h1 wr sa sn sc f v0 v1 v2 v3 v4 hb hi am bN=> ?_))
     . obtain⟨j,hj⟩:=List.getElem?_of_mem hr
       have:=bI us j r hj
       exact yq r (by omega)
     . rw[gj] at hc
       rw[hc]
       exact Gk c wr sa sn sc f v0 v1 v2 v3 v4 hb hi am bN
     . rw[gj] at h1
       rw[lM b k us hO.sound] at hi
       rw[Bz (by omega)]
       exact Gk (.split b k us) wr sa sn sc f v0 v1 v2 v3 v4 hb hi am bN
   | deep _ _ _ i s s' hi Fc Sg nj=>
     have ar:=aO ts b k i s hi hs.2.1
     simp only[Bool.and_eq_true,decide_eq_true_eq,Bool.not_eq_true'] at ar
     have dj:=bF ts i s hi hk.2
     have Ao:=bI ts i s hi
     have am:=(List.getElem?_eq_some_iff.1 hi).1
     have hsz:=Jw q Sg ar.1 dj
     have gj:dH ts ts ts.length ts.length=ts:=by
      unfold dH
      rw[if_pos (Nat.le_refl _),List.take_length]
     have Bs:∀(j:Nat) bl p,ts[j]?=I (.leaf bl p)->p≠q:=fun j bl p hj e=>by
      by_cases dl:j=i
      . subst dl
        rw[hi] at hj
        cases hj
        obtain⟨_,_,_,h⟩:=Fc
        cases h
      . exact nj j _ dl hj (by simp[Tree.idl,e])
     have cF:=wR s s' ts i hi
     have li:gQ k (ts.set i s')=dK k ts i s':=by
      have ke:=hs.2.1
      rw[uC hi,dV] at ke
      simp only[Bool.and_eq_true] at ke
      have Dg:=ke.2
      unfold au at Dg
      simp only[Bool.and_eq_true] at Dg
      rw[List.set_eq_take_append_cons_drop,if_pos am,uG,lM b k _ ke.1]
      show ts.take i++(iw k s'++gQ k (ts.drop (i+1)))=dK k ts i s'
      rw[lM b k _ Dg.2]
      rfl
     refine BE _ (Ai b k q ts ts ts.length gk ts.length cap fp w (Ho q k ts Bs) rfl ⟨h2,by omega⟩ (Nat.le_refl _) hK _ (ts.set i s') hk.2 hk.1 (by omega) (by rw[gj,List.length_set]) (ox _ (by omega)) (fun r hr=> ?_) (fun j t r hj hr=> ?_) (fun h=>by rw[gj] at h;omega) (fun _ wr sa sn sc f v0 v1 v2 v3 v4 hb Rh ky bN=> ?_))
     . obtain⟨j,hj⟩:=List.getElem?_of_mem hr
       have:=bI _ j r hj
       exact yq r (by omega)
     . rw[gj] at hj
       by_cases dl:j=i
       . subst dl
         rw[hi] at hj
         cases hj
         rw[List.getElem?_set_self am] at hr
         cases hr
         rcases xg s dj with ⟨⟨bl,p,h0⟩,_⟩ | ⟨h0,h1⟩
         . obtain⟨_,_,_,h⟩:=Fc
           rw[h0] at h
           cases h
         . exact .inr ⟨h1,fun sl f X hX=>rJ q N s (by omega) (by omega) h0 ar.1 dj s' Sg sl f X hX⟩
       . rw[List.getElem?_set_ne (Ne.symm dl)] at hr
         rw[hj] at hr
         cases hr
         have pp:=aO ts b k j t hj hs.2.1
         simp only[Bool.and_eq_true] at pp
         have eB:=bF ts j t hj hk.2
         have Yq:=bI ts j t hj
         rcases xg t eB with ⟨_,h1⟩ | ⟨h0,h1⟩
         . exact .inl ⟨h1,rfl⟩
         . exact .inr ⟨h1,fun sl f X hX=>rJ q N t (by omega) (by omega) h0 pp.1 eB t (.keep t (nj j t dl hj)) sl f X hX⟩
     . rw[li] at Rh
       exact Gk (.split b k (dK k ts i s')) wr sa sn sc f v0 v1 v2 v3 v4 hb Rh ky bN
theorem Ld (v:Value)(l:List aj)(k z id:Int)(bf:Bool)(w:World)(h:ay w v l)(hF:aT l=O):Calls prog 27 #[v,J Jq k,J Jq z,.bool bf,J Jq id] w (dZ 40 [] w):=by
 have HT:=zh (tq v l w h hF)
 clear h hF
 go_enter func27,ntmps27
 go_wp2_with fail
 refine HT.out.mono ?_
 rintro e w1 ⟨rfl,hb⟩
 have HB:=zh (aK hb)
 unfold aU
 clear hb
 go_wp2
 go_ret2
 exact⟨_,rfl,World.ownsRow_nil _ _ _ _,HB.out _⟩
theorem NU (v:Value)(l:List aj)(k z id:Int)(bf:Bool)(w:World)(h:ay w v l){t:Tree}(hF:aT l=I t)(hk:¬(k=2\/k=3)):Calls prog 27 #[v,J Jq k,J Jq z,.bool bf,J Jq id] w (dZ 1 [] w):=by
 have HT:=zh (dI v l w h hF)
 have k2:(k != 2)=true:=by
  have:k≠2:=fun e=>hk (.inl e)
  simpa using this
 have k3:(k != 3)=true:=by
  have:k≠3:=fun e=>hk (.inr e)
  simpa using this
 clear h hF hk
 go_enter func27,ntmps27
 go_wp2_with fail
 refine HT.out.mono ?_
 rintro e w1 ⟨sa,sn,sc,fp,rfl,ab,hb⟩
 have HB:=zh (aK hb)
 obtain⟨nn,aR⟩:∃x,ag t=x:=⟨_,rfl⟩
 rw[aR]
 unfold aC
 clear hb ab aR
 go_wp2
 all_goals go_ret2
 all_goals exact⟨_,rfl,World.ownsRow_nil _ _ _ _,HB.out _⟩
theorem Le (v:Value)(l:List aj)(k z id:Int)(bf:Bool)(w:World)(h:ay w v l){t:Tree}(hF:aT l=I t)(hk:k=2\/k=3)(er:Int)(vB:jF l id=er)(h0:er≠0):Calls prog 27 #[v,J Jq k,J Jq z,.bool bf,J Jq id] w (dZ er [] w):=by
 have HT:=zh (dI v l w h hF)
 have ao:=jr hF
 have dq:=zh (aV hF)
 have bL:Hid ((ag t).ids=aH l/\1<=(aH l).length/\(aH l).length<=32/\(ag t).cnt<=1000):=⟨ao.1,ao.2.1,ao.2.2.1,ao.2.2.2.2⟩
 have wy:Hid (∀u B W,dD W B u (aH l)->Calls prog 56 #[u,J Jq id] W fun e w'=>e=Jz (J Jq er)/\W=w'):=fun u B W hu=>vB ▸ oP u l id B W hu ao.2.1 ao.2.2.1
 have HK:=zh hk
 have pt:((k != 2)=false)\/((k != 2)=true/\(k != 3)=false):=by rcases hk with rfl | rfl <;> simp
 have E6:(er != 0)=true:=by simpa using h0
 clear h hF hk vB h0 ao
 go_enter func27,ntmps27
 go_wp2_with fail
 refine HT.out.mono ?_
 rintro e w1 ⟨sa,sn,sc,fp,rfl,ab,hb⟩
 obtain⟨W,hW⟩:∃W,w1.alloc (JZ #[J Jq (ag t).k,J Jq (ag t).w,J Jq (ag t).h,J Jq (ag t).i,Jj sa sn sc] 53)=W:=⟨_,rfl⟩
 have ap:Below w1.heap.size w1 W:=by rw[<- hW];exact (Below.refl _ _).alloc (Nat.le_refl _) _
 have bR:=zh (af hb ap)
 have hM:W.heap[w1.heap.size]?=I (JZ #[J Jq (ag t).k,J Jq (ag t).w,J Jq (ag t).h,J Jq (ag t).i,Jj sa sn sc] 53 (0,0)):=by rw[<- hW];exact heap_alloc_new _ _
 have HX:Hid (∀X,Below W.heap.size W X->X.heap[w1.heap.size]?=I (JZ #[J Jq (ag t).k,J Jq (ag t).w,J Jq (ag t).h,J Jq (ag t).i,Jj sa sn sc] 53 (0,0))):=fun X hX=>(hX.block _ (lt_of_block hM)).trans hM
 have en:Hid (∀X,Below W.heap.size W X->(ag t).In X (Jj sa sn sc) fp):=fun X hX=>(ab.below ap).below hX
 have HW:=zh hW
 have bv:Hid (Calls prog 54 #[.agg #[J Jq (ag t).k,J Jq (ag t).w,J Jq (ag t).h,J Jq (ag t).i,Jj sa sn sc]] W fun e w'=>∃u,e=Jz u/\dD w' W.heap.size u (aH l)/\Below W.heap.size W w'):=by
  refine (dF (ag t) bL.out.2.2.2 _ fp W (en.out W (Below.refl _ _))).mono ?_
  rintro e w' ⟨u,rfl,h1,h2⟩
  rw[bL.out.1] at h1
  exact⟨u,rfl,h1,h2⟩
 have iS:Hid (∀X,Below W.heap.size W X->Calls prog 60 #[.agg #[J Jq (ag t).k,J Jq (ag t).w,J Jq (ag t).h,J Jq (ag t).i,Jj sa sn sc],J Jq k] X fun e w'=>e=Jz (J Jq (t.room k))/\Below W.heap.size W w'):=fun X hX=>(jl t dq.out.kinds dq.out.sound (by have:=lay_size dq.out;omega) _ fp X k (en.out X hX)).mono fun e w' h2=>⟨h2.1,af hX h2.2⟩
 have pP:Hid ((ag t).w=t.box.w/\(ag t).h=t.box.h):=⟨bV t,bW t⟩
 obtain⟨nn,aR⟩:∃x,ag t=x:=⟨_,rfl⟩
 have fq:=zh aR
 rw[aR] at HX HW bv iS pP ⊢
 have fN:Hid (∀X,Below W.heap.size W X->X.cell? ⟨w1.heap.size,0,O⟩=I (J Jq nn.k)/\X.cell? ⟨w1.heap.size,1,O⟩=I (J Jq nn.w)/\X.cell? ⟨w1.heap.size,2,O⟩=I (J Jq nn.h)/\X.cell? ⟨w1.heap.size,3,O⟩=I (J Jq nn.i)/\X.cell? ⟨w1.heap.size,4,O⟩=I (Jj sa sn sc)):=fun X hX=>⟨ae (HX.out X hX) 0,ae (HX.out X hX) 1,ae (HX.out X hX) 2,ae (HX.out X hX) 3,ae (HX.out X hX) 4⟩
 unfold aC
 clear hb ab ap hM hW aR HT
 rcases pt with kb | ⟨kb,kb'⟩
 all_goals (
  go_upto_region 6 with fail
  rw[HW.out]
  obtain⟨m0,m1,m2,m3,m4⟩:=fN.out W (Below.refl _ _)
  go_wp2_with fail
  refine bv.out.mono ?_
  rintro e w2 ⟨u,rfl,hu,al⟩
  have oc:Hid (Calls prog 56 #[u,J Jq id] w2 fun e w'=>e=Jz (J Jq er)/\w2=w'):=wy.out u _ w2 hu
  have aD:=zh al
  clear hu al bv wy m0 m1 m2 m3 m4
  go_wp2_with fail
  refine oc.out.mono ?_
  rintro e w3 ⟨rfl,rfl⟩
  have cQ:=zh (af bR.out aD.out)
  go_wp2
  all_goals go_ret2
  all_goals exact⟨_,rfl,World.ownsRow_nil _ _ _ _,cQ.out⟩)
theorem IB (v:Value)(l:List aj)(k z id:Int)(bf:Bool)(w:World)(h:ay w v l){t:Tree}(hF:aT l=I t)(hk:k=2\/k=3)(hj:jF l id=0)(hr:t.room k < 2):Calls prog 27 #[v,J Jq k,J Jq z,.bool bf,J Jq id] w (dZ 44 [] w):=by
 have HT:=zh (dI v l w h hF)
 have ao:=jr hF
 have dq:=zh (aV hF)
 have bL:Hid ((ag t).ids=aH l/\1<=(aH l).length/\(aH l).length<=32/\(ag t).cnt<=1000):=⟨ao.1,ao.2.1,ao.2.2.1,ao.2.2.2.2⟩
 have wy:Hid (∀u B W,dD W B u (aH l)->Calls prog 56 #[u,J Jq id] W fun e w'=>e=Jz (J Jq 0)/\W=w'):=fun u B W hu=>hj ▸ oP u l id B W hu ao.2.1 ao.2.2.1
 have HK:=zh hk
 have pt:((k != 2)=false)\/((k != 2)=true/\(k != 3)=false):=by rcases hk with rfl | rfl <;> simp
 clear h hF hk hj ao
 go_enter func27,ntmps27
 go_wp2_with fail
 refine HT.out.mono ?_
 rintro e w1 ⟨sa,sn,sc,fp,rfl,ab,hb⟩
 obtain⟨W,hW⟩:∃W,w1.alloc (JZ #[J Jq (ag t).k,J Jq (ag t).w,J Jq (ag t).h,J Jq (ag t).i,Jj sa sn sc] 53)=W:=⟨_,rfl⟩
 have ap:Below w1.heap.size w1 W:=by rw[<- hW];exact (Below.refl _ _).alloc (Nat.le_refl _) _
 have bR:=zh (af hb ap)
 have hM:W.heap[w1.heap.size]?=I (JZ #[J Jq (ag t).k,J Jq (ag t).w,J Jq (ag t).h,J Jq (ag t).i,Jj sa sn sc] 53 (0,0)):=by rw[<- hW];exact heap_alloc_new _ _
 have HX:Hid (∀X,Below W.heap.size W X->X.heap[w1.heap.size]?=I (JZ #[J Jq (ag t).k,J Jq (ag t).w,J Jq (ag t).h,J Jq (ag t).i,Jj sa sn sc] 53 (0,0))):=fun X hX=>(hX.block _ (lt_of_block hM)).trans hM
 have en:Hid (∀X,Below W.heap.size W X->(ag t).In X (Jj sa sn sc) fp):=fun X hX=>(ab.below ap).below hX
 have HW:=zh hW
 have bv:Hid (Calls prog 54 #[.agg #[J Jq (ag t).k,J Jq (ag t).w,J Jq (ag t).h,J Jq (ag t).i,Jj sa sn sc]] W fun e w'=>∃u,e=Jz u/\dD w' W.heap.size u (aH l)/\Below W.heap.size W w'):=by
  refine (dF (ag t) bL.out.2.2.2 _ fp W (en.out W (Below.refl _ _))).mono ?_
  rintro e w' ⟨u,rfl,h1,h2⟩
  rw[bL.out.1] at h1
  exact⟨u,rfl,h1,h2⟩
 have iS:Hid (∀X,Below W.heap.size W X->Calls prog 60 #[.agg #[J Jq (ag t).k,J Jq (ag t).w,J Jq (ag t).h,J Jq (ag t).i,Jj sa sn sc],J Jq k] X fun e w'=>e=Jz (J Jq (t.room k))/\Below W.heap.size W w'):=fun X hX=>(jl t dq.out.kinds dq.out.sound (by have:=lay_size dq.out;omega) _ fp X k (en.out X hX)).mono fun e w' h2=>⟨h2.1,af hX h2.2⟩
 have pP:Hid ((ag t).w=t.box.w/\(ag t).h=t.box.h):=⟨bV t,bW t⟩
 obtain⟨r,kj⟩:∃r,t.room k=r:=⟨_,rfl⟩
 rw[kj] at iS hr
 clear kj
 obtain⟨nn,aR⟩:∃x,ag t=x:=⟨_,rfl⟩
 have fq:=zh aR
 rw[aR] at HX HW bv iS pP ⊢
 have fN:Hid (∀X,Below W.heap.size W X->X.cell? ⟨w1.heap.size,0,O⟩=I (J Jq nn.k)/\X.cell? ⟨w1.heap.size,1,O⟩=I (J Jq nn.w)/\X.cell? ⟨w1.heap.size,2,O⟩=I (J Jq nn.h)/\X.cell? ⟨w1.heap.size,3,O⟩=I (J Jq nn.i)/\X.cell? ⟨w1.heap.size,4,O⟩=I (Jj sa sn sc)):=fun X hX=>⟨ae (HX.out X hX) 0,ae (HX.out X hX) 1,ae (HX.out X hX) 2,ae (HX.out X hX) 3,ae (HX.out X hX) 4⟩
 unfold aC
 clear hb ab ap hM hW aR HT
 rcases pt with kb | ⟨kb,kb'⟩
 all_goals (
  go_upto_region 6 with fail
  rw[HW.out]
  obtain⟨m0,m1,m2,m3,m4⟩:=fN.out W (Below.refl _ _)
  go_wp2_with fail
  refine bv.out.mono ?_
  rintro e w2 ⟨u,rfl,hu,al⟩
  have oc:Hid (Calls prog 56 #[u,J Jq id] w2 fun e w'=>e=Jz (J Jq 0)/\w2=w'):=wy.out u _ w2 hu
  have aD:=zh al
  clear hu al bv wy m0 m1 m2 m3 m4
  go_wp2_with fail
  refine oc.out.mono ?_
  rintro e w3 ⟨rfl,rfl⟩
  obtain⟨m0,m1,m2,m3,m4⟩:=fN.out w2 aD.out
  go_wp2_with fail
  refine (iS.out w2 aD.out).mono ?_
  rintro e w4 ⟨rfl,cv⟩
  have gr:=zh cv
  clear cv iS m0 m1 m2 m3 m4
  have fY:=zh (af bR.out gr.out)
  go_wp2
  all_goals go_ret2
  all_goals exact⟨_,rfl,World.ownsRow_nil _ _ _ _,fY.out⟩)
theorem O5 (v:Value)(l:List aj)(k z id:Int)(bf:Bool)(w:World)(h:ay w v l){t t1:Tree}{n:Int}(hF:aT l=I t)(hU:wU l t t1 k z n id bf):Calls prog 27 #[v,J Jq k,J Jq z,.bool bf,J Jq id] w (dZ 0 (cZ (eF k bf t1 (.leaf (dh t k n) id))) w):=by
 have hk:=hU.kind
 have HT:=zh (dI v l w h hF)
 have ao:=jr hF
 have dq:=zh (aV hF)
 have bL:Hid ((ag t).ids=aH l/\1<=(aH l).length/\(aH l).length<=32/\(ag t).cnt<=1000):=⟨ao.1,ao.2.1,ao.2.2.1,ao.2.2.2.2⟩
 have wy:Hid (∀u B W,dD W B u (aH l)->Calls prog 56 #[u,J Jq id] W fun e w'=>e=Jz (J Jq 0)/\W=w'):=fun u B W hu=>hU.join ▸ oP u l id B W hu ao.2.1 ao.2.2.1
 have HK:=zh hk
 have pt:((k != 2)=false)\/((k != 2)=true/\(k != 3)=false):=by rcases hk with rfl | rfl <;> simp
 have HU:=zh hU
 have ey:=hU.num
 have im:=hU.room
 have ck:=hU.low
 have rI:=bT t k dq.out.sound
 have tO:=df t.box k (t.aF dq.out.sound)
 have Xw:=lay_size dq.out
 obtain⟨r,kj⟩:∃r,t.room k=r:=⟨_,rfl⟩
 obtain⟨E,hE⟩:∃r,t.box.ext k=r:=⟨_,rfl⟩
 obtain⟨lw,ZE⟩:∃x,(dh t k n).w=x:=⟨_,rfl⟩
 obtain⟨lh,ZF⟩:∃x,(dh t k n).h=x:=⟨_,rfl⟩
 obtain⟨n1,du⟩:∃x,ag t1=x:=⟨_,rfl⟩
 obtain⟨n2,fe⟩:∃x,ag (eF k bf t1 (.leaf (dh t k n) id))=x:=⟨_,rfl⟩
 obtain⟨LT,ki⟩:∃x,cZ (eF k bf t1 (.leaf (dh t k n) id))=x:=⟨_,rfl⟩
 have ZG:=zh hE
 have Xx:=zh ZE
 have Xy:=zh ZF
 have kx:=zh du
 have ij:=zh fe
 have ZH:=zh ki
 rw[kj,hE] at ey
 rw[kj] at im rI
 rw[hE] at tO
 rw[ki]
 have x1:IntKind.i64.wrap (E-1)=E-1:=by rw[IntKind.wrap_i64];omega
 have x2:(E-1).tdiv 2=dM E:=by unfold dM;rw[Int.tdiv_eq_ediv_of_nonneg (by omega)]
 have x3:IntKind.i64.wrap (dM E)=dM E:=by rw[IntKind.wrap_i64];unfold dM;omega
 have x4:IntKind.i64.wrap (r-1)=r-1:=by rw[IntKind.wrap_i64];omega
 have x5:IntKind.i64.wrap (-n)= -n:=by rw[IntKind.wrap_i64];omega
 have x6:IntKind.i64.wrap (-n-1)= -n-1:=by rw[IntKind.wrap_i64];omega
 have gh:¬r < 2:=by omega
 obtain⟨hv,Xz⟩:∃x,dM E=x:=⟨_,rfl⟩
 have Lv:Hid ((z < 1->min hv (r-1)=n)/\(¬z < 1->min z (r-1)=n)):=by
  refine⟨fun e=> ?_,fun e=> ?_⟩
  . rw[ey,<- Xz]
    unfold gZ
    rw[if_pos e]
  . rw[ey]
    unfold gZ
    rw[if_neg e]
 rw[Xz] at x2 x3
 clear h hF hk ao hU ey im ck rI tO Xw hE ZE ZF du fe ki Xz
 go_enter func27,ntmps27
 go_wp2_with fail
 refine HT.out.mono ?_
 rintro e w1 ⟨sa,sn,sc,fp,rfl,ab,hb⟩
 obtain⟨W,hW⟩:∃W,w1.alloc (JZ #[J Jq (ag t).k,J Jq (ag t).w,J Jq (ag t).h,J Jq (ag t).i,Jj sa sn sc] 53)=W:=⟨_,rfl⟩
 have ap:Below w1.heap.size w1 W:=by rw[<- hW];exact (Below.refl _ _).alloc (Nat.le_refl _) _
 have bR:=zh (af hb ap)
 have hM:W.heap[w1.heap.size]?=I (JZ #[J Jq (ag t).k,J Jq (ag t).w,J Jq (ag t).h,J Jq (ag t).i,Jj sa sn sc] 53 (0,0)):=by rw[<- hW];exact heap_alloc_new _ _
 have HX:Hid (∀X,Below W.heap.size W X->X.heap[w1.heap.size]?=I (JZ #[J Jq (ag t).k,J Jq (ag t).w,J Jq (ag t).h,J Jq (ag t).i,Jj sa sn sc] 53 (0,0))):=fun X hX=>(hX.block _ (lt_of_block hM)).trans hM
 have en:Hid (∀X,Below W.heap.size W X->(ag t).In X (Jj sa sn sc) fp):=fun X hX=>(ab.below ap).below hX
 have HW:=zh hW
 have bv:Hid (Calls prog 54 #[.agg #[J Jq (ag t).k,J Jq (ag t).w,J Jq (ag t).h,J Jq (ag t).i,Jj sa sn sc]] W fun e w'=>∃u,e=Jz u/\dD w' W.heap.size u (aH l)/\Below W.heap.size W w'):=by
  refine (dF (ag t) bL.out.2.2.2 _ fp W (en.out W (Below.refl _ _))).mono ?_
  rintro e w' ⟨u,rfl,h1,h2⟩
  rw[bL.out.1] at h1
  exact⟨u,rfl,h1,h2⟩
 have iS:Hid (∀X,Below W.heap.size W X->Calls prog 60 #[.agg #[J Jq (ag t).k,J Jq (ag t).w,J Jq (ag t).h,J Jq (ag t).i,Jj sa sn sc],J Jq k] X fun e w'=>e=Jz (J Jq (t.room k))/\Below W.heap.size W w'):=fun X hX=>(jl t dq.out.kinds dq.out.sound (by have:=lay_size dq.out;omega) _ fp X k (en.out X hX)).mono fun e w' h2=>⟨h2.1,af hX h2.2⟩
 have pP:Hid ((ag t).w=t.box.w/\(ag t).h=t.box.h):=⟨bV t,bW t⟩
 rw[kj] at iS
 clear kj
 have ff:Hid (∀X,Calls prog 57 #[.agg #[J Jq (ag t).k,J Jq (ag t).w,J Jq (ag t).h,J Jq (ag t).i,Jj sa sn sc],J Jq k] X fun e w'=>e=Jz (J Jq E)/\Below X.heap.size X w'):=fun X=>by
  have h:=eQ (ag t) sa sn sc k X
  rw[show (ag t).ext k=E by rw[<- ZG.out];unfold Node.ext Box.ext;rw[bV,bW]] at h
  exact h
 have fg:Hid (∀X,Calls prog 61 #[.agg #[J Jq (ag t).k,J Jq (ag t).w,J Jq (ag t).h,J Jq (ag t).i,Jj sa sn sc],J Jq id,J Jq k,J Jq n] X fun e w'=>e=Jz (.agg #[J Jq 1,J Jq lw,J Jq lh,J Jq id,Jj O 0 0])/\Below X.heap.size X w'):=fun X=>by
  have h:=oI (ag t) sa sn sc id k n HK.out X
  have e1:(if k=2 then n else (ag t).w)=lw:=by rw[<- Xx.out,nK t k n HK.out,bV];split <;> rfl
  have e2:(if k=2 then (ag t).h else n)=lh:=by rw[<- Xy.out,nK t k n HK.out,bW];split <;> rfl
  rw[e1,e2] at h
  exact h
 have yd:Hid (∀X,Below W.heap.size W X->Calls prog 63 #[.agg #[J Jq (ag t).k,J Jq (ag t).w,J Jq (ag t).h,J Jq (ag t).i,Jj sa sn sc],J Jq k,J Jq (-n-1)] X fun e w'=>∃ta tn tc,e=Jz (.agg (aC n1 (Jj ta tn tc)))/\Below X.heap.size X w'/\Calls prog 62 #[J Jq k,.agg (aC n1 (Jj ta tn tc)),.agg #[J Jq 1,J Jq lw,J Jq lh,J Jq id,Jj O 0 0],.bool bf] w' fun e w''=>∃ua un uc,e=Jz (.agg (aC n2 (Jj ua un uc)))/\Below w'.heap.size w' w''/\Calls prog 16 #[.agg (aC n2 (Jj ua un uc))] w'' fun e w3=>∃u,e=Jz u/\az w3 w''.heap.size u LT/\Below w''.heap.size w'' w3):=fun X hX=>by
  refine (pR t k (-n-1) t1 (Jj sa sn sc) fp X HU.out.one (en.out X hX)).mono ?_
  rintro e w' ⟨ta,tn,tc,f,he,h2,_,h3⟩
  rw[kx.out] at he
  refine⟨ta,tn,tc,he,h3,?_⟩
  have hp:=EM HU.out ta tn tc f w' h2
  rw[kx.out,ij.out,Xx.out,Xy.out] at hp
  refine hp.mono ?_
  rintro e2 w'' ⟨ua,un,uc,f2,jx,h4,h5⟩
  refine⟨ua,un,uc,jx,h5,?_⟩
  have hB:=HU.out.beside
  have hl:=iW hB.sound hB.kinds (by have:=hB.size;have:=lay_size dq.out;have:=HU.out.z1;omega) (ij.out.symm ▸ h4)
  rw[ij.out,ZH.out] at hl
  exact hl
 obtain⟨nn,aR⟩:∃x,ag t=x:=⟨_,rfl⟩
 have fq:=zh aR
 rw[aR] at HX HW bv iS pP ff fg yd ⊢
 have fN:Hid (∀X,Below W.heap.size W X->X.cell? ⟨w1.heap.size,0,O⟩=I (J Jq nn.k)/\X.cell? ⟨w1.heap.size,1,O⟩=I (J Jq nn.w)/\X.cell? ⟨w1.heap.size,2,O⟩=I (J Jq nn.h)/\X.cell? ⟨w1.heap.size,3,O⟩=I (J Jq nn.i)/\X.cell? ⟨w1.heap.size,4,O⟩=I (Jj sa sn sc)):=fun X hX=>⟨ae (HX.out X hX) 0,ae (HX.out X hX) 1,ae (HX.out X hX) 2,ae (HX.out X hX) 3,ae (HX.out X hX) 4⟩
 unfold aC
 clear hb ab ap hM hW aR HT HU kx ij ZH Xx Xy ZG
 rcases pt with kb | ⟨kb,kb'⟩
 all_goals (
  go_upto_region 6 with fail
  rw[HW.out]
  obtain⟨m0,m1,m2,m3,m4⟩:=fN.out W (Below.refl _ _)
  go_wp2_with fail
  refine bv.out.mono ?_
  rintro e w2 ⟨u,rfl,hu,al⟩
  have oc:Hid (Calls prog 56 #[u,J Jq id] w2 fun e w'=>e=Jz (J Jq 0)/\w2=w'):=wy.out u _ w2 hu
  have aD:=zh al
  clear hu al bv wy m0 m1 m2 m3 m4
  go_wp2_with fail
  refine oc.out.mono ?_
  rintro e w3 ⟨rfl,rfl⟩
  obtain⟨m0,m1,m2,m3,m4⟩:=fN.out w2 aD.out
  go_wp2_with fail
  refine (iS.out w2 aD.out).mono ?_
  rintro e w4 ⟨rfl,cv⟩
  have gr:=zh cv
  clear cv iS m0 m1 m2 m3 m4
  obtain⟨m0,m1,m2,m3,m4⟩:=fN.out w4 gr.out
  go_wp2_with fail
  refine (ff.out w4).mono ?_
  rintro e w5 ⟨rfl,cd⟩
  have fY:=zh (af gr.out cd)
  clear cd ff m0 m1 m2 m3 m4
  obtain⟨m0,m1,m2,m3,m4⟩:=fN.out w5 fY.out
  by_cases hz:z < 1
  . have db:¬ 1<=z:=by omega
    have XA:Hid (min hv (r-1)=n):=Lv.out.1 (by omega)
    clear hz Lv
    go_upto_region 16 with fail
    rw[XA.out]
    go_wp2_with fail
    refine (fg.out w5).mono ?_
    rintro e w6 ⟨rfl,eM⟩
    obtain⟨Wp,I3⟩:∃X,w6.alloc (JZ #[J Jq 1,J Jq lw,J Jq lh,J Jq id,Jj O 0 0] 53)=X:=⟨_,rfl⟩
    have I6:Below W.heap.size W Wp:=af (af fY.out eM) (by rw[<- I3];exact (Below.refl _ _).alloc (Nat.le_refl _) _)
    have Pd:Wp.heap[w6.heap.size]?=I (JZ #[J Jq 1,J Jq lw,J Jq lh,J Jq id,Jj O 0 0] 53 (0,0)):=by rw[<- I3];exact heap_alloc_new _ _
    have Ue:=zh I6
    have Jx:Hid (∀X,Below Wp.heap.size Wp X->X.cell? ⟨w1.heap.size,0,O⟩=I (J Jq nn.k)/\X.cell? ⟨w1.heap.size,1,O⟩=I (J Jq nn.w)/\X.cell? ⟨w1.heap.size,2,O⟩=I (J Jq nn.h)/\X.cell? ⟨w1.heap.size,3,O⟩=I (J Jq nn.i)/\X.cell? ⟨w1.heap.size,4,O⟩=I (Jj sa sn sc)/\X.cell? ⟨w6.heap.size,0,O⟩=I (J Jq 1)/\X.cell? ⟨w6.heap.size,1,O⟩=I (J Jq lw)/\X.cell? ⟨w6.heap.size,2,O⟩=I (J Jq lh)/\X.cell? ⟨w6.heap.size,3,O⟩=I (J Jq id)/\X.cell? ⟨w6.heap.size,4,O⟩=I (Jj O 0 0)):=fun X hX=>by
     have h:=(hX.block _ (lt_of_block Pd)).trans Pd
     have h5:=fN.out X (af I6 hX)
     exact⟨h5.1,h5.2.1,h5.2.2.1,h5.2.2.2.1,h5.2.2.2.2,ae h 0,ae h 1,ae h 2,ae h 3,ae h 4⟩
    have RN:Hid (Calls prog 63 #[.agg #[J Jq nn.k,J Jq nn.w,J Jq nn.h,J Jq nn.i,Jj sa sn sc],J Jq k,J Jq (-n-1)] Wp.drew fun e w'=>∃ta tn tc,e=Jz (.agg #[J Jq n1.k,J Jq n1.w,J Jq n1.h,J Jq n1.i,Jj ta tn tc])/\Below Wp.heap.size Wp w'/\Calls prog 62 #[J Jq k,.agg #[J Jq n1.k,J Jq n1.w,J Jq n1.h,J Jq n1.i,Jj ta tn tc],.agg #[J Jq 1,J Jq lw,J Jq lh,J Jq id,Jj O 0 0],.bool bf] w' fun e w''=>∃ua un uc,e=Jz (.agg #[J Jq n2.k,J Jq n2.w,J Jq n2.h,J Jq n2.i,Jj ua un uc])/\Below w'.heap.size w' w''/\Calls prog 16 #[.agg #[J Jq n2.k,J Jq n2.w,J Jq n2.h,J Jq n2.i,Jj ua un uc]] w'' fun e w3=>∃u,e=Jz u/\az w3 w''.heap.size u LT/\Below w''.heap.size w'' w3):=(yd.out Wp.drew I6.drew).mono fun e w' h=>by
     obtain⟨ta,tn,tc,h1,h2,h3⟩:=h
     exact⟨ta,tn,tc,h1,⟨h2.os,h2.tape,h2.output,h2.size,h2.block⟩,h3⟩
    have XB:=zh I3
    clear eM I6 Pd I3 fg yd m0 m1 m2 m3 m4
    go_upto_region 17 with fail
    rw[XB.out]
    obtain⟨m0,m1,m2,m3,m4,p0,p1,p2,p3,p4⟩:=Jx.out Wp (Below.refl _ _)
    go_region_held3 (fun X=>X.cell? ⟨w1.heap.size,0,O⟩=I (J Jq nn.k)/\X.cell? ⟨w1.heap.size,1,O⟩=I (J Jq nn.w)/\X.cell? ⟨w1.heap.size,2,O⟩=I (J Jq nn.h)/\X.cell? ⟨w1.heap.size,3,O⟩=I (J Jq nn.i)/\X.cell? ⟨w1.heap.size,4,O⟩=I (Jj sa sn sc)/\X.cell? ⟨w6.heap.size,0,O⟩=I (J Jq 1)/\X.cell? ⟨w6.heap.size,1,O⟩=I (J Jq lw)/\X.cell? ⟨w6.heap.size,2,O⟩=I (J Jq lh)/\X.cell? ⟨w6.heap.size,3,O⟩=I (J Jq id)/\X.cell? ⟨w6.heap.size,4,O⟩=I (Jj O 0 0)) (go_keep) (first
     | (go_at_call 16;refine XC.out.mono ?_;rintro e w9 ⟨u,rfl,hu,ez⟩;have XD:Hid (az w9 w.heap.size u LT):=hu.lower (af bR.out (af Ue.out sC.out)).size;have pC:Hid (Below w.heap.size w w9):=af (af bR.out (af Ue.out sC.out)) ez;obtain⟨m0,m1,m2,m3,m4,p0,p1,p2,p3,p4⟩:=Jx.out w9 (af sC.out ez);clear hu ez)
     | (go_at_call 62;refine XE.out.mono ?_;rintro e w8 ⟨ua,un,uc,rfl,pD,Uf⟩;have sC:Hid (Below Wp.heap.size Wp w8):=af LF.out pD;have XC:Hid (Calls prog 16 #[.agg #[J Jq n2.k,J Jq n2.w,J Jq n2.h,J Jq n2.i,Jj ua un uc]] w8 fun e w3=>∃u,e=Jz u/\az w3 w8.heap.size u LT/\Below w8.heap.size w8 w3):=Uf;obtain⟨m0,m1,m2,m3,m4,p0,p1,p2,p3,p4⟩:=Jx.out w8 sC.out;clear pD Uf)
     | (go_at_call 63;refine RN.out.mono ?_;rintro e w7 ⟨ta,tn,tc,rfl,j7,Ug⟩;have LF:Hid (Below Wp.heap.size Wp w7):=j7;have XE:Hid (Calls prog 62 #[J Jq k,.agg #[J Jq n1.k,J Jq n1.w,J Jq n1.h,J Jq n1.i,Jj ta tn tc],.agg #[J Jq 1,J Jq lw,J Jq lh,J Jq id,Jj O 0 0],.bool bf] w7 fun e w''=>∃ua un uc,e=Jz (.agg #[J Jq n2.k,J Jq n2.w,J Jq n2.h,J Jq n2.i,Jj ua un uc])/\Below w7.heap.size w7 w''/\Calls prog 16 #[.agg #[J Jq n2.k,J Jq n2.w,J Jq n2.h,J Jq n2.i,Jj ua un uc]] w'' fun e w3=>∃u,e=Jz u/\az w3 w''.heap.size u LT/\Below w''.heap.size w'' w3):=Ug;obtain⟨m0,m1,m2,m3,m4,p0,p1,p2,p3,p4⟩:=Jx.out w7 j7;clear j7 Ug))
    all_goals go_wp2
    all_goals go_ret2
    all_goals exact⟨u,rfl,XD.out,pC.out⟩
  . have db:1<=z:=by omega
    have XA:Hid (min z (r-1)=n):=Lv.out.2 (by omega)
    clear hz Lv
    go_upto_region 16 with fail
    rw[XA.out]
    go_wp2_with fail
    refine (fg.out w5).mono ?_
    rintro e w6 ⟨rfl,eM⟩
    obtain⟨Wp,I3⟩:∃X,w6.alloc (JZ #[J Jq 1,J Jq lw,J Jq lh,J Jq id,Jj O 0 0] 53)=X:=⟨_,rfl⟩
    have I6:Below W.heap.size W Wp:=af (af fY.out eM) (by rw[<- I3];exact (Below.refl _ _).alloc (Nat.le_refl _) _)
    have Pd:Wp.heap[w6.heap.size]?=I (JZ #[J Jq 1,J Jq lw,J Jq lh,J Jq id,Jj O 0 0] 53 (0,0)):=by rw[<- I3];exact heap_alloc_new _ _
    have Ue:=zh I6
    have Jx:Hid (∀X,Below Wp.heap.size Wp X->X.cell? ⟨w1.heap.size,0,O⟩=I (J Jq nn.k)/\X.cell? ⟨w1.heap.size,1,O⟩=I (J Jq nn.w)/\X.cell? ⟨w1.heap.size,2,O⟩=I (J Jq nn.h)/\X.cell? ⟨w1.heap.size,3,O⟩=I (J Jq nn.i)/\X.cell? ⟨w1.heap.size,4,O⟩=I (Jj sa sn sc)/\X.cell? ⟨w6.heap.size,0,O⟩=I (J Jq 1)/\X.cell? ⟨w6.heap.size,1,O⟩=I (J Jq lw)/\X.cell? ⟨w6.heap.size,2,O⟩=I (J Jq lh)/\X.cell? ⟨w6.heap.size,3,O⟩=I (J Jq id)/\X.cell? ⟨w6.heap.size,4,O⟩=I (Jj O 0 0)):=fun X hX=>by
     have h:=(hX.block _ (lt_of_block Pd)).trans Pd
     have h5:=fN.out X (af I6 hX)
     exact⟨h5.1,h5.2.1,h5.2.2.1,h5.2.2.2.1,h5.2.2.2.2,ae h 0,ae h 1,ae h 2,ae h 3,ae h 4⟩
    have RN:Hid (Calls prog 63 #[.agg #[J Jq nn.k,J Jq nn.w,J Jq nn.h,J Jq nn.i,Jj sa sn sc],J Jq k,J Jq (-n-1)] Wp.drew fun e w'=>∃ta tn tc,e=Jz (.agg #[J Jq n1.k,J Jq n1.w,J Jq n1.h,J Jq n1.i,Jj ta tn tc])/\Below Wp.heap.size Wp w'/\Calls prog 62 #[J Jq k,.agg #[J Jq n1.k,J Jq n1.w,J Jq n1.h,J Jq n1.i,Jj ta tn tc],.agg #[J Jq 1,J Jq lw,J Jq lh,J Jq id,Jj O 0 0],.bool bf] w' fun e w''=>∃ua un uc,e=Jz (.agg #[J Jq n2.k,J Jq n2.w,J Jq n2.h,J Jq n2.i,Jj ua un uc])/\Below w'.heap.size w' w''/\Calls prog 16 #[.agg #[J Jq n2.k,J Jq n2.w,J Jq n2.h,J Jq n2.i,Jj ua un uc]] w'' fun e w3=>∃u,e=Jz u/\az w3 w''.heap.size u LT/\Below w''.heap.size w'' w3):=(yd.out Wp.drew I6.drew).mono fun e w' h=>by
     obtain⟨ta,tn,tc,h1,h2,h3⟩:=h
     exact⟨ta,tn,tc,h1,⟨h2.os,h2.tape,h2.output,h2.size,h2.block⟩,h3⟩
    have XB:=zh I3
    clear eM I6 Pd I3 fg yd m0 m1 m2 m3 m4
    go_upto_region 17 with fail
    rw[XB.out]
    obtain⟨m0,m1,m2,m3,m4,p0,p1,p2,p3,p4⟩:=Jx.out Wp (Below.refl _ _)
    go_region_held3 (fun X=>X.cell? ⟨w1.heap.size,0,O⟩=I (J Jq nn.k)/\X.cell? ⟨w1.heap.size,1,O⟩=I (J Jq nn.w)/\X.cell? ⟨w1.heap.size,2,O⟩=I (J Jq nn.h)/\X.cell? ⟨w1.heap.size,3,O⟩=I (J Jq nn.i)/\X.cell? ⟨w1.heap.size,4,O⟩=I (Jj sa sn sc)/\X.cell? ⟨w6.heap.size,0,O⟩=I (J Jq 1)/\X.cell? ⟨w6.heap.size,1,O⟩=I (J Jq lw)/\X.cell? ⟨w6.heap.size,2,O⟩=I (J Jq lh)/\X.cell? ⟨w6.heap.size,3,O⟩=I (J Jq id)/\X.cell? ⟨w6.heap.size,4,O⟩=I (Jj O 0 0)) (go_keep) (first
     | (go_at_call 16;refine XC.out.mono ?_;rintro e w9 ⟨u,rfl,hu,ez⟩;have XD:Hid (az w9 w.heap.size u LT):=hu.lower (af bR.out (af Ue.out sC.out)).size;have pC:Hid (Below w.heap.size w w9):=af (af bR.out (af Ue.out sC.out)) ez;obtain⟨m0,m1,m2,m3,m4,p0,p1,p2,p3,p4⟩:=Jx.out w9 (af sC.out ez);clear hu ez)
     | (go_at_call 62;refine XE.out.mono ?_;rintro e w8 ⟨ua,un,uc,rfl,pD,Uf⟩;have sC:Hid (Below Wp.heap.size Wp w8):=af LF.out pD;have XC:Hid (Calls prog 16 #[.agg #[J Jq n2.k,J Jq n2.w,J Jq n2.h,J Jq n2.i,Jj ua un uc]] w8 fun e w3=>∃u,e=Jz u/\az w3 w8.heap.size u LT/\Below w8.heap.size w8 w3):=Uf;obtain⟨m0,m1,m2,m3,m4,p0,p1,p2,p3,p4⟩:=Jx.out w8 sC.out;clear pD Uf)
     | (go_at_call 63;refine RN.out.mono ?_;rintro e w7 ⟨ta,tn,tc,rfl,j7,Ug⟩;have LF:Hid (Below Wp.heap.size Wp w7):=j7;have XE:Hid (Calls prog 62 #[J Jq k,.agg #[J Jq n1.k,J Jq n1.w,J Jq n1.h,J Jq n1.i,Jj ta tn tc],.agg #[J Jq 1,J Jq lw,J Jq lh,J Jq id,Jj O 0 0],.bool bf] w7 fun e w''=>∃ua un uc,e=Jz (.agg #[J Jq n2.k,J Jq n2.w,J Jq n2.h,J Jq n2.i,Jj ua un uc])/\Below w7.heap.size w7 w''/\Calls prog 16 #[.agg #[J Jq n2.k,J Jq n2.w,J Jq n2.h,J Jq n2.i,Jj ua un uc]] w'' fun e w3=>∃u,e=Jz u/\az w3 w''.heap.size u LT/\Below w''.heap.size w'' w3):=Ug;obtain⟨m0,m1,m2,m3,m4,p0,p1,p2,p3,p4⟩:=Jx.out w7 j7;clear j7 Ug))
    all_goals go_wp2
    all_goals go_ret2
    all_goals exact⟨u,rfl,XD.out,pC.out⟩)
theorem hidden {p:Prop}(h:p):Hid p:=h
theorem JE (v:Value)(l:List aj)(q:Int)(w:World)(h:ay w v l)(hF:aT l=O):Calls prog 28 #[v,J Jq q] w (dZ 40 [] w):=by
 have HT:=zh (tq v l w h hF)
 clear h hF
 go_enter func28,ntmps28
 go_wp2_with fail
 refine HT.out.mono ?_
 rintro e w1 ⟨rfl,hb⟩
 have HB:=zh (aK hb)
 unfold aU
 clear hb
 go_wp2
 go_ret2
 exact⟨_,rfl,World.ownsRow_nil _ _ _ _,HB.out _⟩
theorem xy (v:Value)(l:List aj)(q:Int)(w:World)(h:ay w v l){t:Tree}(hF:aT l=I t)(er:Int)(r:List aj)
 (kh:(q ∉ aH l/\er=42/\r=[])\/(q∈aH l/\(aH l).length=1/\er=46/\r=[])\/(q∈aH l/\(aH l).length≠1/\er=0/\∃t',r=cZ t'/\t'.sound=true/\t'.kinds/\t'.size<=200/\Shut q t t'/\∃b k ts,t=.split b k ts)):
 Calls prog 28 #[v,J Jq q] w (dZ er r w):=by
 have HT:=zh (dI v l w h hF)
 have ao:=jr hF
 have dq:=zh (aV hF)
 have bL:Hid ((ag t).ids=aH l/\1<=(aH l).length/\(aH l).length<=32/\(ag t).cnt<=1000):=⟨ao.1,ao.2.1,ao.2.2.1,ao.2.2.2.2⟩
 have AG:Hid (∀u B W,dD W B u (aH l)->Calls prog 55 #[u,J Jq q] W fun e w'=>e=Jz (.bool (decide (q∈aH l)))/\W=w'):=fun u B W hu=>iK u (aH l) B q W hu (by omega) (by intro h0;rw[h0] at ao;exact absurd ao.2.1 (by decide))
 obtain⟨nl,lc⟩:∃n,(aH l).length=n:=⟨_,rfl⟩
 have D2:=zh lc
 have ft:1<=nl/\nl<=32:=by rw[<- lc];exact⟨ao.2.1,ao.2.2.1⟩
 rw[lc] at kh
 obtain⟨bj,BS⟩:∃x,decide (q∈aH l)=x:=⟨_,rfl⟩
 rw[BS] at AG
 have BW:Hid (∀t',Shut q t t'->(∃b k ts,t=.split b k ts)->∀sl fp X,(ag t).In X sl fp->Calls prog 64 #[.agg (aC (ag t) sl),J Jq q] X (uD t' fp X)):=fun t' hS Fc sl fp X hX=>by
  have hz:=lay_size dq.out
  exact rJ q t.size t (Nat.le_refl _) (by omega) Fc dq.out.sound dq.out.kinds t' hS sl fp X hX
 clear h hF ao lc
 go_enter func28,ntmps28
 go_wp2_with fail
 refine HT.out.mono ?_
 rintro e w1 ⟨sa,sn,sc,fp,rfl,ab,hb⟩
 obtain⟨W,hW⟩:∃W,w1.alloc (JZ #[J Jq (ag t).k,J Jq (ag t).w,J Jq (ag t).h,J Jq (ag t).i,Jj sa sn sc] 53)=W:=⟨_,rfl⟩
 have ap:Below w1.heap.size w1 W:=by rw[<- hW];exact (Below.refl _ _).alloc (Nat.le_refl _) _
 have bR:=zh (af hb ap)
 have hM:W.heap[w1.heap.size]?=I (JZ #[J Jq (ag t).k,J Jq (ag t).w,J Jq (ag t).h,J Jq (ag t).i,Jj sa sn sc] 53 (0,0)):=by rw[<- hW];exact heap_alloc_new _ _
 have HX:Hid (∀X,Below W.heap.size W X->X.heap[w1.heap.size]?=I (JZ #[J Jq (ag t).k,J Jq (ag t).w,J Jq (ag t).h,J Jq (ag t).i,Jj sa sn sc] 53 (0,0))):=fun X hX=>(hX.block _ (lt_of_block hM)).trans hM
 have en:Hid (∀X,Below W.heap.size W X->(ag t).In X (Jj sa sn sc) fp):=fun X hX=>(ab.below ap).below hX
 have HW:=zh hW
 have bv:Hid (Calls prog 54 #[.agg #[J Jq (ag t).k,J Jq (ag t).w,J Jq (ag t).h,J Jq (ag t).i,Jj sa sn sc]] W fun e w'=>∃ua uc,e=Jz (Jj ua nl uc)/\dD w' W.heap.size (Jj ua nl uc) (aH l)/\Below W.heap.size W w'):=by
  refine (dF (ag t) bL.out.2.2.2 _ fp W (en.out W (Below.refl _ _))).mono ?_
  rintro e w' ⟨u,rfl,h1,h2⟩
  rw[bL.out.1] at h1
  obtain⟨ua,uc,e0⟩:=dG h1
  subst e0
  rw[D2.out] at h1 ⊢
  exact⟨ua,uc,rfl,h1,h2⟩
 have Ms:Hid (∀t' X,Shut q t t'->(∃b k ts,t=.split b k ts)->t'.sound=true->t'.kinds->t'.size<=200->Below W.heap.size W X->Calls prog 64 #[.agg #[J Jq (ag t).k,J Jq (ag t).w,J Jq (ag t).h,J Jq (ag t).i,Jj sa sn sc],J Jq q] X fun e w'=>∃(nr:Node),∃ua un uc,e=Jz (.agg #[J Jq nr.k,J Jq nr.w,J Jq nr.h,J Jq nr.i,Jj ua un uc])/\Below w.heap.size w w'/\Calls prog 16 #[.agg #[J Jq nr.k,J Jq nr.w,J Jq nr.h,J Jq nr.i,Jj ua un uc]] w' fun e w''=>∃u,e=Jz u/\az w'' w.heap.size u (cZ t')/\Below w.heap.size w w''):=fun t' X hS Fc h1 h2 h3 hX=>by
  refine (BW.out t' hS Fc _ fp X (en.out X hX)).mono ?_
  rintro e w' ⟨ua,un,uc,f',he,Rh,_,cC⟩
  have D3:Below w.heap.size w w':=af (af bR.out hX) cC
  refine⟨ag t',ua,un,uc,he,D3,(iW h1 h2 h3 Rh).mono ?_⟩
  rintro e w'' ⟨u,rfl,hu,Mt⟩
  exact⟨u,rfl,hu.lower D3.size,af D3 Mt⟩
 obtain⟨nn,aR⟩:∃x,ag t=x:=⟨_,rfl⟩
 rw[aR] at HX HW bv Ms ⊢
 have fN:Hid (∀X,Below W.heap.size W X->X.cell? ⟨w1.heap.size,0,O⟩=I (J Jq nn.k)/\X.cell? ⟨w1.heap.size,1,O⟩=I (J Jq nn.w)/\X.cell? ⟨w1.heap.size,2,O⟩=I (J Jq nn.h)/\X.cell? ⟨w1.heap.size,3,O⟩=I (J Jq nn.i)/\X.cell? ⟨w1.heap.size,4,O⟩=I (Jj sa sn sc)):=fun X hX=>⟨ae (HX.out X hX) 0,ae (HX.out X hX) 1,ae (HX.out X hX) 2,ae (HX.out X hX) 3,ae (HX.out X hX) 4⟩
 unfold aC
 clear hb ab ap hM hW aR HT en BW HX
 have GA:=zh kh
 have sT:=zh BS
 clear kh BS
 go_wp2_with fail
 rw[HW.out]
 obtain⟨m0,m1,m2,m3,m4⟩:=fN.out W (Below.refl _ _)
 go_wp2_with fail
 refine bv.out.mono ?_
 rintro e w2 ⟨ua,uc,rfl,hu,YB⟩
 clear m0 m1 m2 m3 m4
 have aD:=zh YB
 have HU:=zh hu
 clear hu YB
 go_wp2_with fail
 refine (AG.out _ _ w2 HU.out).mono ?_
 rintro e w3 ⟨rfl,rfl⟩
 clear AG HU bv HW
 rcases GA.out with ⟨h1,rfl,rfl⟩ | ⟨h1,h2,rfl,rfl⟩ | ⟨h1,h2,rfl,t',rfl,h3,h4,h5,h6,h7⟩
 . have hf:bj=false:=by rw[<- sT.out];exact decide_eq_false h1
   have HZ:=zh (af bR.out aD.out)
   subst hf
   clear h1
   go_wp2
   go_ret2
   exact⟨_,rfl,World.ownsRow_nil _ _ _ _,HZ.out⟩
 . have hf:bj=true:=by rw[<- sT.out];exact decide_eq_true h1
   have HZ:=zh (af bR.out aD.out)
   subst hf
   subst h2
   clear h1
   go_wp2
   go_ret2
   exact⟨_,rfl,World.ownsRow_nil _ _ _ _,HZ.out⟩
 . have hf:bj=true:=by rw[<- sT.out];exact decide_eq_true h1
   have hk:¬(nl:Int)=1:=by omega
   have dt:((nl:Int)==1)=false:=by simpa using hk
   have HE:=hidden (Ms.out t' w2 h6 h7 h3 h4 h5 aD.out)
   subst hf
   obtain⟨m0,m1,m2,m3,m4⟩:=fN.out w2 aD.out
   clear h1 h2 h3 h4 h5 h6 h7 Ms GA
   go_wp2_with fail
   refine HE.out.mono ?_
   rintro e w4 ⟨nr,xa,xn,xc,rfl,cv,hL⟩
   have HL:=hidden hL
   clear m0 m1 m2 m3 m4 hL cv HE
   go_wp2_with fail
   refine HL.out.mono ?_
   rintro e w5 ⟨u,rfl,hu,cd⟩
   have HZ:Hid (az w5 w.heap.size u (cZ t')/\Below w.heap.size w w5):=⟨hu,cd⟩
   clear hu cd HL
   go_wp2
   go_ret2
   exact⟨_,rfl,HZ.out.1,HZ.out.2⟩
theorem oU:∀(st:List (Nat × Nat)) (i:Nat) (s:Nat × Nat),st[i]?=I s->(xO st)[i*2]?=I (JJ (I ⟨s.1,0,O⟩))/\(xO st)[i*2+1]?=I (J Jq s.2)
 | [],i,s,h=>by simp at h
 | a::st,0,s,h=>by
   simp at h
   subst h
   exact⟨rfl,rfl⟩
 | a::st,i+1,s,h=>by
   have ih:=oU st i s (by simpa using h)
   have e:xO (a::st)=[JJ (I ⟨a.1,0,O⟩),J Jq a.2]++xO st:=rfl
   rw[e,show (i+1)*2=i*2+2 by omega,show i*2+2+1=i*2+1+2 by omega]
   exact ih
def tZ (er:Int)(w:World)(e:Ending)(w':World):Prop:=e=Jz (.tuple #[.nilIface,.agg #[JJ O,J Jq 0],J Jq er])/\Below w.heap.size w w'
theorem Ci (v:Value)(l:List aj)(q k:Int)(w:World)(h:ay w v l)(hF:aT l=O):Calls prog 48 #[v,J Jq q,J Jq k] w (tZ 40 w):=by
 obtain⟨W,hW⟩:∃W,w.alloc (JZ #[JJ O,J Jq 0] 88)=W:=⟨_,rfl⟩
 have ap:Below w.heap.size w W:=by rw[<- hW];exact (Below.refl _ _).alloc (Nat.le_refl _) _
 have hM:W.heap[w.heap.size]?=I (JZ #[JJ O,J Jq 0] 88 (0,0)):=by rw[<- hW];exact heap_alloc_new _ _
 have HR:=zh (wG v l W (h.below ap) hF)
 have HX:Hid (∀X,Below W.heap.size W X->X.heap[w.heap.size]?=I (JZ #[JJ O,J Jq 0] 88 (0,0))):=fun X hX=>(hX.block _ (lt_of_block hM)).trans hM
 have HW:=zh hW
 have bR:=zh ap
 clear h hF hW ap hM
 go_enter func48,ntmps48
 go_upto_region 1 with fail
 rw[HW.out]
 go_wp2_with fail
 refine HR.out.mono ?_
 rintro e w1 ⟨rfl,hb⟩
 have c0:w1.cell? ⟨w.heap.size,0,O⟩=I (JJ O):=ae (HX.out w1 hb) 0
 have c1:w1.cell? ⟨w.heap.size,1,O⟩=I (J Jq 0):=ae (HX.out w1 hb) 1
 have f0:w1.frozen? ⟨w.heap.size,0,O⟩=false:=ai (HX.out w1 hb) 0
 have f1:w1.frozen? ⟨w.heap.size,1,O⟩=false:=ai (HX.out w1 hb) 1
 have HB:=zh (af bR.out hb)
 unfold eH
 clear hb
 go_wp2
 exact bodyPost_ret (v:=.tuple #[.nilIface,.agg #[JJ O,J Jq 0],J Jq 40]) (by simp[results,results48,go_sem,c0,c1]) rfl ⟨rfl,below_grown (below_grown HB.out (grownBy_set _ _ _ _) (Nat.le_refl _)) (grownBy_set _ _ _ _) (Nat.le_refl _)⟩
theorem Gg (v:Value)(l:List aj)(q k:Int)(w:World)(h:ay w v l){t:Tree}(hF:aT l=I t)(hk:¬(k=2\/k=3)):Calls prog 48 #[v,J Jq q,J Jq k] w (tZ 1 w):=by
 obtain⟨W,hW⟩:∃W,w.alloc (JZ #[JJ O,J Jq 0] 88)=W:=⟨_,rfl⟩
 have ap:Below w.heap.size w W:=by rw[<- hW];exact (Below.refl _ _).alloc (Nat.le_refl _) _
 have hM:W.heap[w.heap.size]?=I (JZ #[JJ O,J Jq 0] 88 (0,0)):=by rw[<- hW];exact heap_alloc_new _ _
 have HR:=zh (dQ v l W (h.below ap) hF)
 have HX:Hid (∀X,Below W.heap.size W X->X.heap[w.heap.size]?=I (JZ #[JJ O,J Jq 0] 88 (0,0))):=fun X hX=>(hX.block _ (lt_of_block hM)).trans hM
 have HW:=zh hW
 have bR:=zh ap
 have HC:Hid (∀W,Calls prog 36 #[J Jq k] W fun e w'=>e=Jz (.bool false)/\W=w'):=fun W=>(decide_eq_false hk) ▸ fE k W
 clear h hF hW ap hM hk
 go_enter func48,ntmps48
 go_upto_region 1 with fail
 rw[HW.out]
 go_wp2_with fail
 refine HR.out.mono ?_
 rintro e w1 ⟨T,g,fp,rfl,bq,aE,be,hb⟩
 have tg:=zh hb
 clear bq aE be hb HR
 go_wp2_with fail
 refine (HC.out _).mono ?_
 rintro e w2 ⟨rfl,rfl⟩
 have c0:w1.cell? ⟨w.heap.size,0,O⟩=I (JJ O):=ae (HX.out w1 tg.out) 0
 have c1:w1.cell? ⟨w.heap.size,1,O⟩=I (J Jq 0):=ae (HX.out w1 tg.out) 1
 have f0:w1.frozen? ⟨w.heap.size,0,O⟩=false:=ai (HX.out w1 tg.out) 0
 have f1:w1.frozen? ⟨w.heap.size,1,O⟩=false:=ai (HX.out w1 tg.out) 1
 have HB:=zh (af bR.out tg.out)
 go_wp2
 exact bodyPost_ret (v:=.tuple #[.nilIface,.agg #[JJ O,J Jq 0],J Jq 1]) (by simp[results,results48,go_sem,c0,c1]) rfl ⟨rfl,below_grown (below_grown HB.out (grownBy_set _ _ _ _) (Nat.le_refl _)) (grownBy_set _ _ _ _) (Nat.le_refl _)⟩
theorem Cj (v:Value)(l:List aj)(q k:Int)(w:World)(h:ay w v l){t:Tree}(hF:aT l=I t)(hk:k=2\/k=3)(hp:t.path q=O):Calls prog 48 #[v,J Jq q,J Jq k] w (tZ 42 w):=by
 obtain⟨W,hW⟩:∃W,w.alloc (JZ #[JJ O,J Jq 0] 88)=W:=⟨_,rfl⟩
 have ap:Below w.heap.size w W:=by rw[<- hW];exact (Below.refl _ _).alloc (Nat.le_refl _) _
 have hM:W.heap[w.heap.size]?=I (JZ #[JJ O,J Jq 0] 88 (0,0)):=by rw[<- hW];exact heap_alloc_new _ _
 have HR:=zh (dQ v l W (h.below ap) hF)
 have HX:Hid (∀X,Below W.heap.size W X->X.heap[w.heap.size]?=I (JZ #[JJ O,J Jq 0] 88 (0,0))):=fun X hX=>(hX.block _ (lt_of_block hM)).trans hM
 have HW:=zh hW
 have bR:=zh ap
 have HC:Hid (∀W,Calls prog 36 #[J Jq k] W fun e w'=>e=Jz (.bool true)/\W=w'):=fun W=>(decide_eq_true hk) ▸ fE k W
 have hl:=aV hF
 have hz:=lay_size hl
 have Cg : Hid (∀ T g fp X, t.At X 0 (.iface T (JJ (I ⟨g, 0, O⟩))) fp → ∃ Fw, (∀ Y, (method 286 T (JJ (I ⟨g, 0, O⟩)) "mullion/layout.way").run prog Y = .ok (Fw, JJ (I ⟨g, 0, O⟩)) Y) ∧ (∀ a c Y, (callFunc Fw #[a, c]).run prog Y = .ok (.enter Fw #[a, c]) Y) ∧ Calls prog Fw #[JJ (I ⟨g, 0, O⟩), J Jq q] X (ng X (.iface T (JJ (I ⟨g, 0, O⟩))) t q X)) := fun T g fp X hA => by
  obtain⟨T',gi,Fw,hP⟩:=hA.GN hl.sound (by omega)
  have hv:=hP.val
  cases hv
  exact⟨Fw,hP.mW,hP.fW,hP.cW q X (Below.refl _ _)⟩
 have HP:=zh hp
 clear h hF hW ap hM hk hl hz hp
 go_enter func48,ntmps48
 go_upto_region 1 with fail
 rw[HW.out]
 go_wp2_with fail
 refine HR.out.mono ?_
 rintro e w1 ⟨T,g,fp,rfl,bq,aE,be,hb⟩
 have tg:=zh hb
 obtain⟨Fw,m1,m2,tm⟩:=Cg.out T g fp w1 bq
 have El:=zh tm
 have j5:Hid (t.At w1 0 (.iface T (JJ (I ⟨g,0,O⟩))) fp/\fp.Nodup/\∀q∈fp,W.heap.size<=q):=⟨bq,aE,be⟩
 clear bq aE be hb HR tm Cg
 go_wp2_with fail
 refine (HC.out _).mono ?_
 rintro e w2 ⟨rfl,rfl⟩
 go_wp2_with fail
 refine El.out.mono ?_
 rintro e w2 ⟨al,⟨j1,rfl⟩ | ⟨ps,gl,st,sa,sn,sc,j1,_⟩⟩
 . have aM:=af tg.out al
   have c0:w2.cell? ⟨w.heap.size,0,O⟩=I (JJ O):=ae (HX.out w2 aM) 0
   have c1:w2.cell? ⟨w.heap.size,1,O⟩=I (J Jq 0):=ae (HX.out w2 aM) 1
   have f0:w2.frozen? ⟨w.heap.size,0,O⟩=false:=ai (HX.out w2 aM) 0
   have f1:w2.frozen? ⟨w.heap.size,1,O⟩=false:=ai (HX.out w2 aM) 1
   have HB:=zh (af bR.out aM)
   clear al aM j1
   go_wp2
   exact bodyPost_ret (v:=.tuple #[.nilIface,.agg #[JJ O,J Jq 0],J Jq 42]) (by simp[results,results48,go_sem,c0,c1]) rfl ⟨rfl,below_grown (below_grown HB.out (grownBy_set _ _ _ _) (Nat.le_refl _)) (grownBy_set _ _ _ _) (Nat.le_refl _)⟩
 . rw[HP.out] at j1
   cases j1
theorem zy (v:Value)(l:List aj)(q k:Int)(w:World)(h:ay w v l){t:Tree}(hF:aT l=I t)(hk:k=2\/k=3)(ps:List Nat)(hp:t.path q=I ps)(vR:ps.length<=1000)(hn:iT k t ps=O):Calls prog 48 #[v,J Jq q,J Jq k] w (tZ 47 w):=by
 obtain⟨W,hW⟩:∃W,w.alloc (JZ #[JJ O,J Jq 0] 88)=W:=⟨_,rfl⟩
 have ap:Below w.heap.size w W:=by rw[<- hW];exact (Below.refl _ _).alloc (Nat.le_refl _) _
 have hM:W.heap[w.heap.size]?=I (JZ #[JJ O,J Jq 0] 88 (0,0)):=by rw[<- hW];exact heap_alloc_new _ _
 have HR:=zh (dQ v l W (h.below ap) hF)
 have HX:Hid (∀X,Below W.heap.size W X->X.heap[w.heap.size]?=I (JZ #[JJ O,J Jq 0] 88 (0,0))):=fun X hX=>(hX.block _ (lt_of_block hM)).trans hM
 have HW:=zh hW
 have bR:=zh ap
 have HC:Hid (∀W,Calls prog 36 #[J Jq k] W fun e w'=>e=Jz (.bool true)/\W=w'):=fun W=>(decide_eq_true hk) ▸ fE k W
 have hl:=aV hF
 have hz:=lay_size hl
 have Cg : Hid (∀ T g fp X, t.At X 0 (.iface T (JJ (I ⟨g, 0, O⟩))) fp → ∃ Fw, (∀ Y, (method 286 T (JJ (I ⟨g, 0, O⟩)) "mullion/layout.way").run prog Y = .ok (Fw, JJ (I ⟨g, 0, O⟩)) Y) ∧ (∀ a c Y, (callFunc Fw #[a, c]).run prog Y = .ok (.enter Fw #[a, c]) Y) ∧ Calls prog Fw #[JJ (I ⟨g, 0, O⟩), J Jq q] X (ng X (.iface T (JJ (I ⟨g, 0, O⟩))) t q X)) := fun T g fp X hA => by
  obtain⟨T',gi,Fw,hP⟩:=hA.GN hl.sound (by omega)
  have hv:=hP.val
  cases hv
  exact⟨Fw,hP.mW,hP.fW,hP.cW q X (Below.refl _ _)⟩
 have HP:=zh hp
 have Wi:=zh vR
 have Wj:=zh hn
 clear h hF hW ap hM hk hl hz hp vR hn
 go_enter func48,ntmps48
 go_upto_region 1 with fail
 rw[HW.out]
 go_wp2_with fail
 refine HR.out.mono ?_
 rintro e w1 ⟨T,g,fp,rfl,bq,aE,be,hb⟩
 have tg:=zh hb
 obtain⟨Fw,m1,m2,tm⟩:=Cg.out T g fp w1 bq
 have El:=zh tm
 have j5:Hid (t.At w1 0 (.iface T (JJ (I ⟨g,0,O⟩))) fp/\fp.Nodup/\∀q∈fp,W.heap.size<=q):=⟨bq,aE,be⟩
 clear bq aE be hb HR tm Cg
 go_wp2_with fail
 refine (HC.out _).mono ?_
 rintro e w2 ⟨rfl,rfl⟩
 go_wp2_with fail
 refine El.out.mono ?_
 rintro e w2 ⟨al,⟨j1,rfl⟩ | ⟨ps2,gl,st,sa,sn,sc,j1,zm,rfl,cg⟩⟩
 . rw[HP.out] at j1
   cases j1
 . rw[HP.out] at j1
   cases j1
   have aM:=af tg.out al
   have MD:=zm
   have LN:Hid _:=EC (k:=k) ps j5.out.1 j5.out.2.1 zm
   have lp:sn=st.length:=by
    obtain⟨a',c',e⟩:=dG cg
    injection e with _ e2 _
   obtain⟨m,hm⟩:∃m,st.length=m:=⟨_,rfl⟩
   have k7:m<=1000:=by
    rw[<- hm,zm.len]
    exact Wi.out
   rw[hm] at lp
   have ME:=lp.symm
   subst ME
   have HM:=zh hm
   have kp:Hid (∀X,Below w2.heap.size w2 X->∀(i:Nat) s,st[i]?=I s->∃sg,sa=I ⟨sg,0,O⟩/\X.cell? ⟨sg,i*2,O⟩=I (JJ (I ⟨s.1,0,O⟩))/\X.cell? ⟨sg,i*2+1,O⟩=I (J Jq s.2)):=fun X hX i s hs=>by
    have hi:i < m:=by rw[<- hm];exact (List.getElem?_eq_some_iff.1 hs).1
    have mH:=cg
    unfold Steps at mH
    rw[hm] at mH
    rcases mH.2 with ⟨_,h0⟩ | ⟨sg,cp,cur,e,hb0,Rj,r⟩
    . omega
    . have he:sa=I ⟨sg,0,O⟩:=by injection e
      refine⟨sg,he,?_,?_⟩
      . subst he
        have h1:=World.ownsRow.cellAt mH (i*2) (by omega)
        rw[(oU st i s hs).1] at h1
        exact (hX.cell (p:=⟨sg,i*2,O⟩) (World.block_lt_of_cell? w2 _ h1)).trans h1
      . subst he
        have h1:=World.ownsRow.cellAt mH (i*2+1) (by omega)
        rw[(oU st i s hs).2] at h1
        exact (hX.cell (p:=⟨sg,i*2+1,O⟩) (World.block_lt_of_cell? w2 _ h1)).trans h1
   have DG:Hid (∀X,Below w2.heap.size w2 X->∀(gg:Nat) x,w1.cell? ⟨gg,4,O⟩=I x->X.cell? ⟨gg,4,O⟩=I x):=fun X hX gg x hx=>((af al hX).cell (p:=⟨gg,4,O⟩) (World.block_lt_of_cell? w1 _ hx)).trans hx
   have aD:=zh aM
   have GA:Hid (∀X,Below w2.heap.size w2 X->X.cell? ⟨w.heap.size,0,O⟩=I (JJ O)/\X.cell? ⟨w.heap.size,1,O⟩=I (J Jq 0)/\X.frozen? ⟨w.heap.size,0,O⟩=false/\X.frozen? ⟨w.heap.size,1,O⟩=false):=fun X hX=>by
    have i8:=HX.out X (af aM hX)
    exact⟨ae i8 0,ae i8 1,ai i8 0,ai i8 1⟩
   have YN:=zh (LN.out.1 Wj.out)
   clear al aM zm MD cg hm LN El m1 m2 j5
   go_wp2
   go_loopw [34] (fun vi wr=>∃i:Nat,i<=m/\vi=J Jq i/\Hid (Below w2.heap.size w2 wr)) (fun vi _=>m-(intOf vi).toNat)
   case atStart=>exact⟨0,Nat.zero_le _,rfl,Below.refl _ _⟩
   case round=>
    obtain⟨i,hi,rfl,bB⟩:=hrel
    by_cases am:i < m
    . obtain⟨s,hs⟩:∃s,st[i]?=I s:=⟨_,List.getElem?_eq_getElem (by rw[HM.out];exact am)⟩
      obtain⟨sg,ke,q0,q1⟩:=kp.out wr bB.out i s hs
      obtain⟨k',rS,a7⟩:=YN.out i s hs
      subst ke
      obtain⟨s1,s2⟩:=s
      have lr:Hid (∀o,(wr.alloc o).cell? ⟨s1,4,O⟩=I (J Jq k')):=fun o=>DG.out _ (af bB.out ((Below.refl _ _).alloc (Nat.le_refl _) o)) s1 _ rS
      have k4:=lr.out
      have Wk:(k'==k)=false:=by simpa using a7
      have fY:Hid (∀o,Below w2.heap.size w2 (wr.alloc o)):=fun o=>af bB.out ((Below.refl _ _).alloc (Nat.le_refl _) o)
      clear hs rS a7
      go_wp2
      go_roundw
      case rel=>exact⟨i+1,by omega,by go_num,fY.out _⟩
      case measure=>simp[intOf];omega
    . have bE:i=m:=by omega
      subst bE
      obtain⟨c0,c1,f0,f1⟩:=GA.out wr bB.out
      have HB:=zh (af bR.out (af aD.out bB.out))
      go_wp2
      exact bodyPost_ret (v:=.tuple #[.nilIface,.agg #[JJ O,J Jq 0],J Jq 47]) (by simp[results,results48,go_sem,c0,c1]) rfl ⟨rfl,below_grown (below_grown HB.out (grownBy_set _ _ _ _) (Nat.le_refl _)) (grownBy_set _ _ _ _) (Nat.le_refl _)⟩
def qK (k:Int)(t:Tree)(qs:List Nat)(a:Nat)(w:World)(e:Ending)(w':World):Prop:=∃T g fp st j gg b ts f' w1,e=Jz (.tuple #[.iface T (JJ (I ⟨g,0,O⟩)),.agg #[JJ (I ⟨gg,0,O⟩),J Jq a],J Jq 0])/\t.At w1 0 (.iface T (JJ (I ⟨g,0,O⟩))) fp/\fp.Nodup/\(∀q∈fp,w.heap.size+1<=q)/\FY w1 k t (.iface T (JJ (I ⟨g,0,O⟩))) fp st qs a j gg b ts f'/\But [w.heap.size] w1 w'/\Below w.heap.size w w'
theorem qh (v:Value)(l:List aj)(q k:Int)(w:World)(h:ay w v l){t:Tree}(hF:aT l=I t)(hk:k=2\/k=3)(ps:List Nat)(hp:t.path q=I ps)(vR:ps.length<=1000)(qs:List Nat)(a:Nat)(hn:iT k t ps=I (qs,a)):Calls prog 48 #[v,J Jq q,J Jq k] w (qK k t qs a w):=by
 obtain⟨W,hW⟩:∃W,w.alloc (JZ #[JJ O,J Jq 0] 88)=W:=⟨_,rfl⟩
 have ap:Below w.heap.size w W:=by rw[<- hW];exact (Below.refl _ _).alloc (Nat.le_refl _) _
 have hM:W.heap[w.heap.size]?=I (JZ #[JJ O,J Jq 0] 88 (0,0)):=by rw[<- hW];exact heap_alloc_new _ _
 have HR:=zh (dQ v l W (h.below ap) hF)
 have HX:Hid (∀X,Below W.heap.size W X->X.heap[w.heap.size]?=I (JZ #[JJ O,J Jq 0] 88 (0,0))):=fun X hX=>(hX.block _ (lt_of_block hM)).trans hM
 have HW:=zh hW
 have bR:=zh ap
 have HC:Hid (∀W,Calls prog 36 #[J Jq k] W fun e w'=>e=Jz (.bool true)/\W=w'):=fun W=>(decide_eq_true hk) ▸ fE k W
 have hl:=aV hF
 have hz:=lay_size hl
 have Cg : Hid (∀ T g fp X, t.At X 0 (.iface T (JJ (I ⟨g, 0, O⟩))) fp → ∃ Fw, (∀ Y, (method 286 T (JJ (I ⟨g, 0, O⟩)) "mullion/layout.way").run prog Y = .ok (Fw, JJ (I ⟨g, 0, O⟩)) Y) ∧ (∀ a c Y, (callFunc Fw #[a, c]).run prog Y = .ok (.enter Fw #[a, c]) Y) ∧ Calls prog Fw #[JJ (I ⟨g, 0, O⟩), J Jq q] X (ng X (.iface T (JJ (I ⟨g, 0, O⟩))) t q X)) := fun T g fp X hA => by
  obtain⟨T',gi,Fw,hP⟩:=hA.GN hl.sound (by omega)
  have hv:=hP.val
  cases hv
  exact⟨Fw,hP.mW,hP.fW,hP.cW q X (Below.refl _ _)⟩
 have HP:=zh hp
 have Wi:=zh vR
 have Wj:=zh hn
 have fi:W.heap.size=w.heap.size+1:=by rw[<- hW];simp
 have pm:=zh fi
 clear h hF hW ap hM hk hl hz hp vR hn fi
 go_enter func48,ntmps48
 go_upto_region 1 with fail
 rw[HW.out]
 go_wp2_with fail
 refine HR.out.mono ?_
 rintro e w1 ⟨T,g,fp,rfl,bq,aE,be,hb⟩
 have tg:=zh hb
 obtain⟨Fw,m1,m2,tm⟩:=Cg.out T g fp w1 bq
 have El:=zh tm
 have j5:Hid (t.At w1 0 (.iface T (JJ (I ⟨g,0,O⟩))) fp/\fp.Nodup/\∀q∈fp,W.heap.size<=q):=⟨bq,aE,be⟩
 clear bq aE be hb HR tm Cg
 go_wp2_with fail
 refine (HC.out _).mono ?_
 rintro e w2 ⟨rfl,rfl⟩
 go_wp2_with fail
 refine El.out.mono ?_
 rintro e w2 ⟨al,⟨j1,rfl⟩ | ⟨ps2,gl,st,sa,sn,sc,j1,zm,rfl,cg⟩⟩
 . rw[HP.out] at j1
   cases j1
 . rw[HP.out] at j1
   cases j1
   have aM:=af tg.out al
   have MD:=zm
   have LN:Hid _:=EC (k:=k) ps j5.out.1 j5.out.2.1 zm
   have lp:sn=st.length:=by
    obtain⟨a',c',e⟩:=dG cg
    injection e with _ e2 _
   obtain⟨m,hm⟩:∃m,st.length=m:=⟨_,rfl⟩
   have k7:m<=1000:=by
    rw[<- hm,zm.len]
    exact Wi.out
   rw[hm] at lp
   have ME:=lp.symm
   subst ME
   have HM:=zh hm
   have kp:Hid (∀X,Below w2.heap.size w2 X->∀(i:Nat) s,st[i]?=I s->∃sg,sa=I ⟨sg,0,O⟩/\X.cell? ⟨sg,i*2,O⟩=I (JJ (I ⟨s.1,0,O⟩))/\X.cell? ⟨sg,i*2+1,O⟩=I (J Jq s.2)):=fun X hX i s hs=>by
    have hi:i < m:=by rw[<- hm];exact (List.getElem?_eq_some_iff.1 hs).1
    have mH:=cg
    unfold Steps at mH
    rw[hm] at mH
    rcases mH.2 with ⟨_,h0⟩ | ⟨sg,cp,cur,e,hb0,Rj,r⟩
    . omega
    . have he:sa=I ⟨sg,0,O⟩:=by injection e
      refine⟨sg,he,?_,?_⟩
      . subst he
        have h1:=World.ownsRow.cellAt mH (i*2) (by omega)
        rw[(oU st i s hs).1] at h1
        exact (hX.cell (p:=⟨sg,i*2,O⟩) (World.block_lt_of_cell? w2 _ h1)).trans h1
      . subst he
        have h1:=World.ownsRow.cellAt mH (i*2+1) (by omega)
        rw[(oU st i s hs).2] at h1
        exact (hX.cell (p:=⟨sg,i*2+1,O⟩) (World.block_lt_of_cell? w2 _ h1)).trans h1
   have DG:Hid (∀X,Below w2.heap.size w2 X->∀(gg:Nat) x,w1.cell? ⟨gg,4,O⟩=I x->X.cell? ⟨gg,4,O⟩=I x):=fun X hX gg x hx=>((af al hX).cell (p:=⟨gg,4,O⟩) (World.block_lt_of_cell? w1 _ hx)).trans hx
   have aD:=zh aM
   have GA:Hid (∀X,Below w2.heap.size w2 X->X.cell? ⟨w.heap.size,0,O⟩=I (JJ O)/\X.cell? ⟨w.heap.size,1,O⟩=I (J Jq 0)/\X.frozen? ⟨w.heap.size,0,O⟩=false/\X.frozen? ⟨w.heap.size,1,O⟩=false):=fun X hX=>by
    have i8:=HX.out X (af aM hX)
    exact⟨ae i8 0,ae i8 1,ai i8 0,ai i8 1⟩
   obtain⟨j,gg,bb,ts,f',hN⟩:=LN.out.2 qs a Wj.out
   have Er:j < m:=by rw[<- hm];exact (List.getElem?_eq_some_iff.1 hN.at_).1
   have bA:Hid (∀X,But [w.heap.size] w2 X->qK k t qs a w (Jz (.tuple #[.iface T (JJ (I ⟨g,0,O⟩)),.agg #[JJ (I ⟨gg,0,O⟩),J Jq a],J Jq 0])) X):=fun X hX=>by
    have zv:But [w.heap.size] w1 w2:=⟨al.os,al.tape,al.output,al.size,fun q hq _=>al.block q hq⟩
    have rj:=af bR.out aM
    exact⟨T,g,fp,st,j,gg,bb,ts,f',w1,rfl,j5.out.1,j5.out.2.1,fun q hq=>by have:=j5.out.2.2 q hq;have:=pm.out;omega,hN,zv.trans hX,gX rj hX (fun q hq=>Nat.le_of_eq (by simpa using hq:q=w.heap.size).symm)⟩
   have tp:=zh hN.ahead
   have FG:=zh hN.at_
   have HKk:=zh hN.kind
   clear al aM zm MD cg hm LN El m1 m2 j5 hN
   go_wp2
   go_loopw [34] (fun vi wr=>∃i:Nat,i<=j/\vi=J Jq i/\Hid (Below w2.heap.size w2 wr)) (fun vi _=>m-(intOf vi).toNat)
   case atStart=>exact⟨0,Nat.zero_le _,rfl,Below.refl _ _⟩
   case round=>
    obtain⟨i,hi,rfl,bB⟩:=hrel
    by_cases am:i < j
    . obtain⟨s,hs⟩:∃s,st[i]?=I s:=⟨_,List.getElem?_eq_getElem (by rw[HM.out];omega)⟩
      obtain⟨sg,ke,q0,q1⟩:=kp.out wr bB.out i s hs
      obtain⟨k',rS,a7⟩:=tp.out i s am hs
      subst ke
      obtain⟨s1,s2⟩:=s
      have lr:Hid (∀o,(wr.alloc o).cell? ⟨s1,4,O⟩=I (J Jq k')):=fun o=>DG.out _ (af bB.out ((Below.refl _ _).alloc (Nat.le_refl _) o)) s1 _ rS
      have k4:=lr.out
      have Wk:(k'==k)=false:=by simpa using a7
      have him:i < m:=by omega
      have fY:Hid (∀o,Below w2.heap.size w2 (wr.alloc o)):=fun o=>af bB.out ((Below.refl _ _).alloc (Nat.le_refl _) o)
      clear hs rS a7
      go_wp2
      go_roundw
      case rel=>exact⟨i+1,by omega,by go_num,fY.out _⟩
      case measure=>simp[intOf];omega
    . have bE:i=j:=by omega
      subst bE
      obtain⟨sg,ke,q0,q1⟩:=kp.out wr bB.out i _ FG.out
      subst ke
      have lr:Hid (∀o,(wr.alloc o).cell? ⟨gg,4,O⟩=I (J Jq k)):=fun o=>DG.out _ (af bB.out ((Below.refl _ _).alloc (Nat.le_refl _) o)) gg _ HKk.out
      have k4:=lr.out
      obtain⟨Y,hY⟩:∃Y,wr.alloc (JZ #[JJ (I ⟨gg,0,O⟩),J Jq a] 88)=Y:=⟨_,rfl⟩
      have b7:Below w2.heap.size w2 Y:=by rw[<- hY];exact af bB.out ((Below.refl _ _).alloc (Nat.le_refl _) _)
      have mK:Y.heap[wr.heap.size]?=I (JZ #[JJ (I ⟨gg,0,O⟩),J Jq a] 88 (0,0)):=by rw[<- hY];exact heap_alloc_new _ _
      have HY:=zh hY
      obtain⟨c0,c1,f0,f1⟩:=GA.out Y b7
      have y0:Y.cell? ⟨wr.heap.size,0,O⟩=I (JJ (I ⟨gg,0,O⟩)):=ae mK 0
      have y1:Y.cell? ⟨wr.heap.size,1,O⟩=I (J Jq a):=ae mK 1
      have HF:Hid (∀X,But [w.heap.size] Y X->qK k t qs a w (Jz (.tuple #[.iface T (JJ (I ⟨g,0,O⟩)),.agg #[JJ (I ⟨gg,0,O⟩),J Jq a],J Jq 0])) X):=fun X hX=>bA.out X (But.trans ⟨b7.os,b7.tape,b7.output,b7.size,fun q hq _=>b7.block q hq⟩ hX)
      clear hY b7 mK bA
      go_upto_region 13 with fail
      rw[HY.out]
      go_region
      all_goals go_wp2
      all_goals exact bodyPost_ret (v:=.tuple #[.iface T (JJ (I ⟨g,0,O⟩)),.agg #[JJ (I ⟨gg,0,O⟩),J Jq a],J Jq 0]) (by simp[results,results48,go_sem,c0,c1]) rfl (HF.out _ (((But.grown (grownBy_set _ _ _ _)).trans (But.grown (grownBy_set _ _ _ _))).drew))
structure Same (s s':Tree):Prop where
 sound:s.sound=true->s'.sound=true
 box:s'.box=s.box
 kind:∀q,s'.bY q=s.bY q
 kinds:s.kinds->s'.kinds
 size:s'.size=s.size
structure Oa (b:Box)(k:Int)(ts rs:List Tree):Prop where
 len:rs.length=ts.length
 sound:au ts b k=true->au rs b k=true
 ext:aN rs k=aN ts k
 kinds:bi ts->bi rs
 size:sizes rs=sizes ts
theorem GL (b:Box)(k:Int)(u u':Tree)(h:Same u u'):∀(ts:List Tree) (i:Nat),ts[i]?=I u->Oa b k ts (ts.set i u')
 | [],i,hi=>by simp at hi
 | a::ts,0,hi=>by
   simp at hi
   subst hi
   refine⟨by simp,fun hs=> ?_,?_,fun hk=>⟨h.kinds hk.1,hk.2⟩,?_⟩
   . show au (u'::ts) b k=true
     unfold au at hs ⊢
     simp only[Bool.and_eq_true,decide_eq_true_eq] at hs ⊢
     exact⟨⟨h.sound hs.1.1,by rw[h.kind];exact hs.1.2.1,by rw[h.box];exact hs.1.2.2⟩,hs.2⟩
   . show u'.box.ext k+1+aN ts k=a.box.ext k+1+aN ts k
     rw[h.box]
   . show u'.size+sizes ts=a.size+sizes ts
     rw[h.size]
 | a::ts,i+1,hi=>by
   have ih:=GL b k u u' h ts i (by simpa using hi)
   refine⟨by simp,fun hs=> ?_,?_,fun hk=>⟨hk.1,ih.kinds hk.2⟩,?_⟩
   . show au (a::ts.set i u') b k=true
     unfold au at hs ⊢
     simp only[Bool.and_eq_true,decide_eq_true_eq] at hs ⊢
     exact⟨hs.1,ih.sound hs.2⟩
   . show a.box.ext k+1+aN (ts.set i u') k=a.box.ext k+1+aN ts k
     rw[ih.ext]
   . show a.size+sizes (ts.set i u')=a.size+sizes ts
     rw[ih.size]
theorem mQ (b:Box)(k:Int)(ts rs:List Tree)(h:Oa b k ts rs):Same (.split b k ts) (.split b k rs):=by
 refine⟨fun hs=> ?_,rfl,fun q=>rfl,fun hk=>⟨hk.1,h.kinds hk.2⟩,?_⟩
 . unfold Tree.sound at hs ⊢
   simp only[Bool.and_eq_true,decide_eq_true_eq] at hs ⊢
   exact⟨⟨by rw[h.len];exact hs.1.1,hs.1.2⟩,h.sound hs.2.1,by rw[h.ext];exact hs.2.2⟩
 . show 1+sizes rs=1+sizes ts
   rw[h.size]
theorem su:∀(qs:List Nat) (t s s':Tree),t.cO qs=I s->Same s s'->Same t (t.putAt qs s')
 | [],t,s,s',h,hs=>by
   have:t=s:=by simpa [Tree.cO] using h
   subst this
   exact hs
 | i::qs,.leaf b p,s,s',h,hs=>by simp[Tree.cO] at h
 | i::qs,.split b k ts,s,s',h,hs=>by
   cases hi:ts[i]? with
   | none=>simp[Tree.cO,hi] at h
   | some u=>
     have h':u.cO qs=I s:=by simpa [Tree.cO,hi] using h
     have l6:(Tree.split b k ts).putAt (i::qs) s'=.split b k (ts.set i (u.putAt qs s')):=by simp[Tree.putAt,hi]
     rw[l6]
     exact mQ b k ts _ (GL b k u _ (su qs u s s' h' hs) ts i hi)
theorem mP:∀(qs:List Nat) (t s:Tree),t.cO qs=I s->t.sound=true->t.kinds->s.sound=true/\s.kinds/\s.size<=t.size
 | [],t,s,h,hs,hk=>by
   have:t=s:=by simpa [Tree.cO] using h
   subst this
   exact⟨hs,hk,Nat.le_refl _⟩
 | i::qs,.leaf b p,s,h,hs,hk=>by simp[Tree.cO] at h
 | i::qs,.split b k ts,s,h,hs,hk=>by
   cases hi:ts[i]? with
   | none=>simp[Tree.cO,hi] at h
   | some u=>
     have h':u.cO qs=I s:=by simpa [Tree.cO,hi] using h
     unfold Tree.sound at hs
     simp only[Bool.and_eq_true,decide_eq_true_eq] at hs
     have ar:=aO ts b k i u hi hs.2.1
     simp only[Bool.and_eq_true] at ar
     have ih:=mP qs u s h' ar.1 (bF ts i u hi hk.2)
     have hz:=bI ts i u hi
     refine⟨ih.1,ih.2.1,?_⟩
     show s.size<=1+sizes ts
     have:=ih.2.2
     omega
structure JG (k:Int)(b:Box)(ts:List Tree)(a:Nat)(n:Int)(rs:List Tree)(c:Nat)(got:Int):Prop where
 two:2<=ts.length
 max_:ts.length<=900
 lt:a < ts.length
 mid:c=min a (ts.length-2)
 draw:(0<=n->Me k c (List.range' (c+1) (ts.length-1-c)) n ts rs got)/\(n < 0->Me k (c+1) (List.range (c+1)).reverse (-(max n (-1000))) ts rs got)
 lim:0<=got/\got<=1000000
 same:Oa b k ts rs
theorem Bo {k:Int}{c:Nat}{b:Box}:∀{js:List Nat} {n:Int} {us rs:List Tree} {got:Int},Me k c js n us rs got->0<=got/\got<=1000*(js.length:Int)
 | [],n,us,rs,got,h=>by
   cases h
   simp
 | j::js,n,us,rs,got,h=>by
   cases h with
   | cons _ _ _ d _ _ t t' s s' got' h1 h2 h3 h4 h5 h6 h7 h8 h9 Td YY zv Wv=>
     have ih:=Bo (b:=b) Wv
     rw[List.length_cons]
     omega
def jv (n got:Int):Int:=if 0<=n then got else -got
theorem xA {w w':World}{k:Int}{t:Tree}{qs:List Nat}{a:Nat}{n:Int}{T:TypeId}{g:Nat}{fp:List Nat}{st:List (Nat × Nat)}{j gg:Nat}{b:Box}{ts:List Tree}{f':List Nat}{w1:World}{rs:List Tree}{c:Nat}{got:Int}(hA:t.At w1 0 (.iface T (JJ (I ⟨g,0,O⟩))) fp)(aE:fp.Nodup)(be:∀q∈fp,w.heap.size+1<=q)(hN:FY w1 k t (.iface T (JJ (I ⟨g,0,O⟩))) fp st qs a j gg b ts f')(ly:But [w.heap.size] w1 w')(hb:Below w.heap.size w w')(hs:t.sound=true)(hk:t.kinds)(hz:t.size<=200)(hP:JG k b ts a n rs c got)(hn: -9223372036854775808<=n/\n<=9223372036854775807):
 ∀X,Below w'.heap.size w' X->Calls prog 49 #[.agg #[JJ (I ⟨gg,0,O⟩),J Jq a],J Jq n] X fun e w3=>e=Jz (J Jq (jv n got))/\Calls prog 15 #[.iface T (JJ (I ⟨g,0,O⟩))] w3 fun e w4=>∃u,e=Jz u/\az w4 w.heap.size u (cZ (t.putAt qs (.split b k rs)))/\Below w.heap.size w w4:=by
 intro X hX
 have GB:∀q∈fp,q ∉ [w.heap.size]:=fun q hq e=>by
  have h1:=be q hq
  have:q=w.heap.size:=by simpa using e
  omega
 have BY:=(hN.here.but ly (fun q hq=>GB q (hN.inn q hq))).below hX
 obtain⟨g0,sl,vs,fs,e0,k2,k3,k4,qq⟩:=BY
 cases e0
 have dk:=k4.length
 have h2:=hP.two
 rcases k3.2 with ⟨_,h0⟩ | ⟨pg,cap,cur,rfl,hb0,Rj,mx,my,GF,te⟩
 . omega
 have jz:(gg::((Value.slice (I ⟨pg,0,O⟩) vs.length cap).ownBlock.toList++fs)).Nodup:=qq ▸ hN.nd
 obtain⟨L,hL⟩:∃L,ts.length=L:=⟨_,rfl⟩
 have VE:vs.length=L:=dk.trans hL
 have hI:jw X gg b k pg L cap vs fs 0 ts:=⟨VE ▸ k2,VE ▸ k3,k4,VE ▸ jz,hL⟩
 have Hp:∀w3,dm X gg b k (Jj (I ⟨pg,0,O⟩) L cap) vs fs 0 rs w3->Calls prog 15 #[.iface T (JJ (I ⟨g,0,O⟩))] w3 fun e w4=>∃u,e=Jz u/\az w4 w.heap.size u (cZ (t.putAt qs (.split b k rs)))/\Below w.heap.size w w4:=by
  intro w3 hS
  have UE:f'=gg::((Value.slice (I ⟨pg,0,O⟩) L cap).ownBlock.toList++fs):=by rw[qq,VE]
  have aL:∀q,q∈gg::fs->q∈f':=fun q hq=>by
   rw[UE]
   rcases List.mem_cons.1 hq with e | e
   . rw[e];exact List.mem_cons_self
   . exact List.mem_cons_of_mem _ (List.mem_append_right _ e)
  have C5:(Tree.split b k rs).At w3 0 (dA gg) f':=⟨gg,_,vs,fs,rfl,hS.own,hS.row,hS.parts,by rw[UE]⟩
  have bq:=hN.put w3 (.split b k rs) (fun q hq Pp=>by
   have am:=hA.lt q hq
   have e1:=ly.block q am (GB q hq)
   have e2:=hX.block q (Nat.lt_of_lt_of_le am ly.size)
   have e3:=hS.but.block q (Nat.lt_of_lt_of_le (Nat.lt_of_lt_of_le am ly.size) hX.size) (fun e=>Pp (aL q e))
   rw[e3,e2,e1]) C5
  have kq:=su qs t _ _ hN.sub (mQ b k ts rs hP.same)
  refine wW (w1:=X) (af hb hX) (hS.but.mono fun q hq=>hN.inn q (aL q hq)) (fun q hq=>by have:=be q hq;omega) aE bq (kq.sound hs) (kq.kinds hk) (by rw[kq.size];exact hz)
 have LA:L<=cap:=by omega
 by_cases h0:0<=n
 . have hD:=hP.draw.1 h0
   rw[hL] at hD
   refine (MW gg b k pg L cap vs fs 0 ts rs a c n got X hI (by omega) (by have:=hP.max_;omega) LA (by have:=hP.lt;omega) (by rw[hP.mid,hL]) ⟨h0,hn.2⟩ (by rw[hP.same.len];exact hL) hD).mono fun e w3 h=>⟨?_,Hp w3 h.2⟩
   rw[h.1,jv,if_pos h0]
 . have hD:=hP.draw.2 (by omega)
   refine (MX gg b k pg L cap vs fs 0 ts rs a c n got X hI (by omega) (by have:=hP.max_;omega) LA (by have:=hP.lt;omega) (by rw[hP.mid,hL]) (by omega) (by rw[hP.same.len];exact hL) hP.lim hD).mono fun e w3 h=>⟨?_,Hp w3 h.2⟩
   rw[h.1,jv,if_neg h0]
end Go.Proofs.YtejlincnnonhaaaGreat
