import Derived.Test.YtejlincnnonhaaaGreatP8
import Derived.Shelf.Spec.SlicesInsert
import Derived.Lib.AppendZerosOnto
import Derived.Laws.NewBlocks
import Derived.Laws.OwnMore
namespace Go.Proofs.YtejlincnnonhaaaGreat
open Go.RowKit Go.Proofs.Tryz
open Value renaming int->J,slice->Jj,pointer->JJ
open IntKind renaming i64->Jq
open Option renaming none->O,some->I
open Ending renaming returned->Jz
open Obj renaming cells->JZ
set_option linter.unusedVariables false
set_option maxRecDepth 100000
set_option maxHeartbeats 16000000
open Go.RowKit Go.Lib
theorem kM {w:World}{pg L cap:Nat}{vs:List Value}(h:w.ownsRow 0 70 1 (Jj (I ⟨pg,0,O⟩) L cap) L vs):∃cur:Array Value,w.heap[pg]?=I (.cells cur 70 (0,0))/\L<=cap/\cap<=maxLen/\cur.size=cap/\cur.toList.take L=vs/\vs.length=L:=by
 rcases h.2 with ⟨e,_⟩ | ⟨g,c,cur,e,hb,hg,hn,hm,hs,ht⟩
 . cases e
 . cases e
   exact⟨cur,hg,hn,hm,by simpa using hs,by simpa using ht,by simpa using h.1⟩
theorem AV {w:World}{pg L cap:Nat}{vs:List Value}{cur:Array Value}(hg:w.heap[pg]?=I (.cells cur 70 (0,0)))(h1:L<=cap)(h2:cap<=maxLen)(h3:cur.size=cap)(h4:cur.toList.take L=vs):w.ownsRow 0 70 1 (Jj (I ⟨pg,0,O⟩) L cap) L vs:=by
 refine⟨?_,.inr ⟨pg,cap,cur,rfl,Nat.zero_le _,hg,h1,h2,by simpa using h3,by simpa using h4⟩⟩
 rw[<- h4,List.length_take,Array.length_toList]
 omega
theorem II {w:World}{pg L cap i:Nat}{vs:List Value}(h:w.ownsRow 0 70 1 (Jj (I ⟨pg,0,O⟩) L cap) L vs)(hi:i<=L):w.ownsRow 0 70 1 (Jj (I ⟨pg,0,O⟩) i cap) i (vs.take i):=by
 obtain⟨cur,hg,a1,a2,a3,a4,a5⟩:=kM h
 refine AV hg (by omega) a2 a3 ?_
 rw[<- a4,List.take_take,Nat.min_eq_left hi]
theorem jU {w:World}{pg L cap:Nat}{vs:List Value}(h:w.ownsRow 0 70 1 (Jj (I ⟨pg,0,O⟩) L cap) L vs):∀j v,vs[j]?=I v->w.cell? ⟨pg,j,O⟩=I v:=by
 intro j v hj
 have hl:=h.1
 have:=World.ownsRow.cellAt h j (by have:=(List.getElem?_eq_some_iff.1 hj).1;omega)
 rw[this,hj]
def kL (pg L m:Nat)(ys:List Value)(w:World)(e:Ending)(w':World):Prop:=∃g c,e=Jz (Jj (I ⟨g,0,O⟩) (L-1+m) c)/\w'.ownsRow 0 70 1 (Jj (I ⟨g,0,O⟩) (L-1+m) c) (L-1+m) ys/\(g=pg\/w.heap.size<=g)/\But [pg] w w'
theorem Em (pg L cap pg2 m c2:Nat)(vs us:List Value)(w:World)(h:w.ownsRow 0 70 1 (Jj (I ⟨pg,0,O⟩) L cap) L vs)(h2:w.ownsRow 0 70 1 (Jj (I ⟨pg2,0,O⟩) m c2) m us)(co:∀u∈us,u.oneCell'=true)(hm:2<=m)(bS:m<=1000)(hL:1<=L)(rL:L<=1000):
 Calls prog 74 #[Jj (I ⟨pg,0,O⟩) L cap,J Jq ((L-1:Nat):Int),J Jq (L:Int),Jj (I ⟨pg2,0,O⟩) m c2] w (kL pg L m (vs.take (L-1)++us) w):=by
 obtain⟨i,rfl⟩:∃i,L=i+1:=⟨L-1,by omega⟩
 rw[Nat.add_sub_cancel]
 obtain⟨cur,hg,a1,a2,a3,a4,a5⟩:=kM h
 have HP:Hid (w.ownsRow 0 70 1 (Jj (I ⟨pg,0,O⟩) i cap) i (vs.take i)):=II h (by omega)
 obtain⟨i0,AH,eh,db,cJ⟩:=bH kN
 obtain⟨ys,to⟩:∃ys,vs.take i++us=ys:=⟨_,rfl⟩
 have HE:Hid (∀v' w',w'.ownsRow 0 70 1 v' (i+m) (vs.take i++us)->w.grownBy w' (I pg)->(v'.ownBlock=I pg\/v'.ownBlock=I w.heap.size)->∃g c,v'=Jj (I ⟨g,0,O⟩) (i+m) c/\kL pg (i+1) m ys w (Jz v') w'):=by
  intro v' w' b1 b2 b3
  rcases b1.2 with ⟨e,e0⟩ | ⟨g,c,cur',e,_⟩
  . omega
  . subst e
    refine⟨g,c,rfl,g,c,rfl,by rw[<- to];exact b1,?_,But.grown b2⟩
    rcases b3 with b3 | b3
    . have:g=pg:=by simpa [Value.ownBlock] using b3
      exact .inl this
    . have:g=w.heap.size:=by simpa [Value.ownBlock] using b3
      exact .inr (by omega)
 have HS:=zh h2.1
 have HC:Hid (∀j u,us[j]?=I u->w.cell? ((⟨pg2,0,O⟩:Addr).add j)=I u):=fun j u hj=>by rw[Addr.add_lit,Nat.zero_add];exact jU h2 j u hj
 have HO:=zh co
 have HI:Hid (prog.info? 70=I i0/\i0.zero=I .nilIface/\i0.size=1/\i0.bytes=16):=⟨AH,eh,db,cJ⟩
 have TC:cap<=9223372036854775807:=a2
 have U6:¬((i:Int)=(i:Int)+1):=by omega
 rw[to]
 clear h h2 hg a2 a3 a4 a5 co AH eh db cJ to
 go_enter func74,ntmps74
 go_wp2_with (at_builtin;refine wpList_append_own_at _ rfl _ _ 85 rfl 0 70 i0 .nilIface 1 16 underlying85 HI.out.1 HI.out.2.1 HI.out.2.2.1 HI.out.2.2.2 rfl (by decide) (Jj (I ⟨pg,0,O⟩) i cap) i (vs.take i) ?y1 HP.out ⟨pg2,0,O⟩ m c2 us ?y2 HS.out HC.out HO.out ?x1 ?x2 (Nat.zero_le _) ?_;(case y1=>rfl);(case y2=>rfl);(case x1=>unfold maxLen;omega);(case x2=>omega);intro v' w6 b1 b2 _ b3;obtain⟨g,c,il,hR⟩:=HE.out v' w6 b1 b2 b3;subst il;have HR:Hid (kL pg (i+1) m ys w (Jz (Jj (I ⟨g,0,O⟩) (i+m) c)) w6):=hR;clear b1 b2 b3 hR)
 all_goals go_ret
 all_goals exact HR.out
theorem DC (b:Box)(ts rs:List Tree)(n:Int)(sl:Value)(fp:List Nat)(w:World)(hn:n≠0)(bN:Ag (.split b 3 ts) 2 n)(hlen:rs.length=ts.length)(hE:∀(i:Nat) (t r:Tree),ts[i]?=I t->rs[i]?=I r->Str t 2 n r)(IH:∀t∈ts,nG t)(ab:(ag (.split b 3 ts)).In w sl fp):
 Calls prog 63 #[.agg (aC (ag (.split b 3 ts)) sl),J Jq 2,J Jq n] w (uD (.split (b.str 2 n) 3 rs) fp w):=by
 have ar:=(Tree.split b 3 ts).aF bN.sound
 change (1<=b.w/\b.w<=1000)/\(1<=b.h/\b.h<=1000) at ar
 have j9:=bN.low
 have Bb:=bN.high
 have hs:=bN.sound
 unfold Tree.sound at hs
 simp only[Bool.and_eq_true,decide_eq_true_eq] at hs
 have h2:=hs.1.1
 have hsz:=bN.size
 change 1+sizes ts<=900 at hsz
 have gd:=aI ts
 obtain⟨ad,cap0,av⟩:=ab.sl
 change (Node.mk 3 b.w b.h 0 (nodesOf ts)).In w sl fp at ab
 change sl=Jj ad (nodesOf ts).length cap0 at av
 rw[ax] at av
 obtain⟨L,hL⟩:∃L,ts.length=L:=⟨_,rfl⟩
 rw[hL] at av gd h2
 subst av
 have cj:=ab
 obtain⟨cs,fs,br,a8,cf⟩:=cj
 rw[ax,hL] at br
 have eN:Hid (∀o1 o2 o3,(((w.alloc o1).alloc o2).alloc o3).ownsRow 0 53 5 (Jj ad L cap0) L cs):=fun o1 o2 o3=>((br.alloc o1).alloc o2).alloc o3
 have cB:=zh a8.oneCell
 have HK:Hid (∀v w6,((((w.alloc (JZ #[J Jq 3,J Jq b.w,J Jq b.h,J Jq 0,Jj ad L cap0] 53)).alloc (.cells aU 53)).alloc (JZ #[J Jq 3,J Jq (b.w+n),J Jq b.h,J Jq 0,Jj ad L cap0] 53))).grownBy w6 O->w6.ownsRow (w.heap.size+3) 53 5 v L cs->∃g cap,v=Jj (I ⟨g,0,O⟩) L cap/\w.heap.size+2 < g/\bK g L cap fp ts (w6.setCell ⟨w.heap.size+1+1,4,O⟩ v)/\Mid w 3 b.w b.h 3 (b.w+n) b.h 0 (Jj ad L cap0) v (w6.setCell ⟨w.heap.size+1+1,4,O⟩ v)):=by
  intro v w6 hg hr
  have hM:=Mid.start w 3 b.w b.h 3 (b.w+n) b.h 0 (Jj ad L cap0)
  obtain⟨g,cap,e1,e2,e3⟩:=bK.start ab hM (by simp) hg (by rw[cf];exact fun q hq=>List.mem_append_right _ hq) a8 (by rw[hL];simpa using hr) (by omega)
  rw[hL] at e1 e3
  exact⟨g,cap,e1,e2,e3,hM.copied hg v⟩
 have ii:Hid (∀w6,((((w.alloc (JZ #[J Jq 3,J Jq b.w,J Jq b.h,J Jq 0,Jj ad L cap0] 53)).alloc (.cells aU 53)).alloc (JZ #[J Jq 3,J Jq (b.w+n),J Jq b.h,J Jq 0,Jj ad L cap0] 53))).grownBy w6 O->∃u,w6.cell? ⟨w.heap.size+1+1,4,O⟩=I u/\w6.frozen? ⟨w.heap.size+1+1,4,O⟩=false):=fun w6 hg=>by
  have hM:=Mid.start w 3 b.w b.h 3 (b.w+n) b.h 0 (Jj ad L cap0)
  have ce:=(hg.block _ (lt_of_block hM.new) (by simp)).trans hM.new
  exact⟨_,ae ce 4,ai ce 4⟩
 have gR:=zh ab.lt
 have HL:=zh hL
 have De:L<=900:=by omega
 have kr:IntKind.i64.wrap (b.w+n)=b.w+n:=by rw[IntKind.wrap_i64];omega
 have eJ:=zh IH
 have u6:=zh (hlen.trans hL)
 have HE:=zh hE
 have mU:(n==0)=false:=by simpa using hn
 show Calls prog 63 #[.agg #[J Jq 3,J Jq b.w,J Jq b.h,J Jq 0,Jj ad L cap0],J Jq 2,J Jq n] w (uD (.split (b.str 2 n) 3 rs) fp w)
 clear ab br a8 cf bN hs ar hsz gd hL hlen hE IH j9 Bb hn
 go_enter func63,ntmps63
 go_wp2_with (at_builtin;refine aW _ rfl (.const (Jj O 0 0)) (.tmp 25) 51 53 rfl (.agg aU) 5 56 underlying51 eX rfl (by decide) (by decide) (w.heap.size+3) (Jj O 0 0) 0 [] rfl (World.ownsRow_nil _ _ _ _) 0 (Jj ad L cap0) L cs rfl (eN.out _ _ _) cB.out ?x1 ?x2 ?_;(case x1=>omega);(case x2=>simp);intro v w6 a1 a2;rw[Nat.zero_add,List.nil_append] at a1;obtain⟨g,cap,rfl,eO,dx,cy⟩:=HK.out v w6 a2 a1;have re:Hid (bK g L cap fp ts (w6.setCell ⟨w.heap.size+1+1,4,O⟩ (Jj (I ⟨g,0,O⟩) L cap))):=dx;have np:Hid (Mid w 3 b.w b.h 3 (b.w+n) b.h 0 (Jj ad L cap0) (Jj (I ⟨g,0,O⟩) L cap) (w6.setCell ⟨w.heap.size+1+1,4,O⟩ (Jj (I ⟨g,0,O⟩) L cap))):=cy;have c0:w6.cell? ⟨w.heap.size,0,O⟩=I (J Jq 3):=ae ((Below.heap_setCell _ _ _ _ (by show w.heap.size≠w.heap.size+1+1;omega)).symm.trans cy.par) 0;have c4:=ii.out w6 a2;obtain⟨u4,c4,f4⟩:=c4;clear dx cy a1 a2)
 go_loopw [8] (fun vi wr=>∃i:Nat,i<=L/\vi=J Jq i/\Hid (bK g L cap fp (rs.take i++ts.drop i) wr)/\Hid (Mid w 3 b.w b.h 3 (b.w+n) b.h 0 (Jj ad L cap0) (Jj (I ⟨g,0,O⟩) L cap) wr)) (fun vi _=>L-(intOf vi).toNat)
 case atStart=>exact⟨0,Nat.zero_le _,rfl,by rw[List.take_zero,List.drop_zero];exact re,np⟩
 case round=>
  obtain⟨i,hi,rfl,xt,dy⟩:=hrel
  clear c0 c4 f4 re np
  have b4:wr.cell? ⟨w.heap.size+1+1,4,O⟩=I (Jj (I ⟨g,0,O⟩) L cap):=ae dy.out.new 4
  by_cases am:i < L
  . obtain⟨t,ht⟩:∃t,ts[i]?=I t:=⟨_,List.getElem?_eq_getElem (by rw[HL.out];exact am)⟩
    obtain⟨r,hr⟩:∃r,rs[i]?=I r:=⟨_,List.getElem?_eq_getElem (by rw[u6.out];exact am)⟩
    have K9:(rs.take i++ts.drop i)[i]?=I t:=(yt rs ts i (by rw[HL.out,u6.out]) (by rw[HL.out];exact am)).trans ht
    obtain⟨sa,sn,sc,jp,fz,hC⟩:=Ae xt.out dy.out eO K9 (eJ.out t (List.mem_of_getElem? ht)) (HE.out i t r ht hr)
    rw[yu rs ts i r (by rw[HL.out,u6.out]) hr] at hC
    have HC:=zh hC
    have HQ:=zh (oG xt.out.lt (lt_of_block dy.out.new) fz jp b4)
    obtain⟨q0,q1,q2,q3,q4⟩:=jp
    obtain⟨nn,aR⟩:∃x,ag t=x:=⟨_,rfl⟩
    obtain⟨nr,Hx⟩:∃x,ag r=x:=⟨_,rfl⟩
    rw[aR] at HC HQ q0 q1 q2 q3
    rw[Hx] at HC
    unfold aC at HC
    clear hC K9 ht hr aR Hx xt dy
    go_wp2_with fail
    go_region_with (go_at_call 63;refine (HC.out _ (Below.refl _ _).drew).mono ?_;rintro e w2 ⟨ta,tn,tc,rfl,al,dt,bS⟩;obtain⟨fz2,⟨p0,p1,p2,p3,p4⟩,b42⟩:=HQ.out w2 al)
    all_goals (
     have lr:=zh dt
     have gx:=zh bS
     clear dt bS al fz fz2 p0 p1 p2 p3 p4 q0 q1 q2 q3 q4 b4 b42 HC HQ
     go_wp2
     go_roundw
     case rel=>exact⟨i+1,by omega,by go_num,lr,gx⟩
     case measure=>simp[intOf];omega)
  . have bE:i=L:=by omega
    subst bE
    have ia:=xt.out
    rw[List.take_of_length_le (by rw[u6.out];exact Nat.le_refl _),List.drop_eq_nil_of_le (by rw[HL.out];exact Nat.le_refl _),List.append_nil] at ia
    have HF:Hid (∀v0 v1 v2 v3 v4,uD (.split (b.str 2 n) 3 rs) fp w (Jz (.agg #[J Jq 3,J Jq (b.w+n),J Jq b.h,J Jq 0,Jj (I ⟨g,0,O⟩) i cap])) (fB wr (w.heap.size+1) v0 v1 v2 v3 v4)):=fun v0 v1 v2 v3 v4=>ru ia dy.out eO gR.out rfl v0 v1 v2 v3 v4
    have n0:wr.cell? ⟨w.heap.size+1+1,0,O⟩=I (J Jq 3):=ae dy.out.new 0
    have n1:wr.cell? ⟨w.heap.size+1+1,1,O⟩=I (J Jq (b.w+n)):=ae dy.out.new 1
    have n2:wr.cell? ⟨w.heap.size+1+1,2,O⟩=I (J Jq b.h):=ae dy.out.new 2
    have n3:wr.cell? ⟨w.heap.size+1+1,3,O⟩=I (J Jq 0):=ae dy.out.new 3
    have n4:wr.cell? ⟨w.heap.size+1+1,4,O⟩=I (Jj (I ⟨g,0,O⟩) i cap):=ae dy.out.new 4
    have r0:wr.cell? ⟨w.heap.size+1,0,O⟩=I (J Jq 0):=ae dy.out.res 0
    have r1:wr.cell? ⟨w.heap.size+1,1,O⟩=I (J Jq 0):=ae dy.out.res 1
    have r2:wr.cell? ⟨w.heap.size+1,2,O⟩=I (J Jq 0):=ae dy.out.res 2
    have r3:wr.cell? ⟨w.heap.size+1,3,O⟩=I (J Jq 0):=ae dy.out.res 3
    have r4:wr.cell? ⟨w.heap.size+1,4,O⟩=I (Jj O 0 0):=ae dy.out.res 4
    have f0:=ai dy.out.res 0
    have f1:=ai dy.out.res 1
    have f2:=ai dy.out.res 2
    have f3:=ai dy.out.res 3
    have f4:=ai dy.out.res 4
    clear xt dy ia b4
    go_wp2
    exact bodyPost_ret (v:=.agg #[J Jq 3,J Jq (b.w+n),J Jq b.h,J Jq 0,Jj (I ⟨g,0,O⟩) i cap]) (by simp[results,results63,go_sem,r0,r1,r2,r3,r4]) rfl (HF.out _ _ _ _ _)
theorem Df (b:Box)(ts rs:List Tree)(n:Int)(sl:Value)(fp:List Nat)(w:World)(hn:n≠0)(bN:Ag (.split b 2 ts) 3 n)(hlen:rs.length=ts.length)(hE:∀(i:Nat) (t r:Tree),ts[i]?=I t->rs[i]?=I r->Str t 3 n r)(IH:∀t∈ts,nG t)(ab:(ag (.split b 2 ts)).In w sl fp):
 Calls prog 63 #[.agg (aC (ag (.split b 2 ts)) sl),J Jq 3,J Jq n] w (uD (.split (b.str 3 n) 2 rs) fp w):=by
 have ar:=(Tree.split b 2 ts).aF bN.sound
 change (1<=b.w/\b.w<=1000)/\(1<=b.h/\b.h<=1000) at ar
 have j9:=bN.low
 have Bb:=bN.high
 have hs:=bN.sound
 unfold Tree.sound at hs
 simp only[Bool.and_eq_true,decide_eq_true_eq] at hs
 have h2:=hs.1.1
 have hsz:=bN.size
 change 1+sizes ts<=900 at hsz
 have gd:=aI ts
 obtain⟨ad,cap0,av⟩:=ab.sl
 change (Node.mk 2 b.w b.h 0 (nodesOf ts)).In w sl fp at ab
 change sl=Jj ad (nodesOf ts).length cap0 at av
 rw[ax] at av
 obtain⟨L,hL⟩:∃L,ts.length=L:=⟨_,rfl⟩
 rw[hL] at av gd h2
 subst av
 have cj:=ab
 obtain⟨cs,fs,br,a8,cf⟩:=cj
 rw[ax,hL] at br
 have eN:Hid (∀o1 o2 o3,(((w.alloc o1).alloc o2).alloc o3).ownsRow 0 53 5 (Jj ad L cap0) L cs):=fun o1 o2 o3=>((br.alloc o1).alloc o2).alloc o3
 have cB:=zh a8.oneCell
 have HK:Hid (∀v w6,((((w.alloc (JZ #[J Jq 2,J Jq b.w,J Jq b.h,J Jq 0,Jj ad L cap0] 53)).alloc (.cells aU 53)).alloc (JZ #[J Jq 2,J Jq b.w,J Jq (b.h+n),J Jq 0,Jj ad L cap0] 53))).grownBy w6 O->w6.ownsRow (w.heap.size+3) 53 5 v L cs->∃g cap,v=Jj (I ⟨g,0,O⟩) L cap/\w.heap.size+2 < g/\bK g L cap fp ts (w6.setCell ⟨w.heap.size+1+1,4,O⟩ v)/\Mid w 2 b.w b.h 2 b.w (b.h+n) 0 (Jj ad L cap0) v (w6.setCell ⟨w.heap.size+1+1,4,O⟩ v)):=by
  intro v w6 hg hr
  have hM:=Mid.start w 2 b.w b.h 2 b.w (b.h+n) 0 (Jj ad L cap0)
  obtain⟨g,cap,e1,e2,e3⟩:=bK.start ab hM (by simp) hg (by rw[cf];exact fun q hq=>List.mem_append_right _ hq) a8 (by rw[hL];simpa using hr) (by omega)
  rw[hL] at e1 e3
  exact⟨g,cap,e1,e2,e3,hM.copied hg v⟩
 have ii:Hid (∀w6,((((w.alloc (JZ #[J Jq 2,J Jq b.w,J Jq b.h,J Jq 0,Jj ad L cap0] 53)).alloc (.cells aU 53)).alloc (JZ #[J Jq 2,J Jq b.w,J Jq (b.h+n),J Jq 0,Jj ad L cap0] 53))).grownBy w6 O->∃u,w6.cell? ⟨w.heap.size+1+1,4,O⟩=I u/\w6.frozen? ⟨w.heap.size+1+1,4,O⟩=false):=fun w6 hg=>by
  have hM:=Mid.start w 2 b.w b.h 2 b.w (b.h+n) 0 (Jj ad L cap0)
  have ce:=(hg.block _ (lt_of_block hM.new) (by simp)).trans hM.new
  exact⟨_,ae ce 4,ai ce 4⟩
 have gR:=zh ab.lt
 have HL:=zh hL
 have De:L<=900:=by omega
 have kr:IntKind.i64.wrap (b.h+n)=b.h+n:=by rw[IntKind.wrap_i64];omega
 have eJ:=zh IH
 have u6:=zh (hlen.trans hL)
 have HE:=zh hE
 have mU:(n==0)=false:=by simpa using hn
 show Calls prog 63 #[.agg #[J Jq 2,J Jq b.w,J Jq b.h,J Jq 0,Jj ad L cap0],J Jq 3,J Jq n] w (uD (.split (b.str 3 n) 2 rs) fp w)
 clear ab br a8 cf bN hs ar hsz gd hL hlen hE IH j9 Bb hn
 go_enter func63,ntmps63
 go_wp2_with (at_builtin;refine aW _ rfl (.const (Jj O 0 0)) (.tmp 25) 51 53 rfl (.agg aU) 5 56 underlying51 eX rfl (by decide) (by decide) (w.heap.size+3) (Jj O 0 0) 0 [] rfl (World.ownsRow_nil _ _ _ _) 0 (Jj ad L cap0) L cs rfl (eN.out _ _ _) cB.out ?x1 ?x2 ?_;(case x1=>omega);(case x2=>simp);intro v w6 a1 a2;rw[Nat.zero_add,List.nil_append] at a1;obtain⟨g,cap,rfl,eO,dx,cy⟩:=HK.out v w6 a2 a1;have re:Hid (bK g L cap fp ts (w6.setCell ⟨w.heap.size+1+1,4,O⟩ (Jj (I ⟨g,0,O⟩) L cap))):=dx;have np:Hid (Mid w 2 b.w b.h 2 b.w (b.h+n) 0 (Jj ad L cap0) (Jj (I ⟨g,0,O⟩) L cap) (w6.setCell ⟨w.heap.size+1+1,4,O⟩ (Jj (I ⟨g,0,O⟩) L cap))):=cy;have c0:w6.cell? ⟨w.heap.size,0,O⟩=I (J Jq 2):=ae ((Below.heap_setCell _ _ _ _ (by show w.heap.size≠w.heap.size+1+1;omega)).symm.trans cy.par) 0;have c4:=ii.out w6 a2;obtain⟨u4,c4,f4⟩:=c4;clear dx cy a1 a2)
 go_loopw [8] (fun vi wr=>∃i:Nat,i<=L/\vi=J Jq i/\Hid (bK g L cap fp (rs.take i++ts.drop i) wr)/\Hid (Mid w 2 b.w b.h 2 b.w (b.h+n) 0 (Jj ad L cap0) (Jj (I ⟨g,0,O⟩) L cap) wr)) (fun vi _=>L-(intOf vi).toNat)
 case atStart=>exact⟨0,Nat.zero_le _,rfl,by rw[List.take_zero,List.drop_zero];exact re,np⟩
 case round=>
  obtain⟨i,hi,rfl,xt,dy⟩:=hrel
  clear c0 c4 f4 re np
  have b4:wr.cell? ⟨w.heap.size+1+1,4,O⟩=I (Jj (I ⟨g,0,O⟩) L cap):=ae dy.out.new 4
  by_cases am:i < L
  . obtain⟨t,ht⟩:∃t,ts[i]?=I t:=⟨_,List.getElem?_eq_getElem (by rw[HL.out];exact am)⟩
    obtain⟨r,hr⟩:∃r,rs[i]?=I r:=⟨_,List.getElem?_eq_getElem (by rw[u6.out];exact am)⟩
    have K9:(rs.take i++ts.drop i)[i]?=I t:=(yt rs ts i (by rw[HL.out,u6.out]) (by rw[HL.out];exact am)).trans ht
    obtain⟨sa,sn,sc,jp,fz,hC⟩:=Ae xt.out dy.out eO K9 (eJ.out t (List.mem_of_getElem? ht)) (HE.out i t r ht hr)
    rw[yu rs ts i r (by rw[HL.out,u6.out]) hr] at hC
    have HC:=zh hC
    have HQ:=zh (oG xt.out.lt (lt_of_block dy.out.new) fz jp b4)
    obtain⟨q0,q1,q2,q3,q4⟩:=jp
    obtain⟨nn,aR⟩:∃x,ag t=x:=⟨_,rfl⟩
    obtain⟨nr,Hx⟩:∃x,ag r=x:=⟨_,rfl⟩
    rw[aR] at HC HQ q0 q1 q2 q3
    rw[Hx] at HC
    unfold aC at HC
    clear hC K9 ht hr aR Hx xt dy
    go_wp2_with fail
    go_region_with (go_at_call 63;refine (HC.out _ (Below.refl _ _).drew).mono ?_;rintro e w2 ⟨ta,tn,tc,rfl,al,dt,bS⟩;obtain⟨fz2,⟨p0,p1,p2,p3,p4⟩,b42⟩:=HQ.out w2 al)
    all_goals (
     have lr:=zh dt
     have gx:=zh bS
     clear dt bS al fz fz2 p0 p1 p2 p3 p4 q0 q1 q2 q3 q4 b4 b42 HC HQ
     go_wp2
     go_roundw
     case rel=>exact⟨i+1,by omega,by go_num,lr,gx⟩
     case measure=>simp[intOf];omega)
  . have bE:i=L:=by omega
    subst bE
    have ia:=xt.out
    rw[List.take_of_length_le (by rw[u6.out];exact Nat.le_refl _),List.drop_eq_nil_of_le (by rw[HL.out];exact Nat.le_refl _),List.append_nil] at ia
    have HF:Hid (∀v0 v1 v2 v3 v4,uD (.split (b.str 3 n) 2 rs) fp w (Jz (.agg #[J Jq 2,J Jq b.w,J Jq (b.h+n),J Jq 0,Jj (I ⟨g,0,O⟩) i cap])) (fB wr (w.heap.size+1) v0 v1 v2 v3 v4)):=fun v0 v1 v2 v3 v4=>ru ia dy.out eO gR.out rfl v0 v1 v2 v3 v4
    have n0:wr.cell? ⟨w.heap.size+1+1,0,O⟩=I (J Jq 2):=ae dy.out.new 0
    have n1:wr.cell? ⟨w.heap.size+1+1,1,O⟩=I (J Jq b.w):=ae dy.out.new 1
    have n2:wr.cell? ⟨w.heap.size+1+1,2,O⟩=I (J Jq (b.h+n)):=ae dy.out.new 2
    have n3:wr.cell? ⟨w.heap.size+1+1,3,O⟩=I (J Jq 0):=ae dy.out.new 3
    have n4:wr.cell? ⟨w.heap.size+1+1,4,O⟩=I (Jj (I ⟨g,0,O⟩) i cap):=ae dy.out.new 4
    have r0:wr.cell? ⟨w.heap.size+1,0,O⟩=I (J Jq 0):=ae dy.out.res 0
    have r1:wr.cell? ⟨w.heap.size+1,1,O⟩=I (J Jq 0):=ae dy.out.res 1
    have r2:wr.cell? ⟨w.heap.size+1,2,O⟩=I (J Jq 0):=ae dy.out.res 2
    have r3:wr.cell? ⟨w.heap.size+1,3,O⟩=I (J Jq 0):=ae dy.out.res 3
    have r4:wr.cell? ⟨w.heap.size+1,4,O⟩=I (Jj O 0 0):=ae dy.out.res 4
    have f0:=ai dy.out.res 0
    have f1:=ai dy.out.res 1
    have f2:=ai dy.out.res 2
    have f3:=ai dy.out.res 3
    have f4:=ai dy.out.res 4
    clear xt dy ia b4
    go_wp2
    exact bodyPost_ret (v:=.agg #[J Jq 2,J Jq b.w,J Jq (b.h+n),J Jq 0,Jj (I ⟨g,0,O⟩) i cap]) (by simp[results,results63,go_sem,r0,r1,r2,r3,r4]) rfl (HF.out _ _ _ _ _)
theorem sW {w:World}{k wd ht k' wd' dr i:Int}{sl v:Value}{w6:World}(h:Mid w k wd ht k' wd' dr i sl v (w6.setCell ⟨w.heap.size+1+1,4,O⟩ v)):
 w6.cell? ⟨w.heap.size,0,O⟩=I (J Jq k)/\w6.cell? ⟨w.heap.size+1+1,0,O⟩=I (J Jq k')/\w6.cell? ⟨w.heap.size+1+1,1,O⟩=I (J Jq wd')/\w6.cell? ⟨w.heap.size+1+1,2,O⟩=I (J Jq dr)/\w6.cell? ⟨w.heap.size+1+1,3,O⟩=I (J Jq i)/\(w6.cell? ⟨w.heap.size+1,0,O⟩=I (J Jq 0)/\w6.cell? ⟨w.heap.size+1,1,O⟩=I (J Jq 0)/\w6.cell? ⟨w.heap.size+1,2,O⟩=I (J Jq 0)/\w6.cell? ⟨w.heap.size+1,3,O⟩=I (J Jq 0)/\w6.cell? ⟨w.heap.size+1,4,O⟩=I (Jj O 0 0))/\(∀o,w6.frozen? ⟨w.heap.size+1,o,O⟩=false):=by
 have a0:w6.heap[w.heap.size]?=_:=(Below.heap_setCell _ _ _ _ (by show w.heap.size≠w.heap.size+1+1;omega)).symm.trans h.par
 have a1:w6.heap[w.heap.size+1]?=_:=(Below.heap_setCell _ _ _ _ (by show w.heap.size+1≠w.heap.size+1+1;omega)).symm.trans h.res
 have a2:∀o,o≠4->w6.cell? ⟨w.heap.size+1+1,o,O⟩=_:=fun o ho=>(iU w6 (w.heap.size+1+1) 4 o v (Ne.symm ho)).symm.trans (ae h.new o)
 exact⟨ae a0 0,a2 0 (by decide),a2 1 (by decide),a2 2 (by decide),a2 3 (by decide),⟨ae a1 0,ae a1 1,ae a1 2,ae a1 3,ae a1 4⟩,fun o=>ai a1 o⟩
def yJ (n':Node)(fp:List Nat)(w:World)(e:Ending)(w':World):Prop:=∃sa sn sc fp',e=Jz (.agg (aC n' (Jj sa sn sc)))/\n'.In w' (Jj sa sn sc) fp'/\(∀q∈fp',q∈fp\/w.heap.size<=q)/\Below w.heap.size w w'
theorem GH {w:World}{k wd ht k' wd' dr i:Int}{sl:Value}{ks:List Node}{fp fs:List Nat}{cs:List Value}{w6 W:World}{sa:Option Addr}{sn sc:Nat}(hM:Mid w k wd ht k' wd' dr i sl sl W)(hW:W.heap.size=w.heap.size+3)(hg:W.grownBy w6 O)(am:∀q∈fp,q < w.heap.size)(lk:fs ⊆ fp)(hN:aY w ks cs fs)(hr:w6.ownsRow (w.heap.size+3) 53 5 (Jj sa sn sc) ks.length cs)(v0 v1 v2 v3 v4:Value):
 yJ (.mk k' wd' dr i ks) fp w (Jz (.agg #[J Jq k',J Jq wd',J Jq dr,J Jq i,Jj sa sn sc])) (fB (w6.setCell ⟨w.heap.size+1+1,4,O⟩ (Jj sa sn sc)) (w.heap.size+1) v0 v1 v2 v3 v4):=by
 have bm:∀q∈(Value.slice sa sn sc).ownBlock.toList,w.heap.size+3<=q:=fun q hq=>(World.ownsRow.lt hr q (by simpa using hq)).1
 have hk:∀q,q < w.heap.size\/w.heap.size+3<=q->(fB (w6.setCell ⟨w.heap.size+1+1,4,O⟩ (Jj sa sn sc)) (w.heap.size+1) v0 v1 v2 v3 v4).heap[q]?=w6.heap[q]?:=fun q hq=>(fD _ _ _ _ _ _ _ q (by omega)).trans (Below.heap_setCell _ _ _ _ (by show q≠w.heap.size+1+1;omega))
 have h1:∀q,q < W.heap.size->w6.heap[q]?=W.heap[q]?:=fun q hq=>hg.block q hq (by simp)
 have hb:Below w.heap.size w w6:=⟨hg.os.trans hM.below.os,hg.tape.trans hM.below.tape,hg.output.trans hM.below.output,Nat.le_trans hM.below.size hg.size,fun q hq=>(h1 q (Nat.lt_of_lt_of_le hq hM.below.size)).trans (hM.below.block q hq)⟩
 have hr0:w6.ownsRow 0 53 5 (Jj sa sn sc) ks.length cs:=by
  rcases hr with ⟨a,b | ⟨g,cap,cur,e,_,c⟩⟩
  . exact⟨a,.inl b⟩
  . exact⟨a,.inr ⟨g,cap,cur,e,Nat.zero_le _,c⟩⟩
 refine⟨sa,sn,sc,(Value.slice sa sn sc).ownBlock.toList++fs,rfl,⟨cs,fs,dE hr0 fun q hq=>hk q (.inr (bm q hq)),hN.keep fun q hq=> ?_,rfl⟩,fun q hq=> ?_,bC (below_grown hb (grownBy_set _ _ _ _) (by omega)) _ (by omega) _ _ _ _ _⟩
 . have:=am q (lk hq)
   exact (hk q (.inl this)).trans (hb.block q this)
 . rcases List.mem_append.1 hq with hq | hq
   . exact .inr (by have:=bm q hq;omega)
   . exact .inl (lk hq)
theorem qU (k wd ht i:Int)(ks:List Node)(n:Int)(sl:Value)(fp:List Nat)(w:World)(iN:k=1\/n=0)(EV:1<=wd/\wd<=1000)(K8:1<=ht/\ht<=1000)(hn: -1000<=n/\n<=1000)(dj:ks.length<=900)(ab:(Node.mk k wd ht i ks).In w sl fp):
 Calls prog 63 #[.agg (aC (.mk k wd ht i ks) sl),J Jq 2,J Jq n] w (yJ (.mk k (wd+n) ht i ks) fp w):=by
 obtain⟨ad,cap0,av⟩:=ab.sl
 change sl=Jj ad ks.length cap0 at av
 have gR:=zh ab.lt
 obtain⟨cs,fs,br,a8,cf⟩:=ab
 obtain⟨L,hL⟩:∃L,ks.length=L:=⟨_,rfl⟩
 rw[hL] at av br dj
 subst av
 have eN:Hid (∀o1 o2 o3,(((w.alloc o1).alloc o2).alloc o3).ownsRow 0 53 5 (Jj ad L cap0) L cs):=fun o1 o2 o3=>((br.alloc o1).alloc o2).alloc o3
 have cB:=zh a8.oneCell
 have HK:Hid (∀v w6,((((w.alloc (JZ #[J Jq k,J Jq wd,J Jq ht,J Jq i,Jj ad L cap0] 53)).alloc (.cells aU 53)).alloc (JZ #[J Jq k,J Jq (wd+n),J Jq ht,J Jq i,Jj ad L cap0] 53))).grownBy w6 O->w6.ownsRow (w.heap.size+3) 53 5 v L cs->∃ra rn rc,v=Jj ra rn rc/\(∀v0 v1 v2 v3 v4,yJ (.mk k (wd+n) ht i ks) fp w (Jz (.agg #[J Jq k,J Jq (wd+n),J Jq ht,J Jq i,Jj ra rn rc])) (fB (w6.setCell ⟨w.heap.size+1+1,4,O⟩ (Jj ra rn rc)) (w.heap.size+1) v0 v1 v2 v3 v4))/\Mid w k wd ht k (wd+n) ht i (Jj ad L cap0) (Jj ra rn rc) (w6.setCell ⟨w.heap.size+1+1,4,O⟩ (Jj ra rn rc))):=by
  intro v w6 hg hr
  obtain⟨ra,rc,rfl⟩:=dG hr
  have hM:=Mid.start w k wd ht k (wd+n) ht i (Jj ad L cap0)
  exact⟨ra,L,rc,rfl,fun v0 v1 v2 v3 v4=>GH hM (by simp) hg gR.out (by rw[cf];exact fun q hq=>List.mem_append_right _ hq) a8 (by rw[hL];exact hr) v0 v1 v2 v3 v4,hM.copied hg _⟩
 have ii:Hid (∀w6,((((w.alloc (JZ #[J Jq k,J Jq wd,J Jq ht,J Jq i,Jj ad L cap0] 53)).alloc (.cells aU 53)).alloc (JZ #[J Jq k,J Jq (wd+n),J Jq ht,J Jq i,Jj ad L cap0] 53))).grownBy w6 O->∃u,w6.cell? ⟨w.heap.size+1+1,4,O⟩=I u/\w6.frozen? ⟨w.heap.size+1+1,4,O⟩=false):=fun w6 hg=>by
  have hM:=Mid.start w k wd ht k (wd+n) ht i (Jj ad L cap0)
  have ce:=(hg.block _ (lt_of_block hM.new) (by simp)).trans hM.new
  exact⟨_,ae ce 4,ai ce 4⟩
 have kr:IntKind.i64.wrap (wd+n)=wd+n:=by rw[IntKind.wrap_i64];omega
 show Calls prog 63 #[.agg #[J Jq k,J Jq wd,J Jq ht,J Jq i,Jj ad L cap0],J Jq 2,J Jq n] w (yJ (.mk k (wd+n) ht i ks) fp w)
 by_cases hk:k=1
 . have kl:(k==1)=true:=by simpa using hk
   clear br a8 cf hL iN EV K8 hn hk gR
   go_enter func63,ntmps63
   go_wp2_with (at_builtin;refine aW _ rfl (.const (Jj O 0 0)) (.tmp 25) 51 53 rfl (.agg aU) 5 56 underlying51 eX rfl (by decide) (by decide) (w.heap.size+3) (Jj O 0 0) 0 [] rfl (World.ownsRow_nil _ _ _ _) 0 (Jj ad L cap0) L cs rfl (eN.out _ _ _) cB.out ?x1 ?x2 ?_;(case x1=>omega);(case x2=>simp);intro v w6 a1 a2;rw[Nat.zero_add,List.nil_append] at a1;obtain⟨ra,rn,rc,rfl,hF,cy⟩:=HK.out v w6 a2 a1;have HF:Hid (∀v0 v1 v2 v3 v4,yJ (.mk k (wd+n) ht i ks) fp w (Jz (.agg #[J Jq k,J Jq (wd+n),J Jq ht,J Jq i,Jj ra rn rc])) (fB (w6.setCell ⟨w.heap.size+1+1,4,O⟩ (Jj ra rn rc)) (w.heap.size+1) v0 v1 v2 v3 v4)):=hF;obtain⟨c0,n0,n1,n2,n3,⟨r0,r1,r2,r3,r4⟩,fz⟩:=sW cy;have c4:=ii.out w6 a2;obtain⟨u4,c4,f4⟩:=c4;clear hF cy a1 a2)
   exact bodyPost_ret (v:=.agg #[J Jq k,J Jq (wd+n),J Jq ht,J Jq i,Jj ra rn rc]) (by simp[results,results63,go_sem,r0,r1,r2,r3,r4]) rfl (HF.out _ _ _ _ _)
 . have kl:(k==1)=false:=by simpa using hk
   have mU:(n==0)=true:=by simpa using iN.resolve_left hk
   clear br a8 cf hL iN EV K8 hn hk gR
   go_enter func63,ntmps63
   go_wp2_with (at_builtin;refine aW _ rfl (.const (Jj O 0 0)) (.tmp 25) 51 53 rfl (.agg aU) 5 56 underlying51 eX rfl (by decide) (by decide) (w.heap.size+3) (Jj O 0 0) 0 [] rfl (World.ownsRow_nil _ _ _ _) 0 (Jj ad L cap0) L cs rfl (eN.out _ _ _) cB.out ?x1 ?x2 ?_;(case x1=>omega);(case x2=>simp);intro v w6 a1 a2;rw[Nat.zero_add,List.nil_append] at a1;obtain⟨ra,rn,rc,rfl,hF,cy⟩:=HK.out v w6 a2 a1;have HF:Hid (∀v0 v1 v2 v3 v4,yJ (.mk k (wd+n) ht i ks) fp w (Jz (.agg #[J Jq k,J Jq (wd+n),J Jq ht,J Jq i,Jj ra rn rc])) (fB (w6.setCell ⟨w.heap.size+1+1,4,O⟩ (Jj ra rn rc)) (w.heap.size+1) v0 v1 v2 v3 v4)):=hF;obtain⟨c0,n0,n1,n2,n3,⟨r0,r1,r2,r3,r4⟩,fz⟩:=sW cy;have c4:=ii.out w6 a2;obtain⟨u4,c4,f4⟩:=c4;clear hF cy a1 a2)
   exact bodyPost_ret (v:=.agg #[J Jq k,J Jq (wd+n),J Jq ht,J Jq i,Jj ra rn rc]) (by simp[results,results63,go_sem,r0,r1,r2,r3,r4]) rfl (HF.out _ _ _ _ _)
theorem qV (k wd ht i:Int)(ks:List Node)(n:Int)(sl:Value)(fp:List Nat)(w:World)(iN:k=1\/n=0)(EV:1<=wd/\wd<=1000)(K8:1<=ht/\ht<=1000)(hn: -1000<=n/\n<=1000)(dj:ks.length<=900)(ab:(Node.mk k wd ht i ks).In w sl fp):
 Calls prog 63 #[.agg (aC (.mk k wd ht i ks) sl),J Jq 3,J Jq n] w (yJ (.mk k wd (ht+n) i ks) fp w):=by
 obtain⟨ad,cap0,av⟩:=ab.sl
 change sl=Jj ad ks.length cap0 at av
 have gR:=zh ab.lt
 obtain⟨cs,fs,br,a8,cf⟩:=ab
 obtain⟨L,hL⟩:∃L,ks.length=L:=⟨_,rfl⟩
 rw[hL] at av br dj
 subst av
 have eN:Hid (∀o1 o2 o3,(((w.alloc o1).alloc o2).alloc o3).ownsRow 0 53 5 (Jj ad L cap0) L cs):=fun o1 o2 o3=>((br.alloc o1).alloc o2).alloc o3
 have cB:=zh a8.oneCell
 have HK:Hid (∀v w6,((((w.alloc (JZ #[J Jq k,J Jq wd,J Jq ht,J Jq i,Jj ad L cap0] 53)).alloc (.cells aU 53)).alloc (JZ #[J Jq k,J Jq wd,J Jq (ht+n),J Jq i,Jj ad L cap0] 53))).grownBy w6 O->w6.ownsRow (w.heap.size+3) 53 5 v L cs->∃ra rn rc,v=Jj ra rn rc/\(∀v0 v1 v2 v3 v4,yJ (.mk k wd (ht+n) i ks) fp w (Jz (.agg #[J Jq k,J Jq wd,J Jq (ht+n),J Jq i,Jj ra rn rc])) (fB (w6.setCell ⟨w.heap.size+1+1,4,O⟩ (Jj ra rn rc)) (w.heap.size+1) v0 v1 v2 v3 v4))/\Mid w k wd ht k wd (ht+n) i (Jj ad L cap0) (Jj ra rn rc) (w6.setCell ⟨w.heap.size+1+1,4,O⟩ (Jj ra rn rc))):=by
  intro v w6 hg hr
  obtain⟨ra,rc,rfl⟩:=dG hr
  have hM:=Mid.start w k wd ht k wd (ht+n) i (Jj ad L cap0)
  exact⟨ra,L,rc,rfl,fun v0 v1 v2 v3 v4=>GH hM (by simp) hg gR.out (by rw[cf];exact fun q hq=>List.mem_append_right _ hq) a8 (by rw[hL];exact hr) v0 v1 v2 v3 v4,hM.copied hg _⟩
 have ii:Hid (∀w6,((((w.alloc (JZ #[J Jq k,J Jq wd,J Jq ht,J Jq i,Jj ad L cap0] 53)).alloc (.cells aU 53)).alloc (JZ #[J Jq k,J Jq wd,J Jq (ht+n),J Jq i,Jj ad L cap0] 53))).grownBy w6 O->∃u,w6.cell? ⟨w.heap.size+1+1,4,O⟩=I u/\w6.frozen? ⟨w.heap.size+1+1,4,O⟩=false):=fun w6 hg=>by
  have hM:=Mid.start w k wd ht k wd (ht+n) i (Jj ad L cap0)
  have ce:=(hg.block _ (lt_of_block hM.new) (by simp)).trans hM.new
  exact⟨_,ae ce 4,ai ce 4⟩
 have kr:IntKind.i64.wrap (ht+n)=ht+n:=by rw[IntKind.wrap_i64];omega
 show Calls prog 63 #[.agg #[J Jq k,J Jq wd,J Jq ht,J Jq i,Jj ad L cap0],J Jq 3,J Jq n] w (yJ (.mk k wd (ht+n) i ks) fp w)
 by_cases hk:k=1
 . have kl:(k==1)=true:=by simpa using hk
   clear br a8 cf hL iN EV K8 hn hk gR
   go_enter func63,ntmps63
   go_wp2_with (at_builtin;refine aW _ rfl (.const (Jj O 0 0)) (.tmp 25) 51 53 rfl (.agg aU) 5 56 underlying51 eX rfl (by decide) (by decide) (w.heap.size+3) (Jj O 0 0) 0 [] rfl (World.ownsRow_nil _ _ _ _) 0 (Jj ad L cap0) L cs rfl (eN.out _ _ _) cB.out ?x1 ?x2 ?_;(case x1=>omega);(case x2=>simp);intro v w6 a1 a2;rw[Nat.zero_add,List.nil_append] at a1;obtain⟨ra,rn,rc,rfl,hF,cy⟩:=HK.out v w6 a2 a1;have HF:Hid (∀v0 v1 v2 v3 v4,yJ (.mk k wd (ht+n) i ks) fp w (Jz (.agg #[J Jq k,J Jq wd,J Jq (ht+n),J Jq i,Jj ra rn rc])) (fB (w6.setCell ⟨w.heap.size+1+1,4,O⟩ (Jj ra rn rc)) (w.heap.size+1) v0 v1 v2 v3 v4)):=hF;obtain⟨c0,n0,n1,n2,n3,⟨r0,r1,r2,r3,r4⟩,fz⟩:=sW cy;have c4:=ii.out w6 a2;obtain⟨u4,c4,f4⟩:=c4;clear hF cy a1 a2)
   exact bodyPost_ret (v:=.agg #[J Jq k,J Jq wd,J Jq (ht+n),J Jq i,Jj ra rn rc]) (by simp[results,results63,go_sem,r0,r1,r2,r3,r4]) rfl (HF.out _ _ _ _ _)
 . have kl:(k==1)=false:=by simpa using hk
   have mU:(n==0)=true:=by simpa using iN.resolve_left hk
   clear br a8 cf hL iN EV K8 hn hk gR
   go_enter func63,ntmps63
   go_wp2_with (at_builtin;refine aW _ rfl (.const (Jj O 0 0)) (.tmp 25) 51 53 rfl (.agg aU) 5 56 underlying51 eX rfl (by decide) (by decide) (w.heap.size+3) (Jj O 0 0) 0 [] rfl (World.ownsRow_nil _ _ _ _) 0 (Jj ad L cap0) L cs rfl (eN.out _ _ _) cB.out ?x1 ?x2 ?_;(case x1=>omega);(case x2=>simp);intro v w6 a1 a2;rw[Nat.zero_add,List.nil_append] at a1;obtain⟨ra,rn,rc,rfl,hF,cy⟩:=HK.out v w6 a2 a1;have HF:Hid (∀v0 v1 v2 v3 v4,yJ (.mk k wd (ht+n) i ks) fp w (Jz (.agg #[J Jq k,J Jq wd,J Jq (ht+n),J Jq i,Jj ra rn rc])) (fB (w6.setCell ⟨w.heap.size+1+1,4,O⟩ (Jj ra rn rc)) (w.heap.size+1) v0 v1 v2 v3 v4)):=hF;obtain⟨c0,n0,n1,n2,n3,⟨r0,r1,r2,r3,r4⟩,fz⟩:=sW cy;have c4:=ii.out w6 a2;obtain⟨u4,c4,f4⟩:=c4;clear hF cy a1 a2)
   exact bodyPost_ret (v:=.agg #[J Jq k,J Jq wd,J Jq (ht+n),J Jq i,Jj ra rn rc]) (by simp[results,results63,go_sem,r0,r1,r2,r3,r4]) rfl (HF.out _ _ _ _ _)
theorem Eh (b:Box)(ts rs:List Tree)(n:Int)(m N:Nat)(sl:Value)(fp:List Nat)(w:World)(hn:n≠0)(bN:Ag (.split b 2 ts) 2 n)(hD:BD 2 m ts 0 n rs)(IH:∀t:Tree,t.size<=N->nG t)(hN:sizes ts<=N)(ab:(ag (.split b 2 ts)).In w sl fp):
 Calls prog 63 #[.agg (aC (ag (.split b 2 ts)) sl),J Jq 2,J Jq n] w (uD (.split (b.str 2 n) 2 rs) fp w):=by
 have ar:=(Tree.split b 2 ts).aF bN.sound
 change (1<=b.w/\b.w<=1000)/\(1<=b.h/\b.h<=1000) at ar
 have j9:=bN.low
 have Bb:=bN.high
 have hs:=bN.sound
 unfold Tree.sound at hs
 simp only[Bool.and_eq_true,decide_eq_true_eq] at hs
 have h2:=hs.1.1
 have hsz:=bN.size
 change 1+sizes ts<=900 at hsz
 have gd:=aI ts
 obtain⟨ad,cap0,av⟩:=ab.sl
 change (Node.mk 2 b.w b.h 0 (nodesOf ts)).In w sl fp at ab
 change sl=Jj ad (nodesOf ts).length cap0 at av
 rw[ax] at av
 obtain⟨L,hL⟩:∃L,ts.length=L:=⟨_,rfl⟩
 rw[hL] at av gd h2
 subst av
 have cj:=ab
 obtain⟨cs,fs,br,a8,cf⟩:=cj
 rw[ax,hL] at br
 have eN:Hid (∀o1 o2 o3,(((w.alloc o1).alloc o2).alloc o3).ownsRow 0 53 5 (Jj ad L cap0) L cs):=fun o1 o2 o3=>((br.alloc o1).alloc o2).alloc o3
 have cB:=zh a8.oneCell
 have HK:Hid (∀v w6,((((w.alloc (JZ #[J Jq 2,J Jq b.w,J Jq b.h,J Jq 0,Jj ad L cap0] 53)).alloc (.cells aU 53)).alloc (JZ #[J Jq 2,J Jq (b.w+n),J Jq b.h,J Jq 0,Jj ad L cap0] 53))).grownBy w6 O->w6.ownsRow (w.heap.size+3) 53 5 v L cs->∃g cap,v=Jj (I ⟨g,0,O⟩) L cap/\w.heap.size+2 < g/\bK g L cap fp ts (w6.setCell ⟨w.heap.size+1+1,4,O⟩ v)/\Mid w 2 b.w b.h 2 (b.w+n) b.h 0 (Jj ad L cap0) v (w6.setCell ⟨w.heap.size+1+1,4,O⟩ v)):=by
  intro v w6 hg hr
  have hM:=Mid.start w 2 b.w b.h 2 (b.w+n) b.h 0 (Jj ad L cap0)
  obtain⟨g,cap,e1,e2,e3⟩:=bK.start ab hM (by simp) hg (by rw[cf];exact fun q hq=>List.mem_append_right _ hq) a8 (by rw[hL];simpa using hr) (by omega)
  rw[hL] at e1 e3
  exact⟨g,cap,e1,e2,e3,hM.copied hg v⟩
 have ii:Hid (∀w6,((((w.alloc (JZ #[J Jq 2,J Jq b.w,J Jq b.h,J Jq 0,Jj ad L cap0] 53)).alloc (.cells aU 53)).alloc (JZ #[J Jq 2,J Jq (b.w+n),J Jq b.h,J Jq 0,Jj ad L cap0] 53))).grownBy w6 O->∃u,w6.cell? ⟨w.heap.size+1+1,4,O⟩=I u/\w6.frozen? ⟨w.heap.size+1+1,4,O⟩=false):=fun w6 hg=>by
  have hM:=Mid.start w 2 b.w b.h 2 (b.w+n) b.h 0 (Jj ad L cap0)
  have ce:=(hg.block _ (lt_of_block hM.new) (by simp)).trans hM.new
  exact⟨_,ae ce 4,ai ce 4⟩
 have gR:=zh ab.lt
 have HL:=zh hL
 have De:L<=900:=by omega
 have kr:IntKind.i64.wrap (b.w+n)=b.w+n:=by rw[IntKind.wrap_i64];omega
 have eJ:=zh IH
 have HD:=zh hD
 have As:Hid (∀t∈ts,t.size<=N):=fun t ht=>by
  obtain⟨i,hi⟩:=List.getElem?_of_mem ht
  have:=bI ts i t hi
  omega
 have FR:0 < L:=by omega
 have mU:(n==0)=false:=by simpa using hn
 show Calls prog 63 #[.agg #[J Jq 2,J Jq b.w,J Jq b.h,J Jq 0,Jj ad L cap0],J Jq 2,J Jq n] w (uD (.split (b.str 2 n) 2 rs) fp w)
 clear ab br a8 cf bN hs ar hsz gd hL hD hN IH j9 Bb hn
 go_enter func63,ntmps63
 go_wp2_with (at_builtin;refine aW _ rfl (.const (Jj O 0 0)) (.tmp 25) 51 53 rfl (.agg aU) 5 56 underlying51 eX rfl (by decide) (by decide) (w.heap.size+3) (Jj O 0 0) 0 [] rfl (World.ownsRow_nil _ _ _ _) 0 (Jj ad L cap0) L cs rfl (eN.out _ _ _) cB.out ?x1 ?x2 ?_;(case x1=>omega);(case x2=>simp);intro v w6 a1 a2;rw[Nat.zero_add,List.nil_append] at a1;obtain⟨g,cap,rfl,eO,dx,cy⟩:=HK.out v w6 a2 a1;have re:Hid (bK g L cap fp ts (w6.setCell ⟨w.heap.size+1+1,4,O⟩ (Jj (I ⟨g,0,O⟩) L cap))):=dx;have np:Hid (Mid w 2 b.w b.h 2 (b.w+n) b.h 0 (Jj ad L cap0) (Jj (I ⟨g,0,O⟩) L cap) (w6.setCell ⟨w.heap.size+1+1,4,O⟩ (Jj (I ⟨g,0,O⟩) L cap))):=cy;have c0:w6.cell? ⟨w.heap.size,0,O⟩=I (J Jq 2):=ae ((Below.heap_setCell _ _ _ _ (by show w.heap.size≠w.heap.size+1+1;omega)).symm.trans cy.par) 0;have c4:=ii.out w6 a2;obtain⟨u4,c4,f4⟩:=c4;clear dx cy a1 a2)
 go_loopw [9,10] (fun vi vn wr=>uF w 2 b.w b.h (b.w+n) b.h (Jj ad L cap0) g L cap fp N rs vi vn wr (kz (uF w 2 b.w b.h (b.w+n) b.h (Jj ad L cap0) g L cap fp N rs vi vn wr))) (fun vi vn wr=>kz (uF w 2 b.w b.h (b.w+n) b.h (Jj ad L cap0) g L cap fp N rs vi vn wr))
 case atStart=>exact gy ⟨m,0,n,ts,rfl,rfl,HD.out,re.out,np.out,As.out,FR⟩
 case round=>
  obtain⟨i,x,us,rfl,rfl,hD⟩:=hrel
  clear c0 c4 f4 re np HD As
  obtain⟨M,hM⟩:∃M,kz (uF w 2 b.w b.h (b.w+n) b.h (Jj ad L cap0) g L cap fp N rs (J Jq i) (J Jq x) wr)=M:=⟨_,rfl⟩
  rw[hM] at hD
  have HM:=zh hM
  clear hM
  by_cases h0:x=0
  . subst h0
    have ia:bK g L cap fp rs wr:=by
     rcases je hD.deal with ⟨_,he⟩ | ⟨_,_,_,he,_⟩ | ⟨_,_,_,_,he,_⟩
     . exact he ▸ hD.kids
     . exact absurd he (by decide)
     . exact absurd rfl he
    have HF:Hid (∀v0 v1 v2 v3 v4,uD (.split (b.str 2 n) 2 rs) fp w (Jz (.agg #[J Jq 2,J Jq (b.w+n),J Jq b.h,J Jq 0,Jj (I ⟨g,0,O⟩) L cap])) (fB wr (w.heap.size+1) v0 v1 v2 v3 v4)):=fun v0 v1 v2 v3 v4=>ru ia hD.mid eO gR.out rfl v0 v1 v2 v3 v4
    have n0:wr.cell? ⟨w.heap.size+1+1,0,O⟩=I (J Jq 2):=ae hD.mid.new 0
    have n1:wr.cell? ⟨w.heap.size+1+1,1,O⟩=I (J Jq (b.w+n)):=ae hD.mid.new 1
    have n2:wr.cell? ⟨w.heap.size+1+1,2,O⟩=I (J Jq b.h):=ae hD.mid.new 2
    have n3:wr.cell? ⟨w.heap.size+1+1,3,O⟩=I (J Jq 0):=ae hD.mid.new 3
    have n4:wr.cell? ⟨w.heap.size+1+1,4,O⟩=I (Jj (I ⟨g,0,O⟩) L cap):=ae hD.mid.new 4
    have r0:wr.cell? ⟨w.heap.size+1,0,O⟩=I (J Jq 0):=ae hD.mid.res 0
    have r1:wr.cell? ⟨w.heap.size+1,1,O⟩=I (J Jq 0):=ae hD.mid.res 1
    have r2:wr.cell? ⟨w.heap.size+1,2,O⟩=I (J Jq 0):=ae hD.mid.res 2
    have r3:wr.cell? ⟨w.heap.size+1,3,O⟩=I (J Jq 0):=ae hD.mid.res 3
    have r4:wr.cell? ⟨w.heap.size+1,4,O⟩=I (Jj O 0 0):=ae hD.mid.res 4
    have f0:=ai hD.mid.res 0
    have f1:=ai hD.mid.res 1
    have f2:=ai hD.mid.res 2
    have f3:=ai hD.mid.res 3
    have f4:=ai hD.mid.res 4
    clear hD ia
    go_wp2
    exact bodyPost_ret (v:=.agg #[J Jq 2,J Jq (b.w+n),J Jq b.h,J Jq 0,Jj (I ⟨g,0,O⟩) L cap]) (by simp[results,results63,go_sem,r0,r1,r2,r3,r4]) rfl (HF.out _ _ _ _ _)
  . obtain⟨m',nn,sa,sn,sc,r,hm,hO⟩:=yY eO eJ.out hD h0
    have hi:i < L:=hD.lt
    have cg:=vN i L FR (by omega) hi
    have s1:=cg.1
    have s2:=cg.2
    have Hm:=zh hm
    have HQ:=zh hO.cells
    obtain⟨fz,⟨q0,q1,q2,q3,q4⟩,b4⟩:=hO.cells wr (Below.refl _ _)
    have LS:(x != 0)=true:=by simpa using h0
    have hl:=hO.lim
    by_cases nu:0 < x
    . have Bm:sg x=1:=if_neg (by omega)
      have HG:Hid (∀X,Below wr.heap.size wr X->Calls prog 63 #[.agg (aC nn (Jj sa sn sc)),J Jq 2,J Jq 1] X fun e w'=>∃nr ta tn tc us,e=Jz (.agg (aC nr (Jj ta tn tc)))/\Below wr.heap.size wr w'/\tN w 2 b.w b.h (b.w+n) b.h (Jj ad L cap0) g L cap fp N rs m' ((i+1) % L) (x-1) (gq w' g (i*5) nr (Jj ta tn tc)) us):=fun X hX=>by
       have:=hO.give (fun h=>absurd h (by omega)) X hX
       rw[Bm] at this
       exact this
      have hw:IntKind.i64.wrap (x-1)=x-1:=by rw[IntKind.wrap_i64];omega
      unfold aC at HG
      clear hO hD cg hm Bm h0 hl
      go_wp2_with fail
      go_region_with (go_at_call 63;refine (HG.out _ (by first | exact (Below.refl _ _).drew | exact cY.out.drew)).mono ?_;rintro e w2 ⟨nr,ta,tn,tc,us2,rfl,al,eT⟩;obtain⟨fz2,⟨p0,p1,p2,p3,p4⟩,b42⟩:=HQ.out w2 al)
      all_goals (
       have ij:=zh eT
       have x4:(((((w2.setCell ⟨g,i*5,O⟩ (J Jq nr.k)).setCell ⟨g,i*5+1,O⟩ (J Jq nr.w)).setCell ⟨g,i*5+2,O⟩ (J Jq nr.h)).setCell ⟨g,i*5+3,O⟩ (J Jq nr.i)).setCell ⟨g,i*5+4,O⟩ (Jj ta tn tc)).cell? ⟨w.heap.size+1+1,4,O⟩=I (Jj (I ⟨g,0,O⟩) L cap):=ae eT.mid.new 4
       clear eT al fz2 p0 p1 p2 p3 p4 q0 q1 q2 q3 q4 fz HG HQ
       go_wp2
       try rw[kJ]
       exact⟨gy ⟨m',(i+1) % L,(x-1),us2,rfl,rfl,ij.out⟩,Nat.lt_of_le_of_lt (jm ⟨(i+1) % L,(x-1),us2,rfl,rfl,ij.out⟩) (by rw[HM.out,Hm.out];omega)⟩)
    . have eR:x < 0:=by omega
      have Bm:sg x= -1:=if_pos eR
      have HR:Hid (Calls prog 60 #[.agg (aC nn (Jj sa sn sc)),J Jq 2] wr fun e w'=>e=Jz (J Jq r)/\Below wr.heap.size wr w'):=hO.room wr (Below.refl _ _)
      have Bn:Hid (r=0->∃us,tN w 2 b.w b.h (b.w+n) b.h (Jj ad L cap0) g L cap fp N rs m' ((i+1) % L) x wr us):=fun h=>hO.skip eR h
      have yp:Hid (r≠0->∀X,Below wr.heap.size wr X->Calls prog 63 #[.agg (aC nn (Jj sa sn sc)),J Jq 2,J Jq (-1)] X fun e w'=>∃nr ta tn tc us,e=Jz (.agg (aC nr (Jj ta tn tc)))/\Below wr.heap.size wr w'/\tN w 2 b.w b.h (b.w+n) b.h (Jj ad L cap0) g L cap fp N rs m' ((i+1) % L) (x+1) (gq w' g (i*5) nr (Jj ta tn tc)) us):=fun h X hX=>by
       have:=hO.give (fun _=>h) X hX
       rw[Bm,show x- -1=x+1 by omega] at this
       exact this
      have gh:=hO.low
      have hw:IntKind.i64.wrap (x+1)=x+1:=by rw[IntKind.wrap_i64];omega
      unfold aC at yp HR
      clear hO hD cg hm Bm h0 hl
      by_cases hr:r=0
      . obtain⟨us1,Se⟩:=Bn.out hr
        subst hr
        have kx:=zh Se
        clear Se Bn yp
        go_wp2_with fail
        refine HR.out.mono ?_
        rintro e w1 ⟨rfl,bj⟩
        have tM:=zh (kx.out.below bj)
        have b42:=(HQ.out w1 bj).2.2
        clear HR bj HQ kx q0 q1 q2 q3 q4 fz b4
        go_wp2
        try rw[kJ]
        exact⟨gy ⟨m',(i+1) % L,x,us1,rfl,rfl,tM.out⟩,Nat.lt_of_le_of_lt (jm ⟨(i+1) % L,x,us1,rfl,rfl,tM.out⟩) (by rw[HM.out,Hm.out];omega)⟩
      . have hrp:0 < r:=by omega
        have HG:=zh (yp.out hr)
        clear Bn yp hr gh
        go_wp2_with fail
        refine HR.out.mono ?_
        rintro e w1 ⟨rfl,bj⟩
        have cY:=zh bj
        clear q0 q1 q2 q3 q4 fz b4
        obtain⟨fz,⟨q0,q1,q2,q3,q4⟩,b4⟩:=HQ.out w1 bj
        clear HR bj
        go_wp2_with fail
        go_region_with (go_at_call 63;refine (HG.out _ (by first | exact (Below.refl _ _).drew | exact cY.out.drew)).mono ?_;rintro e w2 ⟨nr,ta,tn,tc,us2,rfl,al,eT⟩;obtain⟨fz2,⟨p0,p1,p2,p3,p4⟩,b42⟩:=HQ.out w2 al)
        all_goals (
         have ij:=zh eT
         have x4:(((((w2.setCell ⟨g,i*5,O⟩ (J Jq nr.k)).setCell ⟨g,i*5+1,O⟩ (J Jq nr.w)).setCell ⟨g,i*5+2,O⟩ (J Jq nr.h)).setCell ⟨g,i*5+3,O⟩ (J Jq nr.i)).setCell ⟨g,i*5+4,O⟩ (Jj ta tn tc)).cell? ⟨w.heap.size+1+1,4,O⟩=I (Jj (I ⟨g,0,O⟩) L cap):=ae eT.mid.new 4
         clear eT al fz2 p0 p1 p2 p3 p4 q0 q1 q2 q3 q4 fz HG HQ
         go_wp2
         try rw[kJ]
         exact⟨gy ⟨m',(i+1) % L,(x+1),us2,rfl,rfl,ij.out⟩,Nat.lt_of_le_of_lt (jm ⟨(i+1) % L,(x+1),us2,rfl,rfl,ij.out⟩) (by rw[HM.out,Hm.out];omega)⟩)
theorem Fh (b:Box)(ts rs:List Tree)(n:Int)(m N:Nat)(sl:Value)(fp:List Nat)(w:World)(hn:n≠0)(bN:Ag (.split b 3 ts) 3 n)(hD:BD 3 m ts 0 n rs)(IH:∀t:Tree,t.size<=N->nG t)(hN:sizes ts<=N)(ab:(ag (.split b 3 ts)).In w sl fp):
 Calls prog 63 #[.agg (aC (ag (.split b 3 ts)) sl),J Jq 3,J Jq n] w (uD (.split (b.str 3 n) 3 rs) fp w):=by
 have ar:=(Tree.split b 3 ts).aF bN.sound
 change (1<=b.w/\b.w<=1000)/\(1<=b.h/\b.h<=1000) at ar
 have j9:=bN.low
 have Bb:=bN.high
 have hs:=bN.sound
 unfold Tree.sound at hs
 simp only[Bool.and_eq_true,decide_eq_true_eq] at hs
 have h2:=hs.1.1
 have hsz:=bN.size
 change 1+sizes ts<=900 at hsz
 have gd:=aI ts
 obtain⟨ad,cap0,av⟩:=ab.sl
 change (Node.mk 3 b.w b.h 0 (nodesOf ts)).In w sl fp at ab
 change sl=Jj ad (nodesOf ts).length cap0 at av
 rw[ax] at av
 obtain⟨L,hL⟩:∃L,ts.length=L:=⟨_,rfl⟩
 rw[hL] at av gd h2
 subst av
 have cj:=ab
 obtain⟨cs,fs,br,a8,cf⟩:=cj
 rw[ax,hL] at br
 have eN:Hid (∀o1 o2 o3,(((w.alloc o1).alloc o2).alloc o3).ownsRow 0 53 5 (Jj ad L cap0) L cs):=fun o1 o2 o3=>((br.alloc o1).alloc o2).alloc o3
 have cB:=zh a8.oneCell
 have HK:Hid (∀v w6,((((w.alloc (JZ #[J Jq 3,J Jq b.w,J Jq b.h,J Jq 0,Jj ad L cap0] 53)).alloc (.cells aU 53)).alloc (JZ #[J Jq 3,J Jq b.w,J Jq (b.h+n),J Jq 0,Jj ad L cap0] 53))).grownBy w6 O->w6.ownsRow (w.heap.size+3) 53 5 v L cs->∃g cap,v=Jj (I ⟨g,0,O⟩) L cap/\w.heap.size+2 < g/\bK g L cap fp ts (w6.setCell ⟨w.heap.size+1+1,4,O⟩ v)/\Mid w 3 b.w b.h 3 b.w (b.h+n) 0 (Jj ad L cap0) v (w6.setCell ⟨w.heap.size+1+1,4,O⟩ v)):=by
  intro v w6 hg hr
  have hM:=Mid.start w 3 b.w b.h 3 b.w (b.h+n) 0 (Jj ad L cap0)
  obtain⟨g,cap,e1,e2,e3⟩:=bK.start ab hM (by simp) hg (by rw[cf];exact fun q hq=>List.mem_append_right _ hq) a8 (by rw[hL];simpa using hr) (by omega)
  rw[hL] at e1 e3
  exact⟨g,cap,e1,e2,e3,hM.copied hg v⟩
 have ii:Hid (∀w6,((((w.alloc (JZ #[J Jq 3,J Jq b.w,J Jq b.h,J Jq 0,Jj ad L cap0] 53)).alloc (.cells aU 53)).alloc (JZ #[J Jq 3,J Jq b.w,J Jq (b.h+n),J Jq 0,Jj ad L cap0] 53))).grownBy w6 O->∃u,w6.cell? ⟨w.heap.size+1+1,4,O⟩=I u/\w6.frozen? ⟨w.heap.size+1+1,4,O⟩=false):=fun w6 hg=>by
  have hM:=Mid.start w 3 b.w b.h 3 b.w (b.h+n) 0 (Jj ad L cap0)
  have ce:=(hg.block _ (lt_of_block hM.new) (by simp)).trans hM.new
  exact⟨_,ae ce 4,ai ce 4⟩
 have gR:=zh ab.lt
 have HL:=zh hL
 have De:L<=900:=by omega
 have kr:IntKind.i64.wrap (b.h+n)=b.h+n:=by rw[IntKind.wrap_i64];omega
 have eJ:=zh IH
 have HD:=zh hD
 have As:Hid (∀t∈ts,t.size<=N):=fun t ht=>by
  obtain⟨i,hi⟩:=List.getElem?_of_mem ht
  have:=bI ts i t hi
  omega
 have FR:0 < L:=by omega
 have mU:(n==0)=false:=by simpa using hn
 show Calls prog 63 #[.agg #[J Jq 3,J Jq b.w,J Jq b.h,J Jq 0,Jj ad L cap0],J Jq 3,J Jq n] w (uD (.split (b.str 3 n) 3 rs) fp w)
 clear ab br a8 cf bN hs ar hsz gd hL hD hN IH j9 Bb hn
 go_enter func63,ntmps63
 go_wp2_with (at_builtin;refine aW _ rfl (.const (Jj O 0 0)) (.tmp 25) 51 53 rfl (.agg aU) 5 56 underlying51 eX rfl (by decide) (by decide) (w.heap.size+3) (Jj O 0 0) 0 [] rfl (World.ownsRow_nil _ _ _ _) 0 (Jj ad L cap0) L cs rfl (eN.out _ _ _) cB.out ?x1 ?x2 ?_;(case x1=>omega);(case x2=>simp);intro v w6 a1 a2;rw[Nat.zero_add,List.nil_append] at a1;obtain⟨g,cap,rfl,eO,dx,cy⟩:=HK.out v w6 a2 a1;have re:Hid (bK g L cap fp ts (w6.setCell ⟨w.heap.size+1+1,4,O⟩ (Jj (I ⟨g,0,O⟩) L cap))):=dx;have np:Hid (Mid w 3 b.w b.h 3 b.w (b.h+n) 0 (Jj ad L cap0) (Jj (I ⟨g,0,O⟩) L cap) (w6.setCell ⟨w.heap.size+1+1,4,O⟩ (Jj (I ⟨g,0,O⟩) L cap))):=cy;have c0:w6.cell? ⟨w.heap.size,0,O⟩=I (J Jq 3):=ae ((Below.heap_setCell _ _ _ _ (by show w.heap.size≠w.heap.size+1+1;omega)).symm.trans cy.par) 0;have c4:=ii.out w6 a2;obtain⟨u4,c4,f4⟩:=c4;clear dx cy a1 a2)
 go_loopw [9,10] (fun vi vn wr=>uF w 3 b.w b.h b.w (b.h+n) (Jj ad L cap0) g L cap fp N rs vi vn wr (kz (uF w 3 b.w b.h b.w (b.h+n) (Jj ad L cap0) g L cap fp N rs vi vn wr))) (fun vi vn wr=>kz (uF w 3 b.w b.h b.w (b.h+n) (Jj ad L cap0) g L cap fp N rs vi vn wr))
 case atStart=>exact gy ⟨m,0,n,ts,rfl,rfl,HD.out,re.out,np.out,As.out,FR⟩
 case round=>
  obtain⟨i,x,us,rfl,rfl,hD⟩:=hrel
  clear c0 c4 f4 re np HD As
  obtain⟨M,hM⟩:∃M,kz (uF w 3 b.w b.h b.w (b.h+n) (Jj ad L cap0) g L cap fp N rs (J Jq i) (J Jq x) wr)=M:=⟨_,rfl⟩
  rw[hM] at hD
  have HM:=zh hM
  clear hM
  by_cases h0:x=0
  . subst h0
    have ia:bK g L cap fp rs wr:=by
     rcases je hD.deal with ⟨_,he⟩ | ⟨_,_,_,he,_⟩ | ⟨_,_,_,_,he,_⟩
     . exact he ▸ hD.kids
     . exact absurd he (by decide)
     . exact absurd rfl he
    have HF:Hid (∀v0 v1 v2 v3 v4,uD (.split (b.str 3 n) 3 rs) fp w (Jz (.agg #[J Jq 3,J Jq b.w,J Jq (b.h+n),J Jq 0,Jj (I ⟨g,0,O⟩) L cap])) (fB wr (w.heap.size+1) v0 v1 v2 v3 v4)):=fun v0 v1 v2 v3 v4=>ru ia hD.mid eO gR.out rfl v0 v1 v2 v3 v4
    have n0:wr.cell? ⟨w.heap.size+1+1,0,O⟩=I (J Jq 3):=ae hD.mid.new 0
    have n1:wr.cell? ⟨w.heap.size+1+1,1,O⟩=I (J Jq b.w):=ae hD.mid.new 1
    have n2:wr.cell? ⟨w.heap.size+1+1,2,O⟩=I (J Jq (b.h+n)):=ae hD.mid.new 2
    have n3:wr.cell? ⟨w.heap.size+1+1,3,O⟩=I (J Jq 0):=ae hD.mid.new 3
    have n4:wr.cell? ⟨w.heap.size+1+1,4,O⟩=I (Jj (I ⟨g,0,O⟩) L cap):=ae hD.mid.new 4
    have r0:wr.cell? ⟨w.heap.size+1,0,O⟩=I (J Jq 0):=ae hD.mid.res 0
    have r1:wr.cell? ⟨w.heap.size+1,1,O⟩=I (J Jq 0):=ae hD.mid.res 1
    have r2:wr.cell? ⟨w.heap.size+1,2,O⟩=I (J Jq 0):=ae hD.mid.res 2
    have r3:wr.cell? ⟨w.heap.size+1,3,O⟩=I (J Jq 0):=ae hD.mid.res 3
    have r4:wr.cell? ⟨w.heap.size+1,4,O⟩=I (Jj O 0 0):=ae hD.mid.res 4
    have f0:=ai hD.mid.res 0
    have f1:=ai hD.mid.res 1
    have f2:=ai hD.mid.res 2
    have f3:=ai hD.mid.res 3
    have f4:=ai hD.mid.res 4
    clear hD ia
    go_wp2
    exact bodyPost_ret (v:=.agg #[J Jq 3,J Jq b.w,J Jq (b.h+n),J Jq 0,Jj (I ⟨g,0,O⟩) L cap]) (by simp[results,results63,go_sem,r0,r1,r2,r3,r4]) rfl (HF.out _ _ _ _ _)
  . obtain⟨m',nn,sa,sn,sc,r,hm,hO⟩:=yY eO eJ.out hD h0
    have hi:i < L:=hD.lt
    have cg:=vN i L FR (by omega) hi
    have s1:=cg.1
    have s2:=cg.2
    have Hm:=zh hm
    have HQ:=zh hO.cells
    obtain⟨fz,⟨q0,q1,q2,q3,q4⟩,b4⟩:=hO.cells wr (Below.refl _ _)
    have LS:(x != 0)=true:=by simpa using h0
    have hl:=hO.lim
    by_cases nu:0 < x
    . have Bm:sg x=1:=if_neg (by omega)
      have HG:Hid (∀X,Below wr.heap.size wr X->Calls prog 63 #[.agg (aC nn (Jj sa sn sc)),J Jq 3,J Jq 1] X fun e w'=>∃nr ta tn tc us,e=Jz (.agg (aC nr (Jj ta tn tc)))/\Below wr.heap.size wr w'/\tN w 3 b.w b.h b.w (b.h+n) (Jj ad L cap0) g L cap fp N rs m' ((i+1) % L) (x-1) (gq w' g (i*5) nr (Jj ta tn tc)) us):=fun X hX=>by
       have:=hO.give (fun h=>absurd h (by omega)) X hX
       rw[Bm] at this
       exact this
      have hw:IntKind.i64.wrap (x-1)=x-1:=by rw[IntKind.wrap_i64];omega
      unfold aC at HG
      clear hO hD cg hm Bm h0 hl
      go_wp2_with fail
      go_region_with (go_at_call 63;refine (HG.out _ (by first | exact (Below.refl _ _).drew | exact cY.out.drew)).mono ?_;rintro e w2 ⟨nr,ta,tn,tc,us2,rfl,al,eT⟩;obtain⟨fz2,⟨p0,p1,p2,p3,p4⟩,b42⟩:=HQ.out w2 al)
      all_goals (
       have ij:=zh eT
       have x4:(((((w2.setCell ⟨g,i*5,O⟩ (J Jq nr.k)).setCell ⟨g,i*5+1,O⟩ (J Jq nr.w)).setCell ⟨g,i*5+2,O⟩ (J Jq nr.h)).setCell ⟨g,i*5+3,O⟩ (J Jq nr.i)).setCell ⟨g,i*5+4,O⟩ (Jj ta tn tc)).cell? ⟨w.heap.size+1+1,4,O⟩=I (Jj (I ⟨g,0,O⟩) L cap):=ae eT.mid.new 4
       clear eT al fz2 p0 p1 p2 p3 p4 q0 q1 q2 q3 q4 fz HG HQ
       go_wp2
       try rw[kJ]
       exact⟨gy ⟨m',(i+1) % L,(x-1),us2,rfl,rfl,ij.out⟩,Nat.lt_of_le_of_lt (jm ⟨(i+1) % L,(x-1),us2,rfl,rfl,ij.out⟩) (by rw[HM.out,Hm.out];omega)⟩)
    . have eR:x < 0:=by omega
      have Bm:sg x= -1:=if_pos eR
      have HR:Hid (Calls prog 60 #[.agg (aC nn (Jj sa sn sc)),J Jq 3] wr fun e w'=>e=Jz (J Jq r)/\Below wr.heap.size wr w'):=hO.room wr (Below.refl _ _)
      have Bn:Hid (r=0->∃us,tN w 3 b.w b.h b.w (b.h+n) (Jj ad L cap0) g L cap fp N rs m' ((i+1) % L) x wr us):=fun h=>hO.skip eR h
      have yp:Hid (r≠0->∀X,Below wr.heap.size wr X->Calls prog 63 #[.agg (aC nn (Jj sa sn sc)),J Jq 3,J Jq (-1)] X fun e w'=>∃nr ta tn tc us,e=Jz (.agg (aC nr (Jj ta tn tc)))/\Below wr.heap.size wr w'/\tN w 3 b.w b.h b.w (b.h+n) (Jj ad L cap0) g L cap fp N rs m' ((i+1) % L) (x+1) (gq w' g (i*5) nr (Jj ta tn tc)) us):=fun h X hX=>by
       have:=hO.give (fun _=>h) X hX
       rw[Bm,show x- -1=x+1 by omega] at this
       exact this
      have gh:=hO.low
      have hw:IntKind.i64.wrap (x+1)=x+1:=by rw[IntKind.wrap_i64];omega
      unfold aC at yp HR
      clear hO hD cg hm Bm h0 hl
      by_cases hr:r=0
      . obtain⟨us1,Se⟩:=Bn.out hr
        subst hr
        have kx:=zh Se
        clear Se Bn yp
        go_wp2_with fail
        refine HR.out.mono ?_
        rintro e w1 ⟨rfl,bj⟩
        have tM:=zh (kx.out.below bj)
        have b42:=(HQ.out w1 bj).2.2
        clear HR bj HQ kx q0 q1 q2 q3 q4 fz b4
        go_wp2
        try rw[kJ]
        exact⟨gy ⟨m',(i+1) % L,x,us1,rfl,rfl,tM.out⟩,Nat.lt_of_le_of_lt (jm ⟨(i+1) % L,x,us1,rfl,rfl,tM.out⟩) (by rw[HM.out,Hm.out];omega)⟩
      . have hrp:0 < r:=by omega
        have HG:=zh (yp.out hr)
        clear Bn yp hr gh
        go_wp2_with fail
        refine HR.out.mono ?_
        rintro e w1 ⟨rfl,bj⟩
        have cY:=zh bj
        clear q0 q1 q2 q3 q4 fz b4
        obtain⟨fz,⟨q0,q1,q2,q3,q4⟩,b4⟩:=HQ.out w1 bj
        clear HR bj
        go_wp2_with fail
        go_region_with (go_at_call 63;refine (HG.out _ (by first | exact (Below.refl _ _).drew | exact cY.out.drew)).mono ?_;rintro e w2 ⟨nr,ta,tn,tc,us2,rfl,al,eT⟩;obtain⟨fz2,⟨p0,p1,p2,p3,p4⟩,b42⟩:=HQ.out w2 al)
        all_goals (
         have ij:=zh eT
         have x4:(((((w2.setCell ⟨g,i*5,O⟩ (J Jq nr.k)).setCell ⟨g,i*5+1,O⟩ (J Jq nr.w)).setCell ⟨g,i*5+2,O⟩ (J Jq nr.h)).setCell ⟨g,i*5+3,O⟩ (J Jq nr.i)).setCell ⟨g,i*5+4,O⟩ (Jj ta tn tc)).cell? ⟨w.heap.size+1+1,4,O⟩=I (Jj (I ⟨g,0,O⟩) L cap):=ae eT.mid.new 4
         clear eT al fz2 p0 p1 p2 p3 p4 q0 q1 q2 q3 q4 fz HG HQ
         go_wp2
         try rw[kJ]
         exact⟨gy ⟨m',(i+1) % L,(x+1),us2,rfl,rfl,ij.out⟩,Nat.lt_of_le_of_lt (jm ⟨(i+1) % L,(x+1),us2,rfl,rfl,ij.out⟩) (by rw[HM.out,Hm.out];omega)⟩)
theorem Ll:∀(N:Nat) (t:Tree),t.size<=N->nG t:=by
 intro N
 induction N with
 | zero=>
   intro t ht
   have:=t.kK
   omega
 | succ N ih=>
   intro t ht j n t' sl fp w cg ab
   have bN:=cg.ok
   have ar:=t.aF bN.sound
   have hn: -1000<=n/\n<=1000:=⟨bN.low,bN.high⟩
   have CH:=bN.dir
   have hsz:=bN.size
   by_cases h0:n=0
   . subst h0
     have:=oh _ t (Nat.le_refl _) j t' cg
     subst this
     cases t' with
     | leaf b p=>
       rcases CH with rfl | rfl
       . have h:=qU 1 b.w b.h p [] 0 sl fp w (.inl rfl) ar.1 ar.2 hn (by simp) ab
         rw[Int.add_zero] at h
         exact h
       . have h:=qV 1 b.w b.h p [] 0 sl fp w (.inl rfl) ar.1 ar.2 hn (by simp) ab
         rw[Int.add_zero] at h
         exact h
     | split b k ts=>
       change 1+sizes ts<=900 at hsz
       have gd:=aI ts
       have hl:(nodesOf ts).length<=900:=by rw[ax];omega
       rcases CH with rfl | rfl
       . have h:=qU k b.w b.h 0 (nodesOf ts) 0 sl fp w (.inr rfl) ar.1 ar.2 hn hl ab
         rw[Int.add_zero] at h
         exact h
       . have h:=qV k b.w b.h 0 (nodesOf ts) 0 sl fp w (.inr rfl) ar.1 ar.2 hn hl ab
         rw[Int.add_zero] at h
         exact h
   . cases cg with
     | leaf b p _ _ _=>
       rcases CH with rfl | rfl
       . exact qU 1 b.w b.h p [] n sl fp w (.inl rfl) ar.1 ar.2 hn (by simp) ab
       . exact qV 1 b.w b.h p [] n sl fp w (.inl rfl) ar.1 ar.2 hn (by simp) ab
     | across b k ts _ _ rs _ a7 hlen mI=>
       have hk:k=2\/k=3:=bN.kinds.1
       change 1+sizes ts<=N+1 at ht
       have IH:∀t∈ts,nG t:=fun t Xp=>by
        obtain⟨i,hi⟩:=List.getElem?_of_mem Xp
        have:=bI ts i t hi
        exact ih t (by omega)
       rcases CH with rfl | rfl
       . have:k=3:=hk.resolve_left fun e=>a7 e.symm
         subst this
         exact DC b ts rs n sl fp w h0 bN hlen mI IH ab
       . have:k=2:=hk.resolve_right fun e=>a7 e.symm
         subst this
         exact Df b ts rs n sl fp w h0 bN hlen mI IH ab
     | along b k ts _ m rs _ hd=>
       change 1+sizes ts<=N+1 at ht
       rcases CH with rfl | rfl
       . exact Eh b ts rs n m N sl fp w h0 bN hd ih (by omega) ab
       . exact Fh b ts rs n m N sl fp w h0 bN hd ih (by omega) ab
theorem pR (t:Tree):nG t:=Ll t.size t (Nat.le_refl _)
def dZ (er:Int)(r:List aj)(X:World)(e:Ending)(w':World):Prop:=∃q,e=Jz (.tuple #[q,J Jq er])/\az w' X.heap.size q r/\Below X.heap.size X w'
theorem gX {W0 w1 w2:World}{fp:List Nat}(h:Below W0.heap.size W0 w1)(hb:But fp w1 w2)(be:∀q∈fp,W0.heap.size<=q):Below W0.heap.size W0 w2:=
 ⟨hb.os.trans h.os,hb.tape.trans h.tape,hb.output.trans h.output,Nat.le_trans h.size hb.size,fun q hq=>(hb.block q (Nat.lt_of_lt_of_le hq h.size) fun e=>by have:=be q e;omega).trans (h.block q hq)⟩
theorem But.drewN {S:List Nat}{w w':World}(m:Nat)(h:But S (w.drewN m) w'):But S w w':=⟨h.os,h.tape,h.output,h.size,h.block⟩
def cZ (t:Tree):List aj:=(t.moved 0 0).tell 0
theorem wW {t:Tree}{v:Value}{fp:List Nat}{W0 w1 w3:World}(h1:Below W0.heap.size W0 w1)(hb:But fp w1 w3)(be:∀q∈fp,W0.heap.size<=q)(aE:fp.Nodup)(hA:t.At w3 0 v fp)(hs:t.sound=true)(hk:t.kinds)(hz:t.size<=200):
 Calls prog 15 #[v] w3 fun e w'=>∃u,e=Jz u/\az w' W0.heap.size u (cZ t)/\Below W0.heap.size W0 w':=by
 have h3:=gX h1 hb be
 refine (xG t 0 v fp w3 hA aE hs (jH t hk hz) (by omega)).mono ?_
 rintro e w' ⟨u,he,hu,_,al⟩
 exact⟨u,he,hu.lower h3.size,gX h3 al be⟩
mutual
theorem kC:∀(t:Tree),(ag t).cnt=t.size
 | .leaf b p=>rfl
 | .split b k ts=>by
   show 1+cnts (nodesOf ts)=1+sizes ts
   rw[KE ts]
theorem KE:∀(ts:List Tree),cnts (nodesOf ts)=sizes ts
 | []=>rfl
 | t::ts=>by
   show (ag t).cnt+cnts (nodesOf ts)=t.size+sizes ts
   rw[kC t,KE ts]
end
theorem iW {t:Tree}{W:World}{sa:Option Addr}{sn sc:Nat}{fp:List Nat}(hs:t.sound=true)(hk:t.kinds)(hz:t.size<=200)(ab:(ag t).In W (Jj sa sn sc) fp):
 Calls prog 16 #[.agg (aC (ag t) (Jj sa sn sc))] W fun e w'=>∃u,e=Jz u/\az w' W.heap.size u (cZ t)/\Below W.heap.size W w':=by
 have ar:=t.aF hs
 have h:=Gm (ag t) (by rw[kC];omega) (AU t hk hs) (by rw[bV];exact ar.1.2) (by rw[bW];exact ar.2.2) sa sn sc fp W ab
 rw[rV] at h
 exact h
def Tree.cO:Tree->List Nat->Option Tree
 | t,[]=>I t
 | .leaf _ _,_::_=>O
 | .split _ _ ts,i::ps=>match ts[i]? with
   | some s=>s.cO ps
   | none=>O
def Tree.putAt:Tree->List Nat->Tree->Tree
 | _,[],s=>s
 | .leaf b p,_::_,_=>.leaf b p
 | .split b k ts,i::ps,s=>match ts[i]? with
   | some u=>.split b k (ts.set i (u.putAt ps s))
   | none=>.split b k ts
theorem Tree.At.sub {W:World}{B:Nat}:∀(ps:List Nat) {t s:Tree} {v:Value} {fp:List Nat},t.At W B v fp->fp.Nodup->t.cO ps=I s->
 ∃v' f',s.At W B v' f'/\f'.Nodup/\(∀q∈f',q∈fp)/\∀W' s',But f' W W'->s'.At W' B v' f'->(t.putAt ps s').At W' B v fp
 | [],t,s,v,fp,h,aE,hs=>by
   have:t=s:=by simpa [Tree.cO] using hs
   subst this
   exact⟨v,fp,h,aE,fun q hq=>hq,fun W' s' _ ej=>ej⟩
 | i::ps,.leaf b p,s,v,fp,h,aE,hs=>by simp[Tree.cO] at hs
 | i::ps,.split b k ts,s,v,fp,h,aE,hs=>by
   obtain⟨g,sl,vs,fs,rfl,h2,h3,h4,rfl⟩:=h
   cases hi:ts[i]? with
   | none=>simp[Tree.cO,hi] at hs
   | some u=>
     have ej:u.cO ps=I s:=by simpa [Tree.cO,hi] using hs
     obtain⟨n1,n2⟩:=List.nodup_cons.1 aE
     obtain⟨n3,n4,n5⟩:=List.nodup_append.1 n2
     obtain⟨v1,f1,e1,e2,e3,e4,e5⟩:=aB.one h4 n4 i u hi
     obtain⟨v',f',a1,a2,a3,a4⟩:=Tree.At.sub ps e2 e3 ej
     refine⟨v',f',a1,a2,fun q hq=>List.mem_cons_of_mem _ (List.mem_append_right _ (e4 q (a3 q hq))),fun W' s' hb i7=> ?_⟩
     have l6:(Tree.split b k ts).putAt (i::ps) s'=.split b k (ts.set i (u.putAt ps s')):=by simp[Tree.putAt,hi]
     rw[l6]
     have bj:But f1 W W':=hb.mono a3
     refine⟨g,sl,vs,fs,rfl,?_,?_,e5 W' _ bj (a4 W' s' hb i7),rfl⟩
     . exact (hb.block g (lt_of_block h2) fun e=>n1 (List.mem_append_right _ (e4 g (a3 g e)))).trans h2
     . exact dU h3 fun q hq=>hb.block q (oZ h3 q hq) fun e=>n5 q hq q (e4 q (a3 q e)) rfl
def iT (k:Int):Tree->List Nat->Option (List Nat × Nat)
 | _,[]=>O
 | .leaf _ _,_::_=>O
 | .split _ k' ts,i::ps=>match ts[i]? with
   | some s=>match iT k s ps with
     | some (qs,a)=>I (i::qs,a)
     | none=>if k'=k then I ([],i) else O
   | none=>O
theorem AC (k:Int):∀(ps:List Nat) (t:Tree) (qs:List Nat) (a:Nat),iT k t ps=I (qs,a)->∃b ts,t.cO qs=I (.split b k ts)/\a < ts.length
 | [],t,qs,a,h=>by simp[iT] at h
 | i::ps,.leaf b p,qs,a,h=>by simp[iT] at h
 | i::ps,.split b k' ts,qs,a,h=>by
   cases hi:ts[i]? with
   | none=>simp[iT,hi] at h
   | some s=>
     cases hn:iT k s ps with
     | none=>
       simp only[iT,hi,hn] at h
       split at h
       . rename_i e
         subst e
         cases h
         exact⟨b,ts,rfl,(List.getElem?_eq_some_iff.1 hi).1⟩
       . cases h
     | some r=>
       obtain⟨qs',a'⟩:=r
       simp only[iT,hi,hn] at h
       cases h
       obtain⟨b',ts',h1,h2⟩:=AC k ps s _ _ hn
       exact⟨b',ts',by simp only[Tree.cO,hi];exact h1,h2⟩
inductive Me (k:Int)(c:Nat):List Nat->Int->List Tree->List Tree->Int->Prop
 | nil (n:Int) (us:List Tree):Me k c [] n us us 0
 | cons (j:Nat) (js:List Nat) (n d:Int) (us rs:List Tree) (t t' s s':Tree) (got:Int):us[j]?=I t->t.sound=true->t.kinds->t.size<=900->d=min n (t.room k)->0<=d->d<=1000->t'.size=t.size->Str t k (-d) t'->(us.set j t')[c]?=I s->s'.size=s.size->Str s k d s'->Me k c js (n-d) ((us.set j t').set c s') rs got->Me k c (j::js) n us rs (d+got)
def iw (k:Int):Tree->List Tree
 | .leaf b p=>[.leaf b p]
 | .split b k' ts=>if k'=k then ts else [.split b k' ts]
theorem vO {k:Int}{t:Tree}(h:t.bY k=false):iw k t=[t]:=by
 cases t with
 | leaf b p=>rfl
 | split b k' ts=>
   have:¬k'=k:=by simpa [Tree.bY] using h
   show (if k'=k then ts else [.split b k' ts])=_
   rw[if_neg this]
structure FV (w:World)(k:Int)(t:Tree)(v:Value)(u:List Value):Prop where
 no:t.bY k=false->u=[v]
 yes:t.bY k=true->∃gi g cap,v=dA gi/\w.cell? ⟨gi,5,O⟩=I (Jj (I ⟨g,0,O⟩) u.length cap)/\w.ownsRow 0 70 1 (Jj (I ⟨g,0,O⟩) u.length cap) u.length u
 part:∃T gi Fs Fa,OI w v t T gi Fs Fa
theorem wP {w:World}{k:Int}{t:Tree}{v:Value}{fp:List Nat}(h:t.At w 0 v fp)(hf:t.fine)(hs:t.sound=true):∃u f,FV w k t v u/\aB w 0 (iw k t) u f/\List.Sublist f fp:=by
 cases ht:t.bY k with
 | false=>
   refine⟨[v],fp,⟨fun _=>rfl,fun e=>(by rw[ht] at e;cases e),h.JS hf⟩,?_,List.Sublist.refl _⟩
   rw[vO ht]
   exact⟨v,[],fp,[],rfl,h,⟨rfl,rfl⟩,by simp⟩
 | true=>
   cases t with
   | leaf b p=>cases ht
   | split b k' ts=>
     have hp:=h.JS hf
     obtain⟨g,sl,vs,fs,rfl,h2,h3,h4,rfl⟩:=h
     have hk:k'=k:=by simpa [Tree.bY] using ht
     unfold Tree.sound at hs
     simp only[Bool.and_eq_true,decide_eq_true_eq] at hs
     have dk:=h4.length
     rcases h3.2 with ⟨_,h5⟩ | ⟨pg,cap,cur,rfl,r⟩
     . have:=hs.1.1
       omega
     . refine⟨vs,fs,⟨fun e=> ?_,fun _=>⟨g,pg,cap,rfl,ae h2 5,h3⟩,hp⟩,?_,?_⟩
       . rw[ht] at e
         cases e
       . show aB w 0 (if k'=k then ts else [.split b k' ts]) vs fs
         rw[if_pos hk]
         exact h4
       . exact (List.sublist_append_right _ _).trans (List.sublist_cons_self _ _)
theorem ug {ops:Array Oper}{o:Oper}{a:Act}{K:Act->World->Prop}{Q:Exit->Act->World->Prop}{E:Prop}(w:World)(e9:o.guard=O)(s x:Operand)
 (ho:o.op=.call { callee:=.builtin .append,args:=#[s,x],argTypes:=#[85,85] })
 (B:Nat) (v:Value) (vs:List Value) (hs:a.eval s=v) (bm:w.ownsRow B 70 1 v vs.length vs) (g cap:Nat) (ys:List Value) (hx:a.eval x=Jj (I ⟨g,0,O⟩) ys.length cap) (b8:w.ownsRow 0 70 1 (Jj (I ⟨g,0,O⟩) ys.length cap) ys.length ys) (co:∀u∈ys,u.oneCell'=true) (hlen:vs.length+ys.length<=1000000) (hB:B<=w.heap.size)
 (h:∀v' w',w'.ownsRow B 70 1 v' (vs.length+ys.length) (vs++ys)->w.grownBy w' v.ownBlock->K (a.put o.dst v') w'):if Region.wanted o (yielded ops a.tmps)=true then Oper.wp prog o a w K Q else E:=by
 have hw:Region.wanted o (yielded ops a.tmps)=true:=by simp[Region.wanted,e9]
 rw[if_pos hw]
 obtain⟨i0,hi,eh,db,cJ⟩:=bH kN
 refine wp_append_own _ s x 85 ho B 70 i0 .nilIface 1 16 underlying85 hi eh db cJ rfl (by decide) v vs.length vs hs bm ⟨g,0,O⟩ ys.length cap ys hx (by simp) (World.ownsRow.cells b8 rfl) co ?_ ?_ hB ?_
 . unfold maxLen;omega
 . omega
 . intro v' w' h2 h3 _
   exact h v' w' h2 h3
theorem gz.more {w:World}{k:Int}{vs us:List Value}{sl:Value}{wr:World}(h:gz w k vs sl wr){sl':Value}{w':World}(h1:w'.ownsRow (w.heap.size+1) 70 1 sl' (vs.length+us.length) (vs++us))(h2:wr.grownBy w' sl.ownBlock):
 aX w' w.heap.size ⟨0,0,0,0⟩ k sl/\gz w k (vs++us) sl' (w'.setCell ⟨w.heap.size,5,O⟩ sl'):=by
 have am:=h.lt
 have a7:∀q,sl.ownBlock=I q->w.heap.size+1<=q:=fun q hq=>(World.ownsRow.lt h.row q hq).1
 have hs:aX w' w.heap.size ⟨0,0,0,0⟩ k sl:=by
  refine (h2.block w.heap.size am fun e=> ?_).trans h.own
  have:=a7 _ e.symm
  omega
 refine⟨hs,hs.Jr sl',?_,?_⟩
 . have hk:∀q∈sl'.ownBlock.toList,(w'.setCell ⟨w.heap.size,5,O⟩ sl').heap[q]?=w'.heap[q]?:=fun q hq=>by
    refine Below.heap_setCell _ _ _ _ fun e=> ?_
    have:=(World.ownsRow.lt h1 q (by simpa using hq)).1
    have e':q=w.heap.size:=by simpa using e
    omega
   have:=dU h1 hk
   simpa using this
 . have hb:Below w.heap.size w w':=by
    have h0:=h.below
    refine⟨h2.os.trans h0.os,h2.tape.trans h0.tape,h2.output.trans h0.output,Nat.le_trans h0.size h2.size,fun q hq=>(h2.block q (by have:=h0.size;omega) fun e=> ?_).trans (h0.block q hq)⟩
    have:=a7 _ e.symm
    omega
   exact below_grown hb (grownBy_set _ _ _ _) (Nat.le_refl _)
theorem gz.below' {w:World}{k:Int}{vs:List Value}{sl:Value}{wr X:World}(h:gz w k vs sl wr)(hb:Below wr.heap.size wr X):gz w k vs sl X:=⟨h.own.below hb,own_below h.row hb,af h.below hb⟩
theorem aB.one_cell {W:World}{B:Nat}:∀{ts:List Tree} {vs:List Value} {fp:List Nat},aB W B ts vs fp->∀u∈vs,u.oneCell'=true
 | [],vs,fp,h=>by
   obtain⟨rfl,_⟩:=h
   intro u hu
   cases hu
 | t::ts,vs,fp,h=>by
   obtain⟨v,vs',f,f',rfl,h2,h3,rfl⟩:=h
   intro u hu
   rcases List.mem_cons.1 hu with e | hu
   . subst e
     obtain⟨g,hv,_,_⟩:=h2.own
     rcases hv with rfl | rfl <;> rfl
   . exact aB.one_cell h3 u hu
theorem BI (k:Int)(hk:k=2\/k=3)(pg n cap:Nat)(vs:List Value)(U:List (List Value))(fs:List Nat)(ts:List Tree)(f0:Tree)(fr:List Tree)(w:World)(hR:∀(i:Nat) u,vs[i]?=I u->w.cell? ⟨pg,i,O⟩=I u)(hF:∀(i:Nat) t,ts[i]?=I t->∃v u,vs[i]?=I v/\U[i]?=I u/\FV w k t v u)(hP:aB w 0 (f0::fr) U.flatten fs)(hs:yX (f0::fr))(hn:ts.length=n)(hU:U.length=n)(fe:n<=200):
 Calls prog 43 #[J Jq k,Jj (I ⟨pg,0,O⟩) n cap] w fun e w'=>∃sl,e=Jz (JJ (I ⟨w.heap.size,0,O⟩))/\aX w' w.heap.size (bZ (f0::fr) k) k sl/\w'.ownsRow (w.heap.size+1) 70 1 sl U.flatten.length U.flatten/\Below w.heap.size w w':=by
 have j2:=hP.length
 have HF:=zh hF
 have HR:=zh hR
 have HN:=zh hn
 have U2:=zh hU
 have li:U.flatten.length<=200:=by rw[j2];exact hs.1
 have HFl:=zh li
 have cB:=zh hP.one_cell
 have Sk:=zh (gz.start w k)
 have HA:Hid (∀sl wr,gz w k U.flatten sl wr->Calls prog 75 #[JJ (I ⟨w.heap.size,0,O⟩)] wr fun e w'=>e=Jz (.agg #[J Jq 0,J Jq 0,J Jq (bZ (f0::fr) k).w,J Jq (bZ (f0::fr) k).h])/\gz w k U.flatten sl w'):=by
  intro sl wr h
  refine (tH w.heap.size ⟨0,0,0,0⟩ k hk sl U.flatten fs f0 fr 0 wr h.own ⟨h.row.1,?_⟩ (hP.below h.below) hs).mono fun e w' h2=>⟨h2.1,h.own.below h2.2,own_below h.row h2.2,af h.below h2.2⟩
  rcases h.row.2 with h0 | ⟨g,cap,cur,e,_,r⟩
  . exact .inl h0
  . exact .inr ⟨g,cap,cur,e,Nat.zero_le _,r⟩
 obtain⟨bw,nF⟩:∃x,(bZ (f0::fr) k).w=x:=⟨_,rfl⟩
 obtain⟨bh,Mf⟩:∃x,(bZ (f0::fr) k).h=x:=⟨_,rfl⟩
 have HE:Hid (bZ (f0::fr) k=⟨0,0,bw,bh⟩):=by
  show _=_
  rw[<- nF,<- Mf]
  unfold bZ
  by_cases h2:k=2 <;> simp[h2]
 rw[nF,Mf] at HA
 rw[HE.out]
 clear hR hP hF hs hn hU hk nF Mf j2 li
 go_enter func43,ntmps43
 go_wp2
 go_loopw [14] (fun v wr=>∃i:Nat,i<=n/\v=J Jq i/\∃sl,Hid (gz w k (U.take i).flatten sl wr)) (fun v _=>n-(intOf v).toNat)
 case atStart=>exact⟨0,Nat.zero_le _,rfl,_,Sk⟩
 case round=>
  obtain⟨i,hi,rfl,sl,HJ⟩:=hrel
  clear Sk
  by_cases am:i < n
  . obtain⟨t,ht⟩:∃t,ts[i]?=I t:=⟨_,List.getElem?_eq_getElem (by rw[HN.out];exact am)⟩
    obtain⟨pv,u,qd,hu,SQ⟩:=HF.out i t ht
    obtain⟨T,gi,Fs,Fa,HP⟩:=SQ.part
    have de:=HP.val
    subst de
    have ri:=(HJ.out.below.cell (p:=⟨pg,i,O⟩) (World.block_lt_of_cell? w _ (HR.out i _ qd))).trans (HR.out i _ qd)
    have m1:=HP.mA
    have m2:=HP.fA
    have sX:=HP.cA k wr HJ.out.below
    have HT:Hid ((U.take (i+1)).flatten=(U.take i).flatten++u):=by
     show _=_
     rw[List.take_add_one,hu]
     simp
    have hlenS:(U.take i).flatten.length+u.length<=200:=by
     have h1:(U.take i).flatten++u++(U.drop (i+1)).flatten=U.flatten:=by
      rw[<- HT.out,<- List.flatten_append,List.take_append_drop]
     have h2:=congrArg List.length h1
     rw[List.length_append,List.length_append] at h2
     have:=HFl.out
     omega
    have HUo:Hid (∀x∈u,x.oneCell'=true):=fun x hx=>cB.out x (List.mem_flatten.2 ⟨u,List.mem_of_getElem? hu,hx⟩)
    have r5:wr.cell? ⟨w.heap.size,5,O⟩=I sl:=ae HJ.out.own 5
    obtain⟨sa,sn,sc,av⟩:=iO HJ.out.row
    subst av
    have HW:=zh HJ.out.lt
    cases eB:t.bY k with
    | false=>
      have Mo:=SQ.no eB
      subst Mo
      rw[eB] at sX
      have iu:=zh sX
      clear HP qd ht sX SQ hu eB
      go_wp2_with fail
      refine iu.out.mono ?_
      rintro e w1 ⟨rfl,rfl⟩
      go_wp2_with (at_builtin;refine kX wr rfl (.tmp 39) (.tmp 41) rfl (w.heap.size+1) (Jj sa sn sc) (U.take i).flatten T gi rfl HJ.out.row rfl (by omega) HW.out ?_;intro sl' w3 a1 a2;have av:=iO a1;have hj:=HJ.out.next a1 a2;have c5:w3.cell? ⟨w.heap.size,5,O⟩=I (Jj sa sn sc):=ae hj.1 5;have f5:w3.frozen? ⟨w.heap.size,5,O⟩=false:=ai hj.1 5;have nL:Hid (gz w k ((U.take i).flatten++[.iface T (JJ (I ⟨gi,0,O⟩))]) sl' (w3.setCell ⟨w.heap.size,5,O⟩ sl')):=hj.2;clear a1 a2 hj;obtain⟨sa',sn',sc',cq⟩:=av;subst cq)
      go_roundw
      case rel=>exact⟨i+1,by omega,by go_num,_,by rw[HT.out];exact nL⟩
      case measure=>simp[intOf];omega
    | true=>
      obtain⟨gi',g,cap',e1,e2,e3⟩:=SQ.yes eB
      cases e1
      rw[eB] at sX
      have iu:=zh sX
      have r6:wr.cell? ⟨gi,5,O⟩=I (Jj (I ⟨g,0,O⟩) u.length cap'):=(HJ.out.below.cell (p:=⟨gi,5,O⟩) (World.block_lt_of_cell? w _ e2)).trans e2
      have eN:=zh (own_below e3 HJ.out.below)
      have YL:Hid (gz w k (U.take i).flatten (Jj sa sn sc) wr.drew):=HJ.out.below' (Below.refl _ _).drew
      obtain⟨ul,j2⟩:∃x,u.length=x:=⟨_,rfl⟩
      have We:=zh j2
      rw[j2] at r6
      clear HP qd ht sX SQ hu eB e2 e3 j2
      go_wp2_with fail
      refine iu.out.mono ?_
      rintro e w1 ⟨rfl,rfl⟩
      go_wp2_with fail
      go_region_law (first
       | (refine ug wr.drew rfl (.tmp 27) (.tmp 31) rfl (w.heap.size+1) (Jj sa sn sc) (U.take i).flatten (by simp[Act.eval]) YL.out.row g cap' u (by simp[Act.eval,We.out]) eN.out HUo.out (by omega) HW.out ?_;intro sl' w3 a1 a2;have av:=iO a1;have hj:=YL.out.more a1 a2;have c5:w3.cell? ⟨w.heap.size,5,O⟩=I (Jj sa sn sc):=ae hj.1 5;have f5:w3.frozen? ⟨w.heap.size,5,O⟩=false:=ai hj.1 5;have nL:Hid (gz w k ((U.take i).flatten++u) sl' (w3.setCell ⟨w.heap.size,5,O⟩ sl')):=hj.2;clear a1 a2 hj;obtain⟨sa',sn',sc',cq⟩:=av;subst cq))
      all_goals (
       go_wp2
       go_roundw
       case rel=>exact⟨i+1,by omega,by go_num,_,by rw[HT.out];exact nL⟩
       case measure=>simp[intOf];omega)
  . have bE:i=n:=by omega
    subst bE
    have ix:Hid (gz w k U.flatten sl wr):=by
     have h:=HJ.out
     rwa [List.take_of_length_le (by rw[U2.out];exact Nat.le_refl _)] at h
    have ii:=zh (HA.out sl wr ix.out)
    clear HJ HA
    go_wp2_with fail
    refine ii.out.mono ?_
    rintro e w5 ⟨rfl,hj⟩
    have qe:=zh hj
    obtain⟨q0,q1,q2,q3,qf⟩:=hj.own.box
    have f0:=qf 0 (by decide)
    have f1:=qf 1 (by decide)
    have f2:=qf 2 (by decide)
    have f3:=qf 3 (by decide)
    clear hj qf ii
    go_wp2
    go_ret
    refine⟨sl,rfl,(((qe.out.own.set 0 (J Jq 0) (b':=⟨0,0,0,0⟩) rfl).set 1 (J Jq 0) (b':=⟨0,0,0,0⟩) rfl).set 2 (J Jq bw) (b':=⟨0,0,bw,0⟩) rfl).set 3 (J Jq bh) (b':=⟨0,0,bw,bh⟩) rfl,?_,below_grown (below_grown (below_grown (below_grown qe.out.below (grownBy_set _ _ _ _) (Nat.le_refl _)) (grownBy_set _ _ _ _) (Nat.le_refl _)) (grownBy_set _ _ _ _) (Nat.le_refl _)) (grownBy_set _ _ _ _) (Nat.le_refl _)⟩
    refine dU qe.out.row fun q hq=> ?_
    have a7:q≠w.heap.size:=fun e=>by
     have:=(World.ownsRow.lt qe.out.row q (by simpa using hq)).1
     omega
    exact ((Below.heap_setCell _ _ _ _ a7).trans (Below.heap_setCell _ _ _ _ a7)).trans ((Below.heap_setCell _ _ _ _ a7).trans (Below.heap_setCell _ _ _ _ a7))
theorem oM (b b':Box)(k:Int)(h:b.ext (aA k)=b'.ext (aA k)):∀(ts:List Tree),au ts b k=au ts b' k
 | []=>rfl
 | t::ts=>by
   unfold au
   rw[oM b b' k h ts,h]
theorem rG (b:Box)(k:Int)(x:Tree):∀(ts:List Tree),au (ts++[x]) b k=(au ts b k&&(x.sound&&(!x.bY k&&decide (x.box.ext (aA k)=b.ext (aA k)))))
 | []=>by
   show ((_&&_)&&au [] b k)=(true&&_)
   unfold au
   rw[Bool.and_true,Bool.true_and]
 | t::ts=>by
   show au (t::(ts++[x])) b k=_
   unfold au
   rw[rG b k x ts]
   simp only[Bool.and_assoc]
theorem xe (k:Int)(x:Tree):∀(ts:List Tree),aN (ts++[x]) k=aN ts k+1+x.box.ext k
 | []=>by
   show x.box.ext k+1+ -1= -1+1+x.box.ext k
   omega
 | t::ts=>by
   show t.box.ext k+1+aN (ts++[x]) k=t.box.ext k+1+aN ts k+1+x.box.ext k
   rw[xe k x ts]
   omega
theorem rH (x:Tree):∀(ts:List Tree),bi ts->x.kinds->bi (ts++[x])
 | [],_,h=>⟨h,trivial⟩
 | t::ts,h,hx=>⟨h.1,rH x ts h.2 hx⟩
theorem zi (x:Tree):∀(ts:List Tree),sizes (ts++[x])=sizes ts+x.size
 | []=>by
   show x.size+0=0+x.size
   omega
 | t::ts=>by
   show t.size+sizes (ts++[x])=t.size+sizes ts+x.size
   rw[zi x ts]
   omega
theorem nJ (b:Box)(k:Int):∀(ts:List Tree),au ts b k=true->∀t∈ts,t.sound=true/\t.bY k=false/\t.box.ext (aA k)=b.ext (aA k)
 | [],_,t,ht=>by cases ht
 | a::ts,h,t,ht=>by
   unfold au at h
   simp only[Bool.and_eq_true,decide_eq_true_eq,Bool.not_eq_true'] at h
   rcases List.mem_cons.1 ht with e | ht
   . subst e
     exact⟨h.1.1,h.1.2.1,h.1.2.2⟩
   . exact nJ b k ts h.2 t ht
structure Ju (t:Tree)(k:Int)(b:Box):Prop where
 sound:au (iw k t) b k=true
 ext:aN (iw k t) k=t.box.ext k
 kinds:bi (iw k t)
 size:sizes (iw k t)<=t.size
 ne:1<=(iw k t).length
theorem Jv (t:Tree)(k:Int)(hk:k=2\/k=3)(hs:t.sound=true)(eB:t.kinds)(b:Box)(hb:b.ext (aA k)=t.box.ext (aA k)):Ju t k b:=by
 cases wj:t.bY k with
 | false=>
   rw[show Ju t k b↔Ju t k b from Iff.rfl]
   refine⟨?_,?_,?_,?_,?_⟩ <;> rw[vO wj]
   . show (t.sound&&(!t.bY k&&decide (t.box.ext (aA k)=b.ext (aA k)))&&true)=true
     rw[hs,wj,hb]
     simp
   . show t.box.ext k+1+ -1=t.box.ext k
     omega
   . exact⟨eB,trivial⟩
   . show t.size+0<=t.size
     omega
   . exact Nat.le_refl 1
 | true=>
   cases t with
   | leaf b1 p=>cases wj
   | split b1 k' ts=>
     have l8:k'=k:=by simpa [Tree.bY] using wj
     subst l8
     have he:iw k' (.split b1 k' ts)=ts:=if_pos rfl
     unfold Tree.sound at hs
     simp only[Bool.and_eq_true,decide_eq_true_eq] at hs
     refine⟨?_,?_,?_,?_,?_⟩ <;> rw[he]
     . rw[oM b b1 k' hb]
       exact hs.2.1
     . exact hs.2.2
     . exact eB.2
     . show sizes ts<=1+sizes ts
       omega
     . have:=hs.1.1
       omega
def dB (k:Int)(bf:Bool)(t x:Tree):List Tree:=if bf then x::iw k t else iw k t++[x]
def eF (k:Int)(bf:Bool)(t x:Tree):Tree:=.split (bZ (dB k bf t x) k) k (dB k bf t x)
structure vP (k:Int)(bf:Bool)(t x:Tree):Prop where
 sound:(eF k bf t x).sound=true
 kinds:(eF k bf t x).kinds
 size:(eF k bf t x).size<=t.size+2
 node:ag (eF k bf t x)=.mk k (if k=2 then t.box.w+x.box.w+1 else t.box.w) (if k=2 then t.box.h else t.box.h+x.box.h+1) 0 (nodesOf (dB k bf t x))
 small:yX (dB k bf t x)
 ne:dB k bf t x≠[]
theorem BL (k:Int)(hk:k=2\/k=3)(bf:Bool)(t:Tree)(bl:Box)(id:Int)(hs:t.sound=true)(eB:t.kinds)(hz:t.size<=100)(hx:(Tree.leaf bl id).sound=true)(yW:bl.ext (aA k)=t.box.ext (aA k))(ju:t.box.ext k+1+bl.ext k<=1000):vP k bf t (.leaf bl id):=by
 have Kj:=Jv t k hk hs eB t.box rfl
 have pQ:=(Tree.leaf bl id).aF hx
 have gn:=t.aF hs
 change (1<=bl.w/\bl.w<=1000)/\(1<=bl.h/\bl.h<=1000) at pQ
 have Yz:((Tree.leaf bl id).sound&&(!(Tree.leaf bl id).bY k&&decide ((Tree.leaf bl id).box.ext (aA k)=t.box.ext (aA k))))=true:=by
  rw[hx]
  show (true&&(true&&decide (bl.ext (aA k)=t.box.ext (aA k))))=true
  rw[yW]
  simp
 have c8:au (dB k bf t (.leaf bl id)) t.box k=true:=by
  unfold dB
  cases bf with
  | true=>
    show au (.leaf bl id::iw k t) t.box k=true
    unfold au
    rw[Yz,Kj.sound]
    rfl
  | false=>
    show au (iw k t++[.leaf bl id]) t.box k=true
    rw[rG,Kj.sound,Yz]
    rfl
 have Ss:aN (dB k bf t (.leaf bl id)) k=t.box.ext k+1+bl.ext k:=by
  unfold dB
  cases bf with
  | true=>
    show bl.ext k+1+aN (iw k t) k=_
    rw[Kj.ext]
    omega
  | false=>
    show aN (iw k t++[.leaf bl id]) k=_
    rw[xe,Kj.ext]
    rfl
 have hlen:2<=(dB k bf t (.leaf bl id)).length:=by
  have:=Kj.ne
  unfold dB
  cases bf with
  | true=>
    show 2<=(_::iw k t).length
    rw[List.length_cons]
    omega
  | false=>
    show 2<=(iw k t++[_]).length
    rw[List.length_append]
    show 2<=_+1
    omega
 have VW:bi (dB k bf t (.leaf bl id)):=by
  unfold dB
  cases bf with
  | true=>exact⟨trivial,Kj.kinds⟩
  | false=>exact rH _ _ Kj.kinds trivial
 have hsz:sizes (dB k bf t (.leaf bl id))<=t.size+1:=by
  have:=Kj.size
  unfold dB
  cases bf with
  | true=>
    show 1+sizes (iw k t)<=_
    omega
  | false=>
    show sizes (iw k t++[_])<=_
    rw[zi]
    show _+1<=_
    omega
 have bE:=nJ t.box k _ c8
 have VX:∃a,bZ (dB k bf t (.leaf bl id)) k=(if k=2 then ⟨0,0,t.box.ext k+1+bl.ext k,a⟩ else ⟨0,0,a,t.box.ext k+1+bl.ext k⟩)/\a=t.box.ext (aA k):=by
  cases hL:dB k bf t (.leaf bl id) with
  | nil=>rw[hL] at hlen;simp at hlen
  | cons c cs=>
    have hc:=(bE c (by rw[hL];exact List.mem_cons_self)).2.2
    refine⟨c.box.ext (aA k),?_,hc⟩
    show (if k=2 then (⟨0,0,aN (c::cs) k,c.box.h⟩:Box) else ⟨0,0,c.box.w,aN (c::cs) k⟩)=_
    rw[<- hL,Ss]
    rcases hk with rfl | rfl
    . rfl
    . rfl
 obtain⟨a,UW,ha⟩:=VX
 have hex:=df t.box k gn
 have YA:=df t.box (aA k) gn
 have i8:=df bl k pQ
 refine⟨?_,⟨hk,VW⟩,?_,?_,⟨?_,fun c hc=>c.aF (bE c hc).1⟩,?_⟩
 . unfold eF Tree.sound
   simp only[Bool.and_eq_true,decide_eq_true_eq]
   have VY:(bZ (dB k bf t (.leaf bl id)) k).ext (aA k)=t.box.ext (aA k):=by
    rw[UW,ha]
    rcases hk with rfl | rfl <;> rfl
   have vE:(bZ (dB k bf t (.leaf bl id)) k).ext k=t.box.ext k+1+bl.ext k:=by
    rw[UW]
    rcases hk with rfl | rfl <;> rfl
   refine⟨⟨hlen,?_⟩,?_,?_⟩
   . rw[UW]
     subst ha
     rcases hk with rfl | rfl
     . show aG (t.box.ext 2+1+bl.ext 2)=true/\aG (t.box.ext 3)=true
       change 1<=t.box.ext 3/\t.box.ext 3<=1000 at YA
       simp only[aG,Bool.and_eq_true,decide_eq_true_eq]
       omega
     . show aG (t.box.ext 2)=true/\aG (t.box.ext 3+1+bl.ext 3)=true
       change 1<=t.box.ext 2/\t.box.ext 2<=1000 at YA
       simp only[aG,Bool.and_eq_true,decide_eq_true_eq]
       omega
   . rw[oM _ t.box k VY]
     exact c8
   . rw[Ss,vE]
 . show 1+sizes (dB k bf t (.leaf bl id))<=t.size+2
   omega
 . unfold eF
   show Node.mk k (bZ (dB k bf t (.leaf bl id)) k).w (bZ (dB k bf t (.leaf bl id)) k).h 0 _=_
   rw[UW]
   subst ha
   rcases hk with rfl | rfl
   . show Node.mk 2 (t.box.w+1+bl.w) t.box.h 0 _=Node.mk 2 (t.box.w+bl.w+1) t.box.h 0 _
     rw[show t.box.w+1+bl.w=t.box.w+bl.w+1 by omega]
   . show Node.mk 3 t.box.w (t.box.h+1+bl.h) 0 _=Node.mk 3 t.box.w (t.box.h+bl.h+1) 0 _
     rw[show t.box.h+1+bl.h=t.box.h+bl.h+1 by omega]
 . have:=aI (dB k bf t (.leaf bl id))
   omega
 . intro e
   rw[e] at hlen
   simp at hlen
structure wU (l:List aj)(t t1:Tree)(k z n id:Int)(bf:Bool):Prop where
 lay:rC l t
 kind:k=2\/k=3
 join:jF l id=0
 room:2<=t.room k
 num:n=min (gZ z (t.box.ext k)) (t.room k-1)
 low:1<=n/\n<=1000
 one:Str t k (-n-1) t1
 box1:t1.box=t.box.str k (-n-1)
 s1:t1.sound=true
 k1:t1.kinds
 z1:t1.size=t.size
 id_:idB id=true
def dh (t:Tree)(k n:Int):Box:=((⟨0,0,0,0⟩:Box).str k n).str (aA k) (t.box.ext (aA k))
theorem nK (t:Tree)(k n:Int)(hk:k=2\/k=3):dh t k n=if k=2 then ⟨0,0,n,t.box.h⟩ else ⟨0,0,t.box.w,n⟩:=by
 unfold dh
 rcases hk with rfl | rfl
 . show (⟨0,0,0+n,0+t.box.h⟩:Box)=⟨0,0,n,t.box.h⟩
   rw[Int.zero_add,Int.zero_add]
 . show (⟨0,0,0+t.box.w,0+n⟩:Box)=⟨0,0,t.box.w,n⟩
   rw[Int.zero_add,Int.zero_add]
theorem Hl {l:List aj}{t:Tree}(hr:aT l=I t)(k z id:Int)(bf:Bool)(hk:k=2\/k=3)(hj:jF l id=0)(LI:2<=t.room k):∃t1 n,wU l t t1 k z n id bf:=by
 have hl:=aV hr
 have hz:=lay_size hl
 have ar:=df t.box k (t.aF hl.sound)
 have gh:=room_le t k hk hl.kinds hl.sound
 obtain⟨n,hn⟩:∃n,n=min (gZ z (t.box.ext k)) (t.room k-1):=⟨_,rfl⟩
 have Rf:1<=gZ z (t.box.ext k):=by
  unfold gZ dM
  split <;> omega
 obtain⟨t1,h1,g1⟩:=tu t k (-n-1) hk hl.sound hl.kinds (by omega) (by omega) (by omega)
 have hid:idB id=true:=by
  cases h:idB id with
  | true=>rfl
  | false=>
    unfold jF at hj
    rw[if_pos (.inl h)] at hj
    cases hj
 exact⟨t1,n,hl,hk,hj,LI,hn,by omega,h1,g1.box,g1.sound,g1.kinds,g1.size,hid⟩
theorem wU.beside {l:List aj}{t t1:Tree}{k z n id:Int}{bf:Bool}(h:wU l t t1 k z n id bf):vP k bf t1 (.leaf (dh t k n) id):=by
 have hz:=lay_size h.lay
 have gn:=t.aF h.lay.sound
 have hn:=h.low
 have ar:=df t.box k gn
 refine BL k h.kind bf t1 (dh t k n) id h.s1 h.k1 (by rw[h.z1];omega) ?_ ?_ ?_
 . unfold Tree.sound
   rw[nK t k n h.kind,h.id_]
   rcases h.kind with hk | hk <;> subst hk
   . show (aG n&&aG t.box.h&&true)=true
     simp only[aG,Bool.and_true,Bool.and_eq_true,decide_eq_true_eq]
     omega
   . show (aG t.box.w&&aG n&&true)=true
     simp only[aG,Bool.and_true,Bool.and_eq_true,decide_eq_true_eq]
     omega
 . rw[h.box1,nK t k n h.kind]
   rcases h.kind with hk | hk <;> subst hk <;> rfl
 . rw[h.box1,Box.qJ,nK t k n h.kind]
   rcases h.kind with hk | hk <;> subst hk
   . show t.box.ext 2+(-n-1)+1+n<=1000
     omega
   . show t.box.ext 3+(-n-1)+1+n<=1000
     omega
structure Ed (l:List aj)(t t1 t2:Tree)(a b:Int):Prop where
 lay:rC l t
 one:Str t 2 (a-t.box.w) t1
 two:Str t1 3 (b-t.box.h) t2
 h1:t1.box.h=t.box.h
 s2:t2.sound=true
 k2:t2.kinds
 z2:t2.size=t.size
 low:fJ t 2<=a/\fJ t 3<=b
 side:aG a=true/\aG b=true
theorem Ep {l:List aj}{t:Tree}(hr:aT l=I t)(a b:Int)(ha:aG a=true)(hb:aG b=true)(h2:fJ t 2<=a)(h3:fJ t 3<=b):∃t1 t2,Ed l t t1 t2 a b:=by
 have hl:=aV hr
 have hz:=lay_size hl
 have ha':=ha
 have cC:=hb
 simp only[aG,Bool.and_eq_true,decide_eq_true_eq] at ha hb
 unfold fJ at h2 h3
 have ar:=t.aF hl.sound
 obtain⟨t1,e1,g1⟩:=tu t 2 (a-t.box.w) (.inl rfl) hl.sound hl.kinds (by omega) (by change t.box.w-t.room 2<=a at h2;omega) (by show t.box.w+(a-t.box.w)<=1000;omega)
 have i8:t1.box.h=t.box.h:=by rw[g1.box];rfl
 have hro:=g1.other 3 (.inr rfl) (by decide)
 obtain⟨t2,e2,g2⟩:=tu t1 3 (b-t.box.h) (.inr rfl) g1.sound g1.kinds (by rw[g1.size];omega) (by rw[hro];change t.box.h-t.room 3<=b at h3;omega) (by show t1.box.h+(b-t.box.h)<=1000;omega)
 exact⟨t1,t2,hl,e1,e2,i8,g2.sound,g2.kinds,g2.size.trans g1.size,⟨by unfold fJ;exact h2,by unfold fJ;exact h3⟩,ha',cC⟩
theorem JP (v:Value)(l:List aj)(a b:Int)(w:World)(h:ay w v l)(hF:aT l=O):Calls prog 21 #[v,J Jq a,J Jq b] w (dZ 40 [] w):=by
 have HR:Hid (Calls prog 35 #[v] w fun e w'=>e=Jz eH/\Below w.heap.size w w'):=(pO v l w h).mono fun e w' h=>by
  rcases h with ⟨_,h1,h2⟩ | ⟨t,T,g,fp,h1,_⟩
  . exact⟨h1,h2⟩
  . rw[hF] at h1
    cases h1
 clear h hF
 go_enter func21,ntmps21
 go_wp2_with fail
 refine HR.out.mono ?_
 rintro e w1 ⟨rfl,hb⟩
 unfold eH
 go_wp2
 go_ret2
 exact⟨_,rfl,World.ownsRow_nil _ _ _ _,hb⟩
def dP (t:Tree)(w:World)(e:Ending)(w':World):Prop:=∃T g fp,e=Jz (.iface T (JJ (I ⟨g,0,O⟩)))/\t.At w' 0 (.iface T (JJ (I ⟨g,0,O⟩))) fp/\fp.Nodup/\(∀q∈fp,w.heap.size<=q)/\Below w.heap.size w w'
theorem dQ (v:Value)(l:List aj)(w:World)(h:ay w v l){t:Tree}(hF:aT l=I t):Calls prog 35 #[v] w (dP t w):=(pO v l w h).mono fun e w' h=>by
 rcases h with ⟨h1,_⟩ | ⟨t',T,g,fp,h1,h2,h3,h4,h5,h6⟩
 . rw[hF] at h1
   cases h1
 . rw[hF] at h1
   cases h1
   exact⟨T,g,fp,h2,h3,h4,h5,h6⟩
theorem wG (v:Value)(l:List aj)(w:World)(h:ay w v l)(hF:aT l=O):Calls prog 35 #[v] w fun e w'=>e=Jz eH/\Below w.heap.size w w':=(pO v l w h).mono fun e w' h=>by
 rcases h with ⟨_,h1,h2⟩ | ⟨t,T,g,fp,h1,_⟩
 . exact⟨h1,h2⟩
 . rw[hF] at h1
   cases h1
theorem JQ (v:Value)(l:List aj)(a b:Int)(w:World)(h:ay w v l){t:Tree}(hF:aT l=I t)(pN:¬(aG a=true/\aG b=true)):Calls prog 21 #[v,J Jq a,J Jq b] w (dZ 41 [] w):=by
 have HR:=zh (dQ v l w h hF)
 have HI:=zh ed
 obtain⟨sa,ha⟩:∃s,aG a=s:=⟨_,rfl⟩
 obtain⟨sb,hb⟩:∃s,aG b=s:=⟨_,rfl⟩
 have HA:Hid (∀W,Calls prog 13 #[J Jq a] W fun e w'=>e=Jz (.bool sa)/\W=w'):=fun W=>ha ▸ ed a W
 have HB:Hid (∀W,Calls prog 13 #[J Jq b] W fun e w'=>e=Jz (.bool sb)/\W=w'):=fun W=>hb ▸ ed b W
 have V7:sa=false\/(sa=true/\sb=false):=by
  rw[ha,hb] at pN
  cases sa <;> cases sb <;> simp_all
 clear h hF ha hb pN
 go_enter func21,ntmps21
 go_wp2_with fail
 refine HR.out.mono ?_
 rintro e w1 ⟨T,g,fp,rfl,bq,aE,be,hb⟩
 have wA:=zh hb
 clear bq aE be hb HR
 go_wp2_with fail
 refine (HA.out _).mono ?_
 rintro e w2 ⟨rfl,rfl⟩
 rcases V7 with rfl | ⟨rfl,rfl⟩
 . go_wp2
   go_ret2
   exact⟨_,rfl,World.ownsRow_nil _ _ _ _,wA.out⟩
 . go_wp2_with fail
   refine (HB.out _).mono ?_
   rintro e w2 ⟨rfl,rfl⟩
   go_wp2
   go_ret2
   exact⟨_,rfl,World.ownsRow_nil _ _ _ _,wA.out⟩
theorem zq (v:Value)(l:List aj)(a b:Int)(w:World)(h:ay w v l){t:Tree}(hF:aT l=I t)(ha:aG a=true)(hb:aG b=true)(hs:a < fJ t 2\/b < fJ t 3):Calls prog 21 #[v,J Jq a,J Jq b] w (dZ 44 [] w):=by
 have HR:=zh (dQ v l w h hF)
 have HA:Hid (∀W,Calls prog 13 #[J Jq a] W fun e w'=>e=Jz (.bool true)/\W=w'):=fun W=>ha ▸ ed a W
 have HB:Hid (∀W,Calls prog 13 #[J Jq b] W fun e w'=>e=Jz (.bool true)/\W=w'):=fun W=>hb ▸ ed b W
 have hl:=aV hF
 have hz:=lay_size hl
 obtain⟨la,Rn⟩:∃x,fJ t 2=x:=⟨_,rfl⟩
 obtain⟨lb,Ro⟩:∃x,fJ t 3=x:=⟨_,rfl⟩
 have oy:Hid (∀T g fp W,t.At W 0 (.iface T (JJ (I ⟨g,0,O⟩))) fp->Calls prog 47 #[.iface T (JJ (I ⟨g,0,O⟩)),J Jq 2] W fun e w'=>e=Jz (J Jq la)/\W=w'):=fun T g fp W hA=>Rn ▸ rD t T g fp 2 W hA hl.sound hz
 have Mx:Hid (∀T g fp W,t.At W 0 (.iface T (JJ (I ⟨g,0,O⟩))) fp->Calls prog 47 #[.iface T (JJ (I ⟨g,0,O⟩)),J Jq 3] W fun e w'=>e=Jz (J Jq lb)/\W=w'):=fun T g fp W hA=>Ro ▸ rD t T g fp 3 W hA hl.sound hz
 have ej:a < la\/(¬a < la/\b < lb):=by
  rw[Rn,Ro] at hs
  by_cases h:a < la
  . exact .inl h
  . exact .inr ⟨h,hs.resolve_left h⟩
 clear h hF ha hb hs hl hz Rn Ro
 go_enter func21,ntmps21
 go_wp2_with fail
 refine HR.out.mono ?_
 rintro e w1 ⟨T,g,fp,rfl,bq,aE,be,hb⟩
 have wA:=zh hb
 have j5:=zh bq
 clear bq aE be hb HR
 go_wp2_with fail
 refine (HA.out _).mono ?_
 rintro e w2 ⟨rfl,rfl⟩
 go_wp2_with fail
 refine (HB.out _).mono ?_
 rintro e w2 ⟨rfl,rfl⟩
 go_wp2_with fail
 refine (oy.out T g fp w1 j5.out).mono ?_
 rintro e w2 ⟨rfl,rfl⟩
 rcases ej with h | ⟨h,h'⟩
 . have hd:decide (a < la)=true:=decide_eq_true (by omega)
   go_wp2
   go_ret2
   exact⟨_,rfl,World.ownsRow_nil _ _ _ _,wA.out⟩
 . have hd:decide (a < la)=false:=decide_eq_false (by omega)
   have Ks:decide (b < lb)=true:=decide_eq_true (by omega)
   go_wp2_with fail
   refine (Mx.out T g fp w1 j5.out).mono ?_
   rintro e w2 ⟨rfl,rfl⟩
   go_wp2
   go_ret2
   exact⟨_,rfl,World.ownsRow_nil _ _ _ _,wA.out⟩
theorem OG (v:Value)(l:List aj)(a b:Int)(w:World)(h:ay w v l){t t1 t2:Tree}(hF:aT l=I t)(hR:Ed l t t1 t2 a b):Calls prog 21 #[v,J Jq a,J Jq b] w (dZ 0 (cZ t2) w):=by
 have HR:=zh (dQ v l w h hF)
 have HA:Hid (∀W,Calls prog 13 #[J Jq a] W fun e w'=>e=Jz (.bool true)/\W=w'):=fun W=>hR.side.1 ▸ ed a W
 have HB:Hid (∀W,Calls prog 13 #[J Jq b] W fun e w'=>e=Jz (.bool true)/\W=w'):=fun W=>hR.side.2 ▸ ed b W
 have hl:=hR.lay
 have hz:=lay_size hl
 have j9:=hR.low
 have ar:=t.aF hl.sound
 have du:=hR.one.ok
 have fe:=hR.two.ok
 obtain⟨la,Rn⟩:∃x,fJ t 2=x:=⟨_,rfl⟩
 obtain⟨lb,Ro⟩:∃x,fJ t 3=x:=⟨_,rfl⟩
 have oy:Hid (∀T g fp W,t.At W 0 (.iface T (JJ (I ⟨g,0,O⟩))) fp->Calls prog 47 #[.iface T (JJ (I ⟨g,0,O⟩)),J Jq 2] W fun e w'=>e=Jz (J Jq la)/\W=w'):=fun T g fp W hA=>Rn ▸ rD t T g fp 2 W hA hl.sound hz
 have Mx:Hid (∀T g fp W,t.At W 0 (.iface T (JJ (I ⟨g,0,O⟩))) fp->Calls prog 47 #[.iface T (JJ (I ⟨g,0,O⟩)),J Jq 3] W fun e w'=>e=Jz (J Jq lb)/\W=w'):=fun T g fp W hA=>Ro ▸ rD t T g fp 3 W hA hl.sound hz
 have eT:decide (a < la)=false:=decide_eq_false (by omega)
 have SD:decide (b < lb)=false:=decide_eq_false (by omega)
 obtain⟨W0,Kx⟩:∃x,t.box.w=x:=⟨_,rfl⟩
 obtain⟨H0,UY⟩:∃x,t.box.h=x:=⟨_,rfl⟩
 have pu : Hid (∀ T g fp W, t.At W 0 (.iface T (JJ (I ⟨g, 0, O⟩))) fp → fp.Nodup → ∃ Fx, (∀ X, (method 286 T (JJ (I ⟨g, 0, O⟩)) "mullion/layout.stretch").run prog X = .ok (Fx, JJ (I ⟨g, 0, O⟩)) X) ∧ (∀ X, (nilAhead 286 T (JJ (I ⟨g, 0, O⟩)) "mullion/layout.stretch").run prog X = .ok (I false) X) ∧ (∀ a c d X, (callFunc Fx #[a, c, d]).run prog X = .ok (.enter Fx #[a, c, d]) X) ∧ (∀ X, (method 286 T (JJ (I ⟨g, 0, O⟩)) "mullion/layout.extent").run prog X = .ok (38, JJ (I ⟨g, 0, O⟩)) X) ∧ (∀ q, Calls prog 38 #[JJ (I ⟨g, 0, O⟩), J Jq 2] (W.drewN q) fun e w' => e = Jz (J Jq W0) ∧ W.drewN q = w') ∧ (∀ q, Calls prog Fx #[JJ (I ⟨g, 0, O⟩), J Jq 2, J Jq (a - W0)] (W.drewN q) fun e w' => e = Jz (.tuple #[]) ∧ t1.At w' 0 (.iface T (JJ (I ⟨g, 0, O⟩))) fp ∧ But fp W w')) := by
  intro T g fp W bq aE
  obtain⟨T',gi,Fx,hX⟩:=t.stretches 0 _ fp W bq aE
  have hv:=hX.val
  cases hv
  have SG:∀q,Below W.heap.size W (W.drewN q):=fun q=>below_drewN (Below.refl _ _) q
  refine⟨Fx,hX.mX,hX.nX,hX.fX,?_,fun q=> ?_,fun q=> ?_⟩
  . obtain⟨g',hv,_,_⟩:=bq.own
    rcases hv with hv | hv
    . cases hv;exact nz _
    . cases hv;exact nC _
  . have:=(iH bq 2 _ (SG q)).2
    rw[show t.box.ext 2=W0 from Kx] at this
    exact this
  . refine (hX.cX (W.drewN q) 2 (a-W0) t1 (bq.below (SG q)) (Kx ▸ hR.one)).mono fun e w' h=>⟨h.1,h.2.1,h.2.2.drewN q⟩
 have eW : Hid (∀ T g fp W, t1.At W 0 (.iface T (JJ (I ⟨g, 0, O⟩))) fp → fp.Nodup → ∃ Fx, (∀ X, (method 286 T (JJ (I ⟨g, 0, O⟩)) "mullion/layout.stretch").run prog X = .ok (Fx, JJ (I ⟨g, 0, O⟩)) X) ∧ (∀ a c d X, (callFunc Fx #[a, c, d]).run prog X = .ok (.enter Fx #[a, c, d]) X) ∧ (∀ q, Calls prog 38 #[JJ (I ⟨g, 0, O⟩), J Jq 3] (W.drewN q) fun e w' => e = Jz (J Jq H0) ∧ W.drewN q = w') ∧ (∀ q, Calls prog Fx #[JJ (I ⟨g, 0, O⟩), J Jq 3, J Jq (b - H0)] (W.drewN q) fun e w' => e = Jz (.tuple #[]) ∧ t2.At w' 0 (.iface T (JJ (I ⟨g, 0, O⟩))) fp ∧ But fp W w')) := by
  intro T g fp W bq aE
  obtain⟨T',gi,Fx,hX⟩:=t1.stretches 0 _ fp W bq aE
  have hv:=hX.val
  cases hv
  have SG:∀q,Below W.heap.size W (W.drewN q):=fun q=>below_drewN (Below.refl _ _) q
  refine⟨Fx,hX.mX,hX.fX,fun q=> ?_,fun q=> ?_⟩
  . have:=(iH bq 3 _ (SG q)).2
    rw[show t1.box.ext 3=H0 from hR.h1.trans UY] at this
    exact this
  . refine (hX.cX (W.drewN q) 3 (b-H0) t2 (bq.below (SG q)) (UY ▸ hR.two)).mono fun e w' h=>⟨h.1,h.2.1,h.2.2.drewN q⟩
 have V8:Hid (∀T g fp w1 w3,Below w.heap.size w w1->But fp w1 w3->(∀q∈fp,w.heap.size<=q)->fp.Nodup->t2.At w3 0 (.iface T (JJ (I ⟨g,0,O⟩))) fp->Calls prog 15 #[.iface T (JJ (I ⟨g,0,O⟩))] w3 fun e w'=>∃u,e=Jz u/\az w' w.heap.size u (cZ t2)/\Below w.heap.size w w'):=fun T g fp w1 w3 e1 e2 e3 e4 e5=>wW e1 e2 e3 e4 e5 hR.s2 hR.k2 (by rw[hR.z2];omega)
 have kr:IntKind.i64.wrap (a-W0)=a-W0:=by have:=du.low;have:=du.high;rw[Kx] at*;rw[IntKind.wrap_i64];omega
 have rj:IntKind.i64.wrap (b-H0)=b-H0:=by have:=fe.low;have:=fe.high;rw[UY] at*;rw[IntKind.wrap_i64];omega
 clear h hF hR hl hz j9 ar du fe Rn Ro Kx UY
 go_enter func21,ntmps21
 go_wp2_with fail
 refine HR.out.mono ?_
 rintro e w1 ⟨T,g,fp,rfl,bq,aE,be,hb⟩
 have wA:=zh hb
 have j5:=zh bq
 have tj:Hid fp.Nodup:=aE
 have UZ:=zh be
 clear bq aE be hb HR
 go_wp2_with fail
 refine (HA.out _).mono ?_
 rintro e w2 ⟨rfl,rfl⟩
 go_wp2_with fail
 refine (HB.out _).mono ?_
 rintro e w2 ⟨rfl,rfl⟩
 go_wp2_with fail
 refine (oy.out T g fp w1 j5.out).mono ?_
 rintro e w2 ⟨rfl,rfl⟩
 go_wp2_with fail
 refine (Mx.out T g fp w1 j5.out).mono ?_
 rintro e w2 ⟨rfl,rfl⟩
 obtain⟨Fx,m1,m2,m3,m4,GW,SH⟩:=pu.out T g fp w1 j5.out tj.out
 have ze:=zh GW
 have wT:=zh SH
 clear GW SH pu HA HB oy Mx
 go_wp2_with fail
 clear eT SD
 refine bQ 8 _ (by rfl) (by rfl) (by kernel_rfl) (by kernel_rfl) (by kernel_rfl) ?_
 simp only[List.take_succ_cons,List.take_zero]
 repeat (quiet_step ((go_at_call 38;exact Calls.quiet_of_same ((ze.out _).mono fun e w' h=>⟨h.1,h.2.symm⟩))))
 refine wpQuiet_nil ?_
 intro m7 K hK
 go_simp
 refine (wT.out m7).mono ?_
 rintro e w3 ⟨rfl,SI,SJ⟩
 refine hK _ _ ?_
 clear hK
 clear K
 have Wa:=zh SI
 have Wb:=zh SJ
 clear SI SJ wT ze m1 m3
 obtain⟨Fx2,m1,m3,GW,SH⟩:=eW.out T g fp w3 Wa.out tj.out
 have ze:=zh GW
 have wT:=zh SH
 clear GW SH eW
 go_wp2_with fail
 refine bQ 8 _ (by rfl) (by rfl) (by kernel_rfl) (by kernel_rfl) (by kernel_rfl) ?_
 simp only[List.take_succ_cons,List.take_zero]
 repeat (quiet_step ((go_at_call 38;exact Calls.quiet_of_same ((ze.out _).mono fun e w' h=>⟨h.1,h.2.symm⟩))))
 refine wpQuiet_nil ?_
 intro m8 K hK
 go_simp
 refine (wT.out m8).mono ?_
 rintro e w5 ⟨rfl,G0,SK⟩
 refine hK _ _ ?_
 clear hK
 clear K
 have YE:=zh (V8.out T g fp w1 w5 wA.out (Wb.out.trans SK) UZ.out tj.out G0)
 clear G0 SK wT ze m1 m2 m3 m4
 go_wp2_with fail
 refine YE.out.mono ?_
 rintro e w6 ⟨u,rfl,hu,eM⟩
 have HU:=zh hu
 have ov:=zh eM
 clear hu eM YE
 go_wp2
 go_ret2
 exact⟨u,rfl,HU.out,ov.out⟩
def bU (k:Int)(n:Node):List Node:=if n.k=k then n.ks else [n]
theorem eP:∀(a b:List Tree),nodesOf (a++b)=nodesOf a++nodesOf b
 | [],b=>rfl
 | t::a,b=>by
   show ag t::nodesOf (a++b)=ag t::(nodesOf a++nodesOf b)
   rw[eP a b]
theorem jL (k:Int)(hk:k=2\/k=3)(t:Tree):bU k (ag t)=nodesOf (iw k t):=by
 cases t with
 | leaf b p=>
   show (if (1:Int)=k then [] else [Node.mk 1 b.w b.h p []])=[Node.mk 1 b.w b.h p []]
   rw[if_neg (by omega)]
 | split b k' ts=>
   show (if k'=k then nodesOf ts else [Node.mk k' b.w b.h 0 (nodesOf ts)])=nodesOf (if k'=k then ts else [.split b k' ts])
   split <;> rfl
theorem qL {ops:Array Oper}{rest:List Oper}{o:Oper}{a:Act}{Q:Exit->Act->World->Prop}(w:World)(e9:o.guard=O)(s x:Operand)
 (ho:o.op=.call { callee:=.builtin .append,args:=#[s,x],argTypes:=#[51,51] })
 (B:Nat) (v:Value) (m:Nat) (cs:List Value) (n:Node) (sa:Option Addr) (sn sc:Nat) (hs:a.eval s=v) (bm:w.ownsRow B 53 5 v m cs) (hx:a.eval x=Jj (I ⟨w.heap.size,0,O⟩) 1 1) (hlen:m<=1000000) (hB:B<=w.heap.size)
 (h:∀v' w',w'.ownsRow B 53 5 v' (m+1) (cs++fQ n (Jj sa sn sc))->(w.alloc (.cells (aC n (Jj sa sn sc)) 53)).grownBy w' v.ownBlock->wpList prog ops Q rest (a.put o.dst v') w'):wpList prog ops Q (o::rest) a (w.alloc (.cells (aC n (Jj sa sn sc)) 53)):=by
 obtain⟨i0,hi,eh,db,cJ⟩:=bH eX
 refine wpList_append_own_at _ e9 s x 51 ho B 53 i0 _ 5 56 underlying51 hi eh db cJ rfl (by decide) v m cs hs (World.ownsRow.alloc bm _) ⟨w.heap.size,0,O⟩ 1 1 (fQ n (Jj sa sn sc)) hx rfl ?_ ?_ ?_ ?_ ?_ ?_
 . intro j u hu
   rw[show (⟨w.heap.size,0,O⟩:Addr).add j=⟨w.heap.size,j,O⟩ by unfold Addr.add;split <;> simp_all,dW,<- oQ]
   exact hu
 . intro u hu
   have ll:u∈[Value.int .i64 n.k,J Jq n.w,J Jq n.h,J Jq n.i,Jj sa sn sc]:=hu
   simp only[List.mem_cons,List.not_mem_nil,or_false] at ll
   rcases ll with rfl | rfl | rfl | rfl | rfl <;> rfl
 . unfold maxLen;omega
 . omega
 . have:(w.alloc (.cells (aC n (Jj sa sn sc)) 53)).heap.size=w.heap.size+1:=by simp
   omega
 . intro v' w' h2 h3 _ _
   exact h v' w' h2 h3
structure bG (w:World)(B:Nat)(v:Value)(ns:List Node)(S:List Nat):Prop where
 row:∃cs fs,w.ownsRow B 53 5 v ns.length cs/\aY w ns cs fs/\∀q∈fs,q∈S
theorem bG.keep {w w':World}{B:Nat}{v:Value}{ns:List Node}{S:List Nat}(h:bG w B v ns S)(hk:∀q,B<=q\/q∈S->q < w.heap.size->w'.heap[q]?=w.heap[q]?):bG w' B v ns S:=by
 obtain⟨cs,fs,h1,h2,h3⟩:=h.row
 exact⟨cs,fs,dE h1 fun q hq=>hk q (.inl (World.ownsRow.lt h1 q (by simpa using hq)).1) (iD h1 q hq),h2.keep fun q hq=>hk q (.inr (h3 q hq)) (h2.lt q hq),h3⟩
theorem aY.append {W:World}:∀{ns:List Node} {cs:List Value} {fs:List Nat} {ms:List Node} {ds:List Value} {gs:List Nat},aY W ns cs fs->aY W ms ds gs->aY W (ns++ms) (cs++ds) (fs++gs)
 | [],cs,fs,ms,ds,gs,h,h2=>by
   obtain⟨rfl,rfl⟩:=h
   exact h2
 | a::ns,cs,fs,ms,ds,gs,h,h2=>by
   obtain⟨sl1,cs',f1,f',rfl,h3,h4,rfl⟩:=h
   exact⟨sl1,cs'++ds,f1,f'++gs,by simp,h3,aY.append h4 h2,by simp⟩
theorem bG.more {w w':World}{B:Nat}{v v':Value}{ns ms:List Node}{S:List Nat}(h:bG w B v ns S){ds:List Value}{gs:List Nat}(hm:aY w ms ds gs)(Rr:∀q∈gs,q∈S)(hS:∀q∈S,q < B)(h1:∀cs,w.ownsRow B 53 5 v ns.length cs->w'.ownsRow B 53 5 v' (ns.length+ms.length) (cs++ds))(hb:Below B w w'):bG w' B v' (ns++ms) S:=by
 obtain⟨cs,fs,a1,a2,a3⟩:=h.row
 have hk:∀q,q∈S->q < w.heap.size->w'.heap[q]?=w.heap[q]?:=fun q hq hl=>hb.block q (hS q hq)
 refine⟨cs++ds,fs++gs,?_,?_,fun q hq=> ?_⟩
 . rw[List.length_append]
   exact h1 cs a1
 . exact (a2.keep fun q hq=>hk q (a3 q hq) (a2.lt q hq)).append (hm.keep fun q hq=>hk q (Rr q hq) (hm.lt q hq))
 . rcases List.mem_append.1 hq with h | h
   . exact a3 q h
   . exact Rr q h
theorem jh (kd:Int)(n:Node)(sa:Option Addr)(sn sc:Nat)(f S:List Nat)(B:Nat)(v:Value)(ns:List Node)(w:World)(hO:bG w B v ns S)(ab:n.In w (Jj sa sn sc) f)(hf:∀q∈f,q∈S)(hS:∀q∈S,q < B)(hB:B<=w.heap.size)(hl:ns.length<=1000)(uE:n.ks.length<=1000):
 Calls prog 85 #[v,J Jq kd,.agg (aC n (Jj sa sn sc))] w fun e w'=>∃ra rn rc,e=Jz (Jj ra rn rc)/\bG w' B (Jj ra rn rc) (ns++bU kd n) S/\Below B w w':=by
 cases n with
 | mk k wd ht i ks=>
   obtain⟨cs,fs,a1,a2,a3⟩:=hO.row
   obtain⟨va,vc,hv⟩:=dG a1
   subst hv
   obtain⟨cs2,fs2,b1,b2,b3⟩:=ab
   obtain⟨m,hm⟩:∃m,ns.length=m:=⟨_,rfl⟩
   change ks.length<=1000 at uE
   rw[hm] at a1 hl ⊢
   have HO:Hid (bG w B (Jj va m vc) ns S):=hm ▸ hO
   have HS:=zh hS
   have Wd:=zh a1
   have am:∀q,(Value.slice va m vc).ownBlock=I q->B<=q:=fun q hq=>(World.ownsRow.lt a1 q hq).1
   have wA:Hid (∀o w',(w.alloc o).grownBy w' (Value.slice va m vc).ownBlock->Below B w w'):=fun o w' hg=>by
    have h0:Below B w (w.alloc o):=(Below.refl B w).alloc hB o
    exact⟨hg.os.trans h0.os,hg.tape.trans h0.tape,hg.output.trans h0.output,Nat.le_trans h0.size hg.size,fun q hq=>(hg.block q (by have:=h0.size;omega) fun e=>by have:=am q e.symm;omega).trans (h0.block q hq)⟩
   obtain⟨R,hR⟩:∃R,bU kd (.mk k wd ht i ks)=R:=⟨_,rfl⟩
   rw[hR]
   show Calls prog 85 #[Jj va m vc,J Jq kd,.agg #[J Jq k,J Jq wd,J Jq ht,J Jq i,Jj sa sn sc]] w fun e w'=>∃ra rn rc,e=Jz (Jj ra rn rc)/\bG w' B (Jj ra rn rc) (ns++R) S/\Below B w w'
   by_cases hk:k=kd
   . have kl:(k==kd)=true:=by simpa using hk
     obtain⟨L,hL⟩:∃L,ks.length=L:=⟨_,rfl⟩
     rw[hL] at b1 uE
     have eN:Hid (∀o,(w.alloc o).ownsRow B 53 5 (Jj va m vc) m cs/\(w.alloc o).ownsRow 0 53 5 (Jj sa sn sc) L cs2):=fun o=>⟨a1.alloc o,b1.alloc o⟩
     have cB:=zh b2.oneCell
     have bA:Hid (∀o v' w',w'.ownsRow B 53 5 v' (m+L) (cs++cs2)->(w.alloc o).grownBy w' (Value.slice va m vc).ownBlock->∃ra rn rc,v'=Jj ra rn rc/\bG w' B (Jj ra rn rc) (ns++R) S/\Below B w w'):=fun o v' w' h1 h2=>by
      obtain⟨ra,rc,rfl⟩:=dG h1
      have hb:=wA.out o w' h2
      refine⟨ra,_,rc,rfl,?_,hb⟩
      rw[show R=ks by rw[<- hR];exact if_pos hk]
      have rS:∀q,q∈S->w'.heap[q]?=w.heap[q]?:=fun q hq=>hb.block q (hS q hq)
      refine⟨cs++cs2,fs++fs2,by rw[List.length_append,hm,hL];exact h1,(a2.keep fun q hq=>rS q (a3 q hq)).append (b2.keep fun q hq=>rS q (hf q (by rw[b3];exact List.mem_append_right _ hq))),fun q hq=> ?_⟩
      rcases List.mem_append.1 hq with h | h
      . exact a3 q h
      . exact hf q (by rw[b3];exact List.mem_append_right _ h)
     clear hk a1 a2 a3 b1 b2 b3 hO hf am hm hL HO hR
     go_enter func85,ntmps85
     go_wp2_with (at_builtin;refine aW _ rfl (.tmp 11) (.tmp 13) 51 53 rfl (.agg aU) 5 56 underlying51 eX rfl (by decide) (by decide) B (Jj va m vc) m cs rfl (eN.out _).1 0 (Jj sa sn sc) L cs2 rfl (eN.out _).2 cB.out ?x1 ?x2 ?_;(case x1=>omega);(case x2=>simp;omega);intro v' w6 a1 a2;have he:=bA.out _ v' w6 a1 a2;obtain⟨ra,rn,rc,il,SN,eM⟩:=he;subst il;have rT:Hid (bG w6 B (Jj ra rn rc) (ns++R) S/\Below B w w6):=⟨SN,eM⟩;clear a1 a2 SN eM)
     go_ret
     exact⟨_,_,_,rfl,rT.out.1,rT.out.2⟩
   . have kl:(k==kd)=false:=by simpa using hk
     have eN:Hid (∀o,(w.alloc o).ownsRow B 53 5 (Jj va m vc) m cs):=fun o=>a1.alloc o
     have fg:Hid (∀o,B<=(w.alloc o).heap.size):=fun o=>by
      show B<=_
      have:(w.alloc o).heap.size=w.heap.size+1:=by simp
      omega
     have bA:Hid (∀o o2 v' w',w'.ownsRow B 53 5 v' (m+1) (cs++fQ (.mk k wd ht i ks) (Jj sa sn sc))->((w.alloc o).alloc o2).grownBy w' (Value.slice va m vc).ownBlock->∃ra rn rc,v'=Jj ra rn rc/\bG w' B (Jj ra rn rc) (ns++R) S/\Below B w w'):=fun o o2 v' w' h1 hg=>by
      obtain⟨ra,rc,rfl⟩:=dG h1
      have r7:(w.alloc o).heap.size=w.heap.size+1:=by simp
      have h0:Below B w ((w.alloc o).alloc o2):=((Below.refl B w).alloc hB o).alloc (by omega) o2
      have hb:Below B w w':=⟨hg.os.trans h0.os,hg.tape.trans h0.tape,hg.output.trans h0.output,Nat.le_trans h0.size hg.size,fun q hq=>(hg.block q (by have:=h0.size;omega) fun e=>by have:=am q e.symm;omega).trans (h0.block q hq)⟩
      refine⟨ra,_,rc,rfl,?_,hb⟩
      rw[show R=[.mk k wd ht i ks] by rw[<- hR];exact if_neg hk]
      have rS:∀q,q∈S->w'.heap[q]?=w.heap[q]?:=fun q hq=>hb.block q (hS q hq)
      have B7:(Node.mk k wd ht i ks).In w (Jj sa sn sc) f:=⟨cs2,fs2,b1,b2,b3⟩
      refine⟨cs++fQ (.mk k wd ht i ks) (Jj sa sn sc),fs++f,by rw[List.length_append,hm];exact h1,aY.snoc (B7.keep fun q hq=>rS q (hf q hq)) (a2.keep fun q hq=>rS q (a3 q hq)),fun q hq=> ?_⟩
      rcases List.mem_append.1 hq with h | h
      . exact a3 q h
      . exact hf q h
     clear hk a1 a2 a3 b1 b2 b3 hO hf am hm HO hR
     go_enter func85,ntmps85
     go_wp2_with (at_builtin;refine qL (w.alloc (JZ #[J Jq k,J Jq wd,J Jq ht,J Jq i,Jj sa sn sc] 53)) rfl (.tmp 15) (.tmp 17) rfl B (Jj va m vc) m cs (.mk k wd ht i ks) sa sn sc ?y1 (eN.out _) ?y2 ?x1 (fg.out _) ?_;(case y1=>rfl);(case y2=>simp[Act.eval]);(case x1=>omega);intro v' w6 a1 a2;have he:=bA.out _ _ v' w6 a1 a2;obtain⟨ra,rn,rc,il,SN,eM⟩:=he;subst il;have rT:Hid (bG w6 B (Jj ra rn rc) (ns++R) S/\Below B w w6):=⟨SN,eM⟩;clear a1 a2 SN eM)
     go_ret
     exact⟨_,_,_,rfl,rT.out.1,rT.out.2⟩
theorem oI (n:Node)(sa:Option Addr)(sn sc:Nat)(id k z:Int)(hk:k=2\/k=3)(w:World):Calls prog 61 #[.agg (aC n (Jj sa sn sc)),J Jq id,J Jq k,J Jq z] w fun e w'=>e=Jz (.agg #[J Jq 1,J Jq (if k=2 then z else n.w),J Jq (if k=2 then n.h else z),J Jq id,Jj O 0 0])/\Below w.heap.size w w':=by
 have HB:Hid (∀o1 o2 o3,Below w.heap.size w (((w.alloc o1).alloc o2).alloc o3)):=fun o1 o2 o3=>by
  have s1:(w.alloc o1).heap.size=w.heap.size+1:=by simp
  have s2:((w.alloc o1).alloc o2).heap.size=w.heap.size+1+1:=by simp
  exact (((Below.refl _ _).alloc (Nat.le_refl _) o1).alloc (by omega) o2).alloc (by omega) o3
 show Calls prog 61 #[.agg #[J Jq n.k,J Jq n.w,J Jq n.h,J Jq n.i,Jj sa sn sc],J Jq id,J Jq k,J Jq z] w _
 rcases hk with rfl | rfl
 . simp only[if_true]
   go_enter func61,ntmps61
   go_wp2
   exact bodyPost_ret (v:=.agg #[J Jq 1,J Jq z,J Jq n.h,J Jq id,Jj O 0 0]) (by simp[results,results61,go_sem]) rfl ⟨rfl,HB.out _ _ _⟩
 . simp only[show ¬((3:Int)=2) by decide,if_false]
   go_enter func61,ntmps61
   go_wp2
   exact bodyPost_ret (v:=.agg #[J Jq 1,J Jq n.w,J Jq z,J Jq id,Jj O 0 0]) (by simp[results,results61,go_sem]) rfl ⟨rfl,HB.out _ _ _⟩
theorem oP (u:Value)(l:List aj)(id:Int)(B:Nat)(w:World)(h:dD w B u (aH l))(h1:1<=(aH l).length)(h2:(aH l).length<=32):Calls prog 56 #[u,J Jq id] w fun e w'=>e=Jz (J Jq (jF l id))/\w=w':=by
 have HH:Hid (Calls prog 55 #[u,J Jq id] w fun e w'=>e=Jz (.bool (decide (id∈aH l)))/\w=w'):=iK u _ B id w h (by omega) (by intro e;rw[e] at h1;simp at h1)
 obtain⟨ua,uc,hu⟩:=dG h
 obtain⟨m,hm⟩:∃m,(aH l).length=m:=⟨_,rfl⟩
 rw[hm] at hu h1 h2
 subst hu
 obtain⟨c,hc⟩:∃c,decide (id∈aH l)=c:=⟨_,rfl⟩
 rw[hc] at HH
 have Ru:(aH l).contains id=c:=by rw[<- hc];exact List.contains_eq_mem id (aH l)
 have Wt:=CO l id (idB id) c m rfl Ru hm
 obtain⟨R,hR⟩:∃R,jF l id=R:=⟨_,rfl⟩
 rw[hR] at Wt ⊢
 have HJ:=zh Wt
 clear h hm hc Ru Wt hR
 by_cases a1:id < 1
 . have HR:Hid (R=43):=by
    show R=43
    rw[HJ.out,if_pos (.inl (by unfold idB;simp;omega))]
   clear HJ HH
   go_enter func56,ntmps56
   go_wp2
   all_goals go_ret
   all_goals exact⟨by rw[HR.out];rfl,rfl⟩
 . by_cases a2:4611686018427387904 < id
   . have HR:Hid (R=43):=by
      show R=43
      rw[HJ.out,if_pos (.inl (by unfold idB;simp;omega))]
     clear HJ HH
     go_enter func56,ntmps56
     go_wp2
     all_goals go_ret
     all_goals exact⟨by rw[HR.out];rfl,rfl⟩
   . have hid:idB id=true:=by unfold idB;simp;omega
     rw[hid] at HJ
     cases c with
     | true=>
       have HR:Hid (R=43):=by
        show R=43
        rw[HJ.out,if_pos (.inr rfl)]
       clear HJ hid
       go_enter func56,ntmps56
       go_wp2_with fail
       refine HH.out.mono ?_
       rintro e w1 ⟨rfl,rfl⟩
       go_wp2
       all_goals go_ret
       all_goals exact⟨by rw[HR.out];rfl,rfl⟩
     | false=>
       by_cases sr:m=32
       . have HR:Hid (R=45):=by
          show R=45
          rw[HJ.out,if_neg (by simp),if_pos sr]
         clear HJ hid
         subst sr
         go_enter func56,ntmps56
         go_wp2_with fail
         refine HH.out.mono ?_
         rintro e w1 ⟨rfl,rfl⟩
         go_wp2
         all_goals go_ret
         all_goals exact⟨by rw[HR.out];rfl,rfl⟩
       . have HR:Hid (R=0):=by
          show R=0
          rw[HJ.out,if_neg (by simp),if_neg sr]
         have h33:¬(32:Int)<=(m:Int):=by omega
         clear HJ hid sr
         go_enter func56,ntmps56
         go_wp2_with fail
         refine HH.out.mono ?_
         rintro e w1 ⟨rfl,rfl⟩
         go_wp2
         all_goals go_ret
         all_goals exact⟨by rw[HR.out];rfl,rfl⟩
structure xY (w:World)(g:Nat)(b:Box)(k:Int)(sl:Value)(vs:List Value)(fs:List Nat)(B N:Nat)(c:Nat)(rs:List Tree)(js:List Nat)(n got:Int)(us:List Tree)(wr:World):Prop where
 draw:Me k c js n us rs got
 at_:dm w g b k sl vs fs B us wr
 small:∀t∈us,t.size<=N
 len:us.length=rs.length
 lt:c < us.length
theorem xY.below {w:World}{g:Nat}{b:Box}{k:Int}{sl:Value}{vs:List Value}{fs:List Nat}{B N c:Nat}{rs:List Tree}{js:List Nat}{n got:Int}{us:List Tree}{wr X:World}(h:xY w g b k sl vs fs B N c rs js n got us wr)(hb:Below wr.heap.size wr X):xY w g b k sl vs fs B N c rs js n got us X:=⟨h.draw,h.at_.below hb,h.small,h.len,h.lt⟩
structure PO (w:World)(g:Nat)(b:Box)(k:Int)(sl:Value)(vs:List Value)(fs:List Nat)(B N:Nat)(c:Nat)(rs:List Tree)(js:List Nat)(n got:Int)(wr:World)(vc:Value)(T:TypeId)(gi:Nat)(Fr Fx:FuncId)(r d:Int):Prop where
 mX : ∀ W, (method 286 T (JJ (I ⟨gi, 0, O⟩)) "mullion/layout.stretch").run prog W = .ok (Fx, JJ (I ⟨gi, 0, O⟩)) W
 fX:∀a c d W,(callFunc Fx #[a,c,d]).run prog W=.ok (.enter Fx #[a,c,d]) W
 mR : ∀ W, (method 286 T (JJ (I ⟨gi, 0, O⟩)) "mullion/layout.room").run prog W = .ok (Fr, JJ (I ⟨gi, 0, O⟩)) W
 fR:∀a c W,(callFunc Fr #[a,c]).run prog W=.ok (.enter Fr #[a,c]) W
 cR:Calls prog Fr #[JJ (I ⟨gi,0,O⟩),J Jq k] wr fun e w'=>e=Jz (J Jq r)/\wr=w'
 num:d=min n r
 lim:0<=d/\d<=1000
 cX : Calls prog Fx #[JJ (I ⟨gi, 0, O⟩), J Jq k, J Jq (-d)] wr fun e w' => e = Jz (.tuple #[]) ∧ But (g :: fs) w w' ∧ ∃ T2 g2 Fx2, vc = .iface T2 (JJ (I ⟨g2, 0, O⟩)) ∧ (∀ W, (method 286 T2 (JJ (I ⟨g2, 0, O⟩)) "mullion/layout.stretch").run prog W = .ok (Fx2, JJ (I ⟨g2, 0, O⟩)) W) ∧ (∀ a c d W, (callFunc Fx2 #[a, c, d]).run prog W = .ok (.enter Fx2 #[a, c, d]) W) ∧ Calls prog Fx2 #[JJ (I ⟨g2, 0, O⟩), J Jq k, J Jq d] w' fun e w'' => e = Jz (.tuple #[]) ∧ ∃ us got', got = d + got' ∧ xY w g b k sl vs fs B N c rs js (n - d) got' us w''
theorem Ko {w:World}{g:Nat}{b:Box}{k:Int}{sl:Value}{vs:List Value}{fs:List Nat}{B N c:Nat}{rs:List Tree}{j:Nat}{js:List Nat}{n got:Int}{us:List Tree}{wr:World}{vc:Value}(aE:(g::(sl.ownBlock.toList++fs)).Nodup)(xd:vs[c]?=I vc)(h:xY w g b k sl vs fs B N c rs (j::js) n got us wr):
 ∃T gi Fr Fx r d,vs[j]?=I (.iface T (JJ (I ⟨gi,0,O⟩)))/\PO w g b k sl vs fs B N c rs js n got wr vc T gi Fr Fx r d:=by
 obtain⟨hd,G1,kq,Fl,am⟩:=h
 cases hd with
 | cons _ _ _ d _ _ t t' s s' got' h1 h2 h3 h4 h5 h6 h7 h8 h9 Td YY zv Wv=>
   obtain⟨v,f,e1,e2,e3,e4⟩:=G1.one aE h1
   obtain⟨T,gi,Fx,hX⟩:=t.stretches B v f wr e2 e3
   obtain⟨T',gi',Fr,hR⟩:=e2.Ea h2 (by omega)
   have hv:=hX.val
   subst hv
   have hv:=hR.val
   cases hv
   refine⟨T,gi,Fr,Fx,t.room k,d,e1,{ mX:=hX.mX,fX:=hX.fX,mR:=hR.mR,fR:=hR.fR,cR:=hR.cR k wr (Below.refl _ _),num:=h5,lim:=⟨h6,h7⟩,cX:= ?_ }⟩
   refine (hX.cX wr k (-d) t' e2 h9).mono fun e w' h5=>⟨h5.1,?_,?_⟩
   . exact (e4 t' w' h5.2.1 h5.2.2).but
   . have Ww:=e4 t' w' h5.2.1 h5.2.2
     obtain⟨v2,f2,a1,a2,a3,a4⟩:=Ww.one aE Td
     rw[xd] at a1
     obtain rfl:=Option.some.inj a1
     obtain⟨T2,g2,Fx2,oR⟩:=s.stretches B vc f2 w' a2 a3
     refine⟨T2,g2,Fx2,oR.val,oR.mX,oR.fX,(oR.cX w' k d s' a2 zv).mono fun e w'' h6=>⟨h6.1,_,got',rfl,Wv,a4 s' w'' h6.2.1 h6.2.2,?_,by rw[List.length_set,List.length_set];exact Fl,by rw[List.length_set,List.length_set];exact am⟩⟩
     exact sD (sD kq h1 h8) Td YY
theorem F8 (g:Nat)(b:Box)(k:Int)(sl:Value)(vs:List Value)(fs:List Nat)(B N:Nat)(c:Nat)(ts rs:List Tree)(js:List Nat)(n got:Int)(w:World)(Tc:TypeId)(gc:Nat)(pb off cap:Nat)(aE:(g::(sl.ownBlock.toList++fs)).Nodup)(xd:vs[c]?=I (.iface Tc (JJ (I ⟨gc,0,O⟩))))(hn:0<=n/\n<=9223372036854775807)(pZ:js.length<=1000)(K5:∀X,But (g::fs) w X->∀(i j:Nat) v,js[i]?=I j->vs[j]?=I v->X.cell? ⟨pb,off+i,O⟩=I v)(h:xY w g b k sl vs fs B N c rs js n got ts w):
 Calls prog 76 #[.iface Tc (JJ (I ⟨gc,0,O⟩)),Jj (I ⟨pb,off,O⟩) js.length cap,J Jq k,J Jq n] w fun e w'=>e=Jz (J Jq got)/\dm w g b k sl vs fs B rs w':=by
 obtain⟨L,hL⟩:∃L,js.length=L:=⟨_,rfl⟩
 have HL:=zh hL
 have tj:=zh aE
 have HV:=zh xd
 have HFm:=zh K5
 have HD:=zh h
 rw[hL] at pZ ⊢
 clear h K5 xd aE hL
 go_enter func76,ntmps76
 go_wp2
 go_loopw [9,15] (fun vd vi wr=>∃(i:Nat) (x gl:Int) (us:List Tree),i<=L/\vd=J Jq (got-gl)/\vi=J Jq i/\(0<=x/\x=n-(got-gl)/\x<=n)/\Hid (xY w g b k sl vs fs B N c rs (js.drop i) x gl us wr)) (fun _ vi _=>L-(intOf vi).toNat)
 case atStart=>exact⟨0,n,got,ts,Nat.zero_le _,by rw[Int.sub_self],rfl,⟨hn.1,by omega,Int.le_refl _⟩,HD⟩
 case round=>
  obtain⟨i,x,gl,us,hi,rfl,rfl,hx,Rp⟩:=hrel
  clear HD
  by_cases am:i < L
  . obtain⟨j,hj⟩:∃j,js[i]?=I j:=⟨_,List.getElem?_eq_getElem (by rw[HL.out];exact am)⟩
    have K6:js.drop i=j::js.drop (i+1):=by
     have vQ:i < js.length:=by rw[HL.out];exact am
     rw[List.drop_eq_getElem_cons vQ]
     congr 1
     rw[List.getElem?_eq_getElem vQ] at hj
     exact Option.some.inj hj
    have hD:=Rp.out
    rw[K6] at hD
    obtain⟨T,gi,Fr,Fx,r,d,YZ,hO⟩:=Ko tj.out HV.out hD
    have ri:=HFm.out wr hD.at_.but i j _ hj YZ
    have m1:=hO.mX
    have m2:=hO.fX
    have m3:=hO.mR
    have m4:=hO.fR
    have ey:=hO.num
    have zw:=hO.lim
    have sR:=zh hO.cR
    have Te:=zh hO.cX
    have y1:IntKind.i64.wrap (n-(got-gl))=x:=by rw[IntKind.wrap_i64];omega
    have zz:=zh ey.symm
    have y2:IntKind.i64.wrap (-(min x r))= -(min x r):=by rw[<- ey,IntKind.wrap_i64];omega
    have eW:=zh hx.2
    have pu:Hid (0<=x-d):=by
     show 0<=x-d
     omega
    have Tf:=zh zw
    clear hO hD K6 hj YZ ey zw hx Rp
    go_wp2_with fail
    refine sR.out.mono ?_
    rintro e w1 ⟨rfl,rfl⟩
    go_wp2_with fail
    rw[zz.out]
    clear y2
    refine Te.out.mono ?_
    rintro e w2 ⟨rfl,ly,T2,g2,Fx2,hve,m5,m6,my⟩
    cases hve
    have Y0:=zh my
    clear ly my Te sR m1 m2 m3 m4 ri
    go_wp2_with fail
    refine Y0.out.mono ?_
    rintro e w3 ⟨rfl,us3,gl3,sY,ee⟩
    have HD3:=zh ee
    have Wx:=zh sY
    have y3:IntKind.i64.wrap (got-gl+d)=got-gl3:=by
     have h1:=Tf.out
     have h2:=eW.out
     have h3:=pu.out
     rw[IntKind.wrap_i64]
     omega
    clear ee Y0 sY m5 m6
    go_wp2
    go_roundw
    case rel=>exact⟨i+1,x-d,gl3,us3,by omega,rfl,by go_num,⟨pu.out,by have:=eW.out;have:=Wx.out;omega,by have:=eW.out;have:=Tf.out;omega⟩,HD3⟩
    case measure=>simp[intOf];omega
  . have bE:i=L:=by omega
    subst bE
    have hD:=Rp.out
    rw[List.drop_eq_nil_of_le (by rw[HL.out];exact Nat.le_refl _)] at hD
    have Hp:us=rs/\gl=0:=by
     cases hD.draw
     exact⟨rfl,rfl⟩
    obtain⟨rfl,rfl⟩:=Hp
    have HS:=zh hD.at_
    clear hD Rp hx
    go_wp2
    go_ret
    exact⟨by rw[Int.sub_zero];rfl,HS.out⟩
end Go.Proofs.YtejlincnnonhaaaGreat
