import Derived.Test.YtejlincnnonhaaaGreatP16
import Derived.Test.YtejlincnnonhaaaGreatP17
import Derived.Deep.DeepCutAuto
namespace Go.Proofs.YtejlincnnonhaaaGreat
open Go.RowKit Go.Proofs.Tryz
open Value renaming int->J,slice->Jj,pointer->JJ
open IntKind renaming i64->Jq
open Option renaming none->O,some->I
open Ending renaming returned->Jz
open Obj renaming cells->JZ
set_option linter.unusedVariables false
set_option maxRecDepth 100000
set_option maxHeartbeats 16000000
theorem NI (l:List aj)(k z id:Int)(bf:Bool):∃er r,(r:List aj).length<=100/\(∀v X,ay X v l->Calls prog 19 #[v,J Jq k,J Jq z,.bool bf,J Jq id] X (dZ er r X))/\(∀v X,ay X v l->Calls prog 27 #[v,J Jq k,J Jq z,.bool bf,J Jq id] X (dZ er r X)):=by
 cases hF:aT l with
 | none=>exact⟨40,[],by simp,fun v X h=>Ja v l k z id bf X h hF,fun v X h=>Ld v l k z id bf X h hF⟩
 | some t=>
   by_cases hk:k=2\/k=3
   . by_cases hj:jF l id=0
     . by_cases hr:t.room k < 2
       . exact⟨44,[],by simp,fun v X h=>GM v l k z id bf X h hF hk hj hr,fun v X h=>IB v l k z id bf X h hF hk hj hr⟩
       . obtain⟨t1,n,hU⟩:=Hl hF k z id bf hk hj (by omega)
         have hB:=hU.beside
         refine⟨0,cZ (eF k bf t1 (.leaf (dh t k n) id)),?_,fun v X h=>OO v l k z id bf X h hF hU,fun v X h=>O5 v l k z id bf X h hF hU⟩
         rw[CX]
         have h1:=hB.size
         have h2:=hU.z1
         have h3:=lay_size hU.lay
         omega
     . exact⟨jF l id,[],by simp,fun v X h=>Jb v l k z id bf X h hF hk _ rfl hj,fun v X h=>Le v l k z id bf X h hF hk _ rfl hj⟩
   . exact⟨1,[],by simp,fun v X h=>MB v l k z id bf X h hF hk,fun v X h=>NU v l k z id bf X h hF hk⟩
theorem CU (t:Tree):(cZ t).length=t.size:=by
 unfold cZ
 rw[Tree.eu,Tree.iI]
theorem Ij (l:List aj)(a b:Int):∃er r,(r:List aj).length<=63/\(∀v X,ay X v l->Calls prog 21 #[v,J Jq a,J Jq b] X (dZ er r X))/\(∀v X,ay X v l->Calls prog 29 #[v,J Jq a,J Jq b] X (dZ er r X)):=by
 cases hF:aT l with
 | none=>exact⟨40,[],by simp,fun v X h=>JP v l a b X h hF,fun v X h=>Jd v l a b X h hF⟩
 | some t=>
   by_cases hs:aG a=true/\aG b=true
   . have hl:=aV hF
     have h3:fJ t 3<=1000000:=by
      have h1:=t.aF hl.sound
      have h2:=bT t 3 hl.sound
      show t.box.h-t.room 3<=1000000
      omega
     by_cases h1:a < fJ t 2
     . exact⟨44,[],by simp,fun v X h=>zq v l a b X h hF hs.1 hs.2 (.inl h1),fun v X h=>Eb v l a b X h hF hs.1 hs.2 ⟨h1,h3⟩⟩
     . by_cases h2:b < fJ t 3
       . exact⟨44,[],by simp,fun v X h=>zq v l a b X h hF hs.1 hs.2 (.inr h2),fun v X h=>Ec v l a b X h hF hs.1 hs.2 ⟨h1,h2⟩⟩
       . obtain⟨t1,t2,hR⟩:=Ep hF a b hs.1 hs.2 (by omega) (by omega)
         exact⟨0,cZ t2,by rw[CU,hR.z2];exact lay_size hl,fun v X h=>OG v l a b X h hF hR,fun v X h=>Ot v l a b X h hF hR⟩
   . exact⟨41,[],by simp,fun v X h=>JQ v l a b X h hF hs,fun v X h=>Je v l a b X h hF hs⟩
theorem LG (b:Box)(k:Int)(ts rs:List Tree)(c:Nat)(want got:Int)(sl:Value)(fp:List Nat)(w:World)(hw:0<=want/\want<=1000)(h2:2<=ts.length)(hl:ts.length<=900)(hc:c+1 < ts.length)(hG:Giv k c (List.range' (c+1) (ts.length-1-c)) want ts rs got)(ab:(ag (.split b k ts)).In w sl fp):
 Calls prog 86 #[.agg (aC (ag (.split b k ts)) sl),J Jq c,J Jq want] w (yQ b k rs got fp w):=by
 obtain⟨ad,cap0,av⟩:=ab.sl
 change (Node.mk k b.w b.h 0 (nodesOf ts)).In w sl fp at ab
 change sl=Jj ad (nodesOf ts).length cap0 at av
 rw[ax] at av
 obtain⟨L,hL⟩:∃L,ts.length=L:=⟨_,rfl⟩
 rw[hL] at av h2 hl hc
 rw[hL] at hG
 subst av
 have cj:=ab
 obtain⟨cs,fs,br,a8,cf⟩:=cj
 rw[ax,hL] at br
 have eN:Hid (∀o1 o2 o3,(((w.alloc o1).alloc o2).alloc o3).ownsRow 0 53 5 (Jj ad L cap0) L cs):=fun o1 o2 o3=>((br.alloc o1).alloc o2).alloc o3
 have cB:=zh a8.oneCell
 have HK:Hid (∀v w6,((((w.alloc (JZ #[J Jq k,J Jq b.w,J Jq b.h,J Jq 0,Jj ad L cap0] 53)).alloc (.cells aU 53)).alloc (JZ #[J Jq k,J Jq b.w,J Jq b.h,J Jq 0,Jj ad L cap0] 53))).grownBy w6 O->w6.ownsRow (w.heap.size+3) 53 5 v L cs->∃g cap,v=Jj (I ⟨g,0,O⟩) L cap/\w.heap.size+2 < g/\bK g L cap fp ts (w6.setCell ⟨w.heap.size+1+1,4,O⟩ v)/\Mid w k b.w b.h k b.w b.h 0 (Jj ad L cap0) v (w6.setCell ⟨w.heap.size+1+1,4,O⟩ v)):=by
  intro v w6 hg hr
  have hM:=Mid.start w k b.w b.h k b.w b.h 0 (Jj ad L cap0)
  obtain⟨g,cap,e1,e2,e3⟩:=bK.start ab hM (by simp) hg (by rw[cf];exact fun q hq=>List.mem_append_right _ hq) a8 (by rw[hL];simpa using hr) (by omega)
  rw[hL] at e1 e3
  exact⟨g,cap,e1,e2,e3,hM.copied hg v⟩
 have ii:Hid (∀w6,((((w.alloc (JZ #[J Jq k,J Jq b.w,J Jq b.h,J Jq 0,Jj ad L cap0] 53)).alloc (.cells aU 53)).alloc (JZ #[J Jq k,J Jq b.w,J Jq b.h,J Jq 0,Jj ad L cap0] 53))).grownBy w6 O->∃u,w6.cell? ⟨w.heap.size+1+1,4,O⟩=I u/\w6.frozen? ⟨w.heap.size+1+1,4,O⟩=false):=fun w6 hg=>by
  have hM:=Mid.start w k b.w b.h k b.w b.h 0 (Jj ad L cap0)
  have ce:=(hg.block _ (lt_of_block hM.new) (by simp)).trans hM.new
  exact⟨_,ae ce 4,ai ce 4⟩
 have gR:=zh ab.lt
 have HL:=zh hL
 have HG:=zh hG
 obtain⟨Q0,hw9⟩:=hw
 have eR:¬(want < 0):=by omega
 have EV:decide (want < 0)=false:=by simpa using eR
 show Calls prog 86 #[.agg #[J Jq k,J Jq b.w,J Jq b.h,J Jq 0,Jj ad L cap0],J Jq c,J Jq want] w (yQ b k rs got fp w)
 clear ab br a8 cf hL hG
 go_enter func86,ntmps86
 go_wp2_with (at_builtin;refine aW _ rfl (.const (Jj O 0 0)) (.tmp 17) 51 53 rfl (.agg aU) 5 56 underlying51 eX rfl (by decide) (by decide) (w.heap.size+3) (Jj O 0 0) 0 [] rfl (World.ownsRow_nil _ _ _ _) 0 (Jj ad L cap0) L cs rfl (eN.out _ _ _) cB.out ?x1 ?x2 ?_;(case x1=>omega);(case x2=>simp);intro v w6 a1 a2;rw[Nat.zero_add,List.nil_append] at a1;obtain⟨g,cap,rfl,eO,dx,cy⟩:=HK.out v w6 a2 a1;have re:Hid (bK g L cap fp ts (w6.setCell ⟨w.heap.size+1+1,4,O⟩ (Jj (I ⟨g,0,O⟩) L cap))):=dx;have np:Hid (Mid w k b.w b.h k b.w b.h 0 (Jj ad L cap0) (Jj (I ⟨g,0,O⟩) L cap) (w6.setCell ⟨w.heap.size+1+1,4,O⟩ (Jj (I ⟨g,0,O⟩) L cap))):=cy;have c4:=ii.out w6 a2;obtain⟨u4,c4,f4⟩:=c4;clear dx cy a1 a2)
 go_loopw [12] (fun v wr=>∃(m:Int) (us:List Tree),0<=m/\m<=want/\v=J Jq m/\Hid (vF w k b.w b.h (Jj ad L cap0) g L cap fp rs c (List.range' (c+1) (L-1-c)) (want-m) (got-m) wr us)) (fun v _=>(want-intOf v).toNat)
 case atStart=>exact⟨0,ts,Int.le_refl _,by omega,rfl,by rw[Int.sub_zero,Int.sub_zero];exact⟨HG.out,re.out,np.out⟩⟩
 case round=>
  obtain⟨m,us,UM,ef,rfl,HN⟩:=hrel
  clear c4 f4 re np HG
  have j2:=HN.out.kids.len
  obtain⟨fpn,aE,_⟩:=HN.out.kids.node k b.w b.h 0
  have pS:=Nh k b.w b.h 0 us c _ fpn wr aE (FQ HN.out).qm (by rw[j2];exact hl) (by rw[j2];omega)
  rw[j2] at pS
  have bO:=HN.out.mid
  have n0:wr.cell? ⟨w.heap.size+1+1,0,O⟩=I (J Jq k):=ae bO.new 0
  have n1:wr.cell? ⟨w.heap.size+1+1,1,O⟩=I (J Jq b.w):=ae bO.new 1
  have n2:wr.cell? ⟨w.heap.size+1+1,2,O⟩=I (J Jq b.h):=ae bO.new 2
  have n3:wr.cell? ⟨w.heap.size+1+1,3,O⟩=I (J Jq 0):=ae bO.new 3
  have n4:wr.cell? ⟨w.heap.size+1+1,4,O⟩=I (Jj (I ⟨g,0,O⟩) L cap):=ae bO.new 4
  clear bO aE
  by_cases am:m < want
  . rcases BB eO HN.out (by omega) with ⟨gw,lP,jx⟩ | ⟨j,d,r,got1,gw,L0,hd,VI,Fi,rR,⟨nn,sa,sn,sc,hC,hR⟩,hS⟩
    . rw[gw] at pS
      have C2:=zh pS
      have Pf:got=m:=by omega
      subst Pf
      have ze:=zh lP
      clear pS gw lP jx j2
      go_wp2_with fail
      refine C2.out.mono ?_
      rintro e w1 ⟨rfl,bj⟩
      have ia:=HN.out.kids.below bj
      rw[ze.out] at ia
      have bO:=HN.out.mid.below' bj
      clear n0 n1 n2 n3 n4 HN C2 bj
      have HF:Hid (∀v0 v1 v2 v3 v4,yQ b k rs got fp w (Jz (.tuple #[.agg #[J Jq k,J Jq b.w,J Jq b.h,J Jq 0,Jj (I ⟨g,0,O⟩) L cap],J Jq got])) (fB w1 (w.heap.size+1) v0 v1 v2 v3 v4)):=fun v0 v1 v2 v3 v4=>ny got ia bO eO gR.out v0 v1 v2 v3 v4
      have n0:w1.cell? ⟨w.heap.size+1+1,0,O⟩=I (J Jq k):=ae bO.new 0
      have n1:w1.cell? ⟨w.heap.size+1+1,1,O⟩=I (J Jq b.w):=ae bO.new 1
      have n2:w1.cell? ⟨w.heap.size+1+1,2,O⟩=I (J Jq b.h):=ae bO.new 2
      have n3:w1.cell? ⟨w.heap.size+1+1,3,O⟩=I (J Jq 0):=ae bO.new 3
      have n4:w1.cell? ⟨w.heap.size+1+1,4,O⟩=I (Jj (I ⟨g,0,O⟩) L cap):=ae bO.new 4
      have r0:w1.cell? ⟨w.heap.size+1,0,O⟩=I (J Jq 0):=ae bO.res 0
      have r1:w1.cell? ⟨w.heap.size+1,1,O⟩=I (J Jq 0):=ae bO.res 1
      have r2:w1.cell? ⟨w.heap.size+1,2,O⟩=I (J Jq 0):=ae bO.res 2
      have r3:w1.cell? ⟨w.heap.size+1,3,O⟩=I (J Jq 0):=ae bO.res 3
      have r4:w1.cell? ⟨w.heap.size+1,4,O⟩=I (Jj O 0 0):=ae bO.res 4
      have f0:=ai bO.res 0
      have f1:=ai bO.res 1
      have f2:=ai bO.res 2
      have f3:=ai bO.res 3
      have f4:=ai bO.res 4
      clear ia bO
      go_wp2
      exact bodyPost_ret (v:=.tuple #[.agg #[J Jq k,J Jq b.w,J Jq b.h,J Jq 0,Jj (I ⟨g,0,O⟩) L cap],J Jq got]) (by simp[results,results86,go_sem,r0,r1,r2,r3,r4]) rfl (HF.out _ _ _ _ _)
    . rw[gw] at pS
      have C2:=zh pS
      have HC:=zh hC
      have HR:=zh hR
      have HS:=zh hS
      have HD:=zh hd
      have RL:=zh rR
      have kr:IntKind.i64.wrap (want-m)=want-m:=by rw[IntKind.wrap_i64];omega
      have rj:IntKind.i64.wrap (-d)= -d:=by rw[IntKind.wrap_i64];omega
      have FS:IntKind.i64.wrap (m+d)=m+d:=by rw[IntKind.wrap_i64];omega
      have hdm:d<=want-m:=by omega
      unfold aC at HR
      clear pS gw j2 hC hR hS hd rR HN
      go_wp2_with fail
      refine C2.out.mono ?_
      rintro e w1 ⟨rfl,bj⟩
      have cY:=zh bj
      obtain⟨fz,⟨q0,q1,q2,q3,q4⟩,b4,p0⟩:=HC.out w1 bj
      clear n0 n1 n2 n3 n4 C2 bj
      go_upto_region 13 with fail
      go_cut [14] (fun v wx=>v=J Jq d/\Hid (Below wr.heap.size wr wx))
      case first=>
       go_region_with (go_at_call 60;refine (HR.out _ (by first | exact cY.out | exact cY.out.drew)).mono ?_;rintro e w2 ⟨rfl,al⟩)
       all_goals (
        have aD:=zh al
        clear al
        go_wp2_with fail
        go_meet
        exact⟨by rw[HD.out],aD⟩)
      case rest=>
       obtain⟨rfl,e8⟩:=hcut
       clear fz q0 q1 q2 q3 q4 b4 p0 HC HR cY HD nn sa sn sc
       obtain⟨nn,sa,sn,sc,hC,u7⟩:=HS.out wc e8.out
       have HC:=zh hC
       have j6:=zh u7
       unfold aC at j6
       obtain⟨fz,⟨q0,q1,q2,q3,q4⟩,b4,p0⟩:=hC wc (Below.refl _ _)
       clear hC u7 HS e8
       go_upto_region 14 with fail
       go_cut [14] (fun v wx=>v=J Jq d/\Hid ((PD w k g L cap c d fun W=>∃us2,vF w k b.w b.h (Jj ad L cap0) g L cap fp rs c (List.range' (c+1) (L-1-c)) (want-m-d) got1 W us2) wx))
       case first=>
        go_region_with (go_at_call 63;refine (j6.out _ (by first | exact Below.refl _ _ | exact (Below.refl _ _).drew)).mono ?_;rintro e w2 ⟨nr,ta,tn,tc,rfl,al,dt⟩;obtain⟨fz2,⟨s0,s1,s2,s3,s4⟩,b42,p02⟩:=HC.out w2 al)
        all_goals (
         have lr:=zh dt
         clear dt al fz2 s0 s1 s2 s3 s4 b42 p02 q0 q1 q2 q3 q4 fz b4 p0 HC j6
         go_wp2_with fail
         go_meet
         exact⟨rfl,lr⟩)
       case rest=>
        obtain⟨rfl,Ui⟩:=hcut
        clear fz q0 q1 q2 q3 q4 b4 p0 HC j6 nn sa sn sc
        obtain⟨nn,sa,sn,sc,hC,u7⟩:=Ui.out
        have HC:=zh hC
        have j6:=zh u7
        unfold aC at j6
        obtain⟨fz,⟨q0,q1,q2,q3,q4⟩,b4,p0⟩:=hC wc (Below.refl _ _)
        clear hC u7 Ui
        go_upto_region 15 with fail
        go_cut [14] (fun v wx=>v=J Jq d/\∃us2,Hid (vF w k b.w b.h (Jj ad L cap0) g L cap fp rs c (List.range' (c+1) (L-1-c)) (want-m-d) got1 wx us2))
        case first=>
         go_region_with (go_at_call 63;refine (j6.out _ (by first | exact Below.refl _ _ | exact (Below.refl _ _).drew)).mono ?_;rintro e w2 ⟨nr,ta,tn,tc,rfl,al,us2,dt⟩;obtain⟨fz2,⟨s0,s1,s2,s3,s4⟩,b42,p02⟩:=HC.out w2 al)
         all_goals (
          have lr:=zh dt
          clear dt al fz2 s0 s1 s2 s3 s4 b42 p02 q0 q1 q2 q3 q4 fz b4 p0 HC j6
          go_wp2_with fail
          go_meet
          exact⟨rfl,us2,lr⟩)
        case rest=>
         obtain⟨rfl,us2,ij⟩:=hcut
         clear fz q0 q1 q2 q3 q4 b4 p0 HC j6
         have tM:Hid (vF w k b.w b.h (Jj ad L cap0) g L cap fp rs c (List.range' (c+1) (L-1-c)) (want-(m+d)) (got-(m+d)) wc us2):=by
          have h:=ij.out
          have h9:=RL.out
          rw[show want-(m+d)=want-m-d by omega,show got-(m+d)=got1 by omega]
          exact h
         clear ij
         go_wp2
         go_roundw
         case rel=>exact⟨m+d,us2,by omega,by omega,by go_num,tM⟩
         case measure=>simp[intOf];omega
  . obtain⟨lP,jx⟩:=FP HN.out (by omega)
    have Pf:got=m:=by omega
    subst Pf
    have ia:=HN.out.kids
    rw[lP] at ia
    have bO:=HN.out.mid
    clear n0 n1 n2 n3 n4 HN pS lP jx j2
    have HF:Hid (∀v0 v1 v2 v3 v4,yQ b k rs got fp w (Jz (.tuple #[.agg #[J Jq k,J Jq b.w,J Jq b.h,J Jq 0,Jj (I ⟨g,0,O⟩) L cap],J Jq got])) (fB wr (w.heap.size+1) v0 v1 v2 v3 v4)):=fun v0 v1 v2 v3 v4=>ny got ia bO eO gR.out v0 v1 v2 v3 v4
    have n0:wr.cell? ⟨w.heap.size+1+1,0,O⟩=I (J Jq k):=ae bO.new 0
    have n1:wr.cell? ⟨w.heap.size+1+1,1,O⟩=I (J Jq b.w):=ae bO.new 1
    have n2:wr.cell? ⟨w.heap.size+1+1,2,O⟩=I (J Jq b.h):=ae bO.new 2
    have n3:wr.cell? ⟨w.heap.size+1+1,3,O⟩=I (J Jq 0):=ae bO.new 3
    have n4:wr.cell? ⟨w.heap.size+1+1,4,O⟩=I (Jj (I ⟨g,0,O⟩) L cap):=ae bO.new 4
    have r0:wr.cell? ⟨w.heap.size+1,0,O⟩=I (J Jq 0):=ae bO.res 0
    have r1:wr.cell? ⟨w.heap.size+1,1,O⟩=I (J Jq 0):=ae bO.res 1
    have r2:wr.cell? ⟨w.heap.size+1,2,O⟩=I (J Jq 0):=ae bO.res 2
    have r3:wr.cell? ⟨w.heap.size+1,3,O⟩=I (J Jq 0):=ae bO.res 3
    have r4:wr.cell? ⟨w.heap.size+1,4,O⟩=I (Jj O 0 0):=ae bO.res 4
    have f0:=ai bO.res 0
    have f1:=ai bO.res 1
    have f2:=ai bO.res 2
    have f3:=ai bO.res 3
    have f4:=ai bO.res 4
    clear ia bO
    go_wp2
    exact bodyPost_ret (v:=.tuple #[.agg #[J Jq k,J Jq b.w,J Jq b.h,J Jq 0,Jj (I ⟨g,0,O⟩) L cap],J Jq got]) (by simp[results,results86,go_sem,r0,r1,r2,r3,r4]) rfl (HF.out _ _ _ _ _)
theorem FK (b:Box)(k:Int)(ts rs:List Tree)(c:Nat)(want got:Int)(sl:Value)(fp:List Nat)(w:World)(hw:0 < want/\want<=1000)(h2:2<=ts.length)(hl:ts.length<=900)(hc:c+1 < ts.length)(hG:Giv k (c+1) (List.range (c+1)).reverse want ts rs got)(ab:(ag (.split b k ts)).In w sl fp):
 Calls prog 86 #[.agg (aC (ag (.split b k ts)) sl),J Jq c,J Jq (-want)] w (yQ b k rs (-got) fp w):=by
 obtain⟨ad,cap0,av⟩:=ab.sl
 change (Node.mk k b.w b.h 0 (nodesOf ts)).In w sl fp at ab
 change sl=Jj ad (nodesOf ts).length cap0 at av
 rw[ax] at av
 obtain⟨L,hL⟩:∃L,ts.length=L:=⟨_,rfl⟩
 rw[hL] at av h2 hl hc
 subst av
 have cj:=ab
 obtain⟨cs,fs,br,a8,cf⟩:=cj
 rw[ax,hL] at br
 have eN:Hid (∀o1 o2 o3,(((w.alloc o1).alloc o2).alloc o3).ownsRow 0 53 5 (Jj ad L cap0) L cs):=fun o1 o2 o3=>((br.alloc o1).alloc o2).alloc o3
 have cB:=zh a8.oneCell
 have HK:Hid (∀v w6,((((w.alloc (JZ #[J Jq k,J Jq b.w,J Jq b.h,J Jq 0,Jj ad L cap0] 53)).alloc (.cells aU 53)).alloc (JZ #[J Jq k,J Jq b.w,J Jq b.h,J Jq 0,Jj ad L cap0] 53))).grownBy w6 O->w6.ownsRow (w.heap.size+3) 53 5 v L cs->∃g cap,v=Jj (I ⟨g,0,O⟩) L cap/\w.heap.size+2 < g/\bK g L cap fp ts (w6.setCell ⟨w.heap.size+1+1,4,O⟩ v)/\Mid w k b.w b.h k b.w b.h 0 (Jj ad L cap0) v (w6.setCell ⟨w.heap.size+1+1,4,O⟩ v)):=by
  intro v w6 hg hr
  have hM:=Mid.start w k b.w b.h k b.w b.h 0 (Jj ad L cap0)
  obtain⟨g,cap,e1,e2,e3⟩:=bK.start ab hM (by simp) hg (by rw[cf];exact fun q hq=>List.mem_append_right _ hq) a8 (by rw[hL];simpa using hr) (by omega)
  rw[hL] at e1 e3
  exact⟨g,cap,e1,e2,e3,hM.copied hg v⟩
 have ii:Hid (∀w6,((((w.alloc (JZ #[J Jq k,J Jq b.w,J Jq b.h,J Jq 0,Jj ad L cap0] 53)).alloc (.cells aU 53)).alloc (JZ #[J Jq k,J Jq b.w,J Jq b.h,J Jq 0,Jj ad L cap0] 53))).grownBy w6 O->∃u,w6.cell? ⟨w.heap.size+1+1,4,O⟩=I u/\w6.frozen? ⟨w.heap.size+1+1,4,O⟩=false):=fun w6 hg=>by
  have hM:=Mid.start w k b.w b.h k b.w b.h 0 (Jj ad L cap0)
  have ce:=(hg.block _ (lt_of_block hM.new) (by simp)).trans hM.new
  exact⟨_,ae ce 4,ai ce 4⟩
 have gR:=zh ab.lt
 have HL:=zh hL
 have HG:=zh hG
 have Fo:IntKind.i64.wrap (-(-want))=want:=by rw[IntKind.wrap_i64];omega
 obtain⟨Q0,hw9⟩:=hw
 have eR:(-want < 0):=by omega
 have EV:decide (-want < 0)=true:=by simpa using eR
 show Calls prog 86 #[.agg #[J Jq k,J Jq b.w,J Jq b.h,J Jq 0,Jj ad L cap0],J Jq c,J Jq (-want)] w (yQ b k rs (-got) fp w)
 clear ab br a8 cf hL hG
 go_enter func86,ntmps86
 go_wp2_with (at_builtin;refine aW _ rfl (.const (Jj O 0 0)) (.tmp 17) 51 53 rfl (.agg aU) 5 56 underlying51 eX rfl (by decide) (by decide) (w.heap.size+3) (Jj O 0 0) 0 [] rfl (World.ownsRow_nil _ _ _ _) 0 (Jj ad L cap0) L cs rfl (eN.out _ _ _) cB.out ?x1 ?x2 ?_;(case x1=>omega);(case x2=>simp);intro v w6 a1 a2;rw[Nat.zero_add,List.nil_append] at a1;obtain⟨g,cap,rfl,eO,dx,cy⟩:=HK.out v w6 a2 a1;have re:Hid (bK g L cap fp ts (w6.setCell ⟨w.heap.size+1+1,4,O⟩ (Jj (I ⟨g,0,O⟩) L cap))):=dx;have np:Hid (Mid w k b.w b.h k b.w b.h 0 (Jj ad L cap0) (Jj (I ⟨g,0,O⟩) L cap) (w6.setCell ⟨w.heap.size+1+1,4,O⟩ (Jj (I ⟨g,0,O⟩) L cap))):=cy;have c4:=ii.out w6 a2;obtain⟨u4,c4,f4⟩:=c4;clear dx cy a1 a2)
 go_loopw [12] (fun v wr=>∃(m:Int) (us:List Tree),0<=m/\m<=want/\v=J Jq m/\Hid (vF w k b.w b.h (Jj ad L cap0) g L cap fp rs (c+1) (List.range (c+1)).reverse (want-m) (got-m) wr us)) (fun v _=>(want-intOf v).toNat)
 case atStart=>exact⟨0,ts,Int.le_refl _,by omega,rfl,by rw[Int.sub_zero,Int.sub_zero];exact⟨HG.out,re.out,np.out⟩⟩
 case round=>
  obtain⟨m,us,UM,ef,rfl,HN⟩:=hrel
  clear c4 f4 re np HG
  have j2:=HN.out.kids.len
  obtain⟨fpn,aE,_⟩:=HN.out.kids.node k b.w b.h 0
  have pS:=Ib k b.w b.h 0 us c _ fpn wr aE (FQ HN.out).qm (by rw[j2];exact hl) (by rw[j2];omega)
  have bO:=HN.out.mid
  have n0:wr.cell? ⟨w.heap.size+1+1,0,O⟩=I (J Jq k):=ae bO.new 0
  have n1:wr.cell? ⟨w.heap.size+1+1,1,O⟩=I (J Jq b.w):=ae bO.new 1
  have n2:wr.cell? ⟨w.heap.size+1+1,2,O⟩=I (J Jq b.h):=ae bO.new 2
  have n3:wr.cell? ⟨w.heap.size+1+1,3,O⟩=I (J Jq 0):=ae bO.new 3
  have n4:wr.cell? ⟨w.heap.size+1+1,4,O⟩=I (Jj (I ⟨g,0,O⟩) L cap):=ae bO.new 4
  clear bO aE
  by_cases am:m < want
  . rcases BB eO HN.out (by omega) with ⟨gw,lP,jx⟩ | ⟨j,d,r,got1,gw,L0,hd,VI,Fi,rR,⟨nn,sa,sn,sc,hC,hR⟩,hS⟩
    . rw[gw] at pS
      have C2:=zh pS
      have Pf:got=m:=by omega
      subst Pf
      have ze:=zh lP
      clear pS gw lP jx j2
      have hwm:IntKind.i64.wrap (-got)= -got:=by rw[IntKind.wrap_i64];omega
      go_wp2_with fail
      refine C2.out.mono ?_
      rintro e w1 ⟨rfl,bj⟩
      have ia:=HN.out.kids.below bj
      rw[ze.out] at ia
      have bO:=HN.out.mid.below' bj
      clear n0 n1 n2 n3 n4 HN C2 bj
      have HF:Hid (∀v0 v1 v2 v3 v4,yQ b k rs (-got) fp w (Jz (.tuple #[.agg #[J Jq k,J Jq b.w,J Jq b.h,J Jq 0,Jj (I ⟨g,0,O⟩) L cap],J Jq (-got)])) (fB w1 (w.heap.size+1) v0 v1 v2 v3 v4)):=fun v0 v1 v2 v3 v4=>ny (-got) ia bO eO gR.out v0 v1 v2 v3 v4
      have n0:w1.cell? ⟨w.heap.size+1+1,0,O⟩=I (J Jq k):=ae bO.new 0
      have n1:w1.cell? ⟨w.heap.size+1+1,1,O⟩=I (J Jq b.w):=ae bO.new 1
      have n2:w1.cell? ⟨w.heap.size+1+1,2,O⟩=I (J Jq b.h):=ae bO.new 2
      have n3:w1.cell? ⟨w.heap.size+1+1,3,O⟩=I (J Jq 0):=ae bO.new 3
      have n4:w1.cell? ⟨w.heap.size+1+1,4,O⟩=I (Jj (I ⟨g,0,O⟩) L cap):=ae bO.new 4
      have r0:w1.cell? ⟨w.heap.size+1,0,O⟩=I (J Jq 0):=ae bO.res 0
      have r1:w1.cell? ⟨w.heap.size+1,1,O⟩=I (J Jq 0):=ae bO.res 1
      have r2:w1.cell? ⟨w.heap.size+1,2,O⟩=I (J Jq 0):=ae bO.res 2
      have r3:w1.cell? ⟨w.heap.size+1,3,O⟩=I (J Jq 0):=ae bO.res 3
      have r4:w1.cell? ⟨w.heap.size+1,4,O⟩=I (Jj O 0 0):=ae bO.res 4
      have f0:=ai bO.res 0
      have f1:=ai bO.res 1
      have f2:=ai bO.res 2
      have f3:=ai bO.res 3
      have f4:=ai bO.res 4
      clear ia bO
      go_wp2
      exact bodyPost_ret (v:=.tuple #[.agg #[J Jq k,J Jq b.w,J Jq b.h,J Jq 0,Jj (I ⟨g,0,O⟩) L cap],J Jq (-got)]) (by simp[results,results86,go_sem,r0,r1,r2,r3,r4]) rfl (HF.out _ _ _ _ _)
    . rw[gw] at pS
      have C2:=zh pS
      have HC:=zh hC
      have HR:=zh hR
      have HS:=zh hS
      have HD:=zh hd
      have RL:=zh rR
      have kr:IntKind.i64.wrap (want-m)=want-m:=by rw[IntKind.wrap_i64];omega
      have rj:IntKind.i64.wrap (-d)= -d:=by rw[IntKind.wrap_i64];omega
      have FS:IntKind.i64.wrap (m+d)=m+d:=by rw[IntKind.wrap_i64];omega
      have hdm:d<=want-m:=by omega
      unfold aC at HR
      clear pS gw j2 hC hR hS hd rR HN
      go_wp2_with fail
      refine C2.out.mono ?_
      rintro e w1 ⟨rfl,bj⟩
      have cY:=zh bj
      obtain⟨fz,⟨q0,q1,q2,q3,q4⟩,b4,p0⟩:=HC.out w1 bj
      clear n0 n1 n2 n3 n4 C2 bj
      go_upto_region 13 with fail
      go_cut [14] (fun v wx=>v=J Jq d/\Hid (Below wr.heap.size wr wx))
      case first=>
       go_region_with (go_at_call 60;refine (HR.out _ (by first | exact cY.out | exact cY.out.drew)).mono ?_;rintro e w2 ⟨rfl,al⟩)
       all_goals (
        have aD:=zh al
        clear al
        go_wp2_with fail
        go_meet
        exact⟨by rw[HD.out],aD⟩)
      case rest=>
       obtain⟨rfl,e8⟩:=hcut
       clear fz q0 q1 q2 q3 q4 b4 p0 HC HR cY HD nn sa sn sc
       obtain⟨nn,sa,sn,sc,hC,u7⟩:=HS.out wc e8.out
       have HC:=zh hC
       have j6:=zh u7
       unfold aC at j6
       obtain⟨fz,⟨q0,q1,q2,q3,q4⟩,b4,p0⟩:=hC wc (Below.refl _ _)
       clear hC u7 HS e8
       go_upto_region 14 with fail
       go_cut [14] (fun v wx=>v=J Jq d/\Hid ((PD w k g L cap (c+1) d fun W=>∃us2,vF w k b.w b.h (Jj ad L cap0) g L cap fp rs (c+1) (List.range (c+1)).reverse (want-m-d) got1 W us2) wx))
       case first=>
        go_region_with (go_at_call 63;refine (j6.out _ (by first | exact Below.refl _ _ | exact (Below.refl _ _).drew)).mono ?_;rintro e w2 ⟨nr,ta,tn,tc,rfl,al,dt⟩;obtain⟨fz2,⟨s0,s1,s2,s3,s4⟩,b42,p02⟩:=HC.out w2 al)
        all_goals (
         have lr:=zh dt
         clear dt al fz2 s0 s1 s2 s3 s4 b42 p02 q0 q1 q2 q3 q4 fz b4 p0 HC j6
         go_wp2_with fail
         go_meet
         exact⟨rfl,lr⟩)
       case rest=>
        obtain⟨rfl,Ui⟩:=hcut
        clear fz q0 q1 q2 q3 q4 b4 p0 HC j6 nn sa sn sc
        obtain⟨nn,sa,sn,sc,hC,u7⟩:=Ui.out
        have HC:=zh hC
        have j6:=zh u7
        unfold aC at j6
        obtain⟨fz,⟨q0,q1,q2,q3,q4⟩,b4,p0⟩:=hC wc (Below.refl _ _)
        clear hC u7 Ui
        go_upto_region 15 with fail
        go_cut [14] (fun v wx=>v=J Jq d/\∃us2,Hid (vF w k b.w b.h (Jj ad L cap0) g L cap fp rs (c+1) (List.range (c+1)).reverse (want-m-d) got1 wx us2))
        case first=>
         go_region_with (go_at_call 63;refine (j6.out _ (by first | exact Below.refl _ _ | exact (Below.refl _ _).drew)).mono ?_;rintro e w2 ⟨nr,ta,tn,tc,rfl,al,us2,dt⟩;obtain⟨fz2,⟨s0,s1,s2,s3,s4⟩,b42,p02⟩:=HC.out w2 al)
         all_goals (
          have lr:=zh dt
          clear dt al fz2 s0 s1 s2 s3 s4 b42 p02 q0 q1 q2 q3 q4 fz b4 p0 HC j6
          go_wp2_with fail
          go_meet
          exact⟨rfl,us2,lr⟩)
        case rest=>
         obtain⟨rfl,us2,ij⟩:=hcut
         clear fz q0 q1 q2 q3 q4 b4 p0 HC j6
         have tM:Hid (vF w k b.w b.h (Jj ad L cap0) g L cap fp rs (c+1) (List.range (c+1)).reverse (want-(m+d)) (got-(m+d)) wc us2):=by
          have h:=ij.out
          have h9:=RL.out
          rw[show want-(m+d)=want-m-d by omega,show got-(m+d)=got1 by omega]
          exact h
         clear ij
         go_wp2
         go_roundw
         case rel=>exact⟨m+d,us2,by omega,by omega,by go_num,tM⟩
         case measure=>simp[intOf];omega
  . obtain⟨lP,jx⟩:=FP HN.out (by omega)
    have Pf:got=m:=by omega
    subst Pf
    have ia:=HN.out.kids
    rw[lP] at ia
    have bO:=HN.out.mid
    clear n0 n1 n2 n3 n4 HN pS lP jx j2
    have hwm:IntKind.i64.wrap (-got)= -got:=by rw[IntKind.wrap_i64];omega
    have HF:Hid (∀v0 v1 v2 v3 v4,yQ b k rs (-got) fp w (Jz (.tuple #[.agg #[J Jq k,J Jq b.w,J Jq b.h,J Jq 0,Jj (I ⟨g,0,O⟩) L cap],J Jq (-got)])) (fB wr (w.heap.size+1) v0 v1 v2 v3 v4)):=fun v0 v1 v2 v3 v4=>ny (-got) ia bO eO gR.out v0 v1 v2 v3 v4
    have n0:wr.cell? ⟨w.heap.size+1+1,0,O⟩=I (J Jq k):=ae bO.new 0
    have n1:wr.cell? ⟨w.heap.size+1+1,1,O⟩=I (J Jq b.w):=ae bO.new 1
    have n2:wr.cell? ⟨w.heap.size+1+1,2,O⟩=I (J Jq b.h):=ae bO.new 2
    have n3:wr.cell? ⟨w.heap.size+1+1,3,O⟩=I (J Jq 0):=ae bO.new 3
    have n4:wr.cell? ⟨w.heap.size+1+1,4,O⟩=I (Jj (I ⟨g,0,O⟩) L cap):=ae bO.new 4
    have r0:wr.cell? ⟨w.heap.size+1,0,O⟩=I (J Jq 0):=ae bO.res 0
    have r1:wr.cell? ⟨w.heap.size+1,1,O⟩=I (J Jq 0):=ae bO.res 1
    have r2:wr.cell? ⟨w.heap.size+1,2,O⟩=I (J Jq 0):=ae bO.res 2
    have r3:wr.cell? ⟨w.heap.size+1,3,O⟩=I (J Jq 0):=ae bO.res 3
    have r4:wr.cell? ⟨w.heap.size+1,4,O⟩=I (Jj O 0 0):=ae bO.res 4
    have f0:=ai bO.res 0
    have f1:=ai bO.res 1
    have f2:=ai bO.res 2
    have f3:=ai bO.res 3
    have f4:=ai bO.res 4
    clear ia bO
    go_wp2
    exact bodyPost_ret (v:=.tuple #[.agg #[J Jq k,J Jq b.w,J Jq b.h,J Jq 0,Jj (I ⟨g,0,O⟩) L cap],J Jq (-got)]) (by simp[results,results86,go_sem,r0,r1,r2,r3,r4]) rfl (HF.out _ _ _ _ _)
theorem xB (b:Box)(k:Int)(ts rs:List Tree)(c:Nat)(m got:Int)(sl:Value)(fp:List Nat)(w:World)(hM:BX k ts m rs c got)(h2:2<=ts.length)(hl:ts.length<=900)(hc:c+1 < ts.length)(ab:(ag (.split b k ts)).In w sl fp):
 Calls prog 86 #[.agg (aC (ag (.split b k ts)) sl),J Jq c,J Jq m] w (yQ b k rs (jv m got) fp w):=by
 obtain⟨m1,m2,m3,m4⟩:=hM
 unfold jv
 by_cases h:0<=m
 . rw[if_pos h]
   exact LG b k ts rs c m got sl fp w ⟨h,m2⟩ h2 hl hc (m3 h) ab
 . rw[if_neg h]
   have:=FK b k ts rs c (-m) got sl fp w ⟨by omega,by omega⟩ h2 hl hc (m4 (by omega)) ab
   rwa [Int.neg_neg] at this
theorem CG (n k q:Int)(b:Box)(k':Int)(ts:List Tree)(i:Nat)(s s':Tree)(mv:Int)(hi:ts[i]?=I s)(hpre:∀(a:Nat) u,a < i->ts[a]?=I u->q ∉ u.idl)(hq:q∈s.idl)(hs:(Tree.split b k' ts).sound=true)(hk:(Tree.split b k' ts).kinds)(hz:(Tree.split b k' ts).size<=900)(IH:lm false n k q s s' mv false)(l8:k'=k)(rs:List Tree)(c:Nat)(m got:Int)(hc:c=min i (ts.length-2))(hM:BX k' ts m rs c got)(hm:n=m):lm false n k q (.split b k' ts) (.split b k' rs) (jv m got) true:=by
 intro sl fp w ab
 unfold Tree.sound at hs
 simp only[Bool.and_eq_true,decide_eq_true_eq] at hs
 change 1+sizes ts<=900 at hz
 have h2:=hs.1.1
 have gd:=aI ts
 have fo:=ab
 change (Node.mk k' b.w b.h 0 (nodesOf ts)).In w sl fp at ab
 obtain⟨g,cap0,av,hg,io⟩:=ab.kids (by intro e;have:=congrArg List.length e;rw[ax] at this;simp at this;rw[this] at h2;simp at h2)
 rw[ax] at av
 obtain⟨L,hL⟩:∃L,ts.length=L:=⟨_,rfl⟩
 rw[hL] at av h2 gd
 subst av
 have vQ:i < L:=by rw[<- hL];exact (List.getElem?_eq_some_iff.1 hi).1
 have De:L<=900:=by omega
 have gR:=zh ab.lt
 obtain⟨W,hW⟩:∃W,(w.alloc (JZ #[J Jq k',J Jq b.w,J Jq b.h,J Jq 0,Jj (I ⟨g,0,O⟩) L cap0] 53)).alloc (.cells aU 53)=W:=⟨_,rfl⟩
 have ap:Below w.heap.size w W:=by rw[<- hW];exact ((Below.refl _ _).alloc (Nat.le_refl _) _).alloc (by simp) _
 have fi:W.heap.size=w.heap.size+2:=by rw[<- hW];simp
 have hP:W.heap[w.heap.size]?=I (JZ #[J Jq k',J Jq b.w,J Jq b.h,J Jq 0,Jj (I ⟨g,0,O⟩) L cap0] 53 (0,0)):=by
  rw[<- hW]
  exact (Below.heap_alloc _ _ _ (by simp)).trans (heap_alloc_new _ _)
 have hR:W.heap[w.heap.size+1]?=I (.cells aU 53 (0,0)):=by
  rw[<- hW]
  have h:=heap_alloc_new (w.alloc (JZ #[J Jq k',J Jq b.w,J Jq b.h,J Jq 0,Jj (I ⟨g,0,O⟩) L cap0] 53)) (.cells aU 53)
  rw[show (w.alloc (JZ #[J Jq k',J Jq b.w,J Jq b.h,J Jq 0,Jj (I ⟨g,0,O⟩) L cap0] 53)).heap.size=w.heap.size+1 by simp] at h
  exact h
 have cV:Hid (∀X,Below W.heap.size W X->X.heap[w.heap.size]?=I (JZ #[J Jq k',J Jq b.w,J Jq b.h,J Jq 0,Jj (I ⟨g,0,O⟩) L cap0] 53 (0,0))):=fun X hX=>(hX.block _ (by omega)).trans hP
 have ew:Hid (∀X,Below W.heap.size W X->X.heap[w.heap.size+1]?=I (.cells aU 53 (0,0))):=fun X hX=>(hX.block _ (by omega)).trans hR
 have ml:Hid (∀(j:Nat) t,ts[j]?=I t->∃sa sn sc f,(∀q∈f,q∈fp)/\∀X,Below W.heap.size W X->(ag t).In X (Jj sa sn sc) f/\kG X g (j*5) (ag t) (Jj sa sn sc)):=fun j t ht=>rO (ab.below ap) hL j t ht
 have bL:Hid (∀(j:Nat) t,ts[j]?=I t->(ag t).ids=t.idl/\t.idl.length<=1000/\t.idl≠[]/\(ag t).cnt<=1000):=fun j t ht=>by
  have ar:=aO ts b k' j t ht hs.2.1
  simp only[Bool.and_eq_true,decide_eq_true_eq] at ar
  have eB:=bF ts j t ht hk.2
  have cg:=bI ts j t ht
  have h1:=oO t eB
  have h3:=nI (ag t)
  rw[kC] at h3
  exact⟨h1,by rw[<- h1];omega,by rw[<- h1];exact uK t eB ar.1,by rw[kC];omega⟩
 have en:Hid (∀X,Below w.heap.size w X->(ag (.split b k' ts)).In X (Jj (I ⟨g,0,O⟩) L cap0) fp):=fun X hX=>fo.below hX
 have bR:=zh ap
 have pm:=zh fi
 have HW:=zh hW
 have HL:=zh hL
 have mo:=zh hpre
 have HQ:=zh hq
 have HI:=zh hi
 have eJ:=zh IH
 have tf:min (i:Int) ((L:Int)-2)=(c:Int):=by rw[hc,<- hL];omega
 have YC:c+1 < L:=by rw[hc,<- hL];omega
 have rj:IntKind.i64.wrap ((L:Int)-2)=(L:Int)-2:=by rw[IntKind.wrap_i64];omega
 have iN:(k' != k)=false:=by simpa using l8
 obtain⟨nb,ft⟩:∃x,ag (.split b k' rs)=x:=⟨_,rfl⟩
 have A9:=zh ft
 obtain⟨mm,ir⟩:∃x,jv m got=x:=⟨_,rfl⟩
 have GO:Hid (∀X,Below W.heap.size W X->Calls prog 86 #[.agg #[J Jq k',J Jq b.w,J Jq b.h,J Jq 0,Jj (I ⟨g,0,O⟩) L cap0],J Jq c,J Jq m] X fun e w'=>∃ta tn tc fk,e=Jz (.tuple #[.agg #[J Jq nb.k,J Jq nb.w,J Jq nb.h,J Jq nb.i,Jj ta tn tc],J Jq mm])/\(ag (.split b k' rs)).In w' (Jj ta tn tc) fk/\(∀x∈fk,x∈fp\/W.heap.size<=x)/\Below W.heap.size W w'):=fun X hX=>by
  refine (xB b k' ts rs c m got _ fp X hM (by omega) (by omega) (by omega) (en.out X (af bR.out hX))).mono ?_
  rintro e w' ⟨ta,tn,tc,fk,rfl,h1,h3,h4⟩
  refine⟨ta,tn,tc,fk,by rw[ft,ir];rfl,h1,fun x hx=> ?_,af hX h4⟩
  rcases h3 x hx with h5 | h5
  . exact .inl h5
  . exact .inr (Nat.le_trans hX.size h5)
 rw[ir]
 subst hm
 unfold aU at HW
 show Calls prog 65 #[.agg #[J Jq k',J Jq b.w,J Jq b.h,J Jq 0,Jj (I ⟨g,0,O⟩) L cap0],J Jq q,J Jq k,J Jq n,.bool false] w _
 clear io ab fo ap fi hP hR hW hs hk hz gd hL hpre hq hi IH l8 hM hc ft ir
 go_enter func65,ntmps65
 go_upto_region 1 with fail
 rw[HW.out]
 go_wp2
 go_loopw [3,13] (fun u v wr=>u=J Jq n/\∃j:Nat,j<=i/\v=J Jq j/\Hid (Below W.heap.size W wr)) (fun _ v _=>i-(intOf v).toNat)
 case atStart=>exact⟨rfl,0,Nat.zero_le _,rfl,Below.refl _ _⟩
 case round=>
  obtain⟨rfl,j,hj,rfl,bB⟩:=hrel
  obtain⟨t,ht⟩:∃t,ts[j]?=I t:=⟨_,List.getElem?_eq_getElem (by rw[HL.out];omega)⟩
  obtain⟨sa,sn,sc,f,hf,mq⟩:=ml.out j t ht
  obtain⟨e1,⟨q0,q1,q2,q3,q4⟩⟩:=mq wr bB.out
  obtain⟨i1,i2,i3,i4⟩:=bL.out j t ht
  have L0:j < L:=by omega
  have bv:Hid (Calls prog 54 #[.agg #[J Jq (ag t).k,J Jq (ag t).w,J Jq (ag t).h,J Jq (ag t).i,Jj sa sn sc]] wr fun e w'=>∃u,e=Jz u/\Below W.heap.size W w'/\Calls prog 55 #[u,J Jq q] w' fun e w''=>e=Jz (.bool (decide (q∈t.idl)))/\w'=w''):=by
   refine (dF (ag t) i4 _ f wr e1).mono ?_
   rintro e w' ⟨u,rfl,h1,h2⟩
   rw[i1] at h1
   exact⟨u,rfl,af bB.out h2,iK u t.idl _ q w' h1 i2 i3⟩
  have b4:wr.cell? ⟨w.heap.size,4,O⟩=I (Jj (I ⟨g,0,O⟩) L cap0):=ae (cV.out wr bB.out) 4
  have po:=zh mq
  have HT:=zh ht
  have Hf:=zh hf
  obtain⟨nn,aR⟩:∃x,ag t=x:=⟨_,rfl⟩
  have fq:=zh aR
  rw[aR] at q0 q1 q2 q3 bv
  clear e1 i1 i2 i3 i4 ht hf mq aR
  by_cases am:j < i
  . have HD:Hid (decide (q∈t.idl)=false):=decide_eq_false (mo.out j t am HT.out)
    rw[HD.out] at bv
    go_wp2_with fail
    refine bv.out.mono ?_
    rintro e w2 ⟨u,rfl,al,hh⟩
    have HH:=zh hh
    have aD:=zh al
    clear al hh bv q0 q1 q2 q3 q4 b4
    go_wp2_with fail
    refine HH.out.mono ?_
    rintro e w3 ⟨rfl,rfl⟩
    go_wp2
    go_roundw
    case rel=>exact⟨rfl,j+1,by omega,by go_num,aD⟩
    case measure=>simp[intOf];omega
  . have dl:j=i:=by omega
    subst dl
    have gn:t=s:=by
     have h1:=HT.out
     rw[HI.out] at h1
     exact (Option.some.inj h1).symm
    subst gn
    have HD:=zh (decide_eq_true HQ.out)
    rw[HD.out] at bv
    obtain⟨nt,lz⟩:∃x,ag s'=x:=⟨_,rfl⟩
    have ti:=zh lz
    have ec:Hid (∀X,Below W.heap.size W X->Calls prog 65 #[.agg #[J Jq nn.k,J Jq nn.w,J Jq nn.h,J Jq nn.i,Jj sa sn sc],J Jq q,J Jq k,J Jq n,.bool false] X fun e w'=>∃ta tn tc fk,e=Jz (.tuple #[.agg #[J Jq nt.k,J Jq nt.w,J Jq nt.h,J Jq nt.i,Jj ta tn tc],J Jq mv,.bool false])/\(ag s').In w' (Jj ta tn tc) fk/\(∀x∈fk,x∈fp\/W.heap.size<=x)/\Below W.heap.size W w'):=fun X hX=>by
     have h:=eJ.out _ f X (po.out X hX).1
     rw[fq.out] at h
     refine Calls.mono h ?_
     rintro e w' ⟨ta,tn,tc,fk,rfl,h1,h2,h3⟩
     refine⟨ta,tn,tc,fk,by rw[ti.out];rfl,h1,fun x hx=> ?_,af hX h3⟩
     rcases h2 x hx with h4 | h4
     . exact .inl (Hf.out x h4)
     . exact .inr (Nat.le_trans hX.size h4)
    go_wp2_with fail
    refine bv.out.mono ?_
    rintro e w2 ⟨u,rfl,al,hh⟩
    have HH:=zh hh
    have aD:=zh al
    clear al hh bv q0 q1 q2 q3 q4 b4 lz
    obtain⟨_,⟨q0,q1,q2,q3,q4⟩⟩:=po.out w2 aD.out
    rw[fq.out] at q0 q1 q2 q3
    have b4:w2.cell? ⟨w.heap.size,4,O⟩=I (Jj (I ⟨g,0,O⟩) L cap0):=ae (cV.out w2 aD.out) 4
    go_wp2_with fail
    refine HH.out.mono ?_
    rintro e w3 ⟨rfl,rfl⟩
    go_wp2_with fail
    refine (ec.out w2 aD.out).mono ?_
    rintro e w3 ⟨ta,tn,tc,fk,rfl,wq,rK,aM⟩
    have Sx:=zh wq
    have Rm:=zh rK
    have cQ:=zh aM
    clear wq rK aM HH ec aD q0 q1 q2 q3 q4 b4
    obtain⟨Z,hZ⟩:∃x,w3.alloc (JZ #[J Jq nt.k,J Jq nt.w,J Jq nt.h,J Jq nt.i,Jj ta tn tc] 53)=x:=⟨_,rfl⟩
    have HZ:=zh hZ
    have eK:Below w3.heap.size w3 Z:=by rw[<- hZ];exact (Below.refl _ _).alloc (Nat.le_refl _) _
    have GP:Z.heap[w3.heap.size]?=I (JZ #[J Jq nt.k,J Jq nt.w,J Jq nt.h,J Jq nt.i,Jj ta tn tc] 53 (0,0)):=by rw[<- hZ];exact heap_alloc_new _ _
    have eC:=zh (af cQ.out eK)
    have b0:Z.cell? ⟨w.heap.size,0,O⟩=I (J Jq k'):=ae (cV.out Z eC.out) 0
    have b1:Z.cell? ⟨w.heap.size,1,O⟩=I (J Jq b.w):=ae (cV.out Z eC.out) 1
    have b2:Z.cell? ⟨w.heap.size,2,O⟩=I (J Jq b.h):=ae (cV.out Z eC.out) 2
    have b3:Z.cell? ⟨w.heap.size,3,O⟩=I (J Jq 0):=ae (cV.out Z eC.out) 3
    have b4:Z.cell? ⟨w.heap.size,4,O⟩=I (Jj (I ⟨g,0,O⟩) L cap0):=ae (cV.out Z eC.out) 4
    clear hZ eK GP
    go_upto_region 6 with fail
    rw[HZ.out]
    go_wp2_with fail
    refine (GO.out Z eC.out).mono ?_
    rintro e w5 ⟨ua,un,uc,fm,rfl,Kn,Kp,cd⟩
    have Sy:=zh Kn
    have Sz:=zh Kp
    have fY:=zh cd
    clear Kn Kp cd b0 b1 b2 b3 b4
    obtain⟨Y,hY⟩:∃x,w5.alloc (JZ #[J Jq nb.k,J Jq nb.w,J Jq nb.h,J Jq nb.i,Jj ua un uc] 53)=x:=⟨_,rfl⟩
    have HY:=zh hY
    have b7:Below w5.heap.size w5 Y:=by rw[<- hY];exact (Below.refl _ _).alloc (Nat.le_refl _) _
    have mz:Y.heap[w5.heap.size]?=I (JZ #[J Jq nb.k,J Jq nb.w,J Jq nb.h,J Jq nb.i,Jj ua un uc] 53 (0,0)):=by rw[<- hY];exact heap_alloc_new _ _
    have eS:=zh (af fY.out b7)
    have HF:Hid (∀v0 v1 v2 v3 v4,PuA (.split b k' rs) mm true fp w (Jz (.tuple #[.agg #[J Jq nb.k,J Jq nb.w,J Jq nb.h,J Jq nb.i,Jj ua un uc],J Jq mm,.bool true])) (fB Y (w.heap.size+1) v0 v1 v2 v3 v4)):=fun v0 v1 v2 v3 v4=>Aj A9.out (Sy.out.below b7) (fun q hq=>by
     rcases Sz.out q hq with h | h
     . exact .inl h
     . exact .inr (by have:=pm.out;omega)) gR.out (af bR.out eS.out) v0 v1 v2 v3 v4
    have m0:=ae mz 0
    have m1:=ae mz 1
    have m2:=ae mz 2
    have m3:=ae mz 3
    have m4:=ae mz 4
    have r0:Y.cell? ⟨w.heap.size+1,0,O⟩=I (J Jq 0):=ae (ew.out Y eS.out) 0
    have f0:=ai (ew.out Y eS.out) 0
    have r1:Y.cell? ⟨w.heap.size+1,1,O⟩=I (J Jq 0):=ae (ew.out Y eS.out) 1
    have f1:=ai (ew.out Y eS.out) 1
    have r2:Y.cell? ⟨w.heap.size+1,2,O⟩=I (J Jq 0):=ae (ew.out Y eS.out) 2
    have f2:=ai (ew.out Y eS.out) 2
    have r3:Y.cell? ⟨w.heap.size+1,3,O⟩=I (J Jq 0):=ae (ew.out Y eS.out) 3
    have f3:=ai (ew.out Y eS.out) 3
    have r4:Y.cell? ⟨w.heap.size+1,4,O⟩=I (Jj O 0 0):=ae (ew.out Y eS.out) 4
    have f4:=ai (ew.out Y eS.out) 4
    clear hY b7 mz
    go_upto_region 19 with fail
    rw[HY.out]
    go_wp2
    exact bodyPost_ret (v:=.tuple #[.agg #[J Jq nb.k,J Jq nb.w,J Jq nb.h,J Jq nb.i,Jj ua un uc],J Jq mm,.bool true]) (by simp[results,results65,go_sem,r0,r1,r2,r3,r4]) rfl (HF.out _ _ _ _ _)
theorem CJ (n k q:Int)(b:Box)(k':Int)(ts:List Tree)(i:Nat)(s s':Tree)(mv:Int)(hi:ts[i]?=I s)(hpre:∀(a:Nat) u,a < i->ts[a]?=I u->q ∉ u.idl)(hq:q∈s.idl)(hs:(Tree.split b k' ts).sound=true)(hk:(Tree.split b k' ts).kinds)(hz:(Tree.split b k' ts).size<=900)(IH:lm true n k q s s' mv false)(l8:k'=k)(rs:List Tree)(c:Nat)(m got:Int)(hc:c=min i (ts.length-2))(hM:BX k' ts m rs c got)(hm:n-s.box.ext k=m)(V4:1<=n/\n<=1000)(Rl:c=i):lm true n k q (.split b k' ts) (.split b k' rs) (jv m got) true:=by
 intro sl fp w ab
 unfold Tree.sound at hs
 simp only[Bool.and_eq_true,decide_eq_true_eq] at hs
 change 1+sizes ts<=900 at hz
 have h2:=hs.1.1
 have gd:=aI ts
 have fo:=ab
 change (Node.mk k' b.w b.h 0 (nodesOf ts)).In w sl fp at ab
 obtain⟨g,cap0,av,hg,io⟩:=ab.kids (by intro e;have:=congrArg List.length e;rw[ax] at this;simp at this;rw[this] at h2;simp at h2)
 rw[ax] at av
 obtain⟨L,hL⟩:∃L,ts.length=L:=⟨_,rfl⟩
 rw[hL] at av h2 gd
 subst av
 have vQ:i < L:=by rw[<- hL];exact (List.getElem?_eq_some_iff.1 hi).1
 have De:L<=900:=by omega
 have gR:=zh ab.lt
 obtain⟨W,hW⟩:∃W,(w.alloc (JZ #[J Jq k',J Jq b.w,J Jq b.h,J Jq 0,Jj (I ⟨g,0,O⟩) L cap0] 53)).alloc (.cells aU 53)=W:=⟨_,rfl⟩
 have ap:Below w.heap.size w W:=by rw[<- hW];exact ((Below.refl _ _).alloc (Nat.le_refl _) _).alloc (by simp) _
 have fi:W.heap.size=w.heap.size+2:=by rw[<- hW];simp
 have hP:W.heap[w.heap.size]?=I (JZ #[J Jq k',J Jq b.w,J Jq b.h,J Jq 0,Jj (I ⟨g,0,O⟩) L cap0] 53 (0,0)):=by
  rw[<- hW]
  exact (Below.heap_alloc _ _ _ (by simp)).trans (heap_alloc_new _ _)
 have hR:W.heap[w.heap.size+1]?=I (.cells aU 53 (0,0)):=by
  rw[<- hW]
  have h:=heap_alloc_new (w.alloc (JZ #[J Jq k',J Jq b.w,J Jq b.h,J Jq 0,Jj (I ⟨g,0,O⟩) L cap0] 53)) (.cells aU 53)
  rw[show (w.alloc (JZ #[J Jq k',J Jq b.w,J Jq b.h,J Jq 0,Jj (I ⟨g,0,O⟩) L cap0] 53)).heap.size=w.heap.size+1 by simp] at h
  exact h
 have cV:Hid (∀X,Below W.heap.size W X->X.heap[w.heap.size]?=I (JZ #[J Jq k',J Jq b.w,J Jq b.h,J Jq 0,Jj (I ⟨g,0,O⟩) L cap0] 53 (0,0))):=fun X hX=>(hX.block _ (by omega)).trans hP
 have ew:Hid (∀X,Below W.heap.size W X->X.heap[w.heap.size+1]?=I (.cells aU 53 (0,0))):=fun X hX=>(hX.block _ (by omega)).trans hR
 have ml:Hid (∀(j:Nat) t,ts[j]?=I t->∃sa sn sc f,(∀q∈f,q∈fp)/\∀X,Below W.heap.size W X->(ag t).In X (Jj sa sn sc) f/\kG X g (j*5) (ag t) (Jj sa sn sc)):=fun j t ht=>rO (ab.below ap) hL j t ht
 have bL:Hid (∀(j:Nat) t,ts[j]?=I t->(ag t).ids=t.idl/\t.idl.length<=1000/\t.idl≠[]/\(ag t).cnt<=1000):=fun j t ht=>by
  have ar:=aO ts b k' j t ht hs.2.1
  simp only[Bool.and_eq_true,decide_eq_true_eq] at ar
  have eB:=bF ts j t ht hk.2
  have cg:=bI ts j t ht
  have h1:=oO t eB
  have h3:=nI (ag t)
  rw[kC] at h3
  exact⟨h1,by rw[<- h1];omega,by rw[<- h1];exact uK t eB ar.1,by rw[kC];omega⟩
 have en:Hid (∀X,Below w.heap.size w X->(ag (.split b k' ts)).In X (Jj (I ⟨g,0,O⟩) L cap0) fp):=fun X hX=>fo.below hX
 have bR:=zh ap
 have pm:=zh fi
 have HW:=zh hW
 have HL:=zh hL
 have mo:=zh hpre
 have HQ:=zh hq
 have HI:=zh hi
 have eJ:=zh IH
 have tf:min (i:Int) ((L:Int)-2)=(c:Int):=by rw[hc,<- hL];omega
 have YC:c+1 < L:=by rw[hc,<- hL];omega
 have rj:IntKind.i64.wrap ((L:Int)-2)=(L:Int)-2:=by rw[IntKind.wrap_i64];omega
 have iN:(k' != k)=false:=by simpa using l8
 obtain⟨nb,ft⟩:∃x,ag (.split b k' rs)=x:=⟨_,rfl⟩
 have A9:=zh ft
 obtain⟨mm,ir⟩:∃x,jv m got=x:=⟨_,rfl⟩
 have GO:Hid (∀X,Below W.heap.size W X->Calls prog 86 #[.agg #[J Jq k',J Jq b.w,J Jq b.h,J Jq 0,Jj (I ⟨g,0,O⟩) L cap0],J Jq c,J Jq m] X fun e w'=>∃ta tn tc fk,e=Jz (.tuple #[.agg #[J Jq nb.k,J Jq nb.w,J Jq nb.h,J Jq nb.i,Jj ta tn tc],J Jq mm])/\(ag (.split b k' rs)).In w' (Jj ta tn tc) fk/\(∀x∈fk,x∈fp\/W.heap.size<=x)/\Below W.heap.size W w'):=fun X hX=>by
  refine (xB b k' ts rs c m got _ fp X hM (by omega) (by omega) (by omega) (en.out X (af bR.out hX))).mono ?_
  rintro e w' ⟨ta,tn,tc,fk,rfl,h1,h3,h4⟩
  refine⟨ta,tn,tc,fk,by rw[ft,ir];rfl,h1,fun x hx=> ?_,af hX h4⟩
  rcases h3 x hx with h5 | h5
  . exact .inl h5
  . exact .inr (Nat.le_trans hX.size h5)
 rw[ir]
 obtain⟨E,hE⟩:∃x,s.box.ext k=x:=⟨_,rfl⟩
 have D4:1<=E/\E<=1000:=by
  have ar:=aO ts b k' i s hi hs.2.1
  simp only[Bool.and_eq_true,decide_eq_true_eq] at ar
  have h:=df s.box k (s.aF ar.1)
  rw[hE] at h
  omega
 have HE:Hid ((ag s).ext k=E):=by
  show (ag s).ext k=E
  rw[<- hE]
  unfold Node.ext Box.ext
  rw[bV,bW]
 have FS:IntKind.i64.wrap (n-E)=n-E:=by rw[IntKind.wrap_i64];omega
 rw[hE] at hm
 subst hm
 have V5:((c:Int) != (i:Int))=false:=by
  have:(c:Int)=(i:Int):=by omega
  simpa using this
 unfold aU at HW
 show Calls prog 65 #[.agg #[J Jq k',J Jq b.w,J Jq b.h,J Jq 0,Jj (I ⟨g,0,O⟩) L cap0],J Jq q,J Jq k,J Jq n,.bool true] w _
 clear io ab fo ap fi hP hR hW hs hk hz gd hL hpre hq hi IH l8 hM hc ft ir V4 hE D4 Rl
 go_enter func65,ntmps65
 go_upto_region 1 with fail
 rw[HW.out]
 go_wp2
 go_loopw [3,13] (fun u v wr=>u=J Jq n/\∃j:Nat,j<=i/\v=J Jq j/\Hid (Below W.heap.size W wr)) (fun _ v _=>i-(intOf v).toNat)
 case atStart=>exact⟨rfl,0,Nat.zero_le _,rfl,Below.refl _ _⟩
 case round=>
  obtain⟨rfl,j,hj,rfl,bB⟩:=hrel
  obtain⟨t,ht⟩:∃t,ts[j]?=I t:=⟨_,List.getElem?_eq_getElem (by rw[HL.out];omega)⟩
  obtain⟨sa,sn,sc,f,hf,mq⟩:=ml.out j t ht
  obtain⟨e1,⟨q0,q1,q2,q3,q4⟩⟩:=mq wr bB.out
  obtain⟨i1,i2,i3,i4⟩:=bL.out j t ht
  have L0:j < L:=by omega
  have bv:Hid (Calls prog 54 #[.agg #[J Jq (ag t).k,J Jq (ag t).w,J Jq (ag t).h,J Jq (ag t).i,Jj sa sn sc]] wr fun e w'=>∃u,e=Jz u/\Below W.heap.size W w'/\Calls prog 55 #[u,J Jq q] w' fun e w''=>e=Jz (.bool (decide (q∈t.idl)))/\w'=w''):=by
   refine (dF (ag t) i4 _ f wr e1).mono ?_
   rintro e w' ⟨u,rfl,h1,h2⟩
   rw[i1] at h1
   exact⟨u,rfl,af bB.out h2,iK u t.idl _ q w' h1 i2 i3⟩
  have b4:wr.cell? ⟨w.heap.size,4,O⟩=I (Jj (I ⟨g,0,O⟩) L cap0):=ae (cV.out wr bB.out) 4
  have po:=zh mq
  have HT:=zh ht
  have Hf:=zh hf
  obtain⟨nn,aR⟩:∃x,ag t=x:=⟨_,rfl⟩
  have fq:=zh aR
  rw[aR] at q0 q1 q2 q3 bv
  clear e1 i1 i2 i3 i4 ht hf mq aR
  by_cases am:j < i
  . have HD:Hid (decide (q∈t.idl)=false):=decide_eq_false (mo.out j t am HT.out)
    rw[HD.out] at bv
    go_wp2_with fail
    refine bv.out.mono ?_
    rintro e w2 ⟨u,rfl,al,hh⟩
    have HH:=zh hh
    have aD:=zh al
    clear al hh bv q0 q1 q2 q3 q4 b4
    go_wp2_with fail
    refine HH.out.mono ?_
    rintro e w3 ⟨rfl,rfl⟩
    go_wp2
    go_roundw
    case rel=>exact⟨rfl,j+1,by omega,by go_num,aD⟩
    case measure=>simp[intOf];omega
  . have dl:j=i:=by omega
    subst dl
    have gn:t=s:=by
     have h1:=HT.out
     rw[HI.out] at h1
     exact (Option.some.inj h1).symm
    subst gn
    have HD:=zh (decide_eq_true HQ.out)
    rw[HD.out] at bv
    obtain⟨nt,lz⟩:∃x,ag s'=x:=⟨_,rfl⟩
    have ti:=zh lz
    have ec:Hid (∀X,Below W.heap.size W X->Calls prog 65 #[.agg #[J Jq nn.k,J Jq nn.w,J Jq nn.h,J Jq nn.i,Jj sa sn sc],J Jq q,J Jq k,J Jq n,.bool true] X fun e w'=>∃ta tn tc fk,e=Jz (.tuple #[.agg #[J Jq nt.k,J Jq nt.w,J Jq nt.h,J Jq nt.i,Jj ta tn tc],J Jq mv,.bool false])/\(ag s').In w' (Jj ta tn tc) fk/\(∀x∈fk,x∈fp\/W.heap.size<=x)/\Below W.heap.size W w'):=fun X hX=>by
     have h:=eJ.out _ f X (po.out X hX).1
     rw[fq.out] at h
     refine Calls.mono h ?_
     rintro e w' ⟨ta,tn,tc,fk,rfl,h1,h2,h3⟩
     refine⟨ta,tn,tc,fk,by rw[ti.out];rfl,h1,fun x hx=> ?_,af hX h3⟩
     rcases h2 x hx with h4 | h4
     . exact .inl (Hf.out x h4)
     . exact .inr (Nat.le_trans hX.size h4)
    go_wp2_with fail
    refine bv.out.mono ?_
    rintro e w2 ⟨u,rfl,al,hh⟩
    have HH:=zh hh
    have aD:=zh al
    clear al hh bv q0 q1 q2 q3 q4 b4 lz
    obtain⟨_,⟨q0,q1,q2,q3,q4⟩⟩:=po.out w2 aD.out
    rw[fq.out] at q0 q1 q2 q3
    have b4:w2.cell? ⟨w.heap.size,4,O⟩=I (Jj (I ⟨g,0,O⟩) L cap0):=ae (cV.out w2 aD.out) 4
    go_wp2_with fail
    refine HH.out.mono ?_
    rintro e w3 ⟨rfl,rfl⟩
    go_wp2_with fail
    refine (ec.out w2 aD.out).mono ?_
    rintro e w3 ⟨ta,tn,tc,fk,rfl,wq,rK,aM⟩
    have Sx:=zh wq
    have Rm:=zh rK
    have cQ:=zh aM
    clear wq rK aM HH ec aD q0 q1 q2 q3 q4 b4
    obtain⟨Z,hZ⟩:∃x,w3.alloc (JZ #[J Jq nt.k,J Jq nt.w,J Jq nt.h,J Jq nt.i,Jj ta tn tc] 53)=x:=⟨_,rfl⟩
    have HZ:=zh hZ
    have eK:Below w3.heap.size w3 Z:=by rw[<- hZ];exact (Below.refl _ _).alloc (Nat.le_refl _) _
    have GP:Z.heap[w3.heap.size]?=I (JZ #[J Jq nt.k,J Jq nt.w,J Jq nt.h,J Jq nt.i,Jj ta tn tc] 53 (0,0)):=by rw[<- hZ];exact heap_alloc_new _ _
    have eC:=zh (af cQ.out eK)
    have b0:Z.cell? ⟨w.heap.size,0,O⟩=I (J Jq k'):=ae (cV.out Z eC.out) 0
    have b1:Z.cell? ⟨w.heap.size,1,O⟩=I (J Jq b.w):=ae (cV.out Z eC.out) 1
    have b2:Z.cell? ⟨w.heap.size,2,O⟩=I (J Jq b.h):=ae (cV.out Z eC.out) 2
    have b3:Z.cell? ⟨w.heap.size,3,O⟩=I (J Jq 0):=ae (cV.out Z eC.out) 3
    have b4:Z.cell? ⟨w.heap.size,4,O⟩=I (Jj (I ⟨g,0,O⟩) L cap0):=ae (cV.out Z eC.out) 4
    clear hZ eK GP
    go_upto_region 6 with fail
    rw[HZ.out]
    obtain⟨_,⟨q0,q1,q2,q3,q4⟩⟩:=po.out Z eC.out
    rw[fq.out] at q0 q1 q2 q3
    have ff:Hid (Calls prog 57 #[.agg #[J Jq nn.k,J Jq nn.w,J Jq nn.h,J Jq nn.i,Jj sa sn sc],J Jq k] Z fun e w'=>e=Jz (J Jq E)/\Below Z.heap.size Z w'):=by
     have h:=eQ nn sa sn sc k Z
     rw[show nn.ext k=E by rw[<- fq.out];exact HE.out] at h
     exact h
    go_wp2_with fail
    refine ff.out.mono ?_
    rintro e w4 ⟨rfl,cv⟩
    have kB:=zh (af eC.out cv)
    clear q0 q1 q2 q3 q4 b0 b1 b2 b3 b4 cv ff
    have b0:w4.cell? ⟨w.heap.size,0,O⟩=I (J Jq k'):=ae (cV.out w4 kB.out) 0
    have b1:w4.cell? ⟨w.heap.size,1,O⟩=I (J Jq b.w):=ae (cV.out w4 kB.out) 1
    have b2:w4.cell? ⟨w.heap.size,2,O⟩=I (J Jq b.h):=ae (cV.out w4 kB.out) 2
    have b3:w4.cell? ⟨w.heap.size,3,O⟩=I (J Jq 0):=ae (cV.out w4 kB.out) 3
    have b4:w4.cell? ⟨w.heap.size,4,O⟩=I (Jj (I ⟨g,0,O⟩) L cap0):=ae (cV.out w4 kB.out) 4
    go_wp2_with fail
    refine (GO.out w4 kB.out).mono ?_
    rintro e w5 ⟨ua,un,uc,fm,rfl,Kn,Kp,cd⟩
    have Sy:=zh Kn
    have Sz:=zh Kp
    have fY:=zh cd
    clear Kn Kp cd b0 b1 b2 b3 b4
    obtain⟨Y,hY⟩:∃x,w5.alloc (JZ #[J Jq nb.k,J Jq nb.w,J Jq nb.h,J Jq nb.i,Jj ua un uc] 53)=x:=⟨_,rfl⟩
    have HY:=zh hY
    have b7:Below w5.heap.size w5 Y:=by rw[<- hY];exact (Below.refl _ _).alloc (Nat.le_refl _) _
    have mz:Y.heap[w5.heap.size]?=I (JZ #[J Jq nb.k,J Jq nb.w,J Jq nb.h,J Jq nb.i,Jj ua un uc] 53 (0,0)):=by rw[<- hY];exact heap_alloc_new _ _
    have eS:=zh (af fY.out b7)
    have HF:Hid (∀v0 v1 v2 v3 v4,PuA (.split b k' rs) mm true fp w (Jz (.tuple #[.agg #[J Jq nb.k,J Jq nb.w,J Jq nb.h,J Jq nb.i,Jj ua un uc],J Jq mm,.bool true])) (fB Y (w.heap.size+1) v0 v1 v2 v3 v4)):=fun v0 v1 v2 v3 v4=>Aj A9.out (Sy.out.below b7) (fun q hq=>by
     rcases Sz.out q hq with h | h
     . exact .inl h
     . exact .inr (by have:=pm.out;omega)) gR.out (af bR.out eS.out) v0 v1 v2 v3 v4
    have m0:=ae mz 0
    have m1:=ae mz 1
    have m2:=ae mz 2
    have m3:=ae mz 3
    have m4:=ae mz 4
    have r0:Y.cell? ⟨w.heap.size+1,0,O⟩=I (J Jq 0):=ae (ew.out Y eS.out) 0
    have f0:=ai (ew.out Y eS.out) 0
    have r1:Y.cell? ⟨w.heap.size+1,1,O⟩=I (J Jq 0):=ae (ew.out Y eS.out) 1
    have f1:=ai (ew.out Y eS.out) 1
    have r2:Y.cell? ⟨w.heap.size+1,2,O⟩=I (J Jq 0):=ae (ew.out Y eS.out) 2
    have f2:=ai (ew.out Y eS.out) 2
    have r3:Y.cell? ⟨w.heap.size+1,3,O⟩=I (J Jq 0):=ae (ew.out Y eS.out) 3
    have f3:=ai (ew.out Y eS.out) 3
    have r4:Y.cell? ⟨w.heap.size+1,4,O⟩=I (Jj O 0 0):=ae (ew.out Y eS.out) 4
    have f4:=ai (ew.out Y eS.out) 4
    clear hY b7 mz
    go_upto_region 19 with fail
    rw[HY.out]
    go_wp2
    exact bodyPost_ret (v:=.tuple #[.agg #[J Jq nb.k,J Jq nb.w,J Jq nb.h,J Jq nb.i,Jj ua un uc],J Jq mm,.bool true]) (by simp[results,results65,go_sem,r0,r1,r2,r3,r4]) rfl (HF.out _ _ _ _ _)
theorem BV (n k q:Int)(b:Box)(k':Int)(ts:List Tree)(i:Nat)(s s':Tree)(mv:Int)(hi:ts[i]?=I s)(hpre:∀(a:Nat) u,a < i->ts[a]?=I u->q ∉ u.idl)(hq:q∈s.idl)(hs:(Tree.split b k' ts).sound=true)(hk:(Tree.split b k' ts).kinds)(hz:(Tree.split b k' ts).size<=900)(IH:lm true n k q s s' mv false)(l8:k'=k)(rs:List Tree)(c:Nat)(m got:Int)(hc:c=min i (ts.length-2))(hM:BX k' ts m rs c got)(hm: -(n-s.box.ext k)=m)(V4:1<=n/\n<=1000)(Rl:c≠i):lm true n k q (.split b k' ts) (.split b k' rs) (jv m got) true:=by
 intro sl fp w ab
 unfold Tree.sound at hs
 simp only[Bool.and_eq_true,decide_eq_true_eq] at hs
 change 1+sizes ts<=900 at hz
 have h2:=hs.1.1
 have gd:=aI ts
 have fo:=ab
 change (Node.mk k' b.w b.h 0 (nodesOf ts)).In w sl fp at ab
 obtain⟨g,cap0,av,hg,io⟩:=ab.kids (by intro e;have:=congrArg List.length e;rw[ax] at this;simp at this;rw[this] at h2;simp at h2)
 rw[ax] at av
 obtain⟨L,hL⟩:∃L,ts.length=L:=⟨_,rfl⟩
 rw[hL] at av h2 gd
 subst av
 have vQ:i < L:=by rw[<- hL];exact (List.getElem?_eq_some_iff.1 hi).1
 have De:L<=900:=by omega
 have gR:=zh ab.lt
 obtain⟨W,hW⟩:∃W,(w.alloc (JZ #[J Jq k',J Jq b.w,J Jq b.h,J Jq 0,Jj (I ⟨g,0,O⟩) L cap0] 53)).alloc (.cells aU 53)=W:=⟨_,rfl⟩
 have ap:Below w.heap.size w W:=by rw[<- hW];exact ((Below.refl _ _).alloc (Nat.le_refl _) _).alloc (by simp) _
 have fi:W.heap.size=w.heap.size+2:=by rw[<- hW];simp
 have hP:W.heap[w.heap.size]?=I (JZ #[J Jq k',J Jq b.w,J Jq b.h,J Jq 0,Jj (I ⟨g,0,O⟩) L cap0] 53 (0,0)):=by
  rw[<- hW]
  exact (Below.heap_alloc _ _ _ (by simp)).trans (heap_alloc_new _ _)
 have hR:W.heap[w.heap.size+1]?=I (.cells aU 53 (0,0)):=by
  rw[<- hW]
  have h:=heap_alloc_new (w.alloc (JZ #[J Jq k',J Jq b.w,J Jq b.h,J Jq 0,Jj (I ⟨g,0,O⟩) L cap0] 53)) (.cells aU 53)
  rw[show (w.alloc (JZ #[J Jq k',J Jq b.w,J Jq b.h,J Jq 0,Jj (I ⟨g,0,O⟩) L cap0] 53)).heap.size=w.heap.size+1 by simp] at h
  exact h
 have cV:Hid (∀X,Below W.heap.size W X->X.heap[w.heap.size]?=I (JZ #[J Jq k',J Jq b.w,J Jq b.h,J Jq 0,Jj (I ⟨g,0,O⟩) L cap0] 53 (0,0))):=fun X hX=>(hX.block _ (by omega)).trans hP
 have ew:Hid (∀X,Below W.heap.size W X->X.heap[w.heap.size+1]?=I (.cells aU 53 (0,0))):=fun X hX=>(hX.block _ (by omega)).trans hR
 have ml:Hid (∀(j:Nat) t,ts[j]?=I t->∃sa sn sc f,(∀q∈f,q∈fp)/\∀X,Below W.heap.size W X->(ag t).In X (Jj sa sn sc) f/\kG X g (j*5) (ag t) (Jj sa sn sc)):=fun j t ht=>rO (ab.below ap) hL j t ht
 have bL:Hid (∀(j:Nat) t,ts[j]?=I t->(ag t).ids=t.idl/\t.idl.length<=1000/\t.idl≠[]/\(ag t).cnt<=1000):=fun j t ht=>by
  have ar:=aO ts b k' j t ht hs.2.1
  simp only[Bool.and_eq_true,decide_eq_true_eq] at ar
  have eB:=bF ts j t ht hk.2
  have cg:=bI ts j t ht
  have h1:=oO t eB
  have h3:=nI (ag t)
  rw[kC] at h3
  exact⟨h1,by rw[<- h1];omega,by rw[<- h1];exact uK t eB ar.1,by rw[kC];omega⟩
 have en:Hid (∀X,Below w.heap.size w X->(ag (.split b k' ts)).In X (Jj (I ⟨g,0,O⟩) L cap0) fp):=fun X hX=>fo.below hX
 have bR:=zh ap
 have pm:=zh fi
 have HW:=zh hW
 have HL:=zh hL
 have mo:=zh hpre
 have HQ:=zh hq
 have HI:=zh hi
 have eJ:=zh IH
 have tf:min (i:Int) ((L:Int)-2)=(c:Int):=by rw[hc,<- hL];omega
 have YC:c+1 < L:=by rw[hc,<- hL];omega
 have rj:IntKind.i64.wrap ((L:Int)-2)=(L:Int)-2:=by rw[IntKind.wrap_i64];omega
 have iN:(k' != k)=false:=by simpa using l8
 obtain⟨nb,ft⟩:∃x,ag (.split b k' rs)=x:=⟨_,rfl⟩
 have A9:=zh ft
 obtain⟨mm,ir⟩:∃x,jv m got=x:=⟨_,rfl⟩
 have GO:Hid (∀X,Below W.heap.size W X->Calls prog 86 #[.agg #[J Jq k',J Jq b.w,J Jq b.h,J Jq 0,Jj (I ⟨g,0,O⟩) L cap0],J Jq c,J Jq m] X fun e w'=>∃ta tn tc fk,e=Jz (.tuple #[.agg #[J Jq nb.k,J Jq nb.w,J Jq nb.h,J Jq nb.i,Jj ta tn tc],J Jq mm])/\(ag (.split b k' rs)).In w' (Jj ta tn tc) fk/\(∀x∈fk,x∈fp\/W.heap.size<=x)/\Below W.heap.size W w'):=fun X hX=>by
  refine (xB b k' ts rs c m got _ fp X hM (by omega) (by omega) (by omega) (en.out X (af bR.out hX))).mono ?_
  rintro e w' ⟨ta,tn,tc,fk,rfl,h1,h3,h4⟩
  refine⟨ta,tn,tc,fk,by rw[ft,ir];rfl,h1,fun x hx=> ?_,af hX h4⟩
  rcases h3 x hx with h5 | h5
  . exact .inl h5
  . exact .inr (Nat.le_trans hX.size h5)
 rw[ir]
 obtain⟨E,hE⟩:∃x,s.box.ext k=x:=⟨_,rfl⟩
 have D4:1<=E/\E<=1000:=by
  have ar:=aO ts b k' i s hi hs.2.1
  simp only[Bool.and_eq_true,decide_eq_true_eq] at ar
  have h:=df s.box k (s.aF ar.1)
  rw[hE] at h
  omega
 have HE:Hid ((ag s).ext k=E):=by
  show (ag s).ext k=E
  rw[<- hE]
  unfold Node.ext Box.ext
  rw[bV,bW]
 have FS:IntKind.i64.wrap (n-E)=n-E:=by rw[IntKind.wrap_i64];omega
 rw[hE] at hm
 subst hm
 have V5:((c:Int) != (i:Int))=true:=by
  have:(c:Int)≠(i:Int):=by omega
  simpa using this
 have Yo:IntKind.i64.wrap (-(n-E))= -(n-E):=by rw[IntKind.wrap_i64];omega
 unfold aU at HW
 show Calls prog 65 #[.agg #[J Jq k',J Jq b.w,J Jq b.h,J Jq 0,Jj (I ⟨g,0,O⟩) L cap0],J Jq q,J Jq k,J Jq n,.bool true] w _
 clear io ab fo ap fi hP hR hW hs hk hz gd hL hpre hq hi IH l8 hM hc ft ir V4 hE D4 Rl
 go_enter func65,ntmps65
 go_upto_region 1 with fail
 rw[HW.out]
 go_wp2
 go_loopw [3,13] (fun u v wr=>u=J Jq n/\∃j:Nat,j<=i/\v=J Jq j/\Hid (Below W.heap.size W wr)) (fun _ v _=>i-(intOf v).toNat)
 case atStart=>exact⟨rfl,0,Nat.zero_le _,rfl,Below.refl _ _⟩
 case round=>
  obtain⟨rfl,j,hj,rfl,bB⟩:=hrel
  obtain⟨t,ht⟩:∃t,ts[j]?=I t:=⟨_,List.getElem?_eq_getElem (by rw[HL.out];omega)⟩
  obtain⟨sa,sn,sc,f,hf,mq⟩:=ml.out j t ht
  obtain⟨e1,⟨q0,q1,q2,q3,q4⟩⟩:=mq wr bB.out
  obtain⟨i1,i2,i3,i4⟩:=bL.out j t ht
  have L0:j < L:=by omega
  have bv:Hid (Calls prog 54 #[.agg #[J Jq (ag t).k,J Jq (ag t).w,J Jq (ag t).h,J Jq (ag t).i,Jj sa sn sc]] wr fun e w'=>∃u,e=Jz u/\Below W.heap.size W w'/\Calls prog 55 #[u,J Jq q] w' fun e w''=>e=Jz (.bool (decide (q∈t.idl)))/\w'=w''):=by
   refine (dF (ag t) i4 _ f wr e1).mono ?_
   rintro e w' ⟨u,rfl,h1,h2⟩
   rw[i1] at h1
   exact⟨u,rfl,af bB.out h2,iK u t.idl _ q w' h1 i2 i3⟩
  have b4:wr.cell? ⟨w.heap.size,4,O⟩=I (Jj (I ⟨g,0,O⟩) L cap0):=ae (cV.out wr bB.out) 4
  have po:=zh mq
  have HT:=zh ht
  have Hf:=zh hf
  obtain⟨nn,aR⟩:∃x,ag t=x:=⟨_,rfl⟩
  have fq:=zh aR
  rw[aR] at q0 q1 q2 q3 bv
  clear e1 i1 i2 i3 i4 ht hf mq aR
  by_cases am:j < i
  . have HD:Hid (decide (q∈t.idl)=false):=decide_eq_false (mo.out j t am HT.out)
    rw[HD.out] at bv
    go_wp2_with fail
    refine bv.out.mono ?_
    rintro e w2 ⟨u,rfl,al,hh⟩
    have HH:=zh hh
    have aD:=zh al
    clear al hh bv q0 q1 q2 q3 q4 b4
    go_wp2_with fail
    refine HH.out.mono ?_
    rintro e w3 ⟨rfl,rfl⟩
    go_wp2
    go_roundw
    case rel=>exact⟨rfl,j+1,by omega,by go_num,aD⟩
    case measure=>simp[intOf];omega
  . have dl:j=i:=by omega
    subst dl
    have gn:t=s:=by
     have h1:=HT.out
     rw[HI.out] at h1
     exact (Option.some.inj h1).symm
    subst gn
    have HD:=zh (decide_eq_true HQ.out)
    rw[HD.out] at bv
    obtain⟨nt,lz⟩:∃x,ag s'=x:=⟨_,rfl⟩
    have ti:=zh lz
    have ec:Hid (∀X,Below W.heap.size W X->Calls prog 65 #[.agg #[J Jq nn.k,J Jq nn.w,J Jq nn.h,J Jq nn.i,Jj sa sn sc],J Jq q,J Jq k,J Jq n,.bool true] X fun e w'=>∃ta tn tc fk,e=Jz (.tuple #[.agg #[J Jq nt.k,J Jq nt.w,J Jq nt.h,J Jq nt.i,Jj ta tn tc],J Jq mv,.bool false])/\(ag s').In w' (Jj ta tn tc) fk/\(∀x∈fk,x∈fp\/W.heap.size<=x)/\Below W.heap.size W w'):=fun X hX=>by
     have h:=eJ.out _ f X (po.out X hX).1
     rw[fq.out] at h
     refine Calls.mono h ?_
     rintro e w' ⟨ta,tn,tc,fk,rfl,h1,h2,h3⟩
     refine⟨ta,tn,tc,fk,by rw[ti.out];rfl,h1,fun x hx=> ?_,af hX h3⟩
     rcases h2 x hx with h4 | h4
     . exact .inl (Hf.out x h4)
     . exact .inr (Nat.le_trans hX.size h4)
    go_wp2_with fail
    refine bv.out.mono ?_
    rintro e w2 ⟨u,rfl,al,hh⟩
    have HH:=zh hh
    have aD:=zh al
    clear al hh bv q0 q1 q2 q3 q4 b4 lz
    obtain⟨_,⟨q0,q1,q2,q3,q4⟩⟩:=po.out w2 aD.out
    rw[fq.out] at q0 q1 q2 q3
    have b4:w2.cell? ⟨w.heap.size,4,O⟩=I (Jj (I ⟨g,0,O⟩) L cap0):=ae (cV.out w2 aD.out) 4
    go_wp2_with fail
    refine HH.out.mono ?_
    rintro e w3 ⟨rfl,rfl⟩
    go_wp2_with fail
    refine (ec.out w2 aD.out).mono ?_
    rintro e w3 ⟨ta,tn,tc,fk,rfl,wq,rK,aM⟩
    have Sx:=zh wq
    have Rm:=zh rK
    have cQ:=zh aM
    clear wq rK aM HH ec aD q0 q1 q2 q3 q4 b4
    obtain⟨Z,hZ⟩:∃x,w3.alloc (JZ #[J Jq nt.k,J Jq nt.w,J Jq nt.h,J Jq nt.i,Jj ta tn tc] 53)=x:=⟨_,rfl⟩
    have HZ:=zh hZ
    have eK:Below w3.heap.size w3 Z:=by rw[<- hZ];exact (Below.refl _ _).alloc (Nat.le_refl _) _
    have GP:Z.heap[w3.heap.size]?=I (JZ #[J Jq nt.k,J Jq nt.w,J Jq nt.h,J Jq nt.i,Jj ta tn tc] 53 (0,0)):=by rw[<- hZ];exact heap_alloc_new _ _
    have eC:=zh (af cQ.out eK)
    have b0:Z.cell? ⟨w.heap.size,0,O⟩=I (J Jq k'):=ae (cV.out Z eC.out) 0
    have b1:Z.cell? ⟨w.heap.size,1,O⟩=I (J Jq b.w):=ae (cV.out Z eC.out) 1
    have b2:Z.cell? ⟨w.heap.size,2,O⟩=I (J Jq b.h):=ae (cV.out Z eC.out) 2
    have b3:Z.cell? ⟨w.heap.size,3,O⟩=I (J Jq 0):=ae (cV.out Z eC.out) 3
    have b4:Z.cell? ⟨w.heap.size,4,O⟩=I (Jj (I ⟨g,0,O⟩) L cap0):=ae (cV.out Z eC.out) 4
    clear hZ eK GP
    go_upto_region 6 with fail
    rw[HZ.out]
    obtain⟨_,⟨q0,q1,q2,q3,q4⟩⟩:=po.out Z eC.out
    rw[fq.out] at q0 q1 q2 q3
    have ff:Hid (Calls prog 57 #[.agg #[J Jq nn.k,J Jq nn.w,J Jq nn.h,J Jq nn.i,Jj sa sn sc],J Jq k] Z fun e w'=>e=Jz (J Jq E)/\Below Z.heap.size Z w'):=by
     have h:=eQ nn sa sn sc k Z
     rw[show nn.ext k=E by rw[<- fq.out];exact HE.out] at h
     exact h
    go_wp2_with fail
    refine ff.out.mono ?_
    rintro e w4 ⟨rfl,cv⟩
    have kB:=zh (af eC.out cv)
    clear q0 q1 q2 q3 q4 b0 b1 b2 b3 b4 cv ff
    have b0:w4.cell? ⟨w.heap.size,0,O⟩=I (J Jq k'):=ae (cV.out w4 kB.out) 0
    have b1:w4.cell? ⟨w.heap.size,1,O⟩=I (J Jq b.w):=ae (cV.out w4 kB.out) 1
    have b2:w4.cell? ⟨w.heap.size,2,O⟩=I (J Jq b.h):=ae (cV.out w4 kB.out) 2
    have b3:w4.cell? ⟨w.heap.size,3,O⟩=I (J Jq 0):=ae (cV.out w4 kB.out) 3
    have b4:w4.cell? ⟨w.heap.size,4,O⟩=I (Jj (I ⟨g,0,O⟩) L cap0):=ae (cV.out w4 kB.out) 4
    go_wp2_with fail
    refine (GO.out w4 kB.out).mono ?_
    rintro e w5 ⟨ua,un,uc,fm,rfl,Kn,Kp,cd⟩
    have Sy:=zh Kn
    have Sz:=zh Kp
    have fY:=zh cd
    clear Kn Kp cd b0 b1 b2 b3 b4
    obtain⟨Y,hY⟩:∃x,w5.alloc (JZ #[J Jq nb.k,J Jq nb.w,J Jq nb.h,J Jq nb.i,Jj ua un uc] 53)=x:=⟨_,rfl⟩
    have HY:=zh hY
    have b7:Below w5.heap.size w5 Y:=by rw[<- hY];exact (Below.refl _ _).alloc (Nat.le_refl _) _
    have mz:Y.heap[w5.heap.size]?=I (JZ #[J Jq nb.k,J Jq nb.w,J Jq nb.h,J Jq nb.i,Jj ua un uc] 53 (0,0)):=by rw[<- hY];exact heap_alloc_new _ _
    have eS:=zh (af fY.out b7)
    have HF:Hid (∀v0 v1 v2 v3 v4,PuA (.split b k' rs) mm true fp w (Jz (.tuple #[.agg #[J Jq nb.k,J Jq nb.w,J Jq nb.h,J Jq nb.i,Jj ua un uc],J Jq mm,.bool true])) (fB Y (w.heap.size+1) v0 v1 v2 v3 v4)):=fun v0 v1 v2 v3 v4=>Aj A9.out (Sy.out.below b7) (fun q hq=>by
     rcases Sz.out q hq with h | h
     . exact .inl h
     . exact .inr (by have:=pm.out;omega)) gR.out (af bR.out eS.out) v0 v1 v2 v3 v4
    have m0:=ae mz 0
    have m1:=ae mz 1
    have m2:=ae mz 2
    have m3:=ae mz 3
    have m4:=ae mz 4
    have r0:Y.cell? ⟨w.heap.size+1,0,O⟩=I (J Jq 0):=ae (ew.out Y eS.out) 0
    have f0:=ai (ew.out Y eS.out) 0
    have r1:Y.cell? ⟨w.heap.size+1,1,O⟩=I (J Jq 0):=ae (ew.out Y eS.out) 1
    have f1:=ai (ew.out Y eS.out) 1
    have r2:Y.cell? ⟨w.heap.size+1,2,O⟩=I (J Jq 0):=ae (ew.out Y eS.out) 2
    have f2:=ai (ew.out Y eS.out) 2
    have r3:Y.cell? ⟨w.heap.size+1,3,O⟩=I (J Jq 0):=ae (ew.out Y eS.out) 3
    have f3:=ai (ew.out Y eS.out) 3
    have r4:Y.cell? ⟨w.heap.size+1,4,O⟩=I (Jj O 0 0):=ae (ew.out Y eS.out) 4
    have f4:=ai (ew.out Y eS.out) 4
    clear hY b7 mz
    go_upto_region 19 with fail
    rw[HY.out]
    go_wp2
    exact bodyPost_ret (v:=.tuple #[.agg #[J Jq nb.k,J Jq nb.w,J Jq nb.h,J Jq nb.i,Jj ua un uc],J Jq mm,.bool true]) (by simp[results,results65,go_sem,r0,r1,r2,r3,r4]) rfl (HF.out _ _ _ _ _)
theorem BU (l:List aj)(a b:Int):(kE l a b).length<=63:=by
 unfold kE
 split
 . rename_i h
   rw[List.length_map]
   exact (iM h.1).1
 . simp
end Go.Proofs.YtejlincnnonhaaaGreat
