import Derived.Test.YtejlincnnonhaaaGreatP5
import Derived.Test.YtejlincnnonhaaaGreatP6
import Derived.Test.YtejlincnnonhaaaGreatP7
import Derived.Laws.OwnMore
import Derived.Deep.RegionWith
namespace Go.Proofs.YtejlincnnonhaaaGreat
open Go.RowKit Go.Proofs.Tryz
open Value renaming int->J,slice->Jj,pointer->JJ
open IntKind renaming i64->Jq
open Option renaming none->O,some->I
open Ending renaming returned->Jz
open Obj renaming cells->JZ
set_option linter.unusedVariables false
set_option maxRecDepth 100000
set_option maxHeartbeats 16000000
def Gz (ks:List Node)(k:Int)(j:Nat):Int:=wz (ks.take j) k+j
theorem DT (ks:List Node)(k:Int)(j:Nat)(n:Node)(h:ks[j]?=I n):Gz ks k (j+1)=Gz ks k j+(n.ext k+1):=by
 unfold Gz
 rw[x9 ks k j n h]
 omega
def xN (ks:List Node)(k x:Int)(j:Nat):Int:=if k=2 then x+Gz ks k j else x
def yN (ks:List Node)(k y:Int)(j:Nat):Int:=if k=2 then y else y+Gz ks k j
theorem yI:∀(ks:List Node) (k d x y:Int) (j:Nat) (n:Node),ks[j]?=I n->eG (ks.take (j+1)) k d x y=eG (ks.take j) k d x y++qA n d (xN ks k x j) (yN ks k y j)
 | [],k,d,x,y,j,n,h=>by simp at h
 | a::ks,k,d,x,y,0,n,h=>by
   simp at h
   subst h
   have hx:xN (a::ks) k x 0=x:=by
    unfold xN Gz
    show (if k=2 then x+(0+0) else x)=x
    split <;> omega
   have hy:yN (a::ks) k y 0=y:=by
    unfold yN Gz
    show (if k=2 then y else y+(0+0))=y
    split <;> omega
   rw[hx,hy]
   show qA a d x y++(if k=2 then eG [] k d _ _ else eG [] k d _ _)=[]++qA a d x y
   split <;> simp[eG]
 | a::ks,k,d,x,y,j+1,n,h=>by
   have ih:=fun x y=>yI ks k d x y j n (by simpa using h)
   have ho:Gz (a::ks) k (j+1)=(a.ext k+1)+Gz ks k j:=by
    unfold Gz
    show a.ext k+wz (ks.take j) k+((j+1:Nat):Int)=_
    omega
   show qA a d x y++(if k=2 then eG (ks.take (j+1)) k d (x+(a.ext k+1)) y else eG (ks.take (j+1)) k d x (y+(a.ext k+1)))=(qA a d x y++(if k=2 then eG (ks.take j) k d (x+(a.ext k+1)) y else eG (ks.take j) k d x (y+(a.ext k+1))))++qA n d (xN (a::ks) k x (j+1)) (yN (a::ks) k y (j+1))
   by_cases hk:k=2
   . have e1:xN (a::ks) k x (j+1)=xN ks k (x+(a.ext k+1)) j:=by unfold xN;rw[if_pos hk,if_pos hk,ho];omega
     have e2:yN (a::ks) k y (j+1)=yN ks k y j:=by unfold yN;rw[if_pos hk,if_pos hk]
     rw[if_pos hk,if_pos hk,ih,e1,e2,List.append_assoc]
   . have e1:xN (a::ks) k x (j+1)=xN ks k x j:=by unfold xN;rw[if_neg hk,if_neg hk]
     have e2:yN (a::ks) k y (j+1)=yN ks k (y+(a.ext k+1)) j:=by unfold yN;rw[if_neg hk,if_neg hk,ho];omega
     rw[if_neg hk,if_neg hk,ih,e1,e2,List.append_assoc]
mutual
theorem lD:∀(n:Node) (d x y:Int),(qA n d x y).length=n.cnt
 | .mk k w h i ks,d,x,y=>by
   show (eG ks k (d+1) x y).length+1=1+cnts ks
   rw[jM ks]
   omega
theorem jM:∀(ks:List Node) (k d x y:Int),(eG ks k d x y).length=cnts ks
 | [],k,d,x,y=>rfl
 | n::r,k,d,x,y=>by
   show (qA n d x y++(if k=2 then eG r k d (x+(n.ext k+1)) y else eG r k d x (y+(n.ext k+1)))).length=n.cnt+cnts r
   rw[List.length_append,lD n]
   split
   . rw[jM r]
   . rw[jM r]
end
theorem DU:∀(ks:List Node) (k w h:Int) (j:Nat) (n:Node),ks[j]?=I n->gU ks k w h=true->w<=1000->h<=1000->0<=wz (ks.take j) k/\wz (ks.take j) k+n.ext k<=wz ks k
 | [],k,w,h,j,n,hj,ho,hw,hh=>by simp at hj
 | a::ks,k,w,h,0,n,hj,ho,hw,hh=>by
   simp at hj
   subst hj
   rw[jc,Bool.and_eq_true] at ho
   have:=um ks k w h ho.2 hw hh
   show (0:Int)<=0/\0+a.ext k<=a.ext k+wz ks k
   omega
 | a::ks,k,w,h,j+1,n,hj,ho,hw,hh=>by
   rw[jc,Bool.and_eq_true] at ho
   have h1:=sG ho.1 hw hh
   have h2:=DU ks k w h j n (by simpa using hj) ho.2 hw hh
   show 0<=a.ext k+wz (ks.take j) k/\a.ext k+wz (ks.take j) k+n.ext k<=a.ext k+wz ks k
   omega
theorem lu (l:List aj):∀u∈bz l,u.oneCell'=true:=by
 intro u hu
 unfold bz at hu
 obtain⟨e,_,hu⟩:=List.mem_flatMap.1 hu
 have ll:u∈[Value.int .i64 e.depth,J Jq e.kind,J Jq e.x,J Jq e.y,J Jq e.w,J Jq e.h,J Jq e.p]:=hu
 simp only[List.mem_cons,List.not_mem_nil,or_false] at ll
 rcases ll with rfl | rfl | rfl | rfl | rfl | rfl | rfl <;> rfl
theorem gY (a b:List aj):bz (a++b)=bz a++bz b:=by unfold bz;simp
structure Lays (n:Node)(d x y:Int):Prop where
 ok:n.ok=true
 w:n.w<=1000
 h:n.h<=1000
 x: -1000000<=x/\x+n.w<=1000000
 y: -1000000<=y/\y+n.h<=1000000
 d:0<=d/\d+n.cnt<=5000
theorem Pq (k wd h i:Int)(ks:List Node)(ho:(Node.mk k wd h i ks).ok=true)(j:Nat)(n:Node)(hj:ks[j]?=I n):(k=2\/k=3)/\gU ks k wd h=true/\JD ks k=(if k=2 then wd else h):=by
 rw[Kq] at ho
 simp only[Bool.and_eq_true,decide_eq_true_eq] at ho
 obtain⟨⟨_,h3,h4⟩,h5⟩:=ho
 by_cases hk:k=1
 . rw[if_pos hk] at h5
   simp only[Bool.and_eq_true,decide_eq_true_eq] at h5
   have:ks=[]:=List.length_eq_zero_iff.1 h5.1
   subst this
   simp at hj
 . rw[if_neg hk] at h5
   simp only[Bool.and_eq_true,decide_eq_true_eq] at h5
   exact⟨by omega,h5.2.1,h5.2.2⟩
theorem Lays.kid {k wd h i:Int}{ks:List Node}{d x y:Int}(hl:Lays (.mk k wd h i ks) d x y){j:Nat}{n:Node}(hj:ks[j]?=I n):Lays n (d+1) (xN ks k x j) (yN ks k y j):=by
 obtain⟨hk,ho,he⟩:=Pq k wd h i ks hl.ok j n hj
 have hw:wd<=1000:=hl.w
 have hh:h<=1000:=hl.h
 have jp:=xZ ks k wd h j n hj ho
 have hp:=DU ks k wd h j n hj ho hw hh
 have pZ:j < ks.length:=(List.getElem?_eq_some_iff.1 hj).1
 rw[EO] at he
 have hc:=sV ks j n hj
 have hcn:(Node.mk k wd h i ks).cnt=1+cnts ks:=rfl
 have hd:=hl.d
 rw[hcn] at hd
 have hx: -1000000<=x/\x+wd<=1000000:=hl.x
 have hy: -1000000<=y/\y+h<=1000000:=hl.y
 unfold sF at jp
 simp only[Bool.and_eq_true,decide_eq_true_eq] at jp
 obtain⟨⟨_,g1,g2⟩,g3,g4⟩:=jp
 refine⟨g3,by omega,by omega,?_,?_,by omega⟩
 . unfold xN Gz
   by_cases h2:k=2
   . rw[if_pos h2] at he ⊢
     have:n.ext k=n.w:=by unfold Node.ext;rw[if_pos h2]
     omega
   . rw[if_neg h2]
     omega
 . unfold yN Gz
   by_cases h2:k=2
   . rw[if_pos h2]
     omega
   . rw[if_neg h2] at he ⊢
     have:n.ext k=n.h:=by unfold Node.ext;rw[if_neg h2]
     omega
def Bh (n:Node):Prop:=∀sl fp w d x y,n.In w sl fp->Lays n d x y->Calls prog 34 #[.agg (aC n sl),J Jq d,J Jq x,J Jq y] w fun e w'=>∃u,e=Jz u/\az w' w.heap.size u (qA n d x y)/\Below w.heap.size w w'
theorem N9 (k wd h i:Int)(ks:List Node)(hc:cnts ks<=1000)(IH:∀n∈ks,Bh n):Bh (.mk k wd h i ks):=by
 intro sl fp w d x y ab hL
 obtain⟨ad,cap,av⟩:=ab.sl
 obtain⟨m,hm⟩:∃m,ks.length=m:=⟨_,rfl⟩
 change sl=Jj ad ks.length cap at av
 have bS:=oC ks
 have da:m<=1000:=by omega
 obtain⟨W,hW⟩:∃W,(w.alloc (JZ #[J Jq k,J Jq wd,J Jq h,J Jq i,sl] 53)).alloc (JZ #[J Jq d,J Jq k,J Jq x,J Jq y,J Jq wd,J Jq h,J Jq i] 41)=W:=⟨_,rfl⟩
 have hb0:∀o,Below w.heap.size w (w.alloc o):=fun o=>(Below.refl _ _).alloc (Nat.le_refl _) o
 have cN:W.heap[w.heap.size]?=I (JZ #[J Jq k,J Jq wd,J Jq h,J Jq i,sl] 53 (0,0)):=by
  rw[<- hW]
  exact (((Below.refl _ _).alloc (Nat.le_refl _) _).block w.heap.size (by simp)).trans (heap_alloc_new _ _)
 have mj:Below w.heap.size w W:=by rw[<- hW];exact (hb0 _).alloc (by simp) _
 have fi:W.heap.size=w.heap.size+2:=by rw[<- hW];simp
 have H0:Hid (az W (w.heap.size+1) (Jj (I ⟨w.heap.size+1,0,O⟩) 1 1) [⟨d,k,x,y,wd,h,i⟩]):=by
  rw[<- hW]
  exact Dt _ (w.heap.size+1) (w.heap.size+1) (by simp) ⟨d,k,x,y,wd,h,i⟩ (Nat.le_refl _)
 have kt:Hid (∀X,Below (w.heap.size+1) W X->X.heap[w.heap.size]?=I (JZ #[J Jq k,J Jq wd,J Jq h,J Jq i,sl] 53 (0,0))):=fun X hX=>(hX.block _ (by omega)).trans cN
 have HB:Hid (∀X,Below (w.heap.size+1) W X->Below w.heap.size w X):=fun X hX=>mj.trans (hX.mono (by omega))
 have HI:Hid (∀X,Below (w.heap.size+1) W X->(Node.mk k wd h i ks).In X sl fp):=fun X hX=>ab.below (mj.trans (hX.mono (by omega)))
 have eJ:=zh IH
 have HM:=zh hm
 have HLs:=zh hL
 have pm:=zh fi
 have HC:=zh hc
 have HW:=zh hW
 have N3:=hL.d
 have Fi:IntKind.i64.wrap (d+1)=d+1:=by rw[IntKind.wrap_i64];omega
 have HR:Hid (∀l',eG ks k (d+1) x y=l'->qA (.mk k wd h i ks) d x y=⟨d,k,x,y,wd,h,i⟩::l'):=fun l' e=>by rw[<- e];rfl
 obtain⟨R,hR⟩:∃R,qA (.mk k wd h i ks) d x y=R:=⟨_,rfl⟩
 rw[hR] at HR ⊢
 rw[hm] at av
 subst av
 clear bS ab IH hm hc hb0 cN mj fi hW hL hR N3
 show Calls _ _ #[.agg #[J Jq k,J Jq wd,J Jq h,J Jq i,Jj ad m cap],_,_,_] _ _
 go_enter func34,ntmps34
 go_wp2
 rw[HW.out]
 go_loopw [2,3,9,10] (fun vx vy u v wr=>∃j:Nat,j<=m/\vx=J Jq (xN ks k x j)/\vy=J Jq (yN ks k y j)/\v=J Jq j/\Hid (az wr (w.heap.size+1) u (⟨d,k,x,y,wd,h,i⟩::eG (ks.take j) k (d+1) x y))/\Hid (Below (w.heap.size+1) W wr)) (fun _ _ _ v _=>m-(intOf v).toNat)
 case atStart=>exact⟨0,Nat.zero_le _,by unfold xN Gz;show _=Value.int .i64 (if k=2 then x+(0+0) else x);split <;> simp,by unfold yN Gz;show _=Value.int .i64 (if k=2 then y else y+(0+0));split <;> simp,rfl,H0,Below.refl _ _⟩
 case round=>
  obtain⟨j,hj,rfl,rfl,rfl,HO,bB⟩:=hrel
  have km:=kt.out wr bB.out
  have b0:wr.cell? ⟨w.heap.size,0,O⟩=I (J Jq k):=ae km 0
  have b4:wr.cell? ⟨w.heap.size,4,O⟩=I (Jj ad m cap):=ae km 4
  clear km
  by_cases am:j < m
  . obtain⟨n,hn⟩:∃n,ks[j]?=I n:=⟨_,List.getElem?_eq_getElem (by rw[HM.out];exact am)⟩
    obtain⟨g,cap',e1,e2,e3⟩:=(HI.out wr bB.out).kids (by intro e;rw[e] at hn;simp at hn)
    rw[HM.out] at e1
    cases e1
    obtain⟨sl',f',e4,q0,q1,q2,q3,q4⟩:=e3 j n hn
    obtain⟨ad',c',cq⟩:=e4.sl
    subst cq
    have RS:=HLs.out.kid hn
    have HT:=zh (yI ks k (d+1) x y j n hn)
    have lx:Hid (∀o,Calls prog 34 #[.agg #[J Jq n.k,J Jq n.w,J Jq n.h,J Jq n.i,Jj ad' n.ks.length c'],J Jq (d+1),J Jq (xN ks k x j),J Jq (yN ks k y j)] (wr.alloc o) fun e w'=>∃u,e=Jz u/\az w' (wr.alloc o).heap.size u (qA n (d+1) (xN ks k x j) (yN ks k y j))/\Below (wr.alloc o).heap.size (wr.alloc o) w'):=fun o=>eJ.out n (List.mem_of_getElem? hn) _ f' (wr.alloc o) (d+1) _ _ (e4.below ((Below.refl _ _).alloc (Nat.le_refl _) o)) RS
    have Mr:Hid (xN ks k x (j+1)=if k=2 then xN ks k x j+n.w+1 else xN ks k x j):=by
     show _=_
     unfold xN
     rw[DT ks k j n hn]
     by_cases h2:k=2
     . rw[if_pos h2,if_pos h2,if_pos h2]
       have:n.ext k=n.w:=by unfold Node.ext;rw[if_pos h2]
       omega
     . rw[if_neg h2,if_neg h2,if_neg h2]
    have Ut:Hid (yN ks k y (j+1)=if k=2 then yN ks k y j else yN ks k y j+n.h+1):=by
     show _=_
     unfold yN
     rw[DT ks k j n hn]
     by_cases h2:k=2
     . rw[if_pos h2,if_pos h2,if_pos h2]
     . rw[if_neg h2,if_neg h2,if_neg h2]
       have:n.ext k=n.h:=by unfold Node.ext;rw[if_neg h2]
       omega
    have xT:Hid ((⟨d,k,x,y,wd,h,i⟩::eG (ks.take j) k (d+1) x y:List aj).length+(qA n (d+1) (xN ks k x j) (yN ks k y j)).length<=1000000):=by
     have h3:=sV ks j n hn
     have h4:=HC.out
     show _<=_
     rw[List.length_cons,jM,lD]
     omega
    obtain⟨xj,VA⟩:∃z,xN ks k x j=z:=⟨_,rfl⟩
    obtain⟨yj,VB⟩:∃z,yN ks k y j=z:=⟨_,rfl⟩
    rw[VA,VB] at HT lx xT RS
    rw[VA] at Mr
    rw[VB] at Ut
    rw[VA,VB]
    have i8:=RS.x
    have EB:=RS.y
    have S7:=Gj n RS.ok
    have w1:IntKind.i64.wrap (xj+n.w)=xj+n.w:=by rw[IntKind.wrap_i64];omega
    have w2:IntKind.i64.wrap (xj+n.w+1)=xj+n.w+1:=by rw[IntKind.wrap_i64];omega
    have w3:IntKind.i64.wrap (yj+n.h)=yj+n.h:=by rw[IntKind.wrap_i64];omega
    have w4:IntKind.i64.wrap (yj+n.h+1)=yj+n.h+1:=by rw[IntKind.wrap_i64];omega
    have Ds:Hid (w.heap.size+2<=wr.heap.size):=by have:=bB.out.size;have:=pm.out;show _<=_;omega
    clear e2 e3 e4 hn VA VB RS i8 EB S7
    go_wp2_with fail
    refine (lx.out _).mono ?_
    rintro e w5 ⟨u2,rfl,h1,h2⟩
    have cd:Below wr.heap.size wr w5:=af ((Below.refl _ _).alloc (Nat.le_refl _) _) h2
    have ce:=(h2.block wr.heap.size (by simp)).trans (heap_alloc_new wr (JZ #[J Jq n.k,J Jq n.w,J Jq n.h,J Jq n.i,Jj ad' n.ks.length c'] 53))
    have VC:Hid (az w5 wr.heap.size u2 (qA n (d+1) xj yj)):=h1.lower (by simp)
    have HU:=zh (HO.out.below cd)
    have fY:Hid (Below (w.heap.size+1) W w5):=bB.out.trans (cd.mono (by have:=Ds.out;omega))
    have C4:=zh ce
    have ln:=zh (iD HO.out)
    have fg:Hid (w.heap.size+1<=w5.heap.size):=by have:=fY.out.size;have:=pm.out;show _<=_;omega
    have D2:=zh (lt_of_block ce)
    clear h1 h2 lx cd ce HO b0 b4 q0 q1 q2 q3 q4
    by_cases dt:k=2
    . have kk2:(k==2)=true:=by simpa using dt
      rw[if_pos dt] at Mr Ut
      clear dt
      go_wp2_with (at_builtin;refine aW w5 rfl (.tmp 37) (.tmp 43) 23 41 rfl (.agg zeroCell.vals) 7 56 underlying23 xC rfl (by decide) (by decide) (w.heap.size+1) u9 _ _ rfl HU.out wr.heap.size u2 _ _ rfl VC.out (lu _) xT.out fg.out ?_;intro v' w6 a1 a2;have ov:Hid (Below (w.heap.size+1) W w6):=fY.out.grown a2 fg.out (fun q hq=>(World.ownsRow.lt HU.out q hq).1);have vv:=(a2.block wr.heap.size D2.out (fun e=>by have:=ln.out wr.heap.size (by rw[<- e];simp);omega)).trans C4.out;have y1:w6.cell? ⟨wr.heap.size,1,O⟩=I (J Jq n.w):=ae vv 1;have y2:w6.cell? ⟨wr.heap.size,2,O⟩=I (J Jq n.h):=ae vv 2;have z0:w6.cell? ⟨w.heap.size,0,O⟩=I (J Jq k):=ae (kt.out w6 ov.out) 0;have XX:Hid (az w6 (w.heap.size+1) v' (⟨d,k,x,y,wd,h,i⟩::eG (ks.take (j+1)) k (d+1) x y)):=(by rw[HT.out,<- List.cons_append];unfold az;rw[gY,List.length_append];exact a1);clear a1 a2 vv)
      go_roundw
      case rel=>exact⟨j+1,by omega,by rw[Mr.out],by rw[Ut.out],by go_num,XX,ov⟩
      case measure=>simp[intOf];omega
    . have kk2:(k==2)=false:=by simpa using dt
      rw[if_neg dt] at Mr Ut
      clear dt
      go_wp2_with (at_builtin;refine aW w5 rfl (.tmp 37) (.tmp 43) 23 41 rfl (.agg zeroCell.vals) 7 56 underlying23 xC rfl (by decide) (by decide) (w.heap.size+1) u9 _ _ rfl HU.out wr.heap.size u2 _ _ rfl VC.out (lu _) xT.out fg.out ?_;intro v' w6 a1 a2;have ov:Hid (Below (w.heap.size+1) W w6):=fY.out.grown a2 fg.out (fun q hq=>(World.ownsRow.lt HU.out q hq).1);have vv:=(a2.block wr.heap.size D2.out (fun e=>by have:=ln.out wr.heap.size (by rw[<- e];simp);omega)).trans C4.out;have y1:w6.cell? ⟨wr.heap.size,1,O⟩=I (J Jq n.w):=ae vv 1;have y2:w6.cell? ⟨wr.heap.size,2,O⟩=I (J Jq n.h):=ae vv 2;have z0:w6.cell? ⟨w.heap.size,0,O⟩=I (J Jq k):=ae (kt.out w6 ov.out) 0;have XX:Hid (az w6 (w.heap.size+1) v' (⟨d,k,x,y,wd,h,i⟩::eG (ks.take (j+1)) k (d+1) x y)):=(by rw[HT.out,<- List.cons_append];unfold az;rw[gY,List.length_append];exact a1);clear a1 a2 vv)
      go_roundw
      case rel=>exact⟨j+1,by omega,by rw[Mr.out],by rw[Ut.out],by go_num,XX,ov⟩
      case measure=>simp[intOf];omega
  . have Er:j=m:=by omega
    subst Er
    have It:Hid (az wr (w.heap.size+1) u9 R):=by
     have h:=HO.out
     rw[List.take_of_length_le (by rw[HM.out];exact Nat.le_refl _)] at h
     rw[HR.out _ rfl]
     exact h
    clear HO
    go_wp2
    go_ret
    exact⟨_,rfl,It.out.lower (by omega),HB.out _ bB.out⟩
mutual
theorem Gt:∀(n:Node),n.cnt<=1000->Bh n
 | .mk k wd h i ks,hc=>N9 k wd h i ks (by unfold Node.cnt at hc;omega) (DV ks (by unfold Node.cnt at hc;omega))
theorem DV:∀(ks:List Node),cnts ks<=1000->∀n∈ks,Bh n
 | [],hc=>fun n hn=>by cases hn
 | a::ks,hc=>fun n hn=>by
   unfold cnts at hc
   rcases List.mem_cons.1 hn with e | hn
   . exact e ▸ Gt a (by omega)
   . exact DV ks (by omega) n hn
end
theorem P8 {l:List aj}{t:Tree}{c:aj}{r:List aj}(hr:aT l=I t)(hl:l=c::r):(fG c r).1=ag t/\(fG c r).1.ok=true/\(fG c r).1.ids.Nodup/\(fG c r).1.ids.length<=32/\qA (fG c r).1 0 0 0=l:=by
 have h:=aV hr
 have hg:=h.fG hl
 rw[hg]
 have hi:=jo t 0 h.kinds
 rw[h.tell] at hi
 have hf:=Ar h.few
 refine⟨rfl,AU t h.kinds h.sound,by rw[hi];exact hf.2,by rw[hi];exact hf.1,?_⟩
 rw[rV t 0 0 0,h.moved,h.tell]
theorem O4 {l:List aj}{n:Node}(ho:n.ok=true)(hw:n.w<=1000)(hh:n.h<=1000)(hd:n.ids.Nodup)(sr:n.ids.length<=32)(hl:qA n 0 0 0=l):∃t,aT l=I t/\n=ag t:=by
 obtain⟨t,e1,e2,e3,e4⟩:=Lm n ho hw hh
 subst e1
 have hk:=qX t 0 0 e3
 have ht:(t.moved 0 0).tell 0=l:=by rw[<- rV t 0 0 0];exact hl
 have hi:=jo (t.moved 0 0) 0 hk
 rw[uy,ht] at hi
 refine⟨t.moved 0 0,Lp ⟨hk,yB t 0 0 e3 e2,oq t 0 0 0 0,ht,?_⟩,(uy t 0 0).symm⟩
 unfold I8
 rw[<- hi]
 simp[hd,sr]
theorem Dk {l:List aj}{t:Tree}{c:aj}{r:List aj}(hr:aT l=I t)(hl:l=c::r):c.depth=0/\c.w<=1000/\c.h<=1000/\jY 0 r=true:=(aV hr).steps hl
theorem Bg:∀(r:List aj) (p:Int) (a:Nat) (x y:aj),(x.depth=p/\a=0\/∃b,a=b+1/\r[b]?=I x)->r[a]?=I y->jY p r=true->1<=y.depth/\y.depth<=x.depth+1
 | [],p,a,x,y,hx,hy,hs=>by simp at hy
 | c::r,p,a,x,y,hx,hy,hs=>by
   have ej:((decide (1<=c.depth)&&decide (c.depth<=p+1))&&jY c.depth r)=true:=hs
   simp only[Bool.and_eq_true,decide_eq_true_eq] at ej
   rcases hx with ⟨h1,rfl⟩ | ⟨b,rfl,h1⟩
   . simp at hy
     subst hy
     omega
   . have RP:r[b]?=I y:=by simpa using hy
     cases b with
     | zero=>
       simp at h1
       subst h1
       exact Bg r c.depth 0 c y (.inl ⟨rfl,rfl⟩) RP ej.2
     | succ b=>exact Bg r c.depth (b+1) x y (.inr ⟨b,rfl,by simpa using h1⟩) RP ej.2
theorem NJ {l:List aj}{t:Tree}(hr:aT l=I t){i:Nat}{x y:aj}(hx:l[i]?=I x)(hy:l[i+1]?=I y):1<=y.depth/\y.depth<=x.depth+1:=by
 cases l with
 | nil=>simp at hx
 | cons c r=>
   obtain⟨h0,_,_,hs⟩:=Dk hr rfl
   refine Bg r 0 i x y ?_ (by simpa using hy) hs
   cases i with
   | zero=>
     simp at hx
     subst hx
     exact .inl ⟨h0,rfl⟩
   | succ i=>exact .inr ⟨i,rfl,by simpa using hx⟩
theorem DL:∀(m:Nat),(∀c r,∀x∈(kP m c r).2,x∈r)/\(∀d r,∀x∈(dn m d r).2,x∈r)
 | 0=>⟨fun c r x h=>h,fun d r x h=>h⟩
 | m+1=>by
   obtain⟨i1,i2⟩:=DL m
   refine⟨fun c r x h=>i2 c.depth r x h,fun d r x h=> ?_⟩
   cases r with
   | nil=>exact h
   | cons c r=>
     unfold dn at h
     simp only[] at h
     split at h
     . exact List.mem_cons_of_mem _ (i1 c r x (i2 d _ x h))
     . exact h
theorem Dj:∀(m:Nat) (d:Int) (r:List aj),r.length<=m->(∀x∈r,d < x.depth)->(fU d r).2=[]
 | m,d,[],hm,hx=>rfl
 | 0,d,c::r,hm,hx=>by simp at hm
 | m+1,d,c::r,hm,hx=>by
   rw[nO,if_pos (hx c (by simp))]
   have hs:=kS c r
   rw[List.length_cons] at hm
   refine Dj m d (fG c r).2 (by omega) fun x h=> ?_
   have:∀x∈(fG c r).2,x∈r:=by
    unfold fG
    exact (DL _).1 c r
   exact hx x (List.mem_cons_of_mem _ (this x h))
theorem DN:∀(m:Nat),(∀c r,(kP m c r).1.cnt+(kP m c r).2.length=r.length+1)/\(∀d r,cnts (dn m d r).1+(dn m d r).2.length=r.length)
 | 0=>by
   refine⟨fun c r=> ?_,fun d r=> ?_⟩
   . show (1+0)+r.length=r.length+1
     omega
   . show 0+r.length=r.length
     omega
 | m+1=>by
   obtain⟨i1,i2⟩:=DN m
   refine⟨fun c r=> ?_,fun d r=> ?_⟩
   . have:=i2 c.depth r
     show (1+cnts (dn m c.depth r).1)+(dn m c.depth r).2.length=r.length+1
     omega
   . cases r with
     | nil=>rfl
     | cons c r=>
       unfold dn
       simp only[]
       split
       . have h1:=i1 c r
         have h2:=i2 d (kP m c r).2
         show ((kP m c r).1.cnt+cnts (dn m d (kP m c r).2).1)+(dn m d (kP m c r).2).2.length=(c::r).length
         rw[List.length_cons]
         omega
       . show 0+(c::r).length=(c::r).length
         omega
theorem NK (c:aj)(r:List aj):(fG c r).1.cnt+(fG c r).2.length=r.length+1:=(DN _).1 c r
def Py (zs:List Int)(i:Nat):Prop:=∀(a b:Nat) (x y:Int),a < b->b < i->zs[a]?=I x->zs[b]?=I y->x≠y
def LX (zs:List Int)(i j:Nat):Prop:=∀(a:Nat) (x y:Int),a < j->zs[a]?=I x->zs[i]?=I y->x≠y
theorem IQ (zs:List Int)(h:Py zs zs.length):zs.Nodup:=by
 refine List.pairwise_iff_getElem.2 fun i j hi hj rN=> ?_
 exact h i j _ _ rN hj (List.getElem?_eq_getElem hi) (List.getElem?_eq_getElem hj)
theorem N8 {zs:List Int}(h:zs.Nodup){a b:Nat}{x y:Int}(pN:a < b)(hx:zs[a]?=I x)(hy:zs[b]?=I y):x≠y:=by
 obtain⟨ha,rfl⟩:=List.getElem?_eq_some_iff.1 hx
 obtain⟨hb,rfl⟩:=List.getElem?_eq_some_iff.1 hy
 exact List.pairwise_iff_getElem.1 h a b ha hb pN
theorem Py.next {zs:List Int}{i:Nat}(h:Py zs i)(h1:LX zs i i):Py zs (i+1):=by
 intro a b x y pN hb hx hy
 by_cases e:b=i
 . subst e
   exact h1 a x y pN hx hy
 . exact h a b x y pN (by omega) hx hy
theorem LX.next {zs:List Int}{i j:Nat}{x y:Int}(h:LX zs i j)(hx:zs[j]?=I x)(hy:zs[i]?=I y)(a7:x≠y):LX zs i (j+1):=by
 intro a x' y' ha I2 RP
 by_cases e:a=j
 . subst e
   rw[hx] at I2
   rw[hy] at RP
   cases I2
   cases RP
   exact a7
 . exact h a x' y' (by omega) I2 RP
theorem dD.at_ {w:World}{B:Nat}{v:Value}{zs:List Int}(h:dD w B v zs):(v=Jj O 0 0/\zs=[])\/∃g cap,v=Jj (I ⟨g,0,O⟩) zs.length cap/\∀(j:Nat) x,zs[j]?=I x->w.cell? ⟨g,j,O⟩=I (J Jq x):=by
 rcases h.2 with ⟨rfl,h0⟩ | ⟨g,cap,cur,rfl,hb,hg,h1,h2,h3,h4⟩
 . exact .inl ⟨rfl,List.length_eq_zero_iff.1 h0⟩
 . refine .inr ⟨g,cap,rfl,fun j x hj=> ?_⟩
   have am:=(List.getElem?_eq_some_iff.1 hj).1
   rw[ae hg]
   have:(cur.toList.take (zs.length*1))[j]?=(zs.map (Value.int .i64))[j]?:=by rw[h4]
   rw[List.getElem?_take_of_lt (by omega)] at this
   rw[<- Array.getElem?_toList,this,List.getElem?_map,hj]
   rfl
theorem IE (w:World):Calls prog 84 #[Jj O 0 0] w fun e w'=>e=Jz (.bool false)/\w=w':=by
 go_enter func84,ntmps84
 go_wp2
 go_loopw [3] (fun v wr=>v=J Jq 0/\w=wr) (fun _ _=>0)
 case atStart=>exact⟨rfl,rfl⟩
 case round=>
  obtain⟨rfl,rfl⟩:=hrel
  go_wp2
  go_ret
  exact⟨rfl,rfl⟩
theorem IG (g n cap:Nat)(zs:List Int)(w:World)(hc:∀(j:Nat) x,zs[j]?=I x->w.cell? ⟨g,j,O⟩=I (J Jq x))(hn:zs.length=n)(du:n<=1000):Calls prog 84 #[Jj (I ⟨g,0,O⟩) n cap] w fun e w'=>e=Jz (.bool (!decide zs.Nodup))/\Below w.heap.size w w':=by
 have HC:Hid (∀X,Below w.heap.size w X->∀(j:Nat) x,zs[j]?=I x->X.cell? ⟨g,j,O⟩=I (J Jq x)):=fun X hX j x hj=>(hX.cell (p:=⟨g,j,O⟩) (World.block_lt_of_cell? w _ (hc j x hj))).trans (hc j x hj)
 have HN:=zh hn
 obtain⟨r,hr⟩:∃r,(!decide zs.Nodup)=r:=⟨_,rfl⟩
 have HF:Hid (Py zs n->r=false):=by
  intro h
  rw[<- hr,decide_eq_true (IQ zs (by rw[hn];exact h))]
  rfl
 have HT:Hid (¬zs.Nodup->r=true):=by
  intro h
  rw[<- hr,decide_eq_false h]
  rfl
 rw[hr]
 clear hc hn hr
 go_enter func84,ntmps84
 go_wp2
 go_loopw [3] (fun v wr=>∃i:Nat,i<=n/\v=J Jq i/\Hid (Py zs i)/\Hid (Below w.heap.size w wr)) (fun v _=>n-(intOf v).toNat)
 case atStart=>exact⟨0,Nat.zero_le _,rfl,fun a b x y _ hb=>by omega,Below.refl _ _⟩
 case round=>
  obtain⟨i,hi,rfl,HI,HB⟩:=hrel
  by_cases am:i < n
  . obtain⟨y,hy⟩:∃y,zs[i]?=I y:=⟨_,List.getElem?_eq_getElem (by rw[HN.out];exact am)⟩
    have HY:=zh hy
    clear hy
    go_wp2
    go_loopw [4] (fun v wr=>∃j:Nat,j<=i/\v=J Jq j/\Hid (LX zs i j)/\Hid (Below w.heap.size w wr)) (fun v _=>i-(intOf v).toNat)
    case atStart=>exact⟨0,Nat.zero_le _,rfl,fun a x y ha=>by omega,HB⟩
    case round=>
     obtain⟨j,hj,rfl,HJ,aD⟩:=hrel
     by_cases hlj:j < i
     . obtain⟨x,hx⟩:∃x,zs[j]?=I x:=⟨_,List.getElem?_eq_getElem (by rw[HN.out];omega)⟩
       have c1:=HC.out _ aD.out j x hx
       have c2:=HC.out _ aD.out i y HY.out
       have HX:=zh hx
       have Mw:j < n:=by omega
       clear hx
       by_cases q9:x=y
       . have XN:(x==y)=true:=by simpa using q9
         have HR:=zh (HT.out fun h=>N8 h hlj HX.out HY.out q9)
         clear q9
         go_wp2
         go_quiet (fail)
         go_wp2
         go_ret
         exact⟨by rw[HR.out];rfl,below_drewN aD.out _⟩
       . have XN:(x==y)=false:=by simpa using q9
         have Uh:=zh q9
         clear q9
         go_wp2
         go_quiet (fail)
         go_wp2
         go_roundw
         case rel=>exact⟨j+1,by omega,by go_num,HJ.out.next HX.out HY.out Uh.out,below_drewN aD.out _⟩
         case measure=>simp[intOf];omega
     . have dl:j=i:=by omega
       subst dl
       go_wp2
       exact⟨⟨j+1,by omega,by go_num,HI.out.next HJ.out,aD⟩,by simp[intOf];omega⟩
  . have bE:i=n:=by omega
    subst bE
    have HR:=zh (HF.out HI.out)
    go_wp2
    go_ret
    exact⟨by rw[HR.out];rfl,HB.out⟩
def aU:Array Value:=#[J Jq 0,J Jq 0,J Jq 0,J Jq 0,Jj O 0 0]
def gJ (l:List aj)(w:World)(e:Ending)(w':World):Prop:=
 Below w.heap.size w w'/\((aT l=O/\e=Jz (.tuple #[.agg aU,.bool false]))\/
 (∃t sa sn sc fp,aT l=I t/\e=Jz (.tuple #[.agg (aC (ag t) (Jj sa sn sc)),.bool true])/\(ag t).In w' (Jj sa sn sc) fp))
theorem KJ (u:Value)(zs:List Int)(B:Nat)(w:World)(h:dD w B u zs)(hn:zs.length<=1000):Calls prog 84 #[u] w fun e w'=>e=Jz (.bool (!decide zs.Nodup))/\Below w.heap.size w w':=by
 rcases h.at_ with ⟨rfl,rfl⟩ | ⟨g,cap,rfl,hc⟩
 . exact (IE w).mono fun e w' h=>⟨by rw[h.1];simp,h.2 ▸ Below.refl _ _⟩
 . exact IG g zs.length cap zs w hc rfl hn
theorem Gm (n:Node)(hc:n.cnt<=1000)(ho:n.ok=true)(hw:n.w<=1000)(hh:n.h<=1000)(sa:Option Addr)(sn sc:Nat)(fp:List Nat)(w:World)(ab:n.In w (Jj sa sn sc) fp):Calls prog 16 #[.agg (aC n (Jj sa sn sc))] w fun e w'=>∃u,e=Jz u/\az w' w.heap.size u (qA n 0 0 0)/\Below w.heap.size w w':=by
 have HL:Hid (∀o,Calls prog 34 #[.agg #[J Jq n.k,J Jq n.w,J Jq n.h,J Jq n.i,Jj sa sn sc],J Jq 0,J Jq 0,J Jq 0] (w.alloc o) fun e w'=>∃u,e=Jz u/\az w' w.heap.size u (qA n 0 0 0)/\Below w.heap.size w w'):=fun o=>(Gt n hc _ fp (w.alloc o) 0 0 0 (ab.below ((Below.refl _ _).alloc (Nat.le_refl _) o)) ⟨ho,hw,hh,by omega,by omega,by omega⟩).mono fun e w' ⟨u,h1,h2,h3⟩=>⟨u,h1,h2.lower (by simp),af ((Below.refl _ _).alloc (Nat.le_refl _) _) h3⟩
 obtain⟨L,hL⟩:∃L,qA n 0 0 0=L:=⟨_,rfl⟩
 rw[hL] at HL ⊢
 unfold aC
 clear ab hL hc ho hw hh
 go_enter func16,ntmps16
 go_wp2_with fail
 refine (HL.out _).mono ?_
 rintro e w1 ⟨u,rfl,hu,hb⟩
 have HU:=zh hu
 clear hu
 go_wp2
 go_ret
 exact⟨u,rfl,HU.out,hb⟩
structure P7 (w:World)(W:World):Prop where
 r0:W.cell? ⟨w.heap.size,0,O⟩=I (J Jq 0)
 r1:W.cell? ⟨w.heap.size,1,O⟩=I (J Jq 0)
 r2:W.cell? ⟨w.heap.size,2,O⟩=I (J Jq 0)
 r3:W.cell? ⟨w.heap.size,3,O⟩=I (J Jq 0)
 r4:W.cell? ⟨w.heap.size,4,O⟩=I (Jj O 0 0)
 f0:W.frozen? ⟨w.heap.size,0,O⟩=false
 f1:W.frozen? ⟨w.heap.size,1,O⟩=false
 f2:W.frozen? ⟨w.heap.size,2,O⟩=false
 f3:W.frozen? ⟨w.heap.size,3,O⟩=false
 f4:W.frozen? ⟨w.heap.size,4,O⟩=false
theorem Qv (w X:World)(h:Below (w.alloc (.cells aU 53)).heap.size (w.alloc (.cells aU 53)) X):P7 w X:=by
 have hb:X.heap[w.heap.size]?=I (.cells aU 53 (0,0)):=(h.block w.heap.size (by simp)).trans (heap_alloc_new _ _)
 exact⟨ae hb 0,ae hb 1,ae hb 2,ae hb 3,ae hb 4,ai hb 0,ai hb 1,ai hb 2,ai hb 3,ai hb 4⟩
theorem KI {l:List aj}{w X:World}(hr:aT l=O)(hb:Below w.heap.size w X)(v0 v1 v2 v3 v4:Value):gJ l w (Jz (.tuple #[.agg #[J Jq 0,J Jq 0,J Jq 0,J Jq 0,Jj O 0 0],.bool false])) (fB X w.heap.size v0 v1 v2 v3 v4):=⟨bC hb _ (Nat.le_refl _) _ _ _ _ _,.inl ⟨hr,rfl⟩⟩
theorem Io (ad:Option Addr)(cap:Nat)(w:World):Calls prog 53 #[Jj ad 0 cap] w (gJ [] w):=by
 have HF:Hid (∀X,Below w.heap.size w X->gJ [] w (Jz (.tuple #[.agg #[J Jq 0,J Jq 0,J Jq 0,J Jq 0,Jj O 0 0],.bool false])) X):=fun X hX=>⟨hX,.inl ⟨(uA (iy 0)),rfl⟩⟩
 go_enter func53,ntmps53
 go_wp2
 exact bodyPost_ret (v:=.tuple #[.agg #[J Jq 0,J Jq 0,J Jq 0,J Jq 0,Jj O 0 0],.bool false]) (by simp[results,results53,go_sem]) rfl (HF.out _ ((Below.refl _ _).alloc (Nat.le_refl _) _))
theorem Ip (c:aj)(r:List aj)(b off n cap:Nat)(w:World)(hs:gW w b off (c::r))(hn:(c::r).length=n)(hr:aT (c::r)=O)(hb:64 < n\/c.depth≠0\/1000 < c.w\/1000 < c.h):Calls prog 53 #[Jj (I ⟨b,off,O⟩) n cap] w (gJ (c::r) w):=by
 have HF:Hid (∀X,Below w.heap.size w X->gJ (c::r) w (Jz (.tuple #[.agg #[J Jq 0,J Jq 0,J Jq 0,J Jq 0,Jj O 0 0],.bool false])) X):=fun X hX=>⟨hX,.inl ⟨hr,rfl⟩⟩
 have hq:∀o,lQ (w.alloc o) b off c:=fun o=>(hs.below ((Below.refl _ _).alloc (Nat.le_refl _) o)).at0
 have q0:=fun o=>(hq o).q0
 have q4:=fun o=>(hq o).q4
 have q5:=fun o=>(hq o).q5
 have mU:((n:Int)==0)=false:=by rw[<- hn];simp;omega
 have Va:0 < n:=by rw[<- hn];simp
 obtain⟨L,hL⟩:∃L,c::r=L:=⟨_,rfl⟩
 rw[hL] at HF ⊢
 clear hs hq hr hn hL
 by_cases h1:(64:Int) < n
 . clear hb
   go_enter func53,ntmps53
   go_wp2
   exact bodyPost_ret (v:=.tuple #[.agg #[J Jq 0,J Jq 0,J Jq 0,J Jq 0,Jj O 0 0],.bool false]) (by simp[results,results53,go_sem]) rfl (HF.out _ ((Below.refl _ _).alloc (Nat.le_refl _) _))
 . by_cases h2:c.depth=0
   . have AW:(c.depth != 0)=false:=by simpa using h2
     by_cases h3:1000 < c.w
     . clear hb h2
       go_enter func53,ntmps53
       go_wp2
       exact bodyPost_ret (v:=.tuple #[.agg #[J Jq 0,J Jq 0,J Jq 0,J Jq 0,Jj O 0 0],.bool false]) (by simp[results,results53,go_sem]) rfl (HF.out _ ((Below.refl _ _).alloc (Nat.le_refl _) _))
     . have h4:1000 < c.h:=by omega
       clear hb h2
       go_enter func53,ntmps53
       go_wp2
       exact bodyPost_ret (v:=.tuple #[.agg #[J Jq 0,J Jq 0,J Jq 0,J Jq 0,Jj O 0 0],.bool false]) (by simp[results,results53,go_sem]) rfl (HF.out _ ((Below.refl _ _).alloc (Nat.le_refl _) _))
   . have AW:(c.depth != 0)=true:=by simpa using h2
     clear hb h2
     go_enter func53,ntmps53
     go_wp2
     exact bodyPost_ret (v:=.tuple #[.agg #[J Jq 0,J Jq 0,J Jq 0,J Jq 0,Jj O 0 0],.bool false]) (by simp[results,results53,go_sem]) rfl (HF.out _ ((Below.refl _ _).alloc (Nat.le_refl _) _))
def Di (l:List aj)(i:Nat):Prop:=∀(a:Nat) (x:aj),a < i->l[a]?=I x->(a=0->x.depth=0)/\(1<=a->1<=x.depth)/\x.depth<=a
theorem Di.next {l:List aj}{a:Nat}{x y:aj}(h:Di l (a+1))(hx:l[a]?=I x)(hy:l[a+1]?=I y)(h1:1<=y.depth)(h2:y.depth<=x.depth+1):Di l (a+1+1):=by
 intro b z hb hz
 by_cases e:b=a+1
 . subst e
   rw[hy] at hz
   cases hz
   have:=(h a x (by omega) hx).2.2
   refine⟨fun e=>by omega,fun _=>h1,by omega⟩
 . exact h b z (by omega) hz
theorem Di.all {c:aj}{r:List aj}(h:Di (c::r) (c::r).length):(fG c r).2=[]:=by
 rw[Am]
 have h0:=(h 0 c (by simp) rfl).1 rfl
 rw[h0]
 refine Dj r.length 0 r (Nat.le_refl _) fun x hx=> ?_
 obtain⟨j,hj⟩:=List.getElem?_of_mem hx
 have hl:j < r.length:=(List.getElem?_eq_some_iff.1 hj).1
 have:=(h (j+1) x (by simp;omega) (by simpa using hj)).2.1 (by omega)
 omega
theorem KH (c:aj)(r:List aj)(b off n cap:Nat)(w:World)(hs:gW w b off (c::r))(hn:(c::r).length=n)(h64:n<=64)(h0:c.depth=0)(hw:c.w<=1000)(hh:c.h<=1000):Calls prog 53 #[Jj (I ⟨b,off,O⟩) n cap] w (gJ (c::r) w):=by
 obtain⟨l,hl⟩:∃l,c::r=l:=⟨_,rfl⟩
 rw[hl] at hs hn ⊢
 obtain⟨W,hW⟩:∃W,w.alloc (.cells aU 53)=W:=⟨_,rfl⟩
 have ap:Below w.heap.size w W:=by rw[<- hW];exact (Below.refl _ _).alloc (Nat.le_refl _) _
 have vh:Hid (∀X,Below W.heap.size W X->P7 w X):=fun X hX=>Qv w X (by rw[hW];exact hX)
 have HB:Hid (∀X,Below W.heap.size W X->Below w.heap.size w X):=fun X hX=>af ap hX
 have HS:Hid (∀X,Below W.heap.size W X->gW X b off l):=fun X hX=>hs.below (af ap hX)
 have pm:Hid (W.heap.size=w.heap.size+1):=by show _=_;rw[<- hW];simp
 have HW:Hid (w.alloc (JZ #[J Jq 0,J Jq 0,J Jq 0,J Jq 0,Jj O 0 0] 53)=W):=hW
 have HL:Hid (c::r=l):=hl
 have HN:Hid (l.length=n):=hn
 have fq:Hid (∀X,Below W.heap.size W X->aT l=O->∀v0 v1 v2 v3 v4,gJ l w (Jz (.tuple #[.agg #[J Jq 0,J Jq 0,J Jq 0,J Jq 0,Jj O 0 0],.bool false])) (fB X w.heap.size v0 v1 v2 v3 v4)):=fun X hX hr=>KI hr (af ap hX)
 have HC:Hid (c.depth=0/\c.w<=1000/\c.h<=1000):=⟨h0,hw,hh⟩
 have q0:=fun o=>((hs.below ((Below.refl _ _).alloc (Nat.le_refl _) o)) 0 c (by rw[<- hl];rfl)).q0
 have q4:=fun o=>((hs.below ((Below.refl _ _).alloc (Nat.le_refl _) o)) 0 c (by rw[<- hl];rfl)).q4
 have q5:=fun o=>((hs.below ((Below.refl _ _).alloc (Nat.le_refl _) o)) 0 c (by rw[<- hl];rfl)).q5
 rw[show off+0*7=off by omega] at q0 q4 q5
 have mU:((n:Int)==0)=false:=by rw[<- hn,<- hl];simp;omega
 have Va:0 < n:=by rw[<- hn,<- hl];simp
 have WG:¬(64:Int) < n:=by omega
 have AD:¬ 1000 < c.w:=by omega
 have hh':¬ 1000 < c.h:=by omega
 have E6:(c.depth != 0)=false:=by simpa using h0
 have HG:Hid (∀X,Below W.heap.size W X->Calls prog 82 #[Jj (I ⟨b,off,O⟩) n cap,J Jq 0] X (kR l c r X)):=fun X hX=>by
  have:=Cb r.length l [] c r b off cap X (Nat.le_refl _) hl.symm (by omega) (hs.below (af ap hX))
  rw[hn] at this
  exact this
 clear hs hn hl hW ap h0 hw hh
 go_enter func53,ntmps53
 go_wp2
 rw[HW.out]
 go_loopw [4] (fun v wr=>∃a:Nat,a+1<=n/\v=J Jq ((a+1:Nat):Int)/\Hid (Di l (a+1))/\Hid (Below W.heap.size W wr)) (fun v _=>n-(intOf v).toNat)
 case atStart=>
  refine⟨0,Va,rfl,?_,Below.refl _ _⟩
  intro a x ha hx
  have WH:a=0:=by omega
  subst WH
  rw[<- HL.out] at hx
  simp at hx
  subst hx
  exact⟨fun _=>HC.out.1,fun h=>by omega,by rw[HC.out.1];simp⟩
 case round=>
  obtain⟨a,ha,rfl,HD,bB⟩:=hrel
  clear q0 q4 q5 mU WG AD hh' E6
  by_cases am:a+1 < n
  . obtain⟨y,hy⟩:∃y,l[a+1]?=I y:=⟨_,List.getElem?_eq_getElem (by rw[HN.out];exact am)⟩
    obtain⟨x,hx⟩:∃x,l[a]?=I x:=⟨_,List.getElem?_eq_getElem (by rw[HN.out];omega)⟩
    obtain⟨i,hi⟩:∃i,a+1=i:=⟨_,rfl⟩
    have HX:Hid (∀X,Below wr.heap.size wr X->X.cell? ⟨b,off+i*7,O⟩=I (J Jq y.depth)/\X.cell? ⟨b,off+a*7,O⟩=I (J Jq x.depth)):=fun X hX=>by
     have h:=HS.out X (af bB.out hX)
     exact⟨by rw[<- hi];exact (h (a+1) y hy).q0,(h a x hx).q0⟩
    have qk:Hid (1<=y.depth->y.depth<=x.depth+1->Di l (i+1)):=fun h1 h2=>by rw[<- hi];exact HD.out.next hx hy h1 h2
    have Tw:Hid (¬(1<=y.depth/\y.depth<=x.depth+1)->aT l=O):=fun h=>by
     cases hr:aT l with
     | none=>rfl
     | some t=>exact absurd (NJ hr hx hy) h
    have Vb:=(HD.out a x (by omega) hx)
    have UN:0<=x.depth/\x.depth<=1000:=by
     by_cases e:a=0
     . have:=Vb.1 e;omega
     . have:=Vb.2.1 (by omega);have:=Vb.2.2;omega
    have aL:IntKind.i64.wrap ((i:Int)-1)=(a:Int):=by rw[IntKind.wrap_i64];omega
    have hadd:IntKind.i64.wrap (x.depth+1)=x.depth+1:=by rw[IntKind.wrap_i64];omega
    have bE:i < n:=by omega
    have Vd:a < n:=by omega
    rw[hi]
    have HI:Hid (a+1=i):=hi
    clear hx hy Vb UN hi am ha
    by_cases d1:y.depth < 1
    . have d1':decide (y.depth < 1)=true:=decide_eq_true d1
      have GQ:Hid (aT l=O):=Tw.out fun h=>by omega
      go_wp2_with fail
      . skip
        refine aQ (fun X=>Below wr.heap.size wr X) (by kernel_rfl) (by kernel_rfl) (Below.refl _ _).drew ?_
        repeat (
         refine dJ (v:= ?_) (by rfl) (fun X hX=> ?_) ?_
         rotate_left
         . have x0:=(HX.out X hX).1
           go_simp
           all_goals with_reducible rfl
         intro K hK
         go_simp
         try simp only[d1']
         refine hK.out _ ?_
         clear hK K)
        repeat (
         refine lW (by rfl) ?_
         intro K hK
         go_simp
         refine hK.out _ ?_
         clear hK K)
        repeat (
         refine dJ (v:= ?_) (by rfl) (fun X hX=> ?_) ?_
         rotate_left
         . go_simp
           all_goals with_reducible rfl
         intro K hK
         go_simp
         refine hK.out _ ?_
         clear hK K)
        refine fK ?_
        intro w2 eD
        have yy:Hid (∀v0 v1 v2 v3 v4,gJ l w _ (fB w2 w.heap.size v0 v1 v2 v3 v4)):=fq.out w2 (af bB.out eD) GQ.out
        obtain⟨r0,r1,r2,r3,r4,f0,f1,f2,f3,f4⟩:=vh.out w2 (af bB.out eD)
        clear eD HX
        go_wp2
        exact bodyPost_ret (v:=.tuple #[.agg #[J Jq 0,J Jq 0,J Jq 0,J Jq 0,Jj O 0 0],.bool false]) (by simp[results,results53,go_sem,r0,r1,r2,r3,r4]) rfl (yy.out _ _ _ _ _)
    . have d1':decide (y.depth < 1)=false:=decide_eq_false d1
      by_cases d2:x.depth+1 < y.depth
      . have d2':decide (x.depth+1 < y.depth)=true:=decide_eq_true d2
        have GQ:Hid (aT l=O):=Tw.out fun h=>by omega
        go_wp2_with fail
        . skip
          refine aQ (fun X=>Below wr.heap.size wr X) (by kernel_rfl) (by kernel_rfl) (Below.refl _ _).drew ?_
          repeat (
           refine dJ (v:= ?_) (by rfl) (fun X hX=> ?_) ?_
           rotate_left
           . have x0:=(HX.out X hX).1
             have x1:=(HX.out X hX).2
             go_simp
             all_goals with_reducible rfl
           intro K hK
           go_simp
           try simp only[d1',d2']
           refine hK.out _ ?_
           clear hK K)
          refine fK ?_
          intro w2 eD
          have yy:Hid (∀v0 v1 v2 v3 v4,gJ l w _ (fB w2 w.heap.size v0 v1 v2 v3 v4)):=fq.out w2 (af bB.out eD) GQ.out
          obtain⟨r0,r1,r2,r3,r4,f0,f1,f2,f3,f4⟩:=vh.out w2 (af bB.out eD)
          clear eD HX
          go_wp2
          exact bodyPost_ret (v:=.tuple #[.agg #[J Jq 0,J Jq 0,J Jq 0,J Jq 0,Jj O 0 0],.bool false]) (by simp[results,results53,go_sem,r0,r1,r2,r3,r4]) rfl (yy.out _ _ _ _ _)
      . have d2':decide (x.depth+1 < y.depth)=false:=decide_eq_false d2
        have HDn:Hid (Di l (i+1)):=qk.out (by omega) (by omega)
        go_wp2_with fail
        . skip
          refine aQ (fun X=>Below wr.heap.size wr X) (by kernel_rfl) (by kernel_rfl) (Below.refl _ _).drew ?_
          repeat (
           refine dJ (v:= ?_) (by rfl) (fun X hX=> ?_) ?_
           rotate_left
           . have x0:=(HX.out X hX).1
             have x1:=(HX.out X hX).2
             go_simp
             all_goals with_reducible rfl
           intro K hK
           go_simp
           try simp only[d1',d2']
           refine hK.out _ ?_
           clear hK K)
          refine fK ?_
          intro w2 eD
          have aD:Hid (Below W.heap.size W w2):=af bB.out eD
          clear eD HX
          go_wp2
          go_roundw
          case rel=>exact⟨i,by omega,by go_num,HDn,aD⟩
          case measure=>simp[intOf];omega
  . have Vd:a+1=n:=by omega
    have sk:Hid ((fG c r).2=[]):=by
     have h:=HD.out
     rw[Vd,<- HN.out,<- HL.out] at h
     exact h.all
    have Zd:Hid (Calls prog 82 #[Jj (I ⟨b,off,O⟩) n cap,J Jq 0] wr (kR l c r wr)):=HG.out wr bB.out
    have N2:Hid ((fG c r).1.cnt=n):=by
     have h1:=NK c r
     have h2:=HN.out
     rw[<- HL.out,List.length_cons] at h2
     rw[sk.out] at h1
     simp at h1
     show _=_
     omega
    have j3:Hid ((fG c r).1.w<=1000/\(fG c r).1.h<=1000):=by rw[Am];exact HC.out.2
    have Cw:Hid (∀t,aT l=I t->(fG c r).1=ag t/\(fG c r).1.ok=true/\(fG c r).1.ids.Nodup/\(fG c r).1.ids.length<=32/\qA (fG c r).1 0 0 0=l):=fun t ht=>P8 ht HL.out.symm
    have ky:¬(((a+1:Nat):Int) < (n:Int)):=by omega
    clear am
    rw[Vd] at ky ⊢
    clear Vd ha
    go_wp2_with fail
    refine Zd.out.mono ?_
    rintro e w2 ⟨sa,sn,sc,fp,pre',rfl,e1,e2,e3,e4,e5⟩
    obtain⟨nn,aR⟩:∃x,(fG c r).1=x:=⟨_,rfl⟩
    rw[aR] at N2 j3 Cw e2 ⊢
    have aD:Hid (Below W.heap.size W w2):=af bB.out e5
    have HIn2:Hid (nn.In w2 (Jj sa sn sc) fp):=e2
    have gR:Hid (∀q∈fp,q≠w.heap.size):=fun q hq e=>by
     have h1:=e4 q hq
     have h2:=bB.out.size
     have h3:=pm.out
     omega
    obtain⟨W3,K1⟩:∃X,w2.alloc (JZ #[J Jq nn.k,J Jq nn.w,J Jq nn.h,J Jq nn.i,Jj sa sn sc] 53)=X:=⟨_,rfl⟩
    have aM:Below w2.heap.size w2 W3:=by rw[<- K1];exact (Below.refl _ _).alloc (Nat.le_refl _) _
    have cQ:Hid (Below W.heap.size W W3):=af aD.out aM
    have Im:Hid (nn.In W3 (Jj sa sn sc) fp):=e2.below aM
    have hM:W3.heap[w2.heap.size]?=I (JZ #[J Jq nn.k,J Jq nn.w,J Jq nn.h,J Jq nn.i,Jj sa sn sc] 53 (0,0)):=by rw[<- K1];exact heap_alloc_new _ _
    have RD:Hid (∀X,Below W3.heap.size W3 X->X.heap[w2.heap.size]?=I (JZ #[J Jq nn.k,J Jq nn.w,J Jq nn.h,J Jq nn.i,Jj sa sn sc] 53 (0,0))):=fun X hX=>(hX.block _ (lt_of_block hM)).trans hM
    have HW3:Hid (w2.alloc (JZ #[J Jq nn.k,J Jq nn.w,J Jq nn.h,J Jq nn.i,Jj sa sn sc] 53)=W3):=K1
    have bv:Hid (Calls prog 54 #[.agg #[J Jq nn.k,J Jq nn.w,J Jq nn.h,J Jq nn.i,Jj sa sn sc]] W3 fun e w'=>∃z sz cz,e=Jz (Jj z sz cz)/\nn.ids.length=sz/\dD w' W3.heap.size (Jj z sz cz) nn.ids/\Below W3.heap.size W3 w'):=by
     refine (dF nn (by have:=N2.out;omega) _ fp W3 Im.out).mono ?_
     rintro e w' ⟨u,rfl,h1,h2⟩
     obtain⟨za,zc,hz⟩:=dG h1
     subst hz
     exact⟨za,_,zc,rfl,rfl,h1,h2⟩
    clear e1 e2 e3 e4 e5 aR aM hM K1 Zd
    unfold aC
    go_wp2_with fail
    rw[HW3.out]
    refine bv.out.mono ?_
    rintro e w4 ⟨za,sz,zc,rfl,hsz,Ze,cv⟩
    have K7:Hid (dD w4 W3.heap.size (Jj za sz zc) nn.ids):=Ze
    have Tx:Hid (nn.ids.length=sz):=hsz
    have gr:Hid (Below W3.heap.size W3 w4):=cv
    have Tz:Hid (nn.In w4 (Jj sa sn sc) fp):=Im.out.below cv
    have b9:=RD.out w4 cv
    have m0:w4.cell? ⟨w2.heap.size,0,O⟩=I (J Jq nn.k):=ae b9 0
    have m1:w4.cell? ⟨w2.heap.size,1,O⟩=I (J Jq nn.w):=ae b9 1
    have m2:w4.cell? ⟨w2.heap.size,2,O⟩=I (J Jq nn.h):=ae b9 2
    have m3:w4.cell? ⟨w2.heap.size,3,O⟩=I (J Jq nn.i):=ae b9 3
    have m4:w4.cell? ⟨w2.heap.size,4,O⟩=I (Jj sa sn sc):=ae b9 4
    have zd:Hid (Calls prog 83 #[.agg #[J Jq nn.k,J Jq nn.w,J Jq nn.h,J Jq nn.i,Jj sa sn sc]] w4 fun e w'=>e=Jz (.bool nn.ok)/\Below w4.heap.size w4 w'):=zJ nn (by have:=N2.out;omega) _ fp w4 Tz.out j3.out.1 j3.out.2
    have WI:Hid (nn.ids.length<=1000):=by have:=nI nn;have:=N2.out;show _<=_;omega
    clear Ze hsz cv b9 bv
    go_wp2_with fail
    refine zd.out.mono ?_
    rintro e w5 ⟨rfl,cd⟩
    have fY:Hid (Below W3.heap.size W3 w5):=af gr.out cd
    have TA:Hid (dD w5 W3.heap.size (Jj za sz zc) nn.ids):=K7.out.below cd
    obtain⟨ok,bN⟩:∃x,nn.ok=x:=⟨_,rfl⟩
    rw[bN]
    have uL:Hid (nn.ok=ok):=bN
    clear bN cd zd K7 m0 m1 m2 m3 m4 Tz
    cases ok
    . have yy:Hid (∀v0 v1 v2 v3 v4,gJ l w _ (fB w5 w.heap.size v0 v1 v2 v3 v4)):=fq.out w5 (af cQ.out fY.out) (by
       cases hr:aT l with
       | none=>rfl
       | some t=>have:=(Cw.out t hr).2.1;rw[uL.out] at this;cases this)
      obtain⟨r0,r1,r2,r3,r4,f0,f1,f2,f3,f4⟩:=vh.out w5 (af cQ.out fY.out)
      go_wp2
      exact bodyPost_ret (v:=.tuple #[.agg #[J Jq 0,J Jq 0,J Jq 0,J Jq 0,Jj O 0 0],.bool false]) (by simp[results,results53,go_sem,r0,r1,r2,r3,r4]) rfl (yy.out _ _ _ _ _)
    . have RE:Hid (Calls prog 84 #[Jj za sz zc] w5 fun e w'=>e=Jz (.bool (!decide nn.ids.Nodup))/\Below w5.heap.size w5 w'):=KJ _ _ _ w5 TA.out WI.out
      go_wp2_with fail
      refine RE.out.mono ?_
      rintro e w6 ⟨rfl,eM⟩
      have ov:Hid (Below W3.heap.size W3 w6):=af fY.out eM
      obtain⟨dd,N3⟩:∃x,decide nn.ids.Nodup=x:=⟨_,rfl⟩
      rw[N3]
      have U0:Hid (decide nn.ids.Nodup=dd):=N3
      clear N3 eM RE TA
      cases dd
      . have yy:Hid (∀v0 v1 v2 v3 v4,gJ l w _ (fB w6 w.heap.size v0 v1 v2 v3 v4)):=fq.out w6 (af cQ.out ov.out) (by
         cases hr:aT l with
         | none=>rfl
         | some t=>exact absurd (Cw.out t hr).2.2.1 (of_decide_eq_false U0.out))
        obtain⟨r0,r1,r2,r3,r4,f0,f1,f2,f3,f4⟩:=vh.out w6 (af cQ.out ov.out)
        go_wp2
        exact bodyPost_ret (v:=.tuple #[.agg #[J Jq 0,J Jq 0,J Jq 0,J Jq 0,Jj O 0 0],.bool false]) (by simp[results,results53,go_sem,r0,r1,r2,r3,r4]) rfl (yy.out _ _ _ _ _)
      . by_cases sr:(32:Int) < sz
        . have yy:Hid (∀v0 v1 v2 v3 v4,gJ l w _ (fB w6 w.heap.size v0 v1 v2 v3 v4)):=fq.out w6 (af cQ.out ov.out) (by
           cases hr:aT l with
           | none=>rfl
           | some t=>have:=(Cw.out t hr).2.2.2.1;have:=Tx.out;omega)
          obtain⟨r0,r1,r2,r3,r4,f0,f1,f2,f3,f4⟩:=vh.out w6 (af cQ.out ov.out)
          go_wp2
          exact bodyPost_ret (v:=.tuple #[.agg #[J Jq 0,J Jq 0,J Jq 0,J Jq 0,Jj O 0 0],.bool false]) (by simp[results,results53,go_sem,r0,r1,r2,r3,r4]) rfl (yy.out _ _ _ _ _)
        . have RF:=RD.out w6 ov.out
          have m0:w6.cell? ⟨w2.heap.size,0,O⟩=I (J Jq nn.k):=ae RF 0
          have m1:w6.cell? ⟨w2.heap.size,1,O⟩=I (J Jq nn.w):=ae RF 1
          have m2:w6.cell? ⟨w2.heap.size,2,O⟩=I (J Jq nn.h):=ae RF 2
          have m3:w6.cell? ⟨w2.heap.size,3,O⟩=I (J Jq nn.i):=ae RF 3
          have m4:w6.cell? ⟨w2.heap.size,4,O⟩=I (Jj sa sn sc):=ae RF 4
          have WJ:Hid (nn.In w6 (Jj sa sn sc) fp):=Im.out.below ov.out
          have qD:Hid (Calls prog 16 #[.agg #[J Jq nn.k,J Jq nn.w,J Jq nn.h,J Jq nn.i,Jj sa sn sc]] w6 fun e w'=>∃gb go gc,e=Jz (Jj (I ⟨gb,go,O⟩) n gc)/\gW w' gb go (qA nn 0 0 0)/\Below w6.heap.size w6 w'):=by
           refine (Gm nn (by have:=N2.out;omega) uL.out j3.out.1 j3.out.2 sa sn sc fp w6 WJ.out).mono ?_
           rintro e w' ⟨u,rfl,h1,h2⟩
           have a7:qA nn 0 0 0≠[]:=by cases nn;unfold qA;simp
           obtain⟨gb,go,gc,rfl,_,h3⟩:=h1.cellsIn.seen a7
           rw[lD,N2.out]
           exact⟨gb,go,gc,rfl,h3,h2⟩
          have Nx:Hid ((qA nn 0 0 0).length=n):=by show _=_;rw[lD,N2.out]
          clear RF
          go_wp2_with fail
          refine qD.out.mono ?_
          rintro e w7 ⟨gb,go,gc,rfl,Zf,j7⟩
          have HS7:Hid (gW w7 gb go (qA nn 0 0 0)):=Zf
          have LF:Hid (Below W3.heap.size W3 w7):=af ov.out j7
          clear Zf j7 qD m0 m1 m2 m3 m4
          go_wp2
          go_loopw [9] (fun v wr=>∃i:Nat,i<=n/\v=J Jq i/\Hid ((qA nn 0 0 0).take i=l.take i)/\Hid (Below w7.heap.size w7 wr)) (fun v _=>n-(intOf v).toNat)
          case atStart=>exact⟨0,Nat.zero_le _,rfl,by simp[Hid],Below.refl _ _⟩
          case round=>
           obtain⟨i,hi,rfl,HT,WL⟩:=hrel
           have N4:Hid (Below W3.heap.size W3 wr):=af LF.out WL.out
           by_cases am:i < n
           . obtain⟨x,hx⟩:∃x,(qA nn 0 0 0)[i]?=I x:=⟨_,List.getElem?_eq_getElem (by rw[Nx.out];exact am)⟩
             obtain⟨y,hy⟩:∃y,l[i]?=I y:=⟨_,List.getElem?_eq_getElem (by rw[HN.out];exact am)⟩
             obtain⟨q0,q1,q2,q3,q4,q5,q6⟩:=(HS7.out.below WL.out) i x hx
             obtain⟨p0,p1,p2,p3,p4,p5,p6⟩:=(HS.out wr (af cQ.out N4.out)) i y hy
             obtain⟨eq,heq⟩:∃z,Md x y=z:=⟨_,rfl⟩
             have SA:∀W:World,(Op.equalIn 10000 41 (.agg #[J Jq x.depth,J Jq x.kind,J Jq x.x,J Jq x.y,J Jq x.w,J Jq x.h,J Jq x.p]) (.agg #[J Jq y.depth,J Jq y.kind,J Jq y.x,J Jq y.y,J Jq y.w,J Jq y.h,J Jq y.p])).run prog W=.ok eq W:=fun W=>by
              have:=PH x y W
              rw[heq] at this
              exact this
             have HE:Hid (Md x y=eq):=heq
             have HX:Hid ((qA nn 0 0 0)[i]?=I x):=hx
             have HY:Hid (l[i]?=I y):=hy
             clear heq hx hy
             cases eq
             . have GQ:Hid (aT l=O):=by
                show _=_
                cases hr:aT l with
                | none=>rfl
                | some t=>
                  have h1:=(Cw.out t hr).2.2.2.2
                  exact absurd h1 (vV HX.out HY.out fun e=>by rw[(kQ x y).2 e] at HE;cases HE.out)
               go_wp2
               go_quiet (fail)
               have yy:Hid (∀v0 v1 v2 v3 v4,gJ l w _ (fB (wr.drewN nq) w.heap.size v0 v1 v2 v3 v4)):=fq.out (wr.drewN nq) (below_drewN (af cQ.out N4.out) _) GQ.out
               obtain⟨r0,r1,r2,r3,r4,f0,f1,f2,f3,f4⟩:=vh.out (wr.drewN nq) (below_drewN (af cQ.out N4.out) _)
               go_wp2
               exact bodyPost_ret (v:=.tuple #[.agg #[J Jq 0,J Jq 0,J Jq 0,J Jq 0,Jj O 0 0],.bool false]) (by simp[results,results53,go_sem,r0,r1,r2,r3,r4]) rfl (yy.out _ _ _ _ _)
             . go_wp2
               go_quiet (fail)
               go_wp2
               go_roundw
               case rel=>exact⟨i+1,by omega,by go_num,lS HT.out HX.out HY.out ((kQ x y).1 HE.out),below_drewN WL.out _⟩
               case measure=>simp[intOf];omega
           . have bE:i=n:=by omega
             subst bE
             have HEq:Hid (qA nn 0 0 0=l):=by
              have h:=HT.out
              rwa [List.take_of_length_le (by rw[Nx.out];exact Nat.le_refl _),List.take_of_length_le (by rw[HN.out];exact Nat.le_refl _)] at h
             obtain⟨t,RG,WM⟩:=O4 uL.out j3.out.1 j3.out.2 (of_decide_eq_true U0.out) (by have:=Tx.out;omega) HEq.out
             have cf:∀q∈fp,q≠w.heap.size:=gR.out
             have HFy:Hid (∀v0 v1 v2 v3 v4,gJ l w (Jz (.tuple #[.agg #[J Jq nn.k,J Jq nn.w,J Jq nn.h,J Jq nn.i,Jj sa sn sc],.bool true])) (fB wr w.heap.size v0 v1 v2 v3 v4)):=fun v0 v1 v2 v3 v4=>by
              refine⟨bC (HB.out _ (af cQ.out N4.out)) _ (Nat.le_refl _) _ _ _ _ _,.inr ⟨t,sa,sn,sc,fp,RG,by rw[<- WM];rfl,?_⟩⟩
              rw[<- WM]
              exact (Im.out.below N4.out).keep fun q hq=>fD _ _ _ _ _ _ _ q (cf q hq)
             obtain⟨r0,r1,r2,r3,r4,f0,f1,f2,f3,f4⟩:=vh.out wr (af cQ.out N4.out)
             have bO:=RD.out wr N4.out
             have m0:wr.cell? ⟨w2.heap.size,0,O⟩=I (J Jq nn.k):=ae bO 0
             have m1:wr.cell? ⟨w2.heap.size,1,O⟩=I (J Jq nn.w):=ae bO 1
             have m2:wr.cell? ⟨w2.heap.size,2,O⟩=I (J Jq nn.h):=ae bO 2
             have m3:wr.cell? ⟨w2.heap.size,3,O⟩=I (J Jq nn.i):=ae bO 3
             have m4:wr.cell? ⟨w2.heap.size,4,O⟩=I (Jj sa sn sc):=ae bO 4
             clear bO cf RG WM
             go_wp2
             exact bodyPost_ret (v:=.tuple #[.agg #[J Jq nn.k,J Jq nn.w,J Jq nn.h,J Jq nn.i,Jj sa sn sc],.bool true]) (by simp[results,results53,go_sem,r0,r1,r2,r3,r4]) rfl (HFy.out _ _ _ _ _)
theorem Ac (v:Value)(l:List aj)(w:World)(h:ay w v l):Calls prog 53 #[v] w (gJ l w):=by
 cases l with
 | nil=>
   obtain⟨ad,cap,rfl⟩:=h.nil
   exact Io ad cap w
 | cons c r=>
   obtain⟨b,off,cap,rfl,_,hs⟩:=h.seen (by simp)
   by_cases hb:64 < (c::r).length\/c.depth≠0\/1000 < c.w\/1000 < c.h
   . refine Ip c r b off _ cap w hs rfl ?_ hb
     cases hr:aT (c::r) with
     | none=>rfl
     | some t=>
       exfalso
       obtain⟨h1,h2,h3,_⟩:=Dk hr rfl
       have h4:=(aV hr).size
       omega
   . exact KH c r b off _ cap w hs rfl (by omega) (by omega) (by omega) (by omega)
def mark (n:Int):aj:=⟨0,0,0,0,0,0,n⟩
def marks:List aj:=[mark 201,mark 202,mark 203]
theorem lq {ops:Array Oper}{rest:List Oper}{o:Oper}{a:Act}{Q:Exit->Act->World->Prop}(w:World)(e9:o.guard=O)(s x:Operand)
 (ho:o.op=.call { callee:=.builtin .append,args:=#[s,x],argTypes:=#[23,23] })
 (v:Value) (l:List aj) (hs:a.eval s=Jj O 0 0) (hx:a.eval x=v) (hv:ay w v l) (hn:v=Jj O 0 0\/∃a n c,v=Jj (I a) n c) (hlen:l.length*56<=140737488351232)
 (h:∀v' w',az w' w.heap.size v' l->w.grownBy w' O->wpList prog ops Q rest (a.put o.dst v') w'):wpList prog ops Q (o::rest) a w:=by
 obtain⟨i0,hi,eh,db,cJ⟩:=bH xC
 obtain⟨ad,cap,h1,h2,h3⟩:=hv.shape
 rcases hn with rfl | ⟨a',n',c',il⟩
 . have hl:l=[]:=List.length_eq_zero_iff.1 (by injection h1 with _ e _;exact e.symm)
   subst hl
   refine wpList_append_own_none e9 s x 23 ho w.heap.size 41 i0 7 underlying23 hi _ 0 [] hs (World.ownsRow_nil _ _ _ _) hx ?_
   exact h _ w (World.ownsRow_nil _ _ _ _) ⟨rfl,rfl,rfl,Nat.le_refl _,fun _ _ _=>rfl⟩
 . subst il
   cases h1
   refine wpList_append_own_at _ e9 s x 23 ho w.heap.size 41 i0 (.agg zeroCell.vals) 7 56 underlying23 hi eh db cJ rfl (by decide) _ 0 [] hs (World.ownsRow_nil _ _ _ _) a' l.length cap (bz l) hx (iR l) ?_ (lu l) ?_ ?_ (Nat.le_refl _) ?_
   . intro j u hu
     rcases h3 with rfl | ⟨b,off,e,h4⟩
     . simp[bz] at hu
     . cases e
       rw[jJ]
       exact h4 j u hu
   . unfold maxLen;omega
   . omega
   . intro v' w' k2 k3 _ _
     refine h v' w' ?_ k3
     unfold az
     simpa using k2
theorem lC {ops:Array Oper}{rest:List Oper}{o:Oper}{a:Act}{Q:Exit->Act->World->Prop}(w:World)(e9:o.guard=O)(s x:Operand)
 (ho:o.op=.call { callee:=.builtin .append,args:=#[s,x],argTypes:=#[23,23] })
 (B:Nat) (v:Value) (l:List aj) (hs:a.eval s=v) (bm:az w B v l) (hx:a.eval x=Jj (I ⟨w.heap.size,0,O⟩) 3 3) (hlen:l.length*56<=140737488351232) (hB:B<=w.heap.size)
 (h:∀v' w',az w' B v' (l++marks)->(w.alloc (.cells (bz marks).toArray 41)).grownBy w' v.ownBlock->wpList prog ops Q rest (a.put o.dst v') w'):wpList prog ops Q (o::rest) a (w.alloc (.cells (bz marks).toArray 41)):=by
 obtain⟨i0,hi,eh,db,cJ⟩:=bH xC
 refine wpList_append_own_at _ e9 s x 23 ho B 41 i0 (.agg zeroCell.vals) 7 56 underlying23 hi eh db cJ rfl (by decide) v l.length (bz l) hs (World.ownsRow.alloc bm _) ⟨w.heap.size,0,O⟩ 3 3 (bz marks) hx rfl ?_ (lu _) ?_ ?_ ?_ ?_
 . intro j u hu
   rw[jJ,Nat.zero_add,dW]
   simpa using hu
 . unfold maxLen;omega
 . omega
 . have:(w.alloc (.cells (bz marks).toArray 41)).heap.size=w.heap.size+1:=by simp
   omega
 . intro v' w' k2 k3 _ _
   refine h v' w' ?_ k3
   unfold az
   rw[gY,List.length_append]
   exact k2
structure kD (w:World)(g cap:Nat)(l:List aj):Prop where
 seen:gW w g 0 (l++marks)
 cap:l.length+3<=cap
 lt:g < w.heap.size
theorem kD.below {w w':World}{g cap:Nat}{l:List aj}(h:kD w g cap l)(hb:Below w.heap.size w w'):kD w' g cap l:=⟨h.seen.below hb,h.cap,Nat.lt_of_lt_of_le h.lt hb.size⟩
theorem lQ.cells {w:World}{b off:Nat}{c:aj}(h:lQ w b off c)(o:Nat)(u:Value)(hu:c.vals[o]?=I u):w.cell? ⟨b,off+o,O⟩=I u:=by
 have hj:o < 7:=(Array.getElem?_eq_some_iff.1 hu).1
 match o,hj with
 | 0,_=>cases hu;exact h.q0
 | 1,_=>cases hu;exact h.q1
 | 2,_=>cases hu;exact h.q2
 | 3,_=>cases hu;exact h.q3
 | 4,_=>cases hu;exact h.q4
 | 5,_=>cases hu;exact h.q5
 | 6,_=>cases hu;exact h.q6
theorem kD.cellsIn {w:World}{g cap:Nat}{l:List aj}(h:kD w g cap l):ay w (Jj (I ⟨g,0,O⟩) l.length cap) l:=by
 refine⟨_,_,rfl,by have:=h.cap;omega,.inr ⟨g,0,rfl,fun j u hu=> ?_⟩⟩
 obtain⟨i,c,o,e1,e2,e3,e4⟩:=nN l j u hu
 have hi:i < l.length:=(List.getElem?_eq_some_iff.1 e1).1
 have hc:=h.seen i c (by rw[List.getElem?_append_left hi];exact e1)
 have:=hc.cells o u e4
 rw[e3]
 rw[show 0+(i*7+o)=0+i*7+o by omega]
 exact this
theorem zn {w:World}{B:Nat}{v:Value}{l:List aj}(h:az w B v l)(hl:l≠[]):∃g cap,v=Jj (I ⟨g,0,O⟩) l.length cap/\B<=g/\l.length<=cap/\g < w.heap.size/\gW w g 0 l:=by
 obtain⟨b,off,cap,e,hc,hs⟩:=h.cellsIn.seen hl
 rcases h.2 with ⟨h0,h1⟩ | ⟨g,cap',cur,e',hb,hg,r⟩
 . exact absurd (List.length_eq_zero_iff.1 h1) hl
 . rw[e'] at e
   cases e
   exact⟨_,_,e',hb,hc,lt_of_block hg,hs⟩
theorem twin_any (v:Value)(l:List aj)(w:World)(hv:ay w v l)(hn:v=Jj O 0 0\/∃a n c,v=Jj (I a) n c)(hlen:l.length*56<=140737488351232):Calls prog 11 #[v] w fun e w'=>∃g cap,e=Jz (Jj (I ⟨g,0,O⟩) l.length cap)/\kD w' g cap l/\w.heap.size<=g/\Below w.heap.size w w':=by
 have HV:=zh hv
 have HN:=zh hn
 obtain⟨ad,cap,ud⟩:=hv.length
 obtain⟨n,aR⟩:∃n,l.length=n:=⟨_,rfl⟩
 have HL:=zh aR
 have nW:=zh hlen
 rw[aR] at ud
 have kq:n<=4611686018427387904:=by omega
 have HM:Hid ((l++marks).length=n+3):=by show _=_;rw[List.length_append,aR];rfl
 rw[aR]
 subst ud
 clear hv hn aR hlen
 go_enter func11,ntmps11
 go_wp2_with (at_builtin;first
  | (refine lq w rfl (.tmp 4) (.tmp 5) rfl _ l rfl rfl HV.out HN.out nW.out ?_;intro v1 w1 a1 a2;have H1:Hid (az w1 w.heap.size v1 l):=a1;have cY:Hid (Below w.heap.size w w1):=(Below.refl w.heap.size w).grown a2 (Nat.le_refl _) (fun k e=>by cases e);clear a1 a2)
  | (refine lC w1 rfl (.tmp 7) (.tmp 11) rfl w.heap.size v1 l rfl H1.out (by simp[Act.eval]) nW.out cY.out.size ?_;intro v2 w2 a1 a2;have aD:Hid (Below w.heap.size w w2):=(cY.out.alloc cY.out.size _).grown a2 (Nat.le_trans cY.out.size (by simp)) (fun k e=>(World.ownsRow.lt H1.out k e).1);obtain⟨g,cap2,e1,e2,e3,e4,e5⟩:=zn a1 (by unfold marks;simp);rw[HM.out] at e1 e3;subst e1;have my:n<=cap2:=(by omega);have H2:Hid (kD w2 g cap2 l/\w.heap.size<=g):=⟨⟨e5,(by rw[HL.out];exact e3),e4⟩,e2⟩;clear a1 a2 e2 e3 e4 e5))
 go_ret
 exact⟨_,_,rfl,H2.out.1,H2.out.2,aD.out⟩
theorem JI (b1 o1 c1 b2 o2 c2 n:Nat)(l1 l2:List aj)(w:World)(h1:gW w b1 o1 l1)(h2:gW w b2 o2 l2)(du:l1.length=n)(fe:l2.length=n)(hn:n<=4611686018427387904):
 Calls prog 8 #[Jj (I ⟨b1,o1,O⟩) n c1,Jj (I ⟨b2,o2,O⟩) n c2] w fun e w'=>e=Jz (.bool (decide (l1=l2)))/\Below w.heap.size w w':=by
 have H1:=zh h1
 have H2:=zh h2
 have kx:=zh du
 have ij:=zh fe
 obtain⟨rr,kj⟩:∃r,decide (l1=l2)=r:=⟨_,rfl⟩
 rw[kj]
 have HR:=zh kj
 clear h1 h2 du fe kj
 go_enter func8,ntmps8
 go_wp2
 go_loopw [5] (fun v wr=>∃i:Nat,i<=n/\v=J Jq i/\Hid (l1.take i=l2.take i)/\Hid (Below w.heap.size w wr)) (fun v _=>n-(intOf v).toNat)
 case atStart=>exact⟨0,Nat.zero_le _,rfl,by simp[Hid],Below.refl _ _⟩
 case round=>
  obtain⟨i,hi,rfl,HT,HB⟩:=hrel
  by_cases am:i < n
  . obtain⟨x,hx⟩:∃x,l1[i]?=I x:=⟨_,List.getElem?_eq_getElem (by rw[kx.out];exact am)⟩
    obtain⟨y,hy⟩:∃y,l2[i]?=I y:=⟨_,List.getElem?_eq_getElem (by rw[ij.out];exact am)⟩
    obtain⟨q0,q1,q2,q3,q4,q5,q6⟩:=(H1.out.below HB.out) i x hx
    obtain⟨p0,p1,p2,p3,p4,p5,p6⟩:=(H2.out.below HB.out) i y hy
    obtain⟨r,hr⟩:∃r,Md x y=r:=⟨_,rfl⟩
    have SA:∀W:World,(Op.equalIn 10000 41 (.agg #[J Jq x.depth,J Jq x.kind,J Jq x.x,J Jq x.y,J Jq x.w,J Jq x.h,J Jq x.p]) (.agg #[J Jq y.depth,J Jq y.kind,J Jq y.x,J Jq y.y,J Jq y.w,J Jq y.h,J Jq y.p])).run prog W=.ok r W:=fun W=>by
     have:=PH x y W
     rw[hr] at this
     exact this
    have HE:=zh hr
    have HX:=zh hx
    have HY:=zh hy
    clear hr hx hy
    cases r
    . have HF:Hid (rr=false):=HR.out.symm.trans (decide_eq_false (vV HX.out HY.out fun e=>by rw[(kQ x y).2 e] at HE;cases HE.out))
      go_wp2
      go_quiet (fail)
      go_wp2
      go_ret
      exact⟨by rw[HF.out];rfl,below_drewN HB.out _⟩
    . go_wp2
      go_quiet (fail)
      go_wp2
      go_roundw
      case rel=>exact⟨i+1,by omega,by go_num,lS HT.out HX.out HY.out ((kQ x y).1 HE.out),below_drewN HB.out _⟩
      case measure=>simp[intOf];omega
  . have HF:Hid (rr=true):=HR.out.symm.trans (decide_eq_true (by
     have h:=HT.out
     rwa [List.take_of_length_le (by rw[kx.out];omega),List.take_of_length_le (by rw[ij.out];omega)] at h))
    go_wp2
    go_ret
    exact⟨by rw[HF.out];rfl,HB.out⟩
theorem MQ (v1 v2:Value)(l1 l2:List aj)(w:World)(h1:ay w v1 l1)(h2:ay w v2 l2)(hn:l1.length<=4611686018427387904):
 Calls prog 8 #[v1,v2] w fun e w'=>e=Jz (.bool (decide (l1=l2)))/\Below w.heap.size w w':=by
 by_cases hl:l1.length=l2.length
 . by_cases h0:l1=[]
   . subst h0
     have SB:l2=[]:=List.length_eq_zero_iff.1 hl.symm
     subst SB
     obtain⟨a1,c1,rfl⟩:=h1.nil
     obtain⟨a2,c2,rfl⟩:=h2.nil
     exact (FZ a1 a2 c1 c2 w).mono fun e w' h=>⟨by rw[h.1];simp,h.2 ▸ Below.refl _ _⟩
   . have SC:l2≠[]:=by rintro rfl;exact h0 (List.length_eq_zero_iff.1 hl)
     obtain⟨b1,o1,c1,rfl,_,k1⟩:=h1.seen h0
     obtain⟨b2,o2,c2,rfl,_,k2⟩:=h2.seen SC
     rw[<- hl]
     exact JI b1 o1 c1 b2 o2 c2 l1.length l1 l2 w k1 k2 rfl hl.symm hn
 . obtain⟨a1,c1,rfl⟩:=h1.length
   obtain⟨a2,c2,rfl⟩:=h2.length
   refine (F5 a1 a2 _ c1 _ c2 w hl).mono fun e w' h=>⟨?_,h.2 ▸ Below.refl _ _⟩
   rw[h.1,decide_eq_false]
   intro e
   exact hl (congrArg _ e)
theorem F6 (v:Value)(g cap:Nat)(l:List aj)(w:World)(ht:kD w g cap l)(hv:ay w v l)(hlen:l.length*56<=140737488351232):Calls prog 12 #[Jj (I ⟨g,0,O⟩) l.length cap,v] w fun e w'=>e=Jz (.bool true)/\Below w.heap.size w w':=by
 have HS:Hid (Calls prog 8 #[Jj (I ⟨g,0,O⟩) l.length cap,v] w fun e w'=>e=Jz (.bool true)/\Below w.heap.size w w'):=by
  have:=MQ _ v l l w ht.cellsIn hv (by omega)
  rw[decide_eq_true rfl] at this
  exact this
 obtain⟨ad,cp,ud⟩:=hv.length
 obtain⟨n,aR⟩:∃n,l.length=n:=⟨_,rfl⟩
 have HT:Hid (∀X,Below w.heap.size w X->X.cell? ⟨g,n*7+6,O⟩=I (J Jq 201)/\X.cell? ⟨g,(n+1)*7+6,O⟩=I (J Jq 202)/\X.cell? ⟨g,(n+2)*7+6,O⟩=I (J Jq 203)):=fun X hX=>by
  have h1:=(ht.seen.below hX) n (mark 201) (by rw[List.getElem?_append_right (by omega),aR,Nat.sub_self];rfl)
  have h2:=(ht.seen.below hX) (n+1) (mark 202) (by rw[List.getElem?_append_right (by omega),aR,Nat.add_sub_cancel_left];rfl)
  have h3:=(ht.seen.below hX) (n+2) (mark 203) (by rw[List.getElem?_append_right (by omega),aR,Nat.add_sub_cancel_left];rfl)
  exact⟨by simpa [mark] using h1.q6,by simpa [mark] using h2.q6,by simpa [mark] using h3.q6⟩
 have cG:=ht.cap
 rw[aR] at cG ud HS ⊢
 have kq:n<=4611686018427387000:=by omega
 have FS:IntKind.i64.wrap ((n:Int)+3)=((n+3:Nat):Int):=by rw[IntKind.wrap_i64];omega
 have kr:IntKind.i64.wrap ((n:Int)+1)=((n+1:Nat):Int):=by rw[IntKind.wrap_i64];omega
 have rj:IntKind.i64.wrap ((n:Int)+2)=((n+2:Nat):Int):=by rw[IntKind.wrap_i64];omega
 obtain⟨n1,du⟩:∃x,n+1=x:=⟨_,rfl⟩
 obtain⟨n2,fe⟩:∃x,n+2=x:=⟨_,rfl⟩
 obtain⟨n3,rl⟩:∃x,n+3=x:=⟨_,rfl⟩
 rw[du] at kr HT
 rw[fe] at rj HT
 rw[rl] at FS cG
 have l0:n < n3:=by omega
 have l1:n1 < n3:=by omega
 have l2:n2 < n3:=by omega
 subst ud
 clear ht hv hlen aR du fe rl kq
 go_enter func12,ntmps12
 go_wp2_with fail
 refine HS.out.mono ?_
 rintro e w1 ⟨rfl,hb⟩
 obtain⟨c1,c2,c3⟩:=HT.out w1 hb
 go_wp2
 go_ret
 exact⟨rfl,hb⟩
theorem jr {l:List aj}{t:Tree}(hr:aT l=I t):(ag t).ids=aH l/\1<=(aH l).length/\(aH l).length<=32/\(aH l).Nodup/\(ag t).cnt<=1000:=by
 have h:=aV hr
 have hi:=jo t 0 h.kinds
 rw[h.tell] at hi
 have hs:=nH t h.kinds h.sound
 rw[hi] at hs
 have hf:=Ar h.few
 have hp:=t.kK
 refine⟨hi,by omega,hf.1,hf.2,?_⟩
 have h1:=lD (ag t) 0 0 0
 rw[rV t 0 0 0,h.moved,h.tell] at h1
 have:=h.size
 omega
def Ez (zs:List Int)(x:Int)(k:Nat):Prop:=zs[k]?=I x/\∀j,j < k->zs[j]?≠I x
theorem Ez.one {zs:List Int}{x:Int}{j k:Nat}(h1:Ez zs x j)(h2:Ez zs x k):j=k:=by
 rcases Nat.lt_trichotomy j k with h | h | h
 . exact absurd h1.1 (h2.2 j h)
 . exact h
 . exact absurd h2.1 (h1.2 k h)
theorem dS:∀(ts:List Tree) (i:Nat) (t:Tree),ts[i]?=I t->(nodesOf ts)[i]?=I (ag t)
 | [],i,t,h=>by simp at h
 | a::ts,0,t,h=>by
   simp at h
   subst h
   rfl
 | a::ts,i+1,t,h=>by
   show (nodesOf ts)[i]?=_
   exact dS ts i t (by simpa using h)
def lL (t:Tree):Prop:=∀sl fp w d,(ag t).In w sl fp->Calls prog 60 #[.agg (aC (ag t) sl),J Jq d] w fun e w'=>e=Jz (J Jq (t.room d))/\Below w.heap.size w w'
theorem G8 (b:Box)(p:Int)(hs:(Tree.leaf b p).sound=true):lL (.leaf b p):=by
 intro sl fp w d ab
 obtain⟨a,c,av⟩:=ab.sl
 change sl=Jj a 0 c at av
 subst av
 have HE:Hid (∀X,Calls prog 57 #[.agg #[J Jq 1,J Jq b.w,J Jq b.h,J Jq p,Jj a 0 c],J Jq d] X fun e w'=>e=Jz (J Jq (b.ext d))/\Below X.heap.size X w'):=fun X=>eQ (.mk 1 b.w b.h p []) a 0 c d X
 have HB:Hid (∀o,Below w.heap.size w (w.alloc o)):=fun o=>(Below.refl _ _).alloc (Nat.le_refl _) o
 have hb:=bT (.leaf b p) d hs
 change 0<=b.ext d-1/\b.ext d-1<=1000*((1:Nat):Int) at hb
 show Calls prog 60 #[.agg #[J Jq 1,J Jq b.w,J Jq b.h,J Jq p,Jj a 0 c],J Jq d] w fun e w'=>e=Jz (J Jq (b.ext d-1))/\Below w.heap.size w w'
 obtain⟨x,hx⟩:∃x,b.ext d=x:=⟨_,rfl⟩
 rw[hx] at HE hb ⊢
 have hw:IntKind.i64.wrap (x-1)=x-1:=by rw[IntKind.wrap_i64];omega
 clear hs hx hb ab
 go_enter func60,ntmps60
 go_wp2_with fail
 refine (HE.out _).mono ?_
 rintro e w1 ⟨rfl,bj⟩
 have cY:Hid (Below w.heap.size w w1):=af (HB.out _) bj
 clear bj
 go_wp2
 go_ret
 exact⟨rfl,cY.out⟩
theorem Eg (b:Box)(k:Int)(ts:List Tree)(hk:k=2\/k=3)(hs:au ts b k=true)(hz:sizes ts<=1000)(IH:∀t∈ts,lL t):lL (.split b k ts):=by
 intro sl fp w d ab
 obtain⟨ad,cap,av⟩:=ab.sl
 change (Node.mk k b.w b.h 0 (nodesOf ts)).In w sl fp at ab
 change sl=Jj ad (nodesOf ts).length cap at av
 rw[ax] at av
 obtain⟨m,hm⟩:∃m,ts.length=m:=⟨_,rfl⟩
 have da:m<=1000:=by have:=aI ts;omega
 obtain⟨W,hW⟩:∃W,w.alloc (JZ #[J Jq k,J Jq b.w,J Jq b.h,J Jq 0,sl] 53)=W:=⟨_,rfl⟩
 have cN:W.heap[w.heap.size]?=I (JZ #[J Jq k,J Jq b.w,J Jq b.h,J Jq 0,sl] 53 (0,0)):=by rw[<- hW];exact heap_alloc_new _ _
 have mj:Below w.heap.size w W:=by rw[<- hW];exact (Below.refl _ _).alloc (Nat.le_refl _) _
 have kt:Hid (∀X,Below W.heap.size W X->X.heap[w.heap.size]?=I (JZ #[J Jq k,J Jq b.w,J Jq b.h,J Jq 0,sl] 53 (0,0))):=fun X hX=>(hX.block _ (lt_of_block cN)).trans cN
 have HB:Hid (∀X,Below W.heap.size W X->Below w.heap.size w X):=fun X hX=>af mj hX
 have HI:=zh (ab.below mj)
 have eJ:=zh IH
 have HM:=zh hm
 have Sc:=zh hs
 have HZ:=zh hz
 have HW:=zh hW
 have kk:(k==1)=false:=by
  have:k≠1:=by omega
  simpa using this
 rw[hm] at av
 subst av
 show Calls prog 60 #[.agg #[J Jq k,J Jq b.w,J Jq b.h,J Jq 0,Jj ad m cap],J Jq d] w fun e w'=>e=Jz (J Jq (if d=k then bg ts d else aP ts d))/\Below w.heap.size w w'
 obtain⟨Z,tL⟩:∃z,(if d=k then bg ts d else aP ts d)=z:=⟨_,rfl⟩
 have FA:=zh tL
 rw[tL]
 clear ab IH hm hs hz cN mj hW hk tL
 go_enter func60,ntmps60
 go_wp2
 rw[HW.out]
 go_loopw [5,6,7] (fun va vl v wr=>∃i:Nat,i<=m/\va=J Jq (bg (ts.take i) d)/\vl=J Jq (aP (ts.take i) d)/\v=J Jq i/\Hid (Below W.heap.size W wr)) (fun _ _ v _=>m-(intOf v).toNat)
 case atStart=>exact⟨0,Nat.zero_le _,rfl,rfl,rfl,Below.refl _ _⟩
 case round=>
  obtain⟨i,hi,rfl,rfl,rfl,bB⟩:=hrel
  have km:=kt.out wr bB.out
  have b0:wr.cell? ⟨w.heap.size,0,O⟩=I (J Jq k):=ae km 0
  have b4:wr.cell? ⟨w.heap.size,4,O⟩=I (Jj ad m cap):=ae km 4
  clear km
  by_cases am:i < m
  . obtain⟨t,ht⟩:∃t,ts[i]?=I t:=⟨_,List.getElem?_eq_getElem (by rw[HM.out];exact am)⟩
    obtain⟨g,cap',e1,e2,e3⟩:=(HI.out.below bB.out).kids (by intro e;have h:=ax ts;rw[e,HM.out] at h;simp at h;omega)
    rw[ax,HM.out] at e1
    cases e1
    obtain⟨sl',f',e4,q0,q1,q2,q3,q4⟩:=e3 i (ag t) (dS ts i t ht)
    obtain⟨ad',c',cq⟩:=e4.sl
    have lx:Hid (Calls prog 60 #[.agg (aC (ag t) sl'),J Jq d] wr fun e w'=>e=Jz (J Jq (t.room d))/\Below wr.heap.size wr w'):=eJ.out t (List.mem_of_getElem? ht) sl' f' wr d e4
    subst cq
    have h1:=oH ts d i t ht
    have h2:=lX ts d i t ht
    have h3:=(jb (ts.take i) b k d (jK ts b k Sc.out i)).1
    have h4:=(jb (ts.take (i+1)) b k d (jK ts b k Sc.out (i+1))).1
    have h5:=nD ts i
    have h6:=nD ts (i+1)
    have h7:=HZ.out
    obtain⟨A,hA⟩:∃x,bg (ts.take i) d=x:=⟨_,rfl⟩
    obtain⟨B,hB⟩:∃x,aP (ts.take i) d=x:=⟨_,rfl⟩
    obtain⟨R,pT⟩:∃x,t.room d=x:=⟨_,rfl⟩
    rw[hA,pT] at h1
    rw[hB,pT] at h2
    rw[h1] at h4
    rw[hA] at h3
    rw[pT] at lx
    rw[hA,hB]
    have hw:IntKind.i64.wrap (A+R)=A+R:=by rw[IntKind.wrap_i64];omega
    have H1:=zh h1
    have H2:=zh h2
    obtain⟨nn,aR⟩:∃x,ag t=x:=⟨_,rfl⟩
    rw[aR] at lx q0 q1 q2 q3 q4
    unfold aC at lx
    clear e2 e3 e4 ht h1 h2 h3 h4 h5 h6 h7 hA hB pT aR
    go_wp2_with fail
    refine lx.out.mono ?_
    rintro e w1 ⟨rfl,bj⟩
    have cY:=zh (af bB.out bj)
    clear bj lx
    go_wp2
    go_roundw
    case rel=>exact⟨i+1,by omega,by rw[H1.out],by rw[H2.out],by go_num,cY⟩
    case measure=>simp[intOf];omega
  . have bE:i=m:=by omega
    subst bE
    rw[List.take_of_length_le (by rw[HM.out];exact Nat.le_refl _)]
    obtain⟨A,hA⟩:∃x,bg ts d=x:=⟨_,rfl⟩
    obtain⟨B,hB⟩:∃x,aP ts d=x:=⟨_,rfl⟩
    rw[hA,hB]
    have FG:Hid (d=k->A=Z):=fun e=>by rw[<- FA.out,if_pos e,hA]
    have sT:Hid (¬d=k->B=Z):=fun e=>by rw[<- FA.out,if_neg e,hB]
    clear hA hB
    by_cases Ay:d=k
    . have LR:(k==d)=true:=by simp[Ay]
      have HD:=zh (FG.out Ay)
      clear Ay FG sT
      go_wp2
      go_ret
      exact⟨by rw[<- HD.out];rfl,HB.out _ bB.out⟩
    . have LR:(k==d)=false:=by simp;omega
      have HD:=zh (sT.out Ay)
      clear Ay FG sT
      go_wp2
      go_ret
      exact⟨by rw[<- HD.out];rfl,HB.out _ bB.out⟩
mutual
theorem jl:∀(t:Tree),t.kinds->t.sound=true->t.size<=1000->lL t
 | .leaf b p,hk,hs,hz=>G8 b p hs
 | .split b k ts,hk,hs,hz=>by
   unfold Tree.sound at hs
   simp only[Bool.and_eq_true,decide_eq_true_eq] at hs
   unfold Tree.size at hz
   exact Eg b k ts hk.1 hs.2.1 (by omega) (tK ts b k hk.2 hs.2.1 (by omega))
theorem tK:∀(ts:List Tree) (b:Box) (k:Int),bi ts->au ts b k=true->sizes ts<=1000->∀t∈ts,lL t
 | [],b,k,hk,hs,hz=>fun t ht=>by cases ht
 | a::ts,b,k,hk,hs,hz=>fun t ht=>by
   unfold au at hs
   simp only[Bool.and_eq_true] at hs
   unfold sizes at hz
   rcases List.mem_cons.1 ht with e | ht
   . exact e ▸ jl a hk.1 hs.1.1 (by omega)
   . exact tK ts b k hk.2 hs.2 (by omega) t ht
end
def fJ (t:Tree)(d:Int):Int:=t.box.ext d-t.room d
theorem lay_size {l:List aj}{t:Tree}(h:rC l t):t.size<=63:=by
 have h3:=Tree.eu t 0
 rw[h.tell] at h3
 have:=h.size
 omega
theorem iH {W : World} {B : Nat} {t : Tree} {T : TypeId} {g : Nat} {fp : List Nat} (h : t.At W B (.iface T (JJ (I ⟨g, 0, O⟩))) fp) : ∀ d X, Below W.heap.size W X → (method 286 T (JJ (I ⟨g, 0, O⟩)) "mullion/layout.extent").run prog X = .ok (38, JJ (I ⟨g, 0, O⟩)) X ∧ Calls prog 38 #[JJ (I ⟨g, 0, O⟩), J Jq d] X fun e w' => e = Jz (J Jq (t.box.ext d)) ∧ X = w' := by
 obtain⟨g',hv,hb,_⟩:=h.own
 intro d X hX
 rcases hv with hv | hv
 . cases hv
   exact⟨nz _ X,dC _ t.box d X (hb.below hX)⟩
 . cases hv
   exact⟨nC _ X,dC _ t.box d X (hb.below hX)⟩
theorem rD (t:Tree)(T:TypeId)(g:Nat)(fp:List Nat)(d:Int)(w:World)(h:t.At w 0 (.iface T (JJ (I ⟨g,0,O⟩))) fp)(hs:t.sound=true)(hz:t.size<=63):Calls prog 47 #[.iface T (JJ (I ⟨g,0,O⟩)),J Jq d] w fun e w'=>e=Jz (J Jq (fJ t d))/\w=w':=by
 obtain⟨T',gi,Fr,hp⟩:=h.Ea hs (by omega)
 have e:=hp.val
 cases e
 have m1 : ∀ W, (method 286 T (JJ (I ⟨g, 0, O⟩)) "mullion/layout.extent").run prog W = .ok (38, JJ (I ⟨g, 0, O⟩)) W := by
  obtain⟨g',hv,_,_⟩:=h.own
  rcases hv with hv | hv
  . cases hv;exact nz _
  . cases hv;exact nC _
 have HE:Hid (Calls prog 38 #[JJ (I ⟨g,0,O⟩),J Jq d] w fun e w'=>e=Jz (J Jq (t.box.ext d))/\w=w'):=(iH h d w (Below.refl _ _)).2
 have HR:Hid (Calls prog Fr #[JJ (I ⟨g,0,O⟩),J Jq d] w fun e w'=>e=Jz (J Jq (t.room d))/\w=w'):=hp.cR d w (Below.refl _ _)
 have m2:=hp.mR
 have m3:=hp.fR
 have hb:=bT t d hs
 have ar:=t.aF hs
 have hx:1<=t.box.ext d/\t.box.ext d<=1000:=by unfold Box.ext;split <;> omega
 unfold fJ
 obtain⟨X,hX⟩:∃x,t.box.ext d=x:=⟨_,rfl⟩
 obtain⟨R,pT⟩:∃x,t.room d=x:=⟨_,rfl⟩
 rw[hX] at HE hx ⊢
 rw[pT] at HR hb ⊢
 have hw:IntKind.i64.wrap (X-R)=X-R:=by rw[IntKind.wrap_i64];omega
 clear hp h hs hz hb ar hx hX pT
 go_enter func47,ntmps47
 go_wp2_with fail
 refine HE.out.mono ?_
 rintro e w1 ⟨rfl,rfl⟩
 go_wp2_with fail
 refine HR.out.mono ?_
 rintro e w1 ⟨rfl,rfl⟩
 go_wp2
 go_ret
 exact⟨rfl,rfl⟩
def Ht (cs:List Value)(o:Nat)(n:Node)(sl:Value):List Value:=((((cs.set o (J Jq n.k)).set (o+1) (J Jq n.w)).set (o+2) (J Jq n.h)).set (o+3) (J Jq n.i)).set (o+4) sl
theorem Hu (a:Node)(sa:Value)(cs:List Value)(n:Node)(sl:Value):Ht (fQ a sa++cs) 0 n sl=fQ n sl++cs:=rfl
theorem Hw (a:Node)(sa:Value)(cs:List Value)(i:Nat)(n:Node)(sl:Value):Ht (fQ a sa++cs) ((i+1)*5) n sl=fQ a sa++Ht cs (i*5) n sl:=by
 have e:∀(xs:List Value) (o:Nat) (v:Value),(fQ a sa++xs).set (o+5) v=fQ a sa++xs.set o v:=fun xs o v=>rfl
 unfold Ht
 rw[show (i+1)*5=i*5+5 by omega,show i*5+5+1=i*5+1+5 by omega,show i*5+5+2=i*5+2+5 by omega,show i*5+5+3=i*5+3+5 by omega,show i*5+5+4=i*5+4+5 by omega,e,e,e,e,e]
theorem aY.one {W:World}:∀{ns:List Node} {cs:List Value} {fp:List Nat},aY W ns cs fp->∀(i:Nat) (n:Node),ns[i]?=I n->
 ∃sl f,n.In W sl f/\(∀q∈f,q∈fp)/\∀W' n' sl' f',(∀q∈fp,W'.heap[q]?=W.heap[q]?)->n'.In W' sl' f'->∃fp',aY W' (ns.set i n') (Ht cs (i*5) n' sl') fp'/\∀q∈fp',q∈fp\/q∈f'
 | [],cs,fp,h,i,n,hi=>by cases hi
 | a::r,cs,fp,h,0,n,hi=>by
   obtain⟨sl,cs',f,f',rfl,h2,h3,rfl⟩:=h
   cases hi
   refine⟨sl,f,h2,fun q hq=>List.mem_append_left _ hq,fun W' n' sl' f1 hk eV=>⟨f1++f',?_,fun q hq=> ?_⟩⟩
   . rw[Nat.zero_mul,Hu]
     exact⟨sl',cs',f1,f',rfl,eV,h3.keep fun q hq=>hk q (List.mem_append_right _ hq),rfl⟩
   . rcases List.mem_append.1 hq with hq | hq
     . exact .inr hq
     . exact .inl (List.mem_append_right _ hq)
 | a::r,cs,fp,h,i+1,n,hi=>by
   obtain⟨sl,cs',f,f',rfl,h2,h3,rfl⟩:=h
   obtain⟨sl1,f1,e1,e2,e3⟩:=aY.one h3 i n hi
   refine⟨sl1,f1,e1,fun q hq=>List.mem_append_right _ (e2 q hq),fun W' n' sl' f2 hk eV=> ?_⟩
   obtain⟨fp',g1,g2⟩:=e3 W' n' sl' f2 (fun q hq=>hk q (List.mem_append_right _ hq)) eV
   refine⟨f++fp',?_,fun q hq=> ?_⟩
   . rw[Hw]
     exact⟨sl,_,f,fp',rfl,h2.keep fun q hq=>hk q (List.mem_append_left _ hq),g1,rfl⟩
   . rcases List.mem_append.1 hq with hq | hq
     . exact .inl (List.mem_append_left _ hq)
     . rcases g2 q hq with h | h
       . exact .inl (List.mem_append_right _ h)
       . exact .inr h
theorem aY.oneCell {W:World}:∀{ns:List Node} {cs:List Value} {fp:List Nat},aY W ns cs fp->∀u∈cs,u.oneCell'=true
 | [],cs,fp,h=>by
   obtain⟨rfl,_⟩:=h
   intro u hu
   cases hu
 | n::r,cs,fp,h=>by
   obtain⟨sl,cs',f,f',rfl,h2,h3,rfl⟩:=h
   intro u hu
   rcases List.mem_append.1 hu with hu | hu
   . obtain⟨a,c,rfl⟩:=h2.sl
     have ll:u∈[Value.int .i64 n.k,J Jq n.w,J Jq n.h,J Jq n.i,Jj a n.ks.length c]:=hu
     simp only[List.mem_cons,List.not_mem_nil,or_false] at ll
     rcases ll with rfl | rfl | rfl | rfl | rfl <;> rfl
   . exact aY.oneCell h3 u hu
theorem nP:∀(ts:List Tree) (i:Nat) (t:Tree),nodesOf (ts.set i t)=(nodesOf ts).set i (ag t)
 | [],i,t=>rfl
 | a::ts,0,t=>rfl
 | a::ts,i+1,t=>by
   show ag a::nodesOf (ts.set i t)=ag a::(nodesOf ts).set i (ag t)
   rw[nP ts i t]
def gq (W:World)(g o:Nat)(n:Node)(sl:Value):World:=((((W.setCell ⟨g,o,O⟩ (J Jq n.k)).setCell ⟨g,o+1,O⟩ (J Jq n.w)).setCell ⟨g,o+2,O⟩ (J Jq n.h)).setCell ⟨g,o+3,O⟩ (J Jq n.i)).setCell ⟨g,o+4,O⟩ sl
theorem dO (W:World)(g o:Nat)(n:Node)(sl:Value)(q:Nat)(hq:q≠g):(gq W g o n sl).heap[q]?=W.heap[q]?:=
 (Below.heap_setCell _ _ _ _ hq).trans ((Below.heap_setCell _ _ _ _ hq).trans ((Below.heap_setCell _ _ _ _ hq).trans ((Below.heap_setCell _ _ _ _ hq).trans (Below.heap_setCell _ _ _ _ hq))))
theorem lT {W0 W:World}(h:Below W0.heap.size W0 W)(g o:Nat)(hg:W0.heap.size<=g)(n:Node)(sl:Value):Below W0.heap.size W0 (gq W g o n sl):=
 below_grown (below_grown (below_grown (below_grown (below_grown h (grownBy_set _ _ _ _) hg) (grownBy_set _ _ _ _) hg) (grownBy_set _ _ _ _) hg) (grownBy_set _ _ _ _) hg) (grownBy_set _ _ _ _) hg
theorem uf {W:World}{B g n cap:Nat}{cs:List Value}(h:W.ownsRow B 53 5 (Jj (I ⟨g,0,O⟩) n cap) n cs)(o:Nat)(nd:Node)(sl:Value):(gq W g o nd sl).ownsRow B 53 5 (Jj (I ⟨g,0,O⟩) n cap) n (Ht cs o nd sl):=
 (World.ownsRow.stored (World.ownsRow.stored (World.ownsRow.stored (World.ownsRow.stored (World.ownsRow.stored h o _).1 (o+1) _).1 (o+2) _).1 (o+3) _).1 (o+4) _).1
structure bK (g L cap:Nat)(fp:List Nat)(us:List Tree)(wr:World):Prop where
 row:∃cs fs,wr.ownsRow 0 53 5 (Jj (I ⟨g,0,O⟩) L cap) L cs/\aY wr (nodesOf us) cs fs/\∀q∈fs,q∈fp\/g < q
 old:∀q∈fp,q < g
 len:us.length=L
theorem bK.lt {g L cap:Nat}{fp:List Nat}{us:List Tree}{wr:World}(h:bK g L cap fp us wr):g < wr.heap.size:=by
 obtain⟨cs,fs,h1,_⟩:=h.row
 exact iD h1 g (by simp[Value.ownBlock])
theorem bK.below {g L cap:Nat}{fp:List Nat}{us:List Tree}{wr X:World}(h:bK g L cap fp us wr)(hb:Below wr.heap.size wr X):bK g L cap fp us X:=by
 obtain⟨cs,fs,h1,h2,h3⟩:=h.row
 exact⟨⟨cs,fs,dE h1 fun q hq=>hb.block q (iD h1 q hq),h2.below hb,h3⟩,h.old,h.len⟩
theorem bK.keep {g L cap:Nat}{fp:List Nat}{us:List Tree}{wr X:World}(h:bK g L cap fp us wr)(hb:∀q,q∈fp\/g<=q->X.heap[q]?=wr.heap[q]?):bK g L cap fp us X:=by
 obtain⟨cs,fs,h1,h2,h3⟩:=h.row
 refine⟨⟨cs,fs,dE h1 fun q hq=> ?_,h2.keep fun q hq=> ?_,h3⟩,h.old,h.len⟩
 . have:q=g:=by simpa [Value.ownBlock,eq_comm] using hq
   exact hb q (.inr (by omega))
 . rcases h3 q hq with h | h
   . exact hb q (.inl h)
   . exact hb q (.inr (by omega))
theorem bK.node {g L cap:Nat}{fp:List Nat}{us:List Tree}{wr:World}(h:bK g L cap fp us wr)(k wd ht i:Int):∃fp',(Node.mk k wd ht i (nodesOf us)).In wr (Jj (I ⟨g,0,O⟩) L cap) fp'/\∀q∈fp',q∈fp\/g<=q:=by
 obtain⟨cs,fs,h1,h2,h3⟩:=h.row
 refine⟨_,⟨cs,fs,by rw[ax,h.len];exact h1,h2,rfl⟩,fun q hq=> ?_⟩
 rcases List.mem_append.1 hq with hq | hq
 . have:q=g:=by simpa [Value.ownBlock,eq_comm] using hq
   exact .inr (by omega)
 . rcases h3 q hq with h | h
   . exact .inl h
   . exact .inr (by omega)
theorem bK.one {g L cap:Nat}{fp:List Nat}{us:List Tree}{wr:World}(h:bK g L cap fp us wr)(i:Nat)(t:Tree)(ht:us[i]?=I t):
 ∃sa sn sc f,(ag t).In wr (Jj sa sn sc) f/\kG wr g (i*5) (ag t) (Jj sa sn sc)/\
  ∀X t' sl' f',Below wr.heap.size wr X->(ag t').In X sl' f'->(∀q∈f',q∈f\/wr.heap.size<=q)->bK g L cap fp (us.set i t') (gq X g (i*5) (ag t') sl'):=by
 have am:=h.lt
 obtain⟨cs,fs,h1,h2,h3⟩:=h.row
 obtain⟨sl,f,e1,e2,e3⟩:=aY.one h2 i (ag t) (dS us i t ht)
 have bE:(Node.mk 2 0 0 0 (nodesOf us)).In wr (Jj (I ⟨g,0,O⟩) L cap) ((Value.slice (I ⟨g,0,O⟩) L cap).ownBlock.toList++fs):=⟨cs,fs,by rw[ax,h.len];exact h1,h2,rfl⟩
 have hi:i < us.length:=(List.getElem?_eq_some_iff.1 ht).1
 have hilt:i < L:=by rw[<- h.len];exact hi
 obtain⟨sl2,f2,g1,g2,g3⟩:=h2.get i (ag t) (dS us i t ht)
 have hcell:∀o,o < 5->wr.cell? ⟨g,i*5+o,O⟩=(fQ (ag t) sl2)[o]?:=fun o ho=>by
  rw[World.ownsRow.cellAt h1 (i*5+o) (by omega),g3 o ho]
 obtain⟨ad,c,av⟩:=g1.sl
 subst av
 refine⟨ad,_,c,f2,g1,⟨hcell 0 (by omega),hcell 1 (by omega),hcell 2 (by omega),hcell 3 (by omega),hcell 4 (by omega)⟩,fun X t' sl' f' hb hn hf=> ?_⟩
 have Mk:∀q∈f',q≠g:=fun q hq=>by
  rcases hf q hq with h4 | h4
  . rcases h3 q (g2 q h4) with h5 | h5
    . have:=h.old q h5
      omega
    . omega
  . omega
 have eA:∀q∈fs,(gq X g (i*5) (ag t') sl').heap[q]?=wr.heap[q]?:=fun q hq=>by
  rw[dO _ _ _ _ _ q (by rcases h3 q hq with h5 | h5;· have:=h.old q h5;omega
                        . omega)]
  exact hb.block q (h2.lt q hq)
 obtain⟨fp',k1,k2⟩:=e3 _ (ag t') sl' f' eA (hn.keep fun q hq=>dO _ _ _ _ _ q (Mk q hq))
 refine⟨⟨_,fp',uf (dE h1 fun q hq=>hb.block q (iD h1 q hq)) (i*5) (ag t') sl',?_,fun q hq=> ?_⟩,h.old,by rw[List.length_set];exact h.len⟩
 . rw[nP]
   exact k1
 . rcases k2 q hq with h6 | h6
   . exact h3 q h6
   . rcases hf q h6 with h7 | h7
     . exact h3 q (g2 q h7)
     . exact .inr (by omega)
def uD (t':Tree)(fp:List Nat)(w:World)(e:Ending)(w':World):Prop:=∃sa sn sc fp',e=Jz (.agg (aC (ag t') (Jj sa sn sc)))/\(ag t').In w' (Jj sa sn sc) fp'/\(∀q∈fp',q∈fp\/w.heap.size<=q)/\Below w.heap.size w w'
def nG (t:Tree):Prop:=∀j n t' sl fp w,Str t j n t'->(ag t).In w sl fp->Calls prog 63 #[.agg (aC (ag t) sl),J Jq j,J Jq n] w (uD t' fp w)
structure Mid (w:World)(k wd ht k' wd' dr i:Int)(sl sl':Value)(wr:World):Prop where
 par:wr.heap[w.heap.size]?=I (JZ #[J Jq k,J Jq wd,J Jq ht,J Jq i,sl] 53 (0,0))
 res:wr.heap[w.heap.size+1]?=I (.cells aU 53 (0,0))
 new:wr.heap[w.heap.size+1+1]?=I (JZ #[J Jq k',J Jq wd',J Jq dr,J Jq i,sl'] 53 (0,0))
 below:Below w.heap.size w wr
theorem Mid.start (w:World)(k wd ht k' wd' dr i:Int)(sl:Value):Mid w k wd ht k' wd' dr i sl sl (((w.alloc (JZ #[J Jq k,J Jq wd,J Jq ht,J Jq i,sl] 53)).alloc (.cells aU 53)).alloc (JZ #[J Jq k',J Jq wd',J Jq dr,J Jq i,sl] 53)):=by
 obtain⟨A,hA⟩:∃o,Obj.cells #[Value.int .i64 k,J Jq wd,J Jq ht,J Jq i,sl] 53=o:=⟨_,rfl⟩
 obtain⟨C,hC⟩:∃o,Obj.cells aU 53=o:=⟨_,rfl⟩
 obtain⟨D,hD⟩:∃o,Obj.cells #[Value.int .i64 k',J Jq wd',J Jq dr,J Jq i,sl] 53=o:=⟨_,rfl⟩
 have s1:(w.alloc A).heap.size=w.heap.size+1:=by simp
 have s2:((w.alloc A).alloc C).heap.size=w.heap.size+1+1:=by simp
 have b1:Below w.heap.size w (w.alloc A):=(Below.refl _ _).alloc (Nat.le_refl _) _
 have b2:Below w.heap.size w ((w.alloc A).alloc C):=b1.alloc (by omega) _
 have b3:Below w.heap.size w (((w.alloc A).alloc C).alloc D):=b2.alloc (by omega) _
 rw[hA,hC,hD]
 refine⟨?_,?_,?_,b3⟩
 . rw[hA]
   exact (Below.heap_alloc _ _ _ (by omega)).trans ((Below.heap_alloc _ _ _ (by omega)).trans (heap_alloc_new _ _))
 . rw[hC]
   have h:=heap_alloc_new (w.alloc A) C
   rw[s1] at h
   exact (Below.heap_alloc _ _ _ (by omega)).trans h
 . rw[hD]
   have h:=heap_alloc_new ((w.alloc A).alloc C) D
   rw[s2] at h
   exact h
theorem rQ {W:World}{g:Nat}{a b c d e:Value}{t:TypeId}(h:W.heap[g]?=I (JZ #[a,b,c,d,e] t (0,0)))(v:Value):(W.setCell ⟨g,4,O⟩ v).heap[g]?=I (JZ #[a,b,c,d,v] t (0,0)):=by
 have am:g < W.heap.size:=lt_of_block h
 have h':W.heap[g]=JZ #[a,b,c,d,e] t (0,0):=by simpa [Array.getElem?_eq_getElem am] using h
 show (W.heap.modify g _)[g]?=_
 rw[Array.getElem?_eq_getElem (by simpa using am),Array.getElem_modify_self,h']
 rfl
theorem Mid.copied {w:World}{k wd ht k' wd' dr i:Int}{sl:Value}{W w6:World}(h:Mid w k wd ht k' wd' dr i sl sl W)(hg:W.grownBy w6 O)(v:Value):Mid w k wd ht k' wd' dr i sl v (w6.setCell ⟨w.heap.size+1+1,4,O⟩ v):=by
 have h1:∀q,q < W.heap.size->w6.heap[q]?=W.heap[q]?:=fun q hq=>hg.block q hq (by simp)
 have ce:=(h1 _ (lt_of_block h.new)).trans h.new
 refine⟨?_,?_,rQ ce v,?_⟩
 . exact (Below.heap_setCell _ _ _ _ (by show w.heap.size≠w.heap.size+1+1;omega)).trans ((h1 _ (lt_of_block h.par)).trans h.par)
 . exact (Below.heap_setCell _ _ _ _ (by show w.heap.size+1≠w.heap.size+1+1;omega)).trans ((h1 _ (lt_of_block h.res)).trans h.res)
 . have hb:Below w.heap.size w w6:=⟨hg.os.trans h.below.os,hg.tape.trans h.below.tape,hg.output.trans h.below.output,Nat.le_trans h.below.size hg.size,fun q hq=>(h1 q (Nat.lt_of_lt_of_le hq h.below.size)).trans (h.below.block q hq)⟩
   exact below_grown hb (grownBy_set _ _ _ _) (by omega)
theorem bK.start {w W w6:World}{sl:Value}{fp:List Nat}{ts:List Tree}{k wd ht k' wd' dr i:Int}(ab:(Node.mk k wd ht i (nodesOf ts)).In w sl fp)(hM:Mid w k wd ht k' wd' dr i sl sl W)(hW:W.heap.size=w.heap.size+3)(hg:W.grownBy w6 O){cs:List Value}{fs:List Nat}(lk:fs ⊆ fp)(hN:aY w (nodesOf ts) cs fs){v:Value}(hr:w6.ownsRow W.heap.size 53 5 v ts.length cs)(h0:0 < ts.length):
 ∃g cap,v=Jj (I ⟨g,0,O⟩) ts.length cap/\w.heap.size+2 < g/\bK g ts.length cap fp ts (w6.setCell ⟨w.heap.size+1+1,4,O⟩ v):=by
 rcases hr.2 with ⟨_,h1⟩ | ⟨g,cap,cur,rfl,hb,V6,r⟩
 . omega
 . have am:∀q∈fp,q < w.heap.size:=ab.lt
   refine⟨g,cap,rfl,by omega,⟨⟨cs,fs,?_,?_,fun q hq=>.inl (lk hq)⟩,fun q hq=> ?_,rfl⟩⟩
   . refine dE (W:=w6) ⟨hr.1,.inr ⟨g,cap,cur,rfl,Nat.zero_le _,V6,r⟩⟩ fun q hq=> ?_
     have:q=g:=by simpa [Value.ownBlock,eq_comm] using hq
     exact Below.heap_setCell _ _ _ _ (by show q≠w.heap.size+1+1;omega)
   . refine hN.keep fun q hq=> ?_
     have Dd:=am q (lk hq)
     exact (Below.heap_setCell _ _ _ _ (by show q≠w.heap.size+1+1;omega)).trans ((hg.block q (by omega) (by simp)).trans (hM.below.block q Dd))
   . have:=am q hq
     omega
theorem Mid.keep {w:World}{k wd ht k' wd' dr i:Int}{sl sl':Value}{wr X:World}(h:Mid w k wd ht k' wd' dr i sl sl' wr)(hb:∀q,q<=w.heap.size+2->X.heap[q]?=wr.heap[q]?)(hB:Below w.heap.size w X):Mid w k wd ht k' wd' dr i sl sl' X:=
 ⟨(hb _ (by omega)).trans h.par,(hb _ (by omega)).trans h.res,(hb _ (by omega)).trans h.new,hB⟩
theorem Ae {w:World}{k wd ht k' wd' dr i0:Int}{sl sl':Value}{g L cap:Nat}{fp:List Nat}{us:List Tree}{wr:World}{i:Nat}{t t':Tree}{j n:Int}(hK:bK g L cap fp us wr)(hM:Mid w k wd ht k' wd' dr i0 sl sl' wr)(hg:w.heap.size+2 < g)(pj:us[i]?=I t)(hG:nG t)(cg:Str t j n t'):
 ∃sa sn sc,kG wr g (i*5) (ag t) (Jj sa sn sc)/\(∀o,wr.frozen? ⟨g,o,O⟩=false)/\∀X,Below wr.heap.size wr X->Calls prog 63 #[.agg (aC (ag t) (Jj sa sn sc)),J Jq j,J Jq n] X fun e w'=>∃ta tn tc,e=Jz (.agg (aC (ag t') (Jj ta tn tc)))/\Below wr.heap.size wr w'/\bK g L cap fp (us.set i t') (gq w' g (i*5) (ag t') (Jj ta tn tc))/\Mid w k wd ht k' wd' dr i0 sl sl' (gq w' g (i*5) (ag t') (Jj ta tn tc)):=by
 obtain⟨sa,sn,sc,f,e1,e2,e3⟩:=hK.one i t pj
 have am:=hK.lt
 refine⟨sa,sn,sc,e2,fun o=> ?_,fun X hX=> ?_⟩
 . obtain⟨cs,fs,h1,_⟩:=hK.row
   exact World.ownsRow.frozenAt h1 o
 . refine (hG j n t' _ f X cg (e1.below hX)).mono ?_
   rintro e w' ⟨ta,tn,tc,fp',he,ab,hf,hb⟩
   have hB:=af hX hb
   refine⟨ta,tn,tc,he,hB,e3 w' t' _ fp' hB ab (fun q hq=> ?_),hM.keep (fun q hq=> ?_) (lT (af hM.below hB) g _ (by omega) _ _)⟩
   . rcases hf q hq with h | h
     . exact .inl h
     . exact .inr (Nat.le_trans hX.size h)
   . rw[dO _ _ _ _ _ q (by omega)]
     exact hB.block q (by omega)
theorem ru {w:World}{k wd ht k' wd' dr i:Int}{sl:Value}{g L cap:Nat}{fp:List Nat}{rs:List Tree}{wr:World}{t':Tree}(hK:bK g L cap fp rs wr)(hM:Mid w k wd ht k' wd' dr i sl (Jj (I ⟨g,0,O⟩) L cap) wr)(hg:w.heap.size+2 < g)(am:∀q∈fp,q < w.heap.size)(hn:ag t'=.mk k' wd' dr i (nodesOf rs))(v0 v1 v2 v3 v4:Value):
 uD t' fp w (Jz (.agg #[J Jq k',J Jq wd',J Jq dr,J Jq i,Jj (I ⟨g,0,O⟩) L cap])) (fB wr (w.heap.size+1) v0 v1 v2 v3 v4):=by
 obtain⟨fp',h1,h2⟩:=(hK.keep (X:=fB wr (w.heap.size+1) v0 v1 v2 v3 v4) fun q hq=>fD _ _ _ _ _ _ _ q (by
  rcases hq with h | h
  . have:=am q h
    omega
  . omega)).node k' wd' dr i
 refine⟨I ⟨g,0,O⟩,L,cap,fp',?_,?_,fun q hq=> ?_,bC hM.below _ (by omega) _ _ _ _ _⟩
 . rw[hn]
   rfl
 . rw[hn]
   exact h1
 . rcases h2 q hq with h | h
   . exact .inl h
   . exact .inr (by omega)
theorem Mid.below' {w:World}{k wd ht k' wd' dr i:Int}{sl sl':Value}{wr X:World}(h:Mid w k wd ht k' wd' dr i sl sl' wr)(hX:Below wr.heap.size wr X):Mid w k wd ht k' wd' dr i sl sl' X:=h.keep (fun q hq=>hX.block q (by have:=lt_of_block h.new;omega)) (af h.below hX)
structure tN (w:World)(k wd ht wd' dr:Int)(sl:Value)(g L cap:Nat)(fp:List Nat)(N:Nat)(rs:List Tree)(m i:Nat)(n:Int)(wr:World)(us:List Tree):Prop where
 deal:BD k m us i n rs
 kids:bK g L cap fp us wr
 mid:Mid w k wd ht k wd' dr 0 sl (Jj (I ⟨g,0,O⟩) L cap) wr
 small:∀t∈us,t.size<=N
 lt:i < L
theorem tN.below {w:World}{k wd ht wd' dr:Int}{sl:Value}{g L cap:Nat}{fp:List Nat}{N:Nat}{rs:List Tree}{m i:Nat}{n:Int}{wr X:World}{us:List Tree}(h:tN w k wd ht wd' dr sl g L cap fp N rs m i n wr us)(hX:Below wr.heap.size wr X):tN w k wd ht wd' dr sl g L cap fp N rs m i n X us:=⟨h.deal,h.kids.below hX,h.mid.below' hX,h.small,h.lt⟩
structure Qz (w:World)(k wd ht wd' dr:Int)(sl:Value)(g L cap:Nat)(fp:List Nat)(N:Nat)(rs:List Tree)(m i:Nat)(n:Int)(wr:World)(nn:Node)(sa:Option Addr)(sn sc:Nat)(r:Int):Prop where
 cells:∀X,Below wr.heap.size wr X->(∀o,X.frozen? ⟨g,o,O⟩=false)/\kG X g (i*5) nn (Jj sa sn sc)/\X.cell? ⟨w.heap.size+1+1,4,O⟩=I (Jj (I ⟨g,0,O⟩) L cap)
 room:∀X,Below wr.heap.size wr X->Calls prog 60 #[.agg (aC nn (Jj sa sn sc)),J Jq k] X fun e w'=>e=Jz (J Jq r)/\Below wr.heap.size wr w'
 low:0<=r
 lim: -1000<=n/\n<=1000
 skip:n < 0->r=0->∃us,tN w k wd ht wd' dr sl g L cap fp N rs m ((i+1) % L) n wr us
 give:(n < 0->r≠0)->∀X,Below wr.heap.size wr X->Calls prog 63 #[.agg (aC nn (Jj sa sn sc)),J Jq k,J Jq (sg n)] X fun e w'=>∃nr ta tn tc us,e=Jz (.agg (aC nr (Jj ta tn tc)))/\Below wr.heap.size wr w'/\tN w k wd ht wd' dr sl g L cap fp N rs m ((i+1) % L) (n-sg n) (gq w' g (i*5) nr (Jj ta tn tc)) us
theorem oG {w:World}{g L cap:Nat}{i:Nat}{wr:World}{nn:Node}{sl:Value}(hg:g < wr.heap.size)(hm:w.heap.size+1+1 < wr.heap.size)(fz:∀o,wr.frozen? ⟨g,o,O⟩=false)(hk:kG wr g (i*5) nn sl)(b4:wr.cell? ⟨w.heap.size+1+1,4,O⟩=I (Jj (I ⟨g,0,O⟩) L cap)):∀X,Below wr.heap.size wr X->(∀o,X.frozen? ⟨g,o,O⟩=false)/\kG X g (i*5) nn sl/\X.cell? ⟨w.heap.size+1+1,4,O⟩=I (Jj (I ⟨g,0,O⟩) L cap):=fun X hX=>by
 have hc:∀o,X.cell? ⟨g,o,O⟩=wr.cell? ⟨g,o,O⟩:=fun o=>hX.cell (p:=⟨g,o,O⟩) hg
 have hf:∀o,X.frozen? ⟨g,o,O⟩=wr.frozen? ⟨g,o,O⟩:=fun o=>by unfold World.frozen?;rw[hX.block g hg]
 exact⟨fun o=>(hf o).trans (fz o),⟨(hc _).trans hk.q0,(hc _).trans hk.q1,(hc _).trans hk.q2,(hc _).trans hk.q3,(hc _).trans hk.q4⟩,(hX.cell (p:=⟨w.heap.size+1+1,4,O⟩) hm).trans b4⟩
theorem yY {w:World}{k wd ht wd' dr:Int}{sl:Value}{g L cap:Nat}{fp:List Nat}{N:Nat}{rs:List Tree}{m i:Nat}{n:Int}{wr:World}{us:List Tree}(hg:w.heap.size+2 < g)(IH:∀t:Tree,t.size<=N->nG t)(h:tN w k wd ht wd' dr sl g L cap fp N rs m i n wr us)(hn:n≠0):
 ∃m' nn sa sn sc r,m=m'+1/\Qz w k wd ht wd' dr sl g L cap fp N rs m' i n wr nn sa sn sc r:=by
 have ky:(i+1) % L < L:=Nat.mod_lt _ (by have:=h.lt;omega)
 have j2:=h.kids.len
 have UF:=h.kids.lt
 have UG:=lt_of_block h.mid.new
 have b4:wr.cell? ⟨w.heap.size+1+1,4,O⟩=I (Jj (I ⟨g,0,O⟩) L cap):=ae h.mid.new 4
 have A6:∀o,wr.frozen? ⟨g,o,O⟩=false:=fun o=>by
  obtain⟨cs,fs,h1,_⟩:=h.kids.row
  exact World.ownsRow.frozenAt h1 o
 rcases je h.deal with ⟨h0,_⟩ | ⟨m',t,hm,eR,j9,pj,hs,hk,hz,hr,hd⟩ | ⟨m',t,t',hm,_,zw,pj,hs,hk,hz,hr,hsz,cg,hd⟩
 . exact absurd h0 hn
 . obtain⟨sa,sn,sc,f,e1,e2,e3⟩:=h.kids.one i t pj
   refine⟨m',ag t,sa,sn,sc,t.room k,hm,{ cells:=oG UF UG A6 e2 b4,room:=fun X hX=>(jl t hk hs (by omega) _ f X k (e1.below hX)).mono fun e w' h2=>⟨h2.1,af hX h2.2⟩,low:=by omega,lim:=by omega,skip:=fun _ _=>⟨us,?_⟩,give:=fun h1=>absurd hr (h1 eR) }⟩
   rw[j2] at hd
   exact⟨hd,h.kids,h.mid,h.small,ky⟩
 . obtain⟨sa,sn,sc,f,e1,e2,e3⟩:=h.kids.one i t pj
   have rI:=bT t k hs
   refine⟨m',ag t,sa,sn,sc,t.room k,hm,{ cells:=oG UF UG A6 e2 b4,room:=fun X hX=>(jl t hk hs (by omega) _ f X k (e1.below hX)).mono fun e w' h2=>⟨h2.1,af hX h2.2⟩,low:=rI.1,lim:=zw,skip:=fun h1 h2=>absurd h2 (by have:=hr h1;omega),give:=fun _ X hX=> ?_ }⟩
   refine (IH t (h.small t (List.mem_of_getElem? pj)) k (sg n) t' _ f X cg (e1.below hX)).mono ?_
   rintro e w' ⟨ta,tn,tc,fp',he,ab,hf,hb⟩
   have hB:=af hX hb
   refine⟨ag t',ta,tn,tc,us.set i t',he,hB,?_,e3 w' t' _ fp' hB ab (fun q hq=> ?_),h.mid.keep (fun q hq=> ?_) (lT (af h.mid.below hB) g _ (by omega) _ _),sD h.small pj hsz,ky⟩
   . rw[j2] at hd
     exact hd
   . rcases hf q hq with h4 | h4
     . exact .inl h4
     . exact .inr (Nat.le_trans hX.size h4)
   . rw[dO _ _ _ _ _ q (by omega)]
     exact hB.block q (by omega)
def uF (w:World)(k wd ht wd' dr:Int)(sl:Value)(g L cap:Nat)(fp:List Nat)(N:Nat)(rs:List Tree)(vi vn:Value)(wr:World)(m:Nat):Prop:=∃(i:Nat) (n:Int) (us:List Tree),vi=J Jq i/\vn=J Jq n/\tN w k wd ht wd' dr sl g L cap fp N rs m i n wr us
mutual
def Tree.path:Tree->Int->Option (List Nat)
 | .leaf _ p,q=>if p=q then I [] else O
 | .split _ _ ts,q=>fH ts q 0
def fH:List Tree->Int->Nat->Option (List Nat)
 | [],_,_=>O
 | t::ts,q,i=>match t.path q with
   | some ps=>I (i::ps)
   | none=>fH ts q (i+1)
end
theorem zO (q:Int):∀(ts:List Tree) (i k:Nat) (t:Tree) (ps:List Nat),ts[i]?=I t->t.path q=I ps->(∀(a:Nat) u,a < i->ts[a]?=I u->u.path q=O)->fH ts q k=I ((k+i)::ps)
 | [],i,k,t,ps,hi,ht,hl=>by simp at hi
 | a::ts,0,k,t,ps,hi,ht,hl=>by
   simp at hi
   subst hi
   unfold fH
   rw[ht]
   rfl
 | a::ts,i+1,k,t,ps,hi,ht,hl=>by
   unfold fH
   rw[hl 0 a (by omega) rfl]
   show fH ts q (k+1)=_
   rw[zO q ts i (k+1) t ps (by simpa using hi) ht (fun b u hb hu=>hl (b+1) u (by omega) (by simpa using hu))]
   rw[show k+1+i=k+(i+1) by omega]
theorem uT (q:Int):∀(ts:List Tree) (k:Nat),(∀(a:Nat) u,ts[a]?=I u->u.path q=O)->fH ts q k=O
 | [],k,h=>by unfold fH;rfl
 | t::ts,k,h=>by
   unfold fH
   rw[h 0 t rfl]
   exact uT q ts (k+1) fun a u hu=>h (a+1) u (by simpa using hu)
mutual
theorem rX:∀(t:Tree) (q:Int) (ps:List Nat),t.path q=I ps->ps.length<=t.size
 | .leaf b p,q,ps,h=>by
   unfold Tree.path at h
   split at h
   . cases h;exact Nat.zero_le _
   . cases h
 | .split b k ts,q,ps,h=>by
   unfold Tree.path at h
   have:=yA ts q 0 ps h
   show ps.length<=1+sizes ts
   omega
theorem yA:∀(ts:List Tree) (q:Int) (i:Nat) (ps:List Nat),fH ts q i=I ps->ps.length<=1+sizes ts
 | [],q,i,ps,h=>by unfold fH at h;cases h
 | t::ts,q,i,ps,h=>by
   unfold fH at h
   show ps.length<=1+(t.size+sizes ts)
   cases hp:t.path q with
   | some ps'=>
     rw[hp] at h
     cases h
     have:=rX t q ps' hp
     rw[List.length_cons]
     omega
   | none=>
     rw[hp] at h
     have:=yA ts q (i+1) ps h
     omega
end
def Reach (W:World):Value->List Nat->Value->List (Nat × Nat)->Prop
 | v,[],v',st=>v'=v/\st=[]
 | v,i::ps,v',st=>∃g pg n cap vi st',v=dA g/\W.cell? ⟨g,5,O⟩=I (Jj (I ⟨pg,0,O⟩) n cap)/\i < n/\W.cell? ⟨pg,i,O⟩=I vi/\Reach W vi ps v' st'/\st=st'++[(g,i)]
theorem Reach.len {W:World}:∀{ps:List Nat} {v v':Value} {st:List (Nat × Nat)},Reach W v ps v' st->st.length=ps.length
 | [],v,v',st,h=>by rw[h.2];rfl
 | i::ps,v,v',st,h=>by
   obtain⟨g,pg,n,cap,vi,st',_,_,_,_,h5,rfl⟩:=h
   rw[List.length_append,Reach.len h5]
   rfl
def xO (st:List (Nat × Nat)):List Value:=st.flatMap fun s=>[JJ (I ⟨s.1,0,O⟩),J Jq s.2]
def Steps (w:World)(B:Nat)(v:Value)(st:List (Nat × Nat)):Prop:=w.ownsRow B 88 2 v st.length (xO st)
theorem Steps.base {w:World}{B B':Nat}{v:Value}{st:List (Nat × Nat)}(h:Steps w B v st)(hb:B'<=B):Steps w B' v st:=by
 refine⟨h.1,?_⟩
 rcases h.2 with h0 | ⟨g,cap,cur,rfl,hg,r⟩
 . exact .inl h0
 . exact .inr ⟨g,cap,cur,rfl,Nat.le_trans hb hg,r⟩
theorem Steps.grown {w w':World}{B:Nat}{v:Value}{st:List (Nat × Nat)}{o:Obj}(hg:(w.alloc o).grownBy w' v.ownBlock)(hv:Steps w B v st)(W:World)(hb:Below B W w)(hB:B<=w.heap.size):Below B W w':=by
 have am:=World.ownsRow.lt hv
 have h1:Below B W (w.alloc o):=hb.alloc hB o
 refine⟨hg.os.trans h1.os,hg.tape.trans h1.tape,hg.output.trans h1.output,Nat.le_trans h1.size hg.size,fun k hk=> ?_⟩
 refine (hg.block k ?_ ?_).trans (h1.block k hk)
 . have:(w.alloc o).heap.size=w.heap.size+1:=by simp
   omega
 . intro e
   have:=(am k e.symm).1
   omega
theorem NS:(prog.info? 88).map (fun i=>(i.zero,i.size,i.bytes))=I (I (.agg #[JJ O,J Jq 0]),2,16):=by kernel_rfl
theorem sN {ops:Array Oper}{rest:List Oper}{o:Oper}{a:Act}{Q:Exit->Act->World->Prop}(w:World)(e9:o.guard=O)(s x:Operand)
 (ho:o.op=.call { callee:=.builtin .append,args:=#[s,x],argTypes:=#[75,75] })
 (B:Nat) (v:Value) (st:List (Nat × Nat)) (g i:Nat) (hs:a.eval s=v) (bm:Steps w B v st) (hx:a.eval x=Jj (I ⟨w.heap.size,0,O⟩) 1 1) (hlen:st.length<=1000000) (hB:B<=w.heap.size)
 (h:∀v' w',Steps w' B v' (st++[(g,i)])->(w.alloc (JZ #[JJ (I ⟨g,0,O⟩),J Jq i] 88)).grownBy w' v.ownBlock->wpList prog ops Q rest (a.put o.dst v') w'):wpList prog ops Q (o::rest) a (w.alloc (JZ #[JJ (I ⟨g,0,O⟩),J Jq i] 88)):=by
 obtain⟨i0,hi,eh,db,cJ⟩:=bH NS
 refine wpList_append_own_at _ e9 s x 75 ho B 88 i0 _ 2 16 underlying75 hi eh db cJ rfl (by decide) v st.length (xO st) hs (World.ownsRow.alloc bm _) ⟨w.heap.size,0,O⟩ 1 1 [JJ (I ⟨g,0,O⟩),J Jq i] hx rfl ?_ ?_ ?_ ?_ ?_ ?_
 . intro j u hu
   rw[show (⟨w.heap.size,0,O⟩:Addr).add j=⟨w.heap.size,j,O⟩ by unfold Addr.add;split <;> simp_all,dW]
   simpa using hu
 . intro u hu
   simp only[List.mem_cons,List.not_mem_nil,or_false] at hu
   rcases hu with rfl | rfl <;> rfl
 . unfold maxLen;omega
 . omega
 . have:(w.alloc (JZ #[JJ (I ⟨g,0,O⟩),J Jq i] 88)).heap.size=w.heap.size+1:=by simp
   omega
 . intro v' w' h2 h3 _ _
   refine h v' w' ?_ h3
   unfold Steps xO
   rw[List.flatMap_append,List.length_append]
   simpa [xO] using h2
def ng (w:World)(v:Value)(t:Tree)(pane:Int)(X:World)(e:Ending)(w':World):Prop:=
 Below X.heap.size X w'/\((t.path pane=O/\e=Jz (.tuple #[Jj O 0 0,JJ O]))\/∃ps gl st sa sn sc,t.path pane=I ps/\Reach w v ps (aZ gl) st/\e=Jz (.tuple #[Jj sa sn sc,JJ (I ⟨gl,0,O⟩)])/\Steps w' X.heap.size (Jj sa sn sc) st)
theorem Qw (g : Nat) (W : World) : (method 286 83 (JJ (I ⟨g, 0, O⟩)) "mullion/layout.way").run prog W = .ok (149, JJ (I ⟨g, 0, O⟩)) W := by kernel_rfl
theorem QT (a c:Value)(W:World):(callFunc 149 #[a,c]).run prog W=.ok (.enter 149 #[a,c]) W:=by kernel_rfl
structure Qd (w:World)(v:Value)(t:Tree)(T:TypeId)(gi:Nat)(Fw:FuncId):Prop where
 val:v=.iface T (JJ (I ⟨gi,0,O⟩))
 mW : ∀ W, (method 286 T (JJ (I ⟨gi, 0, O⟩)) "mullion/layout.way").run prog W = .ok (Fw, JJ (I ⟨gi, 0, O⟩)) W
 fW:∀a c W,(callFunc Fw #[a,c]).run prog W=.ok (.enter Fw #[a,c]) W
 cW:∀pane X,Below w.heap.size w X->Calls prog Fw #[JJ (I ⟨gi,0,O⟩),J Jq pane] X (ng w v t pane X)
def Oi (w:World)(vs:List Value)(ts:List Tree):Prop:=∀(i:Nat) (t:Tree),ts[i]?=I t->∃v T gi Fw,vs[i]?=I v/\Qd w v t T gi Fw
theorem KW (g:Nat)(b:Box)(p pane:Int)(w X:World)(h:bD X g b p):Calls prog 140 #[JJ (I ⟨g,0,O⟩),J Jq pane] X (ng w (aZ g) (.leaf b p) pane X):=by
 have q4:X.cell? ⟨g,4,O⟩=I (J Jq p):=ae h 4
 clear h
 by_cases hp:p=pane
 . subst hp
   go_enter func140,ntmps140
   go_wp2
   go_ret2
   refine⟨Below.refl _ _,.inr ⟨[],g,[],O,0,0,?_,⟨rfl,rfl⟩,rfl,rfl,.inl ⟨rfl,rfl⟩⟩⟩
   unfold Tree.path
   rw[if_pos rfl]
 . have a7:(p != pane)=true:=by simpa using hp
   have HP:=zh hp
   clear hp
   go_enter func140,ntmps140
   go_wp2
   go_ret2
   refine⟨Below.refl _ _,.inl ⟨?_,rfl⟩⟩
   unfold Tree.path
   rw[if_neg HP.out]
theorem Iz (g:Nat)(b:Box)(k:Int)(pg n cap:Nat)(vs:List Value)(ts:List Tree)(pane:Int)(w X:World)(hX:Below w.heap.size w X)(hS:aX w g b k (Jj (I ⟨pg,0,O⟩) n cap))(hn:ts.length=n)(hR:∀(i:Nat) u,vs[i]?=I u->w.cell? ⟨pg,i,O⟩=I u)(hT:Oi w vs ts)(hz:sizes ts<=1000):Calls prog 149 #[JJ (I ⟨g,0,O⟩),J Jq pane] X (ng w (dA g) (.split b k ts) pane X):=by
 have p5:w.cell? ⟨g,5,O⟩=I (Jj (I ⟨pg,0,O⟩) n cap):=ae hS 5
 have q5:X.cell? ⟨g,5,O⟩=I (Jj (I ⟨pg,0,O⟩) n cap):=(hX.cell (p:=⟨g,5,O⟩) (World.block_lt_of_cell? w _ p5)).trans p5
 have HR:=zh hR
 have HT:=zh hT
 have HN:=zh hn
 have HZ:=zh hz
 have du:n<=1000:=by have:=aI ts;omega
 have HX:=zh hX
 have Kf:=zh p5
 clear hS hn hR hT hz hX p5
 go_enter func149,ntmps149
 go_wp2
 go_loopw [15] (fun v wr=>∃i:Nat,i<=n/\v=J Jq i/\Hid (∀(a:Nat) u,a < i->ts[a]?=I u->u.path pane=O)/\Hid (Below X.heap.size X wr)) (fun v _=>n-(intOf v).toNat)
 case atStart=>exact⟨0,Nat.zero_le _,rfl,fun a u ha=>by omega,Below.refl _ _⟩
 case round=>
  obtain⟨i,hi,rfl,HJ,HB⟩:=hrel
  clear q5
  by_cases am:i < n
  . obtain⟨t,ht⟩:∃t,ts[i]?=I t:=⟨_,List.getElem?_eq_getElem (by rw[HN.out];exact am)⟩
    obtain⟨pv,T,gi,Fw,qd,HP⟩:=HT.out i t ht
    have ri0:=HR.out i _ qd
    have P4:=zh (af HX.out HB.out)
    have ri:wr.cell? ⟨pg,i,O⟩=I pv:=(P4.out.cell (p:=⟨pg,i,O⟩) (World.block_lt_of_cell? w _ ri0)).trans ri0
    have de:=HP.val
    subst de
    have HRi:=zh ri0
    have m1:=HP.mW
    have m2:=HP.fW
    have El:=zh (HP.cW pane wr P4.out)
    have Ki:=zh ht
    clear HP qd ht ri0
    go_wp2_with fail
    refine El.out.mono ?_
    rintro e w1 ⟨bj,⟨hp,rfl⟩ | ⟨ps,gl,st,sa,sn,sc,hp,zm,rfl,cg⟩⟩
    . have cY:Hid (Below X.heap.size X w1):=af HB.out bj
      have kx:Hid (∀(a:Nat) u,a < i+1->ts[a]?=I u->u.path pane=O):=fun a u ha hu=>by
       by_cases e:a=i
       . subst e;rw[Ki.out] at hu;cases hu;exact hp
       . exact HJ.out a u (by omega) hu
      clear hp bj
      go_wp2
      go_roundw
      case rel=>exact⟨i+1,by omega,by go_num,kx,cY⟩
      case measure=>simp[intOf];omega
    . have cY:Hid (Below X.heap.size X w1):=af HB.out bj
      have kp:=zh (cg.base HB.out.size)
      have cV:Hid ((Tree.split b k ts).path pane=I (i::ps)):=by
       show _=_
       unfold Tree.path
       rw[zO pane ts i 0 t ps Ki.out hp HJ.out,Nat.zero_add]
      have ew:Hid (Reach w (dA g) (i::ps) (aZ gl) (st++[(g,i)])):=⟨g,pg,n,cap,_,st,rfl,Kf.out,am,HRi.out,zm,rfl⟩
      have Km:Hid (st.length<=1000000):=by
       have h1:=zm.len
       have h2:=rX t pane ps hp
       have h3:=zH ts i t Ki.out
       have h4:=HZ.out
       show _<=_
       omega
      have fg:=zh cY.out.size
      clear hp zm cg bj El
      go_wp2_with (at_builtin;refine sN w1 rfl (.tmp 28) (.tmp 32) rfl X.heap.size (Jj sa sn sc) st g i (by simp[Act.eval]) kp.out (by simp[Act.eval]) Km.out fg.out ?_;intro v' w2 a1 a2;have av:=dG a1;have j6:Hid (Steps w2 X.heap.size v' (st++[(g,i)])):=a1;have aD:Hid (Below X.heap.size X w2):=kp.out.grown a2 X cY.out fg.out;clear a1 a2;obtain⟨sb,sd,cq⟩:=av;subst cq)
      go_ret2
      exact⟨aD.out,.inr ⟨i::ps,gl,_,_,_,_,cV.out,ew.out,rfl,by have:=j6.out;rwa [List.length_append] at this⟩⟩
  . have HE:Hid ((Tree.split b k ts).path pane=O):=by
     show _=_
     unfold Tree.path
     exact uT pane ts 0 fun a u hu=>HJ.out a u (by have:=(List.getElem?_eq_some_iff.1 hu).1;rw[HN.out] at this;omega) hu
    go_wp2
    go_ret2
    exact⟨HB.out,.inl ⟨HE.out,rfl⟩⟩
mutual
theorem Tree.At.GN:∀{t:Tree} {w:World} {B:Nat} {v:Value} {fp:List Nat},t.At w B v fp->t.sound=true->t.size<=1000->∃T gi Fw,Qd w v t T gi Fw
 | .leaf b p,w,B,v,fp,h,hs,hz=>by
   obtain⟨g,rfl,h2,rfl⟩:=h
   exact⟨_,g,_,{ val:=rfl,mW:=Qe g,fW:=QA,cW:=fun pane X hX=>KW g b p pane w X (h2.below hX) }⟩
 | .split b k ts,w,B,v,fp,h,hs,hz=>by
   obtain⟨g,sl,vs,fs,rfl,h2,h3,h4,rfl⟩:=h
   have dk:=h4.length
   have ej:=hs
   unfold Tree.sound at ej
   simp only[Bool.and_eq_true,decide_eq_true_eq] at ej
   unfold Tree.size at hz
   obtain⟨pg,cap,av,bX⟩:=jV h2 h3 (by intro e;rw[e] at dk;have:=ej.1.1;simp at dk;omega)
   subst av
   refine⟨_,g,_,{ val:=rfl,mW:=Qw g,fW:=QT,cW:=fun pane X hX=> ?_ }⟩
   exact Iz g b k pg vs.length cap vs ts pane w X hX h2 dk.symm (fun i u hu=>bX.row i u hu) (aB.ways h4 ej.2.1 (by omega)) (by omega)
theorem aB.ways:∀{ts:List Tree} {w:World} {B:Nat} {vs:List Value} {fp:List Nat} {b:Box} {k:Int},aB w B ts vs fp->au ts b k=true->sizes ts<=1000->Oi w vs ts
 | [],w,B,vs,fp,b,k,h,hs,hz=>by
   intro i t hi
   simp at hi
 | t::ts,w,B,vs,fp,b,k,h,hs,hz=>by
   obtain⟨v,vs',f,f',rfl,h2,h3,rfl⟩:=h
   unfold au at hs
   simp only[Bool.and_eq_true] at hs
   unfold sizes at hz
   have h4:=Tree.At.GN h2 hs.1.1 (by omega)
   have h5:=aB.ways h3 hs.2 (by omega)
   intro i t' hi
   cases i with
   | zero=>
     simp at hi
     subst hi
     obtain⟨T,gi,Fw,hp⟩:=h4
     exact⟨v,T,gi,Fw,rfl,hp⟩
   | succ i=>exact h5 i t' (by simpa using hi)
end
def vH (a b p:Int):Int:=if p=a then b else if p=b then a else p
def jI (a b:Int)(c:aj):aj:=⟨c.depth,c.kind,c.x,c.y,c.w,c.h,vH a b c.p⟩
mutual
def Tree.swap (a b:Int):Tree->Tree
 | .leaf x p=>.leaf x (vH a b p)
 | .split x k ts=>.split x k (dY a b ts)
def dY (a b:Int):List Tree->List Tree
 | []=>[]
 | t::ts=>t.swap a b::dY a b ts
end
theorem Bc (a b:Int)(t:Tree):(t.swap a b).box=t.box:=by
 cases t with
 | leaf x p=>rfl
 | split x k ts=>rfl
theorem E5 (a b:Int)(t:Tree)(k:Int):(t.swap a b).bY k=t.bY k:=by
 cases t with
 | leaf x p=>rfl
 | split x k ts=>rfl
theorem qQ (a b:Int):∀(ts:List Tree),(dY a b ts).length=ts.length
 | []=>rfl
 | t::ts=>by
   show (dY a b ts).length+1=ts.length+1
   rw[qQ a b ts]
theorem Gn (a b k:Int):∀(ts:List Tree),aN (dY a b ts) k=aN ts k
 | []=>rfl
 | t::ts=>by
   show aN (t.swap a b::dY a b ts) k=_
   unfold aN
   rw[Bc,Gn a b k ts]
mutual
theorem zG (a b:Int):∀(t:Tree) (x y:Int),(t.swap a b).moved x y=(t.moved x y).swap a b
 | .leaf q p,x,y=>rfl
 | .split q k ts,x,y=>by
   show Tree.split _ k (aS (dY a b ts) k x y)=Tree.split _ k (dY a b (aS ts k x y))
   rw[og a b ts k x y]
theorem og (a b:Int):∀(ts:List Tree) (k x y:Int),aS (dY a b ts) k x y=dY a b (aS ts k x y)
 | [],k,x,y=>rfl
 | t::ts,k,x,y=>by
   show (t.swap a b).moved x y::(if k=2 then aS (dY a b ts) k (x+((t.swap a b).box.ext k+1)) y else aS (dY a b ts) k x (y+((t.swap a b).box.ext k+1)))=(t.moved x y).swap a b::dY a b (if k=2 then aS ts k (x+(t.box.ext k+1)) y else aS ts k x (y+(t.box.ext k+1)))
   rw[zG a b t x y,Bc]
   split
   . rw[og a b ts]
   . rw[og a b ts]
theorem C9 (a b:Int)(h0:vH a b 0=0):∀(t:Tree) (d:Int),(t.swap a b).tell d=(t.tell d).map (jI a b)
 | .leaf q p,d=>rfl
 | .split q k ts,d=>by
   show _::bJ (dY a b ts) (d+1)=jI a b _::(bJ ts (d+1)).map (jI a b)
   rw[uU a b h0 ts (d+1)]
   unfold jI
   rw[h0]
theorem uU (a b:Int)(h0:vH a b 0=0):∀(ts:List Tree) (d:Int),bJ (dY a b ts) d=(bJ ts d).map (jI a b)
 | [],d=>rfl
 | t::ts,d=>by
   show (t.swap a b).tell d++bJ (dY a b ts) d=(t.tell d++bJ ts d).map (jI a b)
   rw[C9 a b h0 t d,uU a b h0 ts d,List.map_append]
theorem zF (a b:Int)(ha:idB a=true)(hb:idB b=true):∀(t:Tree),(t.swap a b).sound=t.sound
 | .leaf q p=>by
   show ((aG q.w&&aG q.h)&&idB (vH a b p))=((aG q.w&&aG q.h)&&idB p)
   congr 1
   unfold vH
   split
   . rename_i e;rw[e,ha,hb]
   . split
     . rename_i e;rw[e,ha,hb]
     . rfl
 | .split q k ts=>by
   show ((decide (2<=(dY a b ts).length)&&_)&&(au (dY a b ts) q k&&decide (aN (dY a b ts) k=q.ext k)))=_
   rw[qQ,Gn,sO a b ha hb ts q k]
   rfl
theorem sO (a b:Int)(ha:idB a=true)(hb:idB b=true):∀(ts:List Tree) (q:Box) (k:Int),au (dY a b ts) q k=au ts q k
 | [],q,k=>rfl
 | t::ts,q,k=>by
   show (((t.swap a b).sound&&(!(t.swap a b).bY k&&decide ((t.swap a b).box.ext (aA k)=q.ext (aA k))))&&au (dY a b ts) q k)=_
   rw[zF a b ha hb t,E5,Bc,sO a b ha hb ts q k]
   rfl
theorem CY (a b:Int):∀(t:Tree),t.fine->(t.swap a b).fine
 | .leaf q p,h=>trivial
 | .split q k ts,h=>by
   refine⟨h.1,?_,zQ a b ts h.2.2⟩
   rw[qQ]
   exact h.2.1
theorem zQ (a b:Int):∀(ts:List Tree),Af ts->Af (dY a b ts)
 | [],h=>trivial
 | t::ts,h=>⟨CY a b t h.1,zQ a b ts h.2⟩
theorem CZ (a b:Int):∀(t:Tree),(t.swap a b).size=t.size
 | .leaf q p=>rfl
 | .split q k ts=>by
   show 1+sizes (dY a b ts)=1+sizes ts
   rw[zS a b ts]
theorem zS (a b:Int):∀(ts:List Tree),sizes (dY a b ts)=sizes ts
 | []=>rfl
 | t::ts=>by
   show (t.swap a b).size+sizes (dY a b ts)=t.size+sizes ts
   rw[CZ a b t,zS a b ts]
end
mutual
theorem dR:∀(t:Tree) (q:Int),t.path q=O↔q ∉ t.idl
 | .leaf x p,q=>by
   unfold Tree.path Tree.idl
   by_cases e:p=q
   . simp[e]
   . simp[e,Ne.symm e]
 | .split x k ts,q=>by
   unfold Tree.path Tree.idl
   exact qR ts q 0
theorem qR:∀(ts:List Tree) (q:Int) (k:Nat),fH ts q k=O↔q ∉ kF ts
 | [],q,k=>by simp[fH,kF]
 | t::ts,q,k=>by
   unfold fH kF
   have h1:=dR t q
   have h2:=qR ts q (k+1)
   cases hp:t.path q with
   | none=>rw[hp] at h1;simp at h1;simp[h1,h2]
   | some ps=>rw[hp] at h1;simp at h1;simp[h1]
theorem lK:∀(t:Tree) (d:Int),t.kinds->t.idl=aH (t.tell d)
 | .leaf x p,d,h=>rfl
 | .split x k ts,d,h=>by
   have:=Dp ts (d+1) h.2
   unfold Tree.idl
   rw[this]
   show _=aH (⟨d,k,x.x,x.y,x.w,x.h,0⟩::bJ ts (d+1))
   unfold aH
   rw[List.filter_cons_of_neg]
   have:=h.1
   simp
   omega
theorem Dp:∀(ts:List Tree) (d:Int),bi ts->kF ts=aH (bJ ts d)
 | [],d,h=>rfl
 | t::ts,d,h=>by
   unfold kF
   rw[lK t d h.1,Dp ts d h.2]
   show aH (t.tell d)++aH (bJ ts d)=aH (t.tell d++bJ ts d)
   unfold aH
   rw[List.filter_append,List.map_append]
end
theorem gG (q:Int):∀(ts:List Tree) (k:Nat) (qs:List Nat),fH ts q k=I qs->∃i t ps,qs=(k+i)::ps/\ts[i]?=I t/\t.path q=I ps
 | [],k,qs,h=>by unfold fH at h;cases h
 | t::ts,k,qs,h=>by
   unfold fH at h
   cases hp:t.path q with
   | some ps=>
     rw[hp] at h
     cases h
     exact⟨0,t,ps,rfl,rfl,hp⟩
   | none=>
     rw[hp] at h
     obtain⟨i,t',ps,e,h1,h2⟩:=gG q ts (k+1) qs h
     exact⟨i+1,t',ps,by rw[e,show k+1+i=k+(i+1) by omega],by simpa using h1,h2⟩
theorem oJ (q:Int):∀(ts:List Tree) (i:Nat) (t:Tree),ts[i]?=I t->q∈t.idl->q∈kF ts
 | [],i,t,h,hq=>by simp at h
 | a::ts,0,t,h,hq=>by
   simp at h
   subst h
   unfold kF
   exact List.mem_append_left _ hq
 | a::ts,i+1,t,h,hq=>by
   unfold kF
   exact List.mem_append_right _ (oJ q ts i t (by simpa using h) hq)
theorem mi (q:Int):∀(ts:List Tree),(kF ts).Nodup->∀(i j:Nat) (t u:Tree),ts[i]?=I t->ts[j]?=I u->i≠j->q∈t.idl->q ∉ u.idl
 | [],h,i,j,t,u,hi,hj,a7,hq=>by simp at hi
 | a::ts,h,i,j,t,u,hi,hj,a7,hq=>by
   unfold kF at h
   obtain⟨_,n2,n3⟩:=List.nodup_append.1 h
   cases i with
   | zero=>
     simp at hi
     subst hi
     cases j with
     | zero=>exact absurd rfl a7
     | succ j=>exact fun hu=>n3 q hq q (oJ q ts j u (by simpa using hj) hu) rfl
   | succ i=>
     cases j with
     | zero=>
       simp at hj
       subst hj
       exact fun hu=>n3 q hu q (oJ q ts i t (by simpa using hi) hq) rfl
     | succ j=>exact mi q ts n2 i j t u (by simpa using hi) (by simpa using hj) (by omega) hq
theorem mr:∀(ts:List Tree),(kF ts).Nodup->∀(i:Nat) (t:Tree),ts[i]?=I t->t.idl.Nodup
 | [],h,i,t,hi=>by simp at hi
 | a::ts,h,i,t,hi=>by
   unfold kF at h
   obtain⟨n1,n2,_⟩:=List.nodup_append.1 h
   cases i with
   | zero=>simp at hi;subst hi;exact n1
   | succ i=>exact mr ts n2 i t (by simpa using hi)
def Stat (W:World)(t:Tree)(v:Value)(q:Int)(gl:Nat):Prop:=t.path q=O\/∃ps st,t.path q=I ps/\Reach W v ps (aZ gl) st
theorem Stat.parts {W:World}{B g gl:Nat}{b:Box}{k q:Int}{sl:Value}{vs:List Value}{fs:List Nat}{ts:List Tree}(hS:aX W g b k sl)(hR:W.ownsRow B 70 1 sl vs.length vs)(hP:aB W B ts vs fs)(hn:(kF ts).Nodup)(h:Stat W (.split b k ts) (dA g) q gl):∀(i:Nat) t v,ts[i]?=I t->vs[i]?=I v->Stat W t v q gl:=by
 intro i t v ht hv
 rcases h with h | ⟨qs,st,h,hr⟩
 . refine .inl ((dR t q).2 fun hq=> ?_)
   unfold Tree.path at h
   exact (qR ts q 0).1 h (oJ q ts i t ht hq)
 . unfold Tree.path at h
   obtain⟨j,u,ps,e,h1,h2⟩:=gG q ts 0 qs h
   rw[Nat.zero_add] at e
   subst e
   obtain⟨g',pg,n,cap,vi,st',e1,e2,e3,e4,e5,_⟩:=hr
   have hg:g=g':=by
    unfold dA at e1
    simpa using e1
   subst hg
   by_cases rN:i=j
   . subst rN
     rw[ht] at h1
     cases h1
     refine .inr ⟨ps,st',h2,?_⟩
     obtain⟨pg',cap',av,bX⟩:=jV hS hR (by intro e;rw[e] at hv;simp at hv)
     subst av
     have q5:=bX.parts
     rw[e2] at q5
     have B6:pg=pg':=by
      have:=Option.some.inj q5
      simp at this
      exact this.1
     subst B6
     have:=bX.row i v hv
     rw[e4] at this
     cases this
     exact e5
   . refine .inl ((dR t q).2 ?_)
     refine mi q ts hn j i u t h1 ht (Ne.symm rN) ?_
     refine Classical.byContradiction fun hq=> ?_
     rw[(dR u q).2 hq] at h2
     cases h2
theorem qC {W:World}{g:Nat}{b b':Box}{p k:Int}{sl:Value}(h:bD W g b p)(h':aX W g b' k sl):False:=by
 have:=h.symm.trans h'
 simp at this
theorem uV {W:World}{B g:Nat}{b:Box}{p:Int}{sl:Value}{n:Nat}{vs:List Value}(h:bD W g b p)(h':W.ownsRow B 70 1 sl n vs)(hg:g∈sl.ownBlock.toList):False:=by
 rcases h'.2 with ⟨rfl,_⟩ | ⟨g',cap,cur,rfl,hb,hh,r⟩
 . simp[Value.ownBlock] at hg
 . have e:g=g':=by simpa [Value.ownBlock] using hg
   subst e
   have:=h.symm.trans hh
   simp at this
theorem ES {W:World}{g:Nat}{x y:Box}{p q:Int}(h:bD W g x p)(h':bD W g y q):p=q:=by
 have:=(ae h 4).symm.trans (ae h' 4)
 simp[wV] at this
 exact this
structure ER (W W':World)(g1 g2:Nat)(a b:Int)(b1 b2:Box):Prop where
 h1:bD W g1 b1 a
 h2:bD W g2 b2 b
 k1:∀x,bD W g1 x a->bD W' g1 x b
 k2:∀x,bD W g2 x b->bD W' g2 x a
 hk:∀g,g < W.heap.size->g≠g1->g≠g2->W'.heap[g]?=W.heap[g]?
mutual
theorem Tree.At.swap {W W':World}{B g1 g2:Nat}{a b:Int}{b1 b2:Box}(H:ER W W' g1 g2 a b b1 b2):∀{t:Tree} {v:Value} {fp:List Nat},t.At W B v fp->Stat W t v a g1->Stat W t v b g2->t.idl.Nodup->(t.swap a b).At W' B v fp
 | .leaf x p,v,fp,h,s1,s2,hn=>by
   obtain⟨g,rfl,hl,rfl⟩:=h
   refine⟨g,rfl,?_,rfl⟩
   unfold vH
   by_cases ea:p=a
   . subst ea
     rw[if_pos rfl]
     rcases s1 with s1 | ⟨ps,st,s1,hr⟩
     . unfold Tree.path at s1
       rw[if_pos rfl] at s1
       cases s1
     . unfold Tree.path at s1
       rw[if_pos rfl] at s1
       cases s1
       have e:g1=g:=by
        have:=hr.1
        unfold aZ at this
        simpa using this
       subst e
       exact H.k1 x hl
   . rw[if_neg ea]
     by_cases eb:p=b
     . subst eb
       rw[if_pos rfl]
       rcases s2 with s2 | ⟨ps,st,s2,hr⟩
       . unfold Tree.path at s2
         rw[if_pos rfl] at s2
         cases s2
       . unfold Tree.path at s2
         rw[if_pos rfl] at s2
         cases s2
         have e:g2=g:=by
          have:=hr.1
          unfold aZ at this
          simpa using this
         subst e
         exact H.k2 x hl
     . rw[if_neg eb]
       refine (H.hk g (lt_of_block hl) ?_ ?_).trans hl
       . rintro rfl
         exact ea (ES hl H.h1)
       . rintro rfl
         exact eb (ES hl H.h2)
 | .split x k ts,v,fp,h,s1,s2,hn=>by
   obtain⟨g,sl,vs,fs,rfl,hS,hR,hP,rfl⟩:=h
   unfold Tree.idl at hn
   refine⟨g,sl,vs,fs,rfl,?_,?_,aB.swap H hP (fun i t v ht hv=>⟨s1.parts hS hR hP hn i t v ht hv,s2.parts hS hR hP hn i t v ht hv,mr ts hn i t ht⟩),rfl⟩
   . refine (H.hk g (lt_of_block hS) ?_ ?_).trans hS
     . rintro rfl
       exact qC H.h1 hS
     . rintro rfl
       exact qC H.h2 hS
   . refine dU hR fun q hq=>H.hk q (oZ hR q hq) ?_ ?_
     . rintro rfl
       exact uV H.h1 hR hq
     . rintro rfl
       exact uV H.h2 hR hq
theorem aB.swap {W W':World}{B g1 g2:Nat}{a b:Int}{b1 b2:Box}(H:ER W W' g1 g2 a b b1 b2):∀{ts:List Tree} {vs:List Value} {fs:List Nat},aB W B ts vs fs->(∀(i:Nat) t v,ts[i]?=I t->vs[i]?=I v->Stat W t v a g1/\Stat W t v b g2/\t.idl.Nodup)->aB W' B (dY a b ts) vs fs
 | [],vs,fs,h,hs=>h
 | t::ts,vs,fs,h,hs=>by
   obtain⟨v,vs',f,f',rfl,hA,hP,rfl⟩:=h
   obtain⟨x1,x2,x3⟩:=hs 0 t v rfl rfl
   exact⟨v,vs',f,f',rfl,Tree.At.swap H hA x1 x2 x3,aB.swap H hP (fun i u z hu hz=>hs (i+1) u z (by simpa using hu) (by simpa using hz)),rfl⟩
end
def lV (l:List aj)(a b:Int):Int:=if (aT l).isSome=true then (if a∈aH l/\b∈aH l then 0 else 42) else 40
def kE (l:List aj)(a b:Int):List aj:=if (aT l).isSome=true/\a∈aH l/\b∈aH l then l.map (jI a b) else []
theorem Bv {l:List aj}(a b:Int)(h:aT l=O):lV l a b=40/\kE l a b=[]:=by
 unfold lV kE
 rw[h]
 simp
theorem wH {l:List aj}{t:Tree}(a b:Int)(h:aT l=I t)(hm:¬(a∈aH l/\b∈aH l)):lV l a b=42/\kE l a b=[]:=by
 unfold lV kE
 rw[h]
 simp[hm]
theorem wI {l:List aj}{t:Tree}(a b:Int)(h:aT l=I t)(ha:a∈aH l)(hb:b∈aH l):lV l a b=0/\kE l a b=l.map (jI a b):=by
 unfold lV kE
 rw[h]
 simp[ha,hb]
theorem Reach.below {W W':World}:∀{ps:List Nat} {v v':Value} {st:List (Nat × Nat)},Reach W v ps v' st->Below W.heap.size W W'->Reach W' v ps v' st
 | [],v,v',st,h,hb=>h
 | i::ps,v,v',st,h,hb=>by
   obtain⟨g,pg,n,cap,vi,st',h1,h2,h3,h4,h5,h6⟩:=h
   exact⟨g,pg,n,cap,vi,st',h1,(hb.cell (p:=⟨g,5,O⟩) (World.block_lt_of_cell? W _ h2)).trans h2,h3,(hb.cell (p:=⟨pg,i,O⟩) (World.block_lt_of_cell? W _ h4)).trans h4,Reach.below h5 hb,h6⟩
mutual
theorem EQ:∀(t:Tree),t.sound=true->∀q∈t.idl,idB q=true
 | .leaf x p,hs,q,hq=>by
   unfold Tree.idl at hq
   simp at hq
   subst hq
   unfold Tree.sound at hs
   simp only[Bool.and_eq_true] at hs
   exact hs.2
 | .split x k ts,hs,q,hq=>by
   unfold Tree.sound at hs
   simp only[Bool.and_eq_true] at hs
   unfold Tree.idl at hq
   exact Gl ts x k hs.2.1 q hq
theorem Gl:∀(ts:List Tree) (b:Box) (k:Int),au ts b k=true->∀q∈kF ts,idB q=true
 | [],b,k,hs,q,hq=>by simp[kF] at hq
 | t::ts,b,k,hs,q,hq=>by
   unfold au at hs
   simp only[Bool.and_eq_true] at hs
   unfold kF at hq
   rcases List.mem_append.1 hq with hq | hq
   . exact EQ t hs.1.1 q hq
   . exact Gl ts b k hs.2 q hq
end
theorem iM {l:List aj}(hs:(aT l).isSome=true):l.length<=63/\l≠[]:=by
 cases hr:aT l with
 | none=>rw[hr] at hs;cases hs
 | some t=>
   unfold aT at hr
   split at hr
   . cases hr
   . rename_i h
     refine⟨by omega,?_⟩
     rintro rfl
     rw[iy] at hr
     cases hr
mutual
theorem jH:∀(t:Tree),t.kinds->t.size<=200->t.fine
 | .leaf x p,hk,hz=>trivial
 | .split x k ts,hk,hz=>by
   unfold Tree.size at hz
   exact⟨hk.1,by have:=aI ts;omega,yh ts hk.2 (by omega)⟩
theorem yh:∀(ts:List Tree),bi ts->sizes ts<=200->Af ts
 | [],hk,hz=>trivial
 | t::ts,hk,hz=>by
   unfold sizes at hz
   exact⟨jH t hk.1 (by omega),yh ts hk.2 (by omega)⟩
theorem uq {W:World}{B:Nat}:∀{t:Tree} {v:Value} {fp:List Nat} {q:Int} {ps:List Nat} {gl:Nat} {st:List (Nat × Nat)},t.At W B v fp->t.path q=I ps->Reach W v ps (aZ gl) st->∃x,bD W gl x q/\gl∈fp
 | .leaf x p,v,fp,q,ps,gl,st,h,hp,hr=>by
   obtain⟨g,rfl,hl,rfl⟩:=h
   unfold Tree.path at hp
   split at hp
   . rename_i e
     cases hp
     have e2:gl=g:=by
      have:=hr.1
      unfold aZ at this
      simpa using this
     subst e2
     exact⟨x,e ▸ hl,by simp⟩
   . cases hp
 | .split x k ts,v,fp,q,ps,gl,st,h,hp,hr=>by
   obtain⟨g,sl,vs,fs,rfl,hS,hR,hP,rfl⟩:=h
   unfold Tree.path at hp
   obtain⟨j,u,ps',e,h1,h2⟩:=gG q ts 0 ps hp
   rw[Nat.zero_add] at e
   subst e
   obtain⟨g',pg,n,cap,vi,st',e1,e2,e3,e4,e5,_⟩:=hr
   have hg:g=g':=by
    unfold dA at e1
    simpa using e1
   subst hg
   have xl:vs≠[]:=by
    intro e
    have:=hP.length
    rw[e] at this
    have:=(List.getElem?_eq_some_iff.1 h1).1
    simp at*
    omega
   obtain⟨pg',cap',av,bX⟩:=jV hS hR xl
   subst av
   have q5:=bX.parts
   rw[e2] at q5
   have B6:pg=pg':=by
    have:=Option.some.inj q5
    simp at this
    exact this.1
   subst B6
   obtain⟨y,hy,hg⟩:=yl hP h1 h2 (fun w hw=>by
    have:=bX.row j w hw
    rw[e4] at this
    cases this
    exact e5)
   exact⟨y,hy,by simp[hg]⟩
theorem yl {W:World}{B:Nat}:∀{ts:List Tree} {vs:List Value} {fs:List Nat} {q:Int} {j:Nat} {u:Tree} {ps:List Nat} {gl:Nat} {st:List (Nat × Nat)},aB W B ts vs fs->ts[j]?=I u->u.path q=I ps->(∀w,vs[j]?=I w->Reach W w ps (aZ gl) st)->∃x,bD W gl x q/\gl∈fs
 | [],vs,fs,q,j,u,ps,gl,st,h,hj,hp,hr=>by simp at hj
 | t::ts,vs,fs,q,0,u,ps,gl,st,h,hj,hp,hr=>by
   obtain⟨v,vs',f,f',rfl,hA,hP,rfl⟩:=h
   simp at hj
   subst hj
   obtain⟨x,h1,h2⟩:=uq hA hp (hr v rfl)
   exact⟨x,h1,List.mem_append_left _ h2⟩
 | t::ts,vs,fs,q,j+1,u,ps,gl,st,h,hj,hp,hr=>by
   obtain⟨v,vs',f,f',rfl,hA,hP,rfl⟩:=h
   obtain⟨x,h1,h2⟩:=yl hP (by simpa using hj) hp (fun w hw=>hr w (by simpa using hw))
   exact⟨x,h1,List.mem_append_right _ h2⟩
end
theorem bD.OT {W:World}{g:Nat}{x:Box}{p:Int}(h:bD W g x p)(q:Int):bD (W.setCell ⟨g,4,O⟩ (J Jq q)) g x q:=by
 have am:g < W.heap.size:=lt_of_block h
 have h':W.heap[g]=.cells (wV x p) 49 (0,0):=by unfold bD at h;simpa [Array.getElem?_eq_getElem am] using h
 show (W.heap.modify g _)[g]?=_
 rw[Array.getElem?_eq_getElem (by simpa using am),Array.getElem_modify_self,h']
 rfl
theorem Ik {W:World}{g1 g2:Nat}{a b:Int}{b1 b2:Box}(h1:bD W g1 b1 a)(h2:bD W g2 b2 b):ER W ((W.setCell ⟨g1,4,O⟩ (J Jq b)).setCell ⟨g2,4,O⟩ (J Jq a)) g1 g2 a b b1 b2:=by
 refine⟨h1,h2,fun x hx=> ?_,fun x hx=> ?_,fun g hg n1 n2=> ?_⟩
 . by_cases e:g1=g2
   . subst e
     have:=ES h1 h2
     subst this
     exact (hx.OT a).OT a
   . exact (Below.heap_setCell _ _ _ _ e).trans (hx.OT b)
 . by_cases e:g1=g2
   . subst e
     exact (hx.OT b).OT a
   . have k:bD (W.setCell ⟨g1,4,O⟩ (J Jq b)) g2 x b:=(Below.heap_setCell _ _ _ _ (Ne.symm e)).trans hx
     exact k.OT a
 . exact (Below.heap_setCell _ _ _ _ n2).trans (Below.heap_setCell _ _ _ _ n1)
theorem MC {l:List aj}{t:Tree}{a b:Int}{v:Value}{fp:List Nat}{W0 W1 W:World}{gl1 gl2:Nat}{ps1 ps2:List Nat}{s1 s2:List (Nat × Nat)}(hr:aT l=I t)(hA:t.At W1 0 v fp)(aE:fp.Nodup)(be:∀q∈fp,W0.heap.size<=q)(hb0:Below W0.heap.size W0 W1)(hW:Below W1.heap.size W1 W)(p1:t.path a=I ps1)(r1:Reach W1 v ps1 (aZ gl1) s1)(p2:t.path b=I ps2)(r2:Reach W1 v ps2 (aZ gl2) s2):
 (∃p,W.cell? ⟨gl1,4,O⟩=I (J Jq p))/\W.frozen? ⟨gl1,4,O⟩=false/\(∃p,(W.setCell ⟨gl1,4,O⟩ (J Jq b)).cell? ⟨gl2,4,O⟩=I (J Jq p))/\W.frozen? ⟨gl2,4,O⟩=false/\
 Calls prog 15 #[v] ((W.setCell ⟨gl1,4,O⟩ (J Jq b)).setCell ⟨gl2,4,O⟩ (J Jq a)) fun e w'=>∃u,e=Jz u/\az w' W0.heap.size u (kE l a b)/\Below W0.heap.size W0 w':=by
 have hl:=aV hr
 obtain⟨x1,l1,m1⟩:=uq hA p1 r1
 obtain⟨x2,l2,m2⟩:=uq hA p2 r2
 have l1':bD W gl1 x1 a:=(hW.block gl1 (lt_of_block l1)).trans l1
 have l2':bD W gl2 x2 b:=(hW.block gl2 (lt_of_block l2)).trans l2
 have ao:=lK t 0 hl.kinds
 rw[hl.tell] at ao
 have Cs:t.idl.Nodup:=by rw[ao];exact (jr hr).2.2.2.1
 have ha:a∈t.idl:=Classical.byContradiction fun e=>by rw[(dR t a).2 e] at p1;cases p1
 have hb:b∈t.idl:=Classical.byContradiction fun e=>by rw[(dR t b).2 e] at p2;cases p2
 have S7:=Ik l1' l2'
 have VR:t.At W 0 v fp:=hA.below hW
 have s1':Stat W t v a gl1:=.inr ⟨ps1,s1,p1,r1.below hW⟩
 have s2':Stat W t v b gl2:=.inr ⟨ps2,s2,p2,r2.below hW⟩
 have hN:=VR.swap S7 s1' s2' Cs
 have hz:t.size<=63:=by
  have:=t.eu 0
  rw[hl.tell] at this
  have:=(iM (by rw[hr];rfl)).1
  omega
 have Ge:idB a=true:=EQ t hl.sound a ha
 have Wz:idB b=true:=EQ t hl.sound b hb
 have h0:vH a b 0=0:=by
  unfold idB at Ge Wz
  simp at Ge Wz
  unfold vH
  rw[if_neg (by omega),if_neg (by omega)]
 have eE:=xG (t.swap a b) 0 v fp _ hN aE (by rw[zF a b Ge Wz,hl.sound]) (CY a b t (jH t hl.kinds (by omega))) (by rw[CZ];omega)
 have A6:∀g x p,bD W g x p->W.frozen? ⟨g,4,O⟩=false:=fun g x p h=>ai h 4
 refine⟨⟨a,ae l1' 4⟩,A6 _ _ _ l1',?_,A6 _ _ _ l2',?_⟩
 . by_cases e:gl1=gl2
   . subst e
     exact⟨b,ae (l1'.OT b) 4⟩
   . exact⟨b,ae (show bD (W.setCell ⟨gl1,4,O⟩ (J Jq b)) gl2 x2 b from (Below.heap_setCell _ _ _ _ (Ne.symm e)).trans l2') 4⟩
 . refine eE.mono ?_
   rintro e w' ⟨u,rfl,hu,_,dT⟩
   have hsz:((W.setCell ⟨gl1,4,O⟩ (J Jq b)).setCell ⟨gl2,4,O⟩ (J Jq a)).heap.size=W.heap.size:=by simp[World.setCell]
   have om:W0.heap.size<=W.heap.size:=Nat.le_trans hb0.size hW.size
   refine⟨u,rfl,?_,?_⟩
   . rw[(wI a b hr (ao ▸ ha) (ao ▸ hb)).2]
     have:=hu.lower (B':=W0.heap.size) (by rw[hsz];exact om)
     rw[zG,hl.moved,C9 a b h0,hl.tell] at this
     exact this
   . refine⟨?_,?_,?_,?_,fun k hk=> ?_⟩
     . exact dT.os.trans (hW.os.trans hb0.os)
     . exact dT.tape.trans (hW.tape.trans hb0.tape)
     . exact dT.output.trans (hW.output.trans hb0.output)
     . have:=dT.size
       rw[hsz] at this
       omega
     . have iN:∀q∈fp,k≠q:=fun q hq e=>by have:=be q hq;omega
       refine (dT.block k (by rw[hsz];omega) (fun hm=>iN k hm rfl)).trans ?_
       refine (Below.heap_setCell _ _ _ _ (iN _ m2)).trans ((Below.heap_setCell _ _ _ _ (iN _ m1)).trans ?_)
       exact (hW.block k (Nat.lt_of_lt_of_le hk hb0.size)).trans (hb0.block k hk)
theorem jZ {ops:Array Oper}{rest:List Oper}{o:Oper}{a:Act}{Q:Exit->Act->World->Prop}(w:World)(e9:o.guard=O)(s x:Operand)
 (ho:o.op=.call { callee:=.builtin .append,args:=#[s,x],argTypes:=#[23,23] })
 (B:Nat) (v:Value) (l:List aj) (e:aj) (hs:a.eval s=v) (bm:az w B v l) (hx:a.eval x=Jj (I ⟨w.heap.size,0,O⟩) 1 1) (hlen:l.length<=16777216) (hB:B<=w.heap.size)
 (h:∀v' w',az w' B v' (l++[e])->(w.alloc (.cells e.vals 41)).grownBy w' v.ownBlock->wpList prog ops Q rest (a.put o.dst v') w'):wpList prog ops Q (o::rest) a (w.alloc (.cells e.vals 41)):=by
 obtain⟨i0,hi,eh,db,cJ⟩:=bH xC
 have b8:(w.alloc (.cells e.vals 41)).ownsRow B 41 7 v l.length (bz l):=World.ownsRow.alloc bm _
 refine wpList_append_own _ e9 s x 23 ho B 41 i0 (.agg zeroCell.vals) 7 56 underlying23 hi eh db cJ rfl (by decide) v l.length (bz l) hs b8 ⟨w.heap.size,0,O⟩ 1 1 e.vals.toList hx rfl ?_ ?_ ?_ ?_ ?_ ?_
 . intro j u hu
   rw[show (⟨w.heap.size,0,O⟩:Addr).add j=⟨w.heap.size,j,O⟩ by unfold Addr.add;split <;> simp_all,dW]
   simpa using hu
 . intro u hu
   have ll:u∈[Value.int .i64 e.depth,J Jq e.kind,J Jq e.x,J Jq e.y,J Jq e.w,J Jq e.h,J Jq e.p]:=hu
   simp only[List.mem_cons,List.not_mem_nil,or_false] at ll
   rcases ll with rfl | rfl | rfl | rfl | rfl | rfl | rfl <;> rfl
 . unfold maxLen;omega
 . omega
 . have:(w.alloc (.cells e.vals 41)).heap.size=w.heap.size+1:=by simp
   omega
 . intro v' w' h2 h3 _
   refine h v' w' ?_ h3
   unfold az bz
   rw[List.flatMap_append,List.length_append]
   simpa [bz] using h2
theorem az.JH {w w':World}{B:Nat}{v:Value}{l:List aj}{o:Obj}(hg:(w.alloc o).grownBy w' v.ownBlock)(hv:az w B v l)(W:World)(hb:Below B W w)(hB:B<=w.heap.size):Below B W w':=by
 have am:=World.ownsRow.lt hv
 have h1:Below B W (w.alloc o):=hb.alloc hB o
 refine⟨hg.os.trans h1.os,hg.tape.trans h1.tape,hg.output.trans h1.output,Nat.le_trans h1.size hg.size,fun k hk=> ?_⟩
 refine (hg.block k ?_ ?_).trans (h1.block k hk)
 . have:(w.alloc o).heap.size=w.heap.size+1:=by simp
   omega
 . intro e
   have:=(am k e.symm).1
   omega
theorem Nv (g n cap:Nat)(zs:List Int)(x:Int)(w:World)(hc:∀(j:Nat) y,zs[j]?=I y->w.cell? ⟨g,j,O⟩=I (J Jq y))(hn:zs.length=n)(fe:n<=1000):Calls prog 55 #[Jj (I ⟨g,0,O⟩) n cap,J Jq x] w fun e w'=>e=Jz (.bool (decide (x∈zs)))/\w=w':=by
 have HC:=zh hc
 have HN:=zh hn
 obtain⟨r,hr⟩:∃r,decide (x∈zs)=r:=⟨_,rfl⟩
 have HR:=zh hr
 rw[hr]
 clear hc hn hr
 go_enter func55,ntmps55
 go_wp2
 go_loopw [5] (fun v wr=>∃j:Nat,j<=n/\v=J Jq j/\Hid (∀(a:Nat) y,a < j->zs[a]?=I y->y≠x)/\w=wr) (fun v _=>n-(intOf v).toNat)
 case atStart=>exact⟨0,Nat.zero_le _,rfl,fun a y ha=>by omega,rfl⟩
 case round=>
  obtain⟨j,hj,rfl,HJ,rfl⟩:=hrel
  by_cases am:j < n
  . obtain⟨y,hy⟩:∃y,zs[j]?=I y:=⟨_,List.getElem?_eq_getElem (by rw[HN.out];exact am)⟩
    have q:=HC.out j y hy
    have HY:=zh hy
    clear hy
    by_cases q9:y=x
    . have HT:Hid (r=true):=by
       show _=_
       rw[<- HR.out]
       exact decide_eq_true (q9 ▸ List.mem_of_getElem? HY.out)
      have h':(y==x)=true:=by simpa using q9
      clear q9
      go_wp2
      go_ret
      exact⟨by rw[HT.out];rfl,rfl⟩
    . have h':(y==x)=false:=by simpa using q9
      have kx:Hid (∀(a:Nat) z,a < j+1->zs[a]?=I z->z≠x):=fun a z ha hz=>by
       by_cases e:a=j
       . subst e;rw[HY.out] at hz;cases hz;exact q9
       . exact HJ.out a z (by omega) hz
      clear q9
      go_wp2
      go_roundw
      case rel=>exact⟨j+1,by omega,by go_num,kx,trivial⟩
      case measure=>simp[intOf];omega
  . have HF:Hid (r=false):=by
     show _=_
     rw[<- HR.out]
     refine decide_eq_false fun hm=> ?_
     obtain⟨a,ha⟩:=List.getElem?_of_mem hm
     exact HJ.out a x (by have:=(List.getElem?_eq_some_iff.1 ha).1;rw[HN.out] at this;omega) ha rfl
    go_wp2
    go_ret
    exact⟨by rw[HF.out];rfl,rfl⟩
theorem iK (u:Value)(zs:List Int)(B:Nat)(x:Int)(w:World)(h:dD w B u zs)(hn:zs.length<=1000)(a7:zs≠[]):Calls prog 55 #[u,J Jq x] w fun e w'=>e=Jz (.bool (decide (x∈zs)))/\w=w':=by
 rcases h.at_ with ⟨rfl,e⟩ | ⟨g,cap,rfl,hc⟩
 . exact absurd e a7
 . exact Nv g zs.length cap zs x w hc rfl hn
end Go.Proofs.YtejlincnnonhaaaGreat
