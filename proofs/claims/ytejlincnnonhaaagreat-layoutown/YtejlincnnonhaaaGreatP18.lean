import Derived.Test.YtejlincnnonhaaaGreatP17
import Derived.Deep.DeepCutAuto
import Derived.Laws.OwnMore
namespace Go.Proofs.YtejlincnnonhaaaGreat
open Go.RowKit Go.Proofs.Tryz
open Value renaming int->J,slice->Jj,pointer->JJ
open IntKind renaming i64->Jq
open Option renaming none->O,some->I
open Ending renaming returned->Jz
open Obj renaming cells->JZ
set_option linter.unusedVariables false
set_option maxRecDepth 100000
set_option maxHeartbeats 16000000
theorem Lt {k n:Int}(hk:k=2\/k=3){b:Box}(h:b.w < 1\/b.h < 1):ji k n b=false:=by
 unfold ji
 have:(aG (b.ext k)&&aG (b.ext (aA k)))=false:=by
  rw[<- o9 b k hk]
  cases hs:(aG b.w&&aG b.h) with
  | false=>rfl
  | true=>
    have h1:=Bool.and_eq_true_iff.1 hs
    have h2:=ik h1.1
    have h3:=ik h1.2
    omega
 rw[this]
 rfl
theorem wX (k:Int)(hk:k=2\/k=3)(wd ht:Int)(zs:List Int)(v:Value)(w:World)(h1:wd<=1000)(h2:ht<=1000)(hI:iP w v zs)(a7:zs≠[])(rl:zs.length<=400):Calls prog 66 #[v,J Jq k,J Jq wd,J Jq ht] w (Px (ji k zs.length ⟨0,0,wd,ht⟩) (ag (eU k zs ⟨0,0,wd,ht⟩)) w):=by
 by_cases hb:wd < 1\/ht < 1
 . refine (IJ k wd ht v w hb).mono fun e w' h=>⟨h.2,.inr ⟨Lt hk hb,h.1⟩⟩
 . match zs,a7,hI,rl with
   | [z],_,hI,_=>
     have hf:ji k (([z]:List Int).length:Nat) ⟨0,0,wd,ht⟩=true:=by
      unfold ji
      rw[<- o9 ⟨0,0,wd,ht⟩ k hk]
      show ((aG wd&&aG ht)&&(decide ((1:Int)=1)||_))=true
      rw[jB (by omega) h1,jB (by omega) h2]
      rfl
     refine (IK k wd ht z v w (by omega) (by omega) hI).mono fun e w' h=>⟨h.2,.inl ⟨hf,O,0,0,[],h.1,Be _ _ rfl,nofun,rfl⟩⟩
   | x::y::zs,_,hI,rl=>exact Fp k hk wd ht (x::y::zs) v w (by omega) (by omega) hI (by simp) rl
theorem pX (k:Int)(hk:k=2\/k=3)(wd ht:Int)(zs:List Int)(v:Value)(w:World)(h1:wd<=1000)(h2:ht<=1000)(hI:iP w v zs)(a7:zs≠[])(rl:zs.length<=400):Calls prog 66 #[v,J Jq k,J Jq wd,J Jq ht] w (y8 (ji k zs.length ⟨0,0,wd,ht⟩) (ag (eU k zs ⟨0,0,wd,ht⟩)) w):=(wX k hk wd ht zs v w h1 h2 hI a7 rl).mono fun e w' h=>h.doc
theorem y8.cases {ok:Bool}{n:Node}{w:World}{e:Ending}{w':World}(h:y8 ok n w e w'):∃n' sa sn sc,e=Jz (.tuple #[.agg (aC n' (Jj sa sn sc)),.bool ok]):=by
 rcases h.2 with ⟨rfl,sa,sn,sc,_,e,_⟩ | ⟨rfl,e⟩
 . exact⟨n,sa,sn,sc,e⟩
 . exact⟨.mk 0 0 0 0 [],O,0,0,e⟩
theorem Gu (k:Int)(hk:k=2\/k=3)(a b:Node)(aa:Option Addr)(an ac:Nat)(ba:Option Addr)(bn bc:Nat)(fa fb:List Nat)(w:World)(ha:a.In w (Jj aa an ac) fa)(hb:b.In w (Jj ba bn bc) fb)(la:a.ks.length<=500)(lb:b.ks.length<=500)(na:(0<=a.w/\a.w<=1000)/\(0<=a.h/\a.h<=1000))(nb:(0<=b.w/\b.w<=1000)/\(0<=b.h/\b.h<=1000)):
 Calls prog 62 #[J Jq k,.agg (aC a (Jj aa an ac)),.agg (aC b (Jj ba bn bc)),.bool false] w (rU (.mk k (if k=2 then a.w+b.w+1 else a.w) (if k=2 then a.h else a.h+b.h+1) 0 (bU k a++bU k b)) (fa++fb) w):=by
 rcases hk with rfl | rfl
 . exact xI a b aa an ac ba bn bc fa fb w ha hb la lb na nb
 . exact xJ a b aa an ac ba bn bc fa fb w ha hb la lb na nb
theorem y8.open {ok:Bool}{n:Node}{w:World}{e:Ending}{w':World}(h:y8 ok n w e w'):∃k4 w4 h4 i4 sa sn sc,e=Jz (.tuple #[.agg #[J Jq k4,J Jq w4,J Jq h4,J Jq i4,Jj sa sn sc],.bool ok])/\(ok=true->(k4=n.k/\w4=n.w/\h4=n.h/\i4=n.i)/\∃fp,n.In w' (Jj sa sn sc) fp/\∀q∈fp,w.heap.size<=q)/\Below w.heap.size w w':=by
 rcases h.2 with ⟨rfl,sa,sn,sc,fp,e,h1,h2⟩ | ⟨rfl,e⟩
 . exact⟨n.k,n.w,n.h,n.i,sa,sn,sc,e,fun _=>⟨⟨rfl,rfl,rfl,rfl⟩,fp,h1,h2⟩,h.1⟩
 . exact⟨0,0,0,0,O,0,0,e,fun h=>(by cases h),h.1⟩
theorem Lu {X:World}{g:Nat}{t:TypeId}(h:X.heap[g]?=I (.cells aU t (0,0)))(v0 v1 v2 v3 v4:Value):(fB X g v0 v1 v2 v3 v4).heap[g]?=I (JZ #[v0,v1,v2,v3,v4] t (0,0)):=by
 have key:∀{X:World} {cs:Array Value} (o:Nat) (v:Value),X.heap[g]?=I (.cells cs t (0,0))->(X.setCell ⟨g,o,O⟩ v).heap[g]?=I (.cells (cs.setIfInBounds o v) t (0,0)):=fun {X cs} o v h=>by
  have am:=lt_of_block h
  have h':X.heap[g]=.cells cs t (0,0):=by simpa [Array.getElem?_eq_getElem am] using h
  show (X.heap.modify g _)[g]?=_
  rw[Array.getElem?_eq_getElem (by simpa using am),Array.getElem_modify_self,h']
  rfl
 unfold fB
 rw[key 4 v4 (key 3 v3 (key 2 v2 (key 1 v1 (key 0 v0 h))))]
 rfl
structure vG (V Y:World)(g:Nat)(A:Array Value):Prop where
 below:Below V.heap.size V Y
 at_:Y.heap[g]?=I (.cells A 53 (0,0))
 ge:V.heap.size<=g
theorem mF {V X:World}(h:Below V.heap.size V X)(A:Array Value):vG V (X.alloc (.cells A 53)) X.heap.size A:=⟨aK h _,heap_alloc_new _ _,h.size⟩
structure lY (V X:World)(g:Nat):Prop where
 below:Below V.heap.size V X
 at_:X.heap[g]?=I (.cells aU 53 (0,0))
 ge:V.heap.size<=g
theorem rF {V X1 X2:World}(h1:Below V.heap.size V X1)(h2:Below (X1.alloc (JZ #[J Jq 0,J Jq 0,J Jq 0,J Jq 0,Jj O 0 0] 53)).heap.size (X1.alloc (JZ #[J Jq 0,J Jq 0,J Jq 0,J Jq 0,Jj O 0 0] 53)).drew X2):lY V X2 X1.heap.size:=by
 have h3:Below (X1.alloc (JZ #[J Jq 0,J Jq 0,J Jq 0,J Jq 0,Jj O 0 0] 53)).heap.size (X1.alloc (JZ #[J Jq 0,J Jq 0,J Jq 0,J Jq 0,Jj O 0 0] 53)) X2:=⟨h2.os,h2.tape,h2.output,h2.size,h2.block⟩
 exact⟨af (aK h1 _) h3,(h3.block _ (by simp)).trans (heap_alloc_new _ _),h1.size⟩
theorem lY.cells {V X:World}{g:Nat}(h:lY V X g):(X.cell? ⟨g,0,O⟩=I (J Jq 0)/\X.cell? ⟨g,1,O⟩=I (J Jq 0)/\X.cell? ⟨g,2,O⟩=I (J Jq 0)/\X.cell? ⟨g,3,O⟩=I (J Jq 0)/\X.cell? ⟨g,4,O⟩=I (Jj O 0 0))/\(X.frozen? ⟨g,0,O⟩=false/\X.frozen? ⟨g,1,O⟩=false/\X.frozen? ⟨g,2,O⟩=false/\X.frozen? ⟨g,3,O⟩=false/\X.frozen? ⟨g,4,O⟩=false):=⟨⟨ae h.at_ 0,ae h.at_ 1,ae h.at_ 2,ae h.at_ 3,ae h.at_ 4⟩,ai h.at_ 0,ai h.at_ 1,ai h.at_ 2,ai h.at_ 3,ai h.at_ 4⟩
theorem iQ {V X:World}{g:Nat}(h:lY V X g)(v0 v1 v2 v3 v4:Value):vG V (fB X g v0 v1 v2 v3 v4) g #[v0,v1,v2,v3,v4]:=⟨bC h.below g h.ge v0 v1 v2 v3 v4,Lu h.at_ v0 v1 v2 v3 v4,h.ge⟩
theorem wZ (Y:World)(o:Obj):(Y.alloc o).drew.heap.size=Y.heap.size+1:=by
 show (Y.alloc o).heap.size=_
 simp
theorem rE {w Y:World}(h:Below w.heap.size w Y):Below w.heap.size w Y.drew:=⟨h.os,h.tape,h.output,h.size,h.block⟩
theorem tV {w Y:World}(h:Below w.heap.size w Y){o:Obj}:Below w.heap.size w (Y.alloc o).drew:=rE (aK h o)
structure LC (k wd ht sz E ot fw fh rw rh:Int)(j:Int)(z0:Int)(zs:List Int):Prop where
 kk:k=2\/k=3
 jj:j=2\/j=3
 jk:5-k=j
 ne:j≠k
 e1:1<=E/\E<=1000
 o1:0<=ot/\ot<=1000
 fwE:(if k=2 then E-1-ot else wd)=fw
 fhE:(if k=2 then ht else E-1-ot)=fh
 rwE:(if k=2 then ot else wd)=rw
 rhE:(if k=2 then ht else ot)=rh
 exE:(if k=2 then wd else ht)=E
 fx:(if k=2 then fw else fh)=E-1-ot
 sides:(1<=wd/\wd<=1000)/\(1<=ht/\ht<=1000)
 ok:Fq k zs.length ⟨0,0,wd,ht⟩ sz=(aG (E-1-ot)&&ji j zs.length ⟨0,0,rw,rh⟩)
 node:ag (firstT k z0 zs ⟨0,0,wd,ht⟩ sz)=.mk k wd ht 0 [.mk 1 fw fh z0 [],ag (eU j zs ⟨0,0,rw,rh⟩)]
theorem O7 (k:Int)(hk:k=2\/k=3)(wd ht sz:Int)(z0:Int)(zs:List Int)(h1:1<=wd/\wd<=1000)(h2:1<=ht/\ht<=1000):∃E ot fw fh rw rh j,jC E sz=ot/\LC k wd ht sz E ot fw fh rw rh j z0 zs:=by
 obtain⟨a1,a2,a3⟩:=ql k hk
 have hE:1<=(if k=2 then wd else ht)/\(if k=2 then wd else ht)<=1000:=by split <;> assumption
 have OP:=uZ (z:=sz) hE
 have hx:(⟨0,0,wd,ht⟩:Box).ext k=(if k=2 then wd else ht):=rfl
 have hj:5-k=aA k:=by rcases hk with rfl | rfl <;> rfl
 obtain⟨E,ZC⟩:∃E,(if k=2 then wd else ht)=E:=⟨_,rfl⟩
 rw[ZC] at hE OP hx
 obtain⟨ot,A0⟩:∃x,jC E sz=x:=⟨_,rfl⟩
 rw[A0] at OP
 have hw:∀n:Int,(⟨0,0,wd,ht⟩:Box).with k n=⟨0,0,if k=2 then n else wd,if k=2 then ht else n⟩:=fun n=>by
  rcases hk with rfl | rfl
  . show (⟨0,0,wd+(n-wd),ht⟩:Box)=_
    rw[show wd+(n-wd)=n by omega]
    rfl
  . show (⟨0,0,wd,ht+(n-ht)⟩:Box)=_
    rw[show ht+(n-ht)=n by omega]
    rfl
 refine⟨E,ot,_,_,_,_,aA k,A0,hk,a2,hj,a3,hE,OP,rfl,rfl,rfl,rfl,ZC,?_,⟨h1,h2⟩,?_,?_⟩
 . split <;> rfl
 . unfold Fq
   rw[hx,A0,hw]
 . unfold firstT
   rw[hx,A0,hw,hw]
   rfl
theorem LC.pair {k wd ht sz E ot fw fh rw rh j z0:Int}{zs:List Int}(h:LC k wd ht sz E ot fw fh rw rh j z0 zs):(if k=2 then fw+rw+1 else fw)=wd/\(if k=2 then fh else fh+rh+1)=ht:=by
 have h1:=h.fwE
 have h2:=h.fhE
 have h3:=h.rwE
 have h4:=h.rhE
 have h5:=h.exE
 rcases h.kk with rfl | rfl
 . rw[if_pos rfl] at*
   exact⟨by omega,by omega⟩
 . rw[if_neg (by decide)] at*
   exact⟨by omega,by omega⟩
theorem kZ {n:Node}{X:World}{sl:Value}{fp:List Nat}(h:n.In X sl fp)(g:Nat)(hg:∀q∈fp,q≠g)(v0 v1 v2 v3 v4:Value):n.In (fB X g v0 v1 v2 v3 v4) sl fp:=h.keep fun q hq=>fD X g v0 v1 v2 v3 v4 q (hg q hq)
theorem yg (k:Int)(hk:k=2\/k=3)(z0:Int)(zs:List Int)(wd ht sz:Int)(v:Value)(w:World)(h1:1<=wd/\wd<=1000)(h2:1<=ht/\ht<=1000)(hsz: -9223372036854775808<=sz/\sz<=9223372036854775807)(hI:iP w v (z0::zs))(a7:zs≠[])(rl:zs.length<=300):Calls prog 67 #[v,J Jq k,J Jq wd,J Jq ht,J Jq sz] w (y8 (Fq k zs.length ⟨0,0,wd,ht⟩ sz) (ag (firstT k z0 zs ⟨0,0,wd,ht⟩ sz)) w):=by
 obtain⟨g,o,cap,rfl,cG,hz⟩:=hI
 obtain⟨E,ot,fw,fh,rw',rh,j,A0,tw⟩:=O7 k hk wd ht sz z0 zs h1 h2
 have E3:Hid (LC k wd ht sz E ot fw fh rw' rh j z0 zs):=tw
 rw[tw.ok,tw.node]
 have GW:=tw.e1
 have Vq:=tw.o1
 obtain⟨W,hW⟩:∃x,w.alloc (JZ #[J Jq 0,J Jq 0,J Jq 0,J Jq 0,Jj O 0 0] 53)=x:=⟨_,rfl⟩
 have fi:W.heap.size=w.heap.size+1:=by rw[<- hW];simp
 obtain⟨V,hV⟩:∃x,W.alloc (JZ #[J Jq k,J Jq wd,J Jq ht,J Jq 0,Jj O 0 0] 53)=x:=⟨_,rfl⟩
 have lO:Hid (eY w k wd ht [] (Jj O 0 0) V):=by rw[<- hV,<- hW];exact ve w k wd ht
 have HW:Hid (w.alloc (JZ #[J Jq 0,J Jq 0,J Jq 0,J Jq 0,Jj O 0 0] 53)=W):=hW
 have HV:Hid (W.alloc (JZ #[J Jq k,J Jq wd,J Jq ht,J Jq 0,Jj O 0 0] 53)=V):=hV
 obtain⟨c0,c1,c2,c3,c4⟩:=lO.out.cells
 have gP:Hid (∀X,Below V.heap.size V X->eY w k wd ht [] (Jj O 0 0) X):=fun X hX=>lO.out.below' hX
 have ff:Hid (∀X,Calls prog 57 #[.agg #[J Jq k,J Jq wd,J Jq ht,J Jq 0,Jj O 0 0],J Jq k] X fun e w'=>e=Jz (J Jq E)/\Below X.heap.size X w'):=fun X=>by
  have:=eQ (.mk k wd ht 0 []) O 0 0 k X
  rw[<- tw.exE]
  exact this
 have RN:Hid (∀X,Calls prog 61 #[.agg #[J Jq k,J Jq wd,J Jq ht,J Jq 0,Jj O 0 0],J Jq z0,J Jq k,J Jq (E-1-ot)] X fun e w'=>e=Jz (.agg #[J Jq 1,J Jq fw,J Jq fh,J Jq z0,Jj O 0 0])/\Below X.heap.size X w'):=fun X=>by
  have:=oI (.mk k wd ht 0 []) O 0 0 z0 k (E-1-ot) hk X
  rw[<- tw.fwE,<- tw.fhE]
  exact this
 have ZD:Hid (∀X,Calls prog 61 #[.agg #[J Jq k,J Jq wd,J Jq ht,J Jq 0,Jj O 0 0],J Jq 0,J Jq k,J Jq ot] X fun e w'=>e=Jz (.agg #[J Jq 1,J Jq rw',J Jq rh,J Jq 0,Jj O 0 0])/\Below X.heap.size X w'):=fun X=>by
  have:=oI (.mk k wd ht 0 []) O 0 0 0 k ot hk X
  rw[<- tw.rwE,<- tw.rhE]
  exact this
 have rI:(0<=rw'/\rw'<=1000)/\(0<=rh/\rh<=1000):=by
  rw[<- tw.rwE,<- tw.rhE]
  rcases hk with rfl | rfl
  . exact⟨Vq,by omega,h2.2⟩
  . exact⟨⟨by omega,h1.2⟩,Vq⟩
 obtain⟨n,hn⟩:∃n,zs.length=n:=⟨_,rfl⟩
 have OR:∀X,Below w.heap.size w X->∀(i:Nat) z,(z0::zs)[i]?=I z->X.cell? ⟨g,o+i,O⟩=I (J Jq z):=fun X hX i z h=>(hX.cell (p:=⟨g,o+i,O⟩) (World.block_lt_of_cell? w _ (hz i z h))).trans (hz i z h)
 have Kk:Hid (∀c X,n<=c->Below w.heap.size w X->Calls prog 66 #[Jj (I ⟨g,o+1,O⟩) n c,J Jq j,J Jq rw',J Jq rh] X (y8 (ji j zs.length ⟨0,0,rw',rh⟩) (ag (eU j zs ⟨0,0,rw',rh⟩)) X)):=fun c X hc hX=>pX j tw.jj rw' rh zs _ X rI.1.2 rI.2.2 ⟨g,o+1,c,by rw[hn],by rw[hn];exact hc,fun i z h=>by have:=OR X hX (i+1) z (by simpa using h);rw[show o+1+i=o+(i+1) by omega];exact this⟩ a7 (by omega)
 have IT:Hid (∀X,Below w.heap.size w X->X.cell? ⟨g,o,O⟩=I (J Jq z0)):=fun X hX=>OR X hX 0 z0 rfl
 rw[List.length_cons,hn] at cG
 rw[List.length_cons,hn]
 have sL:n<=cap-1:=by omega
 have h1n:(1:Int)<=(n:Int)+1:=by omega
 have mx:cap≠1:=by have:=List.length_pos_iff.2 a7;omega
 have w0:IntKind.i64.wrap (E-1)=E-1:=by rw[IntKind.wrap_i64];omega
 have w1:IntKind.i64.wrap (E-1-ot)=E-1-ot:=by rw[IntKind.wrap_i64];omega
 have w5:IntKind.i64.wrap (5-k)=j:=by rw[<- tw.jk,IntKind.wrap_i64];rcases hk with rfl | rfl <;> decide
 have hq:(E-1).tdiv 2=dM E:=by unfold dM;rw[Int.tdiv_eq_ediv_of_nonneg (by omega)]
 obtain⟨hf,Lq⟩:∃x,dM E=x:=⟨_,rfl⟩
 rw[Lq] at hq
 have w2:IntKind.i64.wrap hf=hf:=by rw[<- Lq,IntKind.wrap_i64];unfold dM;omega
 have fL:(if 1<=sz then max 1 (E-1-min sz E) else hf)=ot:=by
  rw[<- A0,<- Lq]
  unfold jC
  split
  . omega
  . rfl
 obtain⟨mn,Vf⟩:∃x,min sz E=x:=⟨_,rfl⟩
 have w3:1<=sz->IntKind.i64.wrap (E-1-mn)=E-1-mn:=fun h=>by rw[<- Vf,IntKind.wrap_i64];omega
 rw[Vf] at fL
 obtain⟨ok,bN⟩:∃b,ji j n ⟨0,0,rw',rh⟩=b:=⟨_,rfl⟩
 rw[hn,bN] at Kk
 rw[bN]
 obtain⟨EN,Xq⟩:∃N,ag (eU j zs ⟨0,0,rw',rh⟩)=N:=⟨_,rfl⟩
 have A3:Hid (EN.k≠k/\EN.ks.length<=500/\EN.w=rw'/\EN.h=rh):=by
  show _/\_/\_/\_
  rw[<- Xq]
  refine⟨?_,?_,by rw[bV,sK],by rw[bW,sK]⟩
  . exact xx _ k hk (qP j k tw.ne _ _)
  . have h4:=pq j zs ⟨0,0,rw',rh⟩
    have h5:(ag (eU j zs ⟨0,0,rw',rh⟩)).ks.length<=(eU j zs ⟨0,0,rw',rh⟩).size:=by
     cases eU j zs ⟨0,0,rw',rh⟩ with
     | leaf b p=>exact Nat.zero_le _
     | split b k ts=>
       show (nodesOf ts).length<=1+sizes ts
       rw[ax]
       have:=aI ts
       omega
    omega
 rw[Xq] at Kk ⊢
 have Rk:Hid ((0<=rw'/\rw'<=1000)/\(0<=rh/\rh<=1000)):=rI
 have HK:Hid (k=2\/k=3):=hk
 clear hW hV hz OR hn bN Xq A0 tw Lq rI hk
 by_cases hs:1<=sz
 . rw[if_pos hs] at fL
   have w3':=w3 hs
   have hd:decide ((1:Int)<=sz)=true:=decide_eq_true hs
   clear w3
   go_enter func67,ntmps67
   go_upto_region 1 with fail
   rw[HW.out]
   go_upto_region 2 with fail
   rw[HV.out]
   go_wp2_with fail
   refine (ff.out _).mono ?_
   rintro e X1 ⟨rfl,bj⟩
   have pu:Hid (Below V.heap.size V X1):=bj
   have d1:=IT.out X1 (af lO.out.below bj)
   obtain⟨e0,e1,e2,e3,e4⟩:=(gP.out X1 bj).cells
   have d1a:=IT.out _ (aK (af lO.out.below bj) (JZ #[J Jq 0,J Jq 0,J Jq 0,J Jq 0,Jj O 0 0] 53))
   obtain⟨p0,p1,p2,p3,p4⟩:=(gP.out _ (aK bj (JZ #[J Jq 0,J Jq 0,J Jq 0,J Jq 0,Jj O 0 0] 53))).cells
   clear bj c0 c1 c2 c3 c4
   go_wp2_with fail
   have Xr:Hid (∀X,Calls prog 57 #[.agg #[J Jq 1,J Jq fw,J Jq fh,J Jq z0,Jj O 0 0],J Jq k] X fun e w'=>e=Jz (J Jq (E-1-ot))/\Below X.heap.size X w'):=fun X=>by
    have:=eQ (.mk 1 fw fh z0 []) O 0 0 k X
    rw[<- E3.out.fx]
    exact this
   have T9:Hid (w.heap.size+2<=V.heap.size):=lO.out.lt
   go_cut [15] (fun v wx=>∃gA,v=JJ (I ⟨gA,0,O⟩)/\Hid (vG V wx gA #[J Jq 1,J Jq fw,J Jq fh,J Jq z0,Jj O 0 0]))
   case first=>
    go_region_law (first
     | (go_simp;go_at_call 61;refine (RN.out _).mono ?_;rintro e X2 ⟨rfl,al⟩;first | (have eW:Hid (Below V.heap.size V X2):=af pu.out ⟨al.os,al.tape,al.output,al.size,al.block⟩;clear al) | (have eW:Hid (lY V X2 X1.heap.size):=rF pu.out al;obtain⟨⟨t0,t1,t2,t3,t4⟩,t5,t6,t7,t8,t9⟩:=eW.out.cells;clear al)))
    all_goals (
     go_wp2_with fail
     go_meet
     first | exact⟨_,rfl,mF eW.out _⟩ | exact⟨_,rfl,iQ eW.out _ _ _ _ _⟩)
   case rest=>
    obtain⟨gA,rfl,Ua⟩:=hcut
    obtain⟨Y2,Xs⟩:∃x,x=wc:=⟨_,rfl⟩
    subst Xs
    have I0:Hid (Below V.heap.size V Y2):=Ua.out.below
    have ii:Hid (Y2.heap[gA]?=I (JZ #[J Jq 1,J Jq fw,J Jq fh,J Jq z0,Jj O 0 0] 53 (0,0))):=Ua.out.at_
    clear e0 e1 e2 e3 e4 d1 d1a p0 p1 p2 p3 p4
    obtain⟨e0,e1,e2,e3,e4⟩:=(gP.out Y2 I0.out).cells
    go_wp2_with fail
    refine (ZD.out _).mono ?_
    rintro e X3 ⟨rfl,aM⟩
    have v6:Hid (Below Y2.heap.size Y2 X3):=aM
    clear aM e0 e1 e2 e3 e4
    go_upto_region 8 with fail
    obtain⟨Y3,wa⟩:∃Y,X3.alloc (JZ #[J Jq 1,J Jq rw',J Jq rh,J Jq 0,Jj O 0 0] 53)=Y:=⟨_,rfl⟩
    have yv:Hid (Below Y2.heap.size Y2 Y3):=by rw[<- wa];exact aK v6.out _
    have qu:Y3.heap[X3.heap.size]?=I (JZ #[J Jq 1,J Jq rw',J Jq rh,J Jq 0,Jj O 0 0] 53 (0,0)):=by rw[<- wa];exact heap_alloc_new _ _
    have b1:Y3.cell? ⟨X3.heap.size,1,O⟩=I (J Jq rw'):=ae qu 1
    have b2:Y3.cell? ⟨X3.heap.size,2,O⟩=I (J Jq rh):=ae qu 2
    have nQ:Hid (Below w.heap.size w Y3):=af lO.out.below (af I0.out yv.out)
    have Ub:Hid (∀i,(Y3.alloc (JZ #[J Jq 0,J Jq 0,J Jq 0,J Jq 0,Jj O 0 0] 53)).cell? ⟨X3.heap.size,i,O⟩=Y3.cell? ⟨X3.heap.size,i,O⟩):=fun i=>(bM Y3 _).cell (p:=⟨X3.heap.size,i,O⟩) (lt_of_block qu)
    have b1a:=(Ub.out 1).trans b1
    have b2a:=(Ub.out 2).trans b2
    rw[wa]
    clear wa qu
    go_cut [17,18] (fun v vb wx=>vb=.bool ok/\∃gC k4 w4 h4 i4 sa sn sc,v=JJ (I ⟨gC,0,O⟩)/\Hid (vG Y3 wx gC #[J Jq k4,J Jq w4,J Jq h4,J Jq i4,Jj sa sn sc])/\Hid (ok=true->(k4=EN.k/\w4=EN.w/\h4=EN.h/\i4=EN.i)/\∃fp,EN.In wx (Jj sa sn sc) fp/\∀q∈fp,Y3.heap.size<=q))
    case first=>
     go_region_law (first
      | (go_simp;go_at_call 66;refine (Kk.out _ _ sL (by first | exact rE nQ.out | exact tV nQ.out)).mono ?_;rintro e X4 hD;obtain⟨k4,w4,h4,i4,sa,sn,sc,rfl,iz,ee⟩:=hD.open;first | (have we:Hid (Below Y3.heap.size Y3 X4):=⟨ee.os,ee.tape,ee.output,ee.size,ee.block⟩;have HD:Hid (ok=true->(k4=EN.k/\w4=EN.w/\h4=EN.h/\i4=EN.i)/\∃fp,EN.In X4 (Jj sa sn sc) fp/\∀q∈fp,Y3.heap.size<=q):=iz;clear hD iz ee) | (have we:Hid (lY Y3 X4 Y3.heap.size):=rF (Below.refl _ _) ee;obtain⟨⟨t0,t1,t2,t3,t4⟩,t5,t6,t7,t8,t9⟩:=we.out.cells;have HD:Hid (ok=true->(k4=EN.k/\w4=EN.w/\h4=EN.h/\i4=EN.i)/\∃fp,EN.In X4 (Jj sa sn sc) fp/\∀q∈fp,Y3.heap.size+1<=q):=(fun h=>by (obtain⟨h1,fp,h2,h3⟩:=iz h;exact⟨h1,fp,h2,fun q hq=>by (have h9:=h3 q hq;rw[wZ] at h9;exact h9)⟩));clear hD iz ee)))
     all_goals (
      go_wp2_with fail
      go_meet
      first
       | exact⟨rfl,_,k4,w4,h4,i4,sa,sn,sc,rfl,mF we.out _,fun h=>by (obtain⟨h1,fp,h2,h3⟩:=HD.out h;exact⟨h1,fp,h2.below (bM _ _),h3⟩)⟩
       | exact⟨rfl,_,k4,w4,h4,i4,sa,sn,sc,rfl,iQ we.out _ _ _ _ _,fun h=>by (obtain⟨h1,fp,h2,h3⟩:=HD.out h;exact⟨h1,fp,kZ h2 _ (fun q hq=>by have:=h3 q hq;omega) _ _ _ _ _,fun q hq=>by have:=h3 q hq;omega⟩)⟩)
    case rest=>
     obtain⟨rfl,gC,k4,w4,h4,i4,sa,sn,sc,rfl,DO,HD⟩:=hcut
     obtain⟨Y4,Xt⟩:∃x,x=wc:=⟨_,rfl⟩
     subst Xt
     have vm:Hid (Below V.heap.size V Y4):=af I0.out (af yv.out DO.out.below)
     have vq:Hid (Y4.heap[gA]?=I (JZ #[J Jq 1,J Jq fw,J Jq fh,J Jq z0,Jj O 0 0] 53 (0,0))):=((af yv.out DO.out.below).block _ (lt_of_block ii.out)).trans ii.out
     have Hi:Hid (Y4.heap[gC]?=I (JZ #[J Jq k4,J Jq w4,J Jq h4,J Jq i4,Jj sa sn sc] 53 (0,0))):=DO.out.at_
     clear b1 b2 b1a b2a
     cases ok
     . obtain⟨q0,q1,q2,q3,q4,f0,f1,f2,f3,f4⟩:=jX (gP.out Y4 vm.out).res
       have OS:Hid (Below w.heap.size w Y4):=af lO.out.below vm.out
       go_wp2
       exact bodyPost_ret (v:=.tuple #[.agg #[J Jq 0,J Jq 0,J Jq 0,J Jq 0,Jj O 0 0],.bool false]) (by simp[results,results67,go_sem,q0,q1,q2,q3,q4]) rfl ⟨bC OS.out _ (Nat.le_refl _) _ _ _ _ _,.inr ⟨by simp,rfl⟩⟩
     . have a0:Y4.cell? ⟨gA,0,O⟩=I (J Jq 1):=ae vq.out 0
       have a1:Y4.cell? ⟨gA,1,O⟩=I (J Jq fw):=ae vq.out 1
       have a2:Y4.cell? ⟨gA,2,O⟩=I (J Jq fh):=ae vq.out 2
       have a3:Y4.cell? ⟨gA,3,O⟩=I (J Jq z0):=ae vq.out 3
       have a4:Y4.cell? ⟨gA,4,O⟩=I (Jj O 0 0):=ae vq.out 4
       go_wp2_with fail
       refine (Xr.out _).mono ?_
       rintro e X5 ⟨rfl,cd⟩
       have E0:Hid (Below Y4.heap.size Y4 X5):=cd
       have pE:Hid (Below V.heap.size V X5):=af vm.out cd
       have CM:Hid (Below w.heap.size w X5):=af lO.out.below pE.out
       clear cd a0 a1 a2 a3 a4
       by_cases ck:E-1-ot < 1
       . have zP:decide (E-1-ot < (1:Int))=true:=decide_eq_true ck
         have Pa:Hid (aG (E-1-ot)=false):=by
          show _=_
          cases hs:aG (E-1-ot) with
          | false=>rfl
          | true=>have:=ik hs;omega
         obtain⟨q0,q1,q2,q3,q4,f0,f1,f2,f3,f4⟩:=jX (gP.out X5 pE.out).res
         go_wp2
         exact bodyPost_ret (v:=.tuple #[.agg #[J Jq 0,J Jq 0,J Jq 0,J Jq 0,Jj O 0 0],.bool false]) (by simp[results,results67,go_sem,q0,q1,q2,q3,q4]) rfl ⟨bC CM.out _ (Nat.le_refl _) _ _ _ _ _,.inr ⟨by rw[Pa.out];rfl,rfl⟩⟩
       . have zP:decide (E-1-ot < (1:Int))=false:=decide_eq_false ck
         have kp:Hid (aG (E-1-ot)=true):=jB (by omega) (by omega)
         obtain⟨⟨rfl,rfl,rfl,rfl⟩,fp,ab,be⟩:=HD.out (by first | rfl | trivial)
         have Al:=(E0.out.block _ (lt_of_block vq.out)).trans vq.out
         have An:=(E0.out.block _ (lt_of_block Hi.out)).trans Hi.out
         have a0:X5.cell? ⟨gA,0,O⟩=I (J Jq 1):=ae Al 0
         have a1:X5.cell? ⟨gA,1,O⟩=I (J Jq fw):=ae Al 1
         have a2:X5.cell? ⟨gA,2,O⟩=I (J Jq fh):=ae Al 2
         have a3:X5.cell? ⟨gA,3,O⟩=I (J Jq z0):=ae Al 3
         have a4:X5.cell? ⟨gA,4,O⟩=I (Jj O 0 0):=ae Al 4
         have m0:X5.cell? ⟨gC,0,O⟩=I (J Jq EN.k):=ae An 0
         have m1:X5.cell? ⟨gC,1,O⟩=I (J Jq EN.w):=ae An 1
         have m2:X5.cell? ⟨gC,2,O⟩=I (J Jq EN.h):=ae An 2
         have m3:X5.cell? ⟨gC,3,O⟩=I (J Jq EN.i):=ae An 3
         have m4:X5.cell? ⟨gC,4,O⟩=I (Jj sa sn sc):=ae An 4
         have q7:=ab.below E0.out
         have cV:Hid (Calls prog 62 #[J Jq k,.agg #[J Jq 1,J Jq fw,J Jq fh,J Jq z0,Jj O 0 0],.agg #[J Jq EN.k,J Jq EN.w,J Jq EN.h,J Jq EN.i,Jj sa sn sc],.bool false] X5 (rU (.mk k wd ht 0 [.mk 1 fw fh z0 [],EN]) ([]++fp) X5)):=by
          have xp:(0<=fw/\fw<=1000)/\(0<=fh/\fh<=1000):=by
           have e1:=E3.out.fwE
           have e2:=E3.out.fhE
           rcases HK.out with rfl | rfl
           . rw[if_pos rfl] at e1 e2;omega
           . rw[if_neg (by decide)] at e1 e2;omega
          have hp:=Gu k HK.out (.mk 1 fw fh z0 []) EN O 0 0 sa sn sc [] fp X5 (Be _ _ rfl) q7 (Nat.zero_le _) A3.out.2.1 xp (by rw[A3.out.2.2.1,A3.out.2.2.2];exact Rk.out)
          have e1:bU k (.mk 1 fw fh z0 [])=[.mk 1 fw fh z0 []]:=by
           unfold bU
           rw[if_neg (by show ¬(1:Int)=k;rcases HK.out with rfl | rfl <;> decide)]
          have e2:bU k EN=[EN]:=by
           unfold bU
           rw[if_neg A3.out.1]
          rw[e1,e2,A3.out.2.2.1,A3.out.2.2.2] at hp
          have e3:(if k=2 then (Node.mk 1 fw fh z0 []).w+rw'+1 else (Node.mk 1 fw fh z0 []).w)=wd:=E3.out.pair.1
          have e4:(if k=2 then (Node.mk 1 fw fh z0 []).h else (Node.mk 1 fw fh z0 []).h+rh+1)=ht:=E3.out.pair.2
          rw[e3,e4] at hp
          exact hp
         have Re:Hid (∀q∈([]++fp:List Nat),w.heap.size+2<=q):=fun q hq=>by
          have h6:=be q hq
          have h7:=nQ.out.size
          have h8:=(af I0.out yv.out).size
          have h9:=T9.out
          omega
         clear Al An ab be q7
         go_wp2_with fail
         refine cV.out.mono ?_
         rintro e X6 ⟨pa,pn,pc,fp6,Uc,ux,CN,eM⟩
         have Xu:e=Jz (.agg #[J Jq k,J Jq wd,J Jq ht,J Jq 0,Jj pa pn pc]):=Uc
         subst Xu
         have Ud:Hid (∀q∈fp6,w.heap.size+2<=q):=fun q hq=>by
          rcases CN q hq with h6 | h6
          . exact Re.out q h6
          . have h7:=pE.out.size
            have h8:=T9.out
            omega
         have Xv:Hid ((Node.mk k wd ht 0 [.mk 1 fw fh z0 [],EN]).In X6 (Jj pa pn pc) fp6):=ux
         have Pb:Hid (Below w.heap.size w X6):=af CM.out eM
         obtain⟨q0,q1,q2,q3,q4,f0,f1,f2,f3,f4⟩:=jX (gP.out X6 (af pE.out eM)).res
         clear Uc ux CN eM a0 a1 a2 a3 a4 m0 m1 m2 m3 m4
         go_wp2
         exact bodyPost_ret (v:=.tuple #[.agg #[J Jq k,J Jq wd,J Jq ht,J Jq 0,Jj pa pn pc],.bool true]) (by simp[results,results67,go_sem,q0,q1,q2,q3,q4]) rfl ⟨bC Pb.out _ (Nat.le_refl _) _ _ _ _ _,.inl ⟨by rw[kp.out];rfl,pa,pn,pc,fp6,rfl,kZ Xv.out _ (fun q hq=>by have:=Ud.out q hq;omega) _ _ _ _ _,fun q hq=>by have:=Ud.out q hq;omega⟩⟩
 . rw[if_neg hs] at fL
   have hd:decide ((1:Int)<=sz)=false:=decide_eq_false hs
   have I1:ot=hf:=fL.symm
   subst I1
   clear w3 fL
   go_enter func67,ntmps67
   go_upto_region 1 with fail
   rw[HW.out]
   go_upto_region 2 with fail
   rw[HV.out]
   go_wp2_with fail
   refine (ff.out _).mono ?_
   rintro e X1 ⟨rfl,bj⟩
   have pu:Hid (Below V.heap.size V X1):=bj
   have d1:=IT.out X1 (af lO.out.below bj)
   obtain⟨e0,e1,e2,e3,e4⟩:=(gP.out X1 bj).cells
   have d1a:=IT.out _ (aK (af lO.out.below bj) (JZ #[J Jq 0,J Jq 0,J Jq 0,J Jq 0,Jj O 0 0] 53))
   obtain⟨p0,p1,p2,p3,p4⟩:=(gP.out _ (aK bj (JZ #[J Jq 0,J Jq 0,J Jq 0,J Jq 0,Jj O 0 0] 53))).cells
   clear bj c0 c1 c2 c3 c4
   go_wp2_with fail
   have Xr:Hid (∀X,Calls prog 57 #[.agg #[J Jq 1,J Jq fw,J Jq fh,J Jq z0,Jj O 0 0],J Jq k] X fun e w'=>e=Jz (J Jq (E-1-ot))/\Below X.heap.size X w'):=fun X=>by
    have:=eQ (.mk 1 fw fh z0 []) O 0 0 k X
    rw[<- E3.out.fx]
    exact this
   have T9:Hid (w.heap.size+2<=V.heap.size):=lO.out.lt
   go_cut [15] (fun v wx=>∃gA,v=JJ (I ⟨gA,0,O⟩)/\Hid (vG V wx gA #[J Jq 1,J Jq fw,J Jq fh,J Jq z0,Jj O 0 0]))
   case first=>
    go_region_law (first
     | (go_simp;go_at_call 61;refine (RN.out _).mono ?_;rintro e X2 ⟨rfl,al⟩;first | (have eW:Hid (Below V.heap.size V X2):=af pu.out ⟨al.os,al.tape,al.output,al.size,al.block⟩;clear al) | (have eW:Hid (lY V X2 X1.heap.size):=rF pu.out al;obtain⟨⟨t0,t1,t2,t3,t4⟩,t5,t6,t7,t8,t9⟩:=eW.out.cells;clear al)))
    all_goals (
     go_wp2_with fail
     go_meet
     first | exact⟨_,rfl,mF eW.out _⟩ | exact⟨_,rfl,iQ eW.out _ _ _ _ _⟩)
   case rest=>
    obtain⟨gA,rfl,Ua⟩:=hcut
    obtain⟨Y2,Xs⟩:∃x,x=wc:=⟨_,rfl⟩
    subst Xs
    have I0:Hid (Below V.heap.size V Y2):=Ua.out.below
    have ii:Hid (Y2.heap[gA]?=I (JZ #[J Jq 1,J Jq fw,J Jq fh,J Jq z0,Jj O 0 0] 53 (0,0))):=Ua.out.at_
    clear e0 e1 e2 e3 e4 d1 d1a p0 p1 p2 p3 p4
    obtain⟨e0,e1,e2,e3,e4⟩:=(gP.out Y2 I0.out).cells
    go_wp2_with fail
    refine (ZD.out _).mono ?_
    rintro e X3 ⟨rfl,aM⟩
    have v6:Hid (Below Y2.heap.size Y2 X3):=aM
    clear aM e0 e1 e2 e3 e4
    go_upto_region 8 with fail
    obtain⟨Y3,wa⟩:∃Y,X3.alloc (JZ #[J Jq 1,J Jq rw',J Jq rh,J Jq 0,Jj O 0 0] 53)=Y:=⟨_,rfl⟩
    have yv:Hid (Below Y2.heap.size Y2 Y3):=by rw[<- wa];exact aK v6.out _
    have qu:Y3.heap[X3.heap.size]?=I (JZ #[J Jq 1,J Jq rw',J Jq rh,J Jq 0,Jj O 0 0] 53 (0,0)):=by rw[<- wa];exact heap_alloc_new _ _
    have b1:Y3.cell? ⟨X3.heap.size,1,O⟩=I (J Jq rw'):=ae qu 1
    have b2:Y3.cell? ⟨X3.heap.size,2,O⟩=I (J Jq rh):=ae qu 2
    have nQ:Hid (Below w.heap.size w Y3):=af lO.out.below (af I0.out yv.out)
    have Ub:Hid (∀i,(Y3.alloc (JZ #[J Jq 0,J Jq 0,J Jq 0,J Jq 0,Jj O 0 0] 53)).cell? ⟨X3.heap.size,i,O⟩=Y3.cell? ⟨X3.heap.size,i,O⟩):=fun i=>(bM Y3 _).cell (p:=⟨X3.heap.size,i,O⟩) (lt_of_block qu)
    have b1a:=(Ub.out 1).trans b1
    have b2a:=(Ub.out 2).trans b2
    rw[wa]
    clear wa qu
    go_cut [17,18] (fun v vb wx=>vb=.bool ok/\∃gC k4 w4 h4 i4 sa sn sc,v=JJ (I ⟨gC,0,O⟩)/\Hid (vG Y3 wx gC #[J Jq k4,J Jq w4,J Jq h4,J Jq i4,Jj sa sn sc])/\Hid (ok=true->(k4=EN.k/\w4=EN.w/\h4=EN.h/\i4=EN.i)/\∃fp,EN.In wx (Jj sa sn sc) fp/\∀q∈fp,Y3.heap.size<=q))
    case first=>
     go_region_law (first
      | (go_simp;go_at_call 66;refine (Kk.out _ _ sL (by first | exact rE nQ.out | exact tV nQ.out)).mono ?_;rintro e X4 hD;obtain⟨k4,w4,h4,i4,sa,sn,sc,rfl,iz,ee⟩:=hD.open;first | (have we:Hid (Below Y3.heap.size Y3 X4):=⟨ee.os,ee.tape,ee.output,ee.size,ee.block⟩;have HD:Hid (ok=true->(k4=EN.k/\w4=EN.w/\h4=EN.h/\i4=EN.i)/\∃fp,EN.In X4 (Jj sa sn sc) fp/\∀q∈fp,Y3.heap.size<=q):=iz;clear hD iz ee) | (have we:Hid (lY Y3 X4 Y3.heap.size):=rF (Below.refl _ _) ee;obtain⟨⟨t0,t1,t2,t3,t4⟩,t5,t6,t7,t8,t9⟩:=we.out.cells;have HD:Hid (ok=true->(k4=EN.k/\w4=EN.w/\h4=EN.h/\i4=EN.i)/\∃fp,EN.In X4 (Jj sa sn sc) fp/\∀q∈fp,Y3.heap.size+1<=q):=(fun h=>by (obtain⟨h1,fp,h2,h3⟩:=iz h;exact⟨h1,fp,h2,fun q hq=>by (have h9:=h3 q hq;rw[wZ] at h9;exact h9)⟩));clear hD iz ee)))
     all_goals (
      go_wp2_with fail
      go_meet
      first
       | exact⟨rfl,_,k4,w4,h4,i4,sa,sn,sc,rfl,mF we.out _,fun h=>by (obtain⟨h1,fp,h2,h3⟩:=HD.out h;exact⟨h1,fp,h2.below (bM _ _),h3⟩)⟩
       | exact⟨rfl,_,k4,w4,h4,i4,sa,sn,sc,rfl,iQ we.out _ _ _ _ _,fun h=>by (obtain⟨h1,fp,h2,h3⟩:=HD.out h;exact⟨h1,fp,kZ h2 _ (fun q hq=>by have:=h3 q hq;omega) _ _ _ _ _,fun q hq=>by have:=h3 q hq;omega⟩)⟩)
    case rest=>
     obtain⟨rfl,gC,k4,w4,h4,i4,sa,sn,sc,rfl,DO,HD⟩:=hcut
     obtain⟨Y4,Xt⟩:∃x,x=wc:=⟨_,rfl⟩
     subst Xt
     have vm:Hid (Below V.heap.size V Y4):=af I0.out (af yv.out DO.out.below)
     have vq:Hid (Y4.heap[gA]?=I (JZ #[J Jq 1,J Jq fw,J Jq fh,J Jq z0,Jj O 0 0] 53 (0,0))):=((af yv.out DO.out.below).block _ (lt_of_block ii.out)).trans ii.out
     have Hi:Hid (Y4.heap[gC]?=I (JZ #[J Jq k4,J Jq w4,J Jq h4,J Jq i4,Jj sa sn sc] 53 (0,0))):=DO.out.at_
     clear b1 b2 b1a b2a
     cases ok
     . obtain⟨q0,q1,q2,q3,q4,f0,f1,f2,f3,f4⟩:=jX (gP.out Y4 vm.out).res
       have OS:Hid (Below w.heap.size w Y4):=af lO.out.below vm.out
       go_wp2
       exact bodyPost_ret (v:=.tuple #[.agg #[J Jq 0,J Jq 0,J Jq 0,J Jq 0,Jj O 0 0],.bool false]) (by simp[results,results67,go_sem,q0,q1,q2,q3,q4]) rfl ⟨bC OS.out _ (Nat.le_refl _) _ _ _ _ _,.inr ⟨by simp,rfl⟩⟩
     . have a0:Y4.cell? ⟨gA,0,O⟩=I (J Jq 1):=ae vq.out 0
       have a1:Y4.cell? ⟨gA,1,O⟩=I (J Jq fw):=ae vq.out 1
       have a2:Y4.cell? ⟨gA,2,O⟩=I (J Jq fh):=ae vq.out 2
       have a3:Y4.cell? ⟨gA,3,O⟩=I (J Jq z0):=ae vq.out 3
       have a4:Y4.cell? ⟨gA,4,O⟩=I (Jj O 0 0):=ae vq.out 4
       go_wp2_with fail
       refine (Xr.out _).mono ?_
       rintro e X5 ⟨rfl,cd⟩
       have E0:Hid (Below Y4.heap.size Y4 X5):=cd
       have pE:Hid (Below V.heap.size V X5):=af vm.out cd
       have CM:Hid (Below w.heap.size w X5):=af lO.out.below pE.out
       clear cd a0 a1 a2 a3 a4
       by_cases ck:E-1-ot < 1
       . have zP:decide (E-1-ot < (1:Int))=true:=decide_eq_true ck
         have Pa:Hid (aG (E-1-ot)=false):=by
          show _=_
          cases hs:aG (E-1-ot) with
          | false=>rfl
          | true=>have:=ik hs;omega
         obtain⟨q0,q1,q2,q3,q4,f0,f1,f2,f3,f4⟩:=jX (gP.out X5 pE.out).res
         go_wp2
         exact bodyPost_ret (v:=.tuple #[.agg #[J Jq 0,J Jq 0,J Jq 0,J Jq 0,Jj O 0 0],.bool false]) (by simp[results,results67,go_sem,q0,q1,q2,q3,q4]) rfl ⟨bC CM.out _ (Nat.le_refl _) _ _ _ _ _,.inr ⟨by rw[Pa.out];rfl,rfl⟩⟩
       . have zP:decide (E-1-ot < (1:Int))=false:=decide_eq_false ck
         have kp:Hid (aG (E-1-ot)=true):=jB (by omega) (by omega)
         obtain⟨⟨rfl,rfl,rfl,rfl⟩,fp,ab,be⟩:=HD.out (by first | rfl | trivial)
         have Al:=(E0.out.block _ (lt_of_block vq.out)).trans vq.out
         have An:=(E0.out.block _ (lt_of_block Hi.out)).trans Hi.out
         have a0:X5.cell? ⟨gA,0,O⟩=I (J Jq 1):=ae Al 0
         have a1:X5.cell? ⟨gA,1,O⟩=I (J Jq fw):=ae Al 1
         have a2:X5.cell? ⟨gA,2,O⟩=I (J Jq fh):=ae Al 2
         have a3:X5.cell? ⟨gA,3,O⟩=I (J Jq z0):=ae Al 3
         have a4:X5.cell? ⟨gA,4,O⟩=I (Jj O 0 0):=ae Al 4
         have m0:X5.cell? ⟨gC,0,O⟩=I (J Jq EN.k):=ae An 0
         have m1:X5.cell? ⟨gC,1,O⟩=I (J Jq EN.w):=ae An 1
         have m2:X5.cell? ⟨gC,2,O⟩=I (J Jq EN.h):=ae An 2
         have m3:X5.cell? ⟨gC,3,O⟩=I (J Jq EN.i):=ae An 3
         have m4:X5.cell? ⟨gC,4,O⟩=I (Jj sa sn sc):=ae An 4
         have q7:=ab.below E0.out
         have cV:Hid (Calls prog 62 #[J Jq k,.agg #[J Jq 1,J Jq fw,J Jq fh,J Jq z0,Jj O 0 0],.agg #[J Jq EN.k,J Jq EN.w,J Jq EN.h,J Jq EN.i,Jj sa sn sc],.bool false] X5 (rU (.mk k wd ht 0 [.mk 1 fw fh z0 [],EN]) ([]++fp) X5)):=by
          have xp:(0<=fw/\fw<=1000)/\(0<=fh/\fh<=1000):=by
           have e1:=E3.out.fwE
           have e2:=E3.out.fhE
           rcases HK.out with rfl | rfl
           . rw[if_pos rfl] at e1 e2;omega
           . rw[if_neg (by decide)] at e1 e2;omega
          have hp:=Gu k HK.out (.mk 1 fw fh z0 []) EN O 0 0 sa sn sc [] fp X5 (Be _ _ rfl) q7 (Nat.zero_le _) A3.out.2.1 xp (by rw[A3.out.2.2.1,A3.out.2.2.2];exact Rk.out)
          have e1:bU k (.mk 1 fw fh z0 [])=[.mk 1 fw fh z0 []]:=by
           unfold bU
           rw[if_neg (by show ¬(1:Int)=k;rcases HK.out with rfl | rfl <;> decide)]
          have e2:bU k EN=[EN]:=by
           unfold bU
           rw[if_neg A3.out.1]
          rw[e1,e2,A3.out.2.2.1,A3.out.2.2.2] at hp
          have e3:(if k=2 then (Node.mk 1 fw fh z0 []).w+rw'+1 else (Node.mk 1 fw fh z0 []).w)=wd:=E3.out.pair.1
          have e4:(if k=2 then (Node.mk 1 fw fh z0 []).h else (Node.mk 1 fw fh z0 []).h+rh+1)=ht:=E3.out.pair.2
          rw[e3,e4] at hp
          exact hp
         have Re:Hid (∀q∈([]++fp:List Nat),w.heap.size+2<=q):=fun q hq=>by
          have h6:=be q hq
          have h7:=nQ.out.size
          have h8:=(af I0.out yv.out).size
          have h9:=T9.out
          omega
         clear Al An ab be q7
         go_wp2_with fail
         refine cV.out.mono ?_
         rintro e X6 ⟨pa,pn,pc,fp6,Uc,ux,CN,eM⟩
         have Xu:e=Jz (.agg #[J Jq k,J Jq wd,J Jq ht,J Jq 0,Jj pa pn pc]):=Uc
         subst Xu
         have Ud:Hid (∀q∈fp6,w.heap.size+2<=q):=fun q hq=>by
          rcases CN q hq with h6 | h6
          . exact Re.out q h6
          . have h7:=pE.out.size
            have h8:=T9.out
            omega
         have Xv:Hid ((Node.mk k wd ht 0 [.mk 1 fw fh z0 [],EN]).In X6 (Jj pa pn pc) fp6):=ux
         have Pb:Hid (Below w.heap.size w X6):=af CM.out eM
         obtain⟨q0,q1,q2,q3,q4,f0,f1,f2,f3,f4⟩:=jX (gP.out X6 (af pE.out eM)).res
         clear Uc ux CN eM a0 a1 a2 a3 a4 m0 m1 m2 m3 m4
         go_wp2
         exact bodyPost_ret (v:=.tuple #[.agg #[J Jq k,J Jq wd,J Jq ht,J Jq 0,Jj pa pn pc],.bool true]) (by simp[results,results67,go_sem,q0,q1,q2,q3,q4]) rfl ⟨bC Pb.out _ (Nat.le_refl _) _ _ _ _ _,.inl ⟨by rw[kp.out];rfl,pa,pn,pc,fp6,rfl,kZ Xv.out _ (fun q hq=>by have:=Ud.out q hq;omega) _ _ _ _ _,fun q hq=>by have:=Ud.out q hq;omega⟩⟩
def kY (i:Nat):List Int:=(List.range i).map fun (j:Nat)=>(j:Int)
theorem En (i:Nat):kY (i+1)=kY i++[(i:Int)]:=by
 unfold kY
 rw[List.range_succ,List.map_append]
 rfl
theorem gI (i:Nat):(kY i).length=i:=by
 unfold kY
 rw[List.length_map,List.length_range]
theorem Hg (r i:Nat)(h:i < r):(kY r)[i]?=I (i:Int):=by
 unfold kY
 rw[List.getElem?_map,List.getElem?_range h]
 rfl
theorem FX (b:Box)(r:Int)(c:Nat):∀(m:Nat) (zs:List Int) (i:Int),(∀j:Nat,j < m->ji 2 ((zs.drop (j*c)).take c).length (b.with 3 (bu b.h r (i+j)))=true)->qI b r c zs m i=true
 | 0,_,_,_=>rfl
 | m+1,zs,i,h=>by
   have h0:=h 0 (by omega)
   rw[Nat.zero_mul,List.drop_zero,show i+((0:Nat):Int)=i by simp] at h0
   show (_&&qI b r c (zs.drop c) m (i+1))=true
   rw[h0,FX b r c m (zs.drop c) (i+1) fun j hj=> ?_]
   . rfl
   . have:=h (j+1) (by omega)
     rw[List.drop_drop,show i+1+(j:Int)=i+((j+1:Nat):Int) by omega,show c+j*c=(j+1)*c by rw[Nat.add_mul];omega]
     exact this
theorem FW (b:Box)(r:Int)(c:Nat):∀(m:Nat) (zs:List Int) (i:Int) (j:Nat),j < m->ji 2 ((zs.drop (j*c)).take c).length (b.with 3 (bu b.h r (i+j)))=false->qI b r c zs m i=false
 | 0,_,_,_,h,_=>absurd h (Nat.not_lt_zero _)
 | m+1,zs,i,0,_,h=>by
   rw[Nat.zero_mul,List.drop_zero,show i+((0:Nat):Int)=i by simp] at h
   show (_&&qI b r c (zs.drop c) m (i+1))=false
   rw[h,Bool.false_and]
 | m+1,zs,i,j+1,hj,h=>by
   show (_&&qI b r c (zs.drop c) m (i+1))=false
   rw[FW b r c m (zs.drop c) (i+1) j (by omega) ?_,Bool.and_false]
   rw[List.drop_drop,show i+1+(j:Int)=i+((j+1:Nat):Int) by omega,show c+j*c=(j+1)*c by rw[Nat.add_mul];omega]
   exact h
structure uH (w:World)(wd ht:Int)(gN gK r cap:Nat)(us0 rows:List Tree)(i:Nat)(us:List Tree)(wr:World):Prop where
 res:wr.heap[w.heap.size]?=I (.cells aU 53 (0,0))
 nod:wr.heap[gN]?=I (JZ #[J Jq 3,J Jq wd,J Jq ht,J Jq 0,Jj (I ⟨gK,0,O⟩) r cap] 53 (0,0))
 kids:bK gK r cap [] us wr
 done:∀j:Nat,j < i->us[j]?=rows[j]?
 left:∀j:Nat,i<=j->us[j]?=us0[j]?
 below:Below w.heap.size w wr
 apart:w.heap.size < gK/\gK < gN
theorem uH.below' {w:World}{wd ht:Int}{gN gK r cap:Nat}{us0 rows:List Tree}{i:Nat}{us:List Tree}{wr X:World}(h:uH w wd ht gN gK r cap us0 rows i us wr)(hb:Below wr.heap.size wr X):uH w wd ht gN gK r cap us0 rows i us X:=
 ⟨(hb.block _ (lt_of_block h.res)).trans h.res,(hb.block _ (lt_of_block h.nod)).trans h.nod,h.kids.below hb,h.done,h.left,af h.below hb,h.apart⟩
theorem uH.next {w:World}{wd ht:Int}{gN gK r cap:Nat}{us0 rows:List Tree}{i:Nat}{us:List Tree}{wr X:World}(h:uH w wd ht gN gK r cap us0 rows i us wr)(hX:Below wr.heap.size wr X)(hi:i < r){t:Tree}(dr:rows[i]?=I t){sl:Value}{f:List Nat}(ab:(ag t).In X sl f)(hf:∀q∈f,wr.heap.size<=q):uH w wd ht gN gK r cap us0 rows (i+1) (us.set i t) (gq X gK (i*5) (ag t) sl):=by
 obtain⟨u,hu⟩:∃u,us[i]?=I u:=⟨_,List.getElem?_eq_getElem (by rw[h.kids.len];exact hi)⟩
 obtain⟨_,_,_,_,_,_,hk⟩:=h.kids.one i u hu
 have hx:=h.below' hX
 have ha:=h.apart
 refine⟨?_,?_,hk X t sl f hX ab fun q hq=>.inr (hf q hq),fun j hj=> ?_,fun j hj=> ?_,?_,ha⟩
 . rw[dO _ _ _ _ _ _ (by omega)];exact hx.res
 . rw[dO _ _ _ _ _ _ (by omega)];exact hx.nod
 . by_cases e:i=j
   . subst e
     rw[List.getElem?_set_self (by rw[h.kids.len];exact hi),dr]
   . rw[List.getElem?_set_ne e]
     exact h.done j (by omega)
 . rw[List.getElem?_set_ne (by omega)]
   exact h.left j (by omega)
 . exact lT hx.below gK (i*5) (by omega) _ _
structure oK (w:World)(i:Nat)(v:Value)(wr:World):Prop where
 res:wr.heap[w.heap.size]?=I (.cells aU 53 (0,0))
 row:dD wr (w.heap.size+1) v (kY i)
 below:Below w.heap.size w wr
theorem oK.lt {w:World}{i:Nat}{v:Value}{wr:World}(h:oK w i v wr):w.heap.size+1<=wr.heap.size:=lt_of_block h.res
theorem oK.next {w:World}{i:Nat}{v v':Value}{wr w':World}(h:oK w i v wr)(h1:dD w' (w.heap.size+1) v' (kY i++[(i:Int)]))(h2:(wr.alloc (JZ #[J Jq (i:Int)] 3)).grownBy w' v.ownBlock):oK w (i+1) v' w':=by
 have hl:=h.lt
 have hsz:(wr.alloc (JZ #[J Jq (i:Int)] 3)).heap.size=wr.heap.size+1:=by simp
 have a7:∀q,v.ownBlock=I q->w.heap.size+1<=q:=fun q hq=>(World.ownsRow.lt h.row q hq).1
 have h0:Below w.heap.size w (wr.alloc (JZ #[J Jq (i:Int)] 3)):=aK h.below _
 refine⟨?_,by rw[En];exact h1,?_⟩
 . rw[h2.block w.heap.size (by omega) (fun e=>by have:=a7 _ e.symm;omega),((Below.refl wr.heap.size wr).alloc (Nat.le_refl _) _).block _ (by omega)]
   exact h.res
 . refine⟨h2.os.trans h0.os,h2.tape.trans h0.tape,h2.output.trans h0.output,Nat.le_trans h0.size h2.size,fun q hq=>(h2.block q (by omega) fun e=> ?_).trans (h0.block q hq)⟩
   have:=a7 _ e.symm
   omega
theorem OC {b:Box}{k:Int}{us:List Tree}{X:World}{sa:Option Addr}{sn sc:Nat}{fp:List Nat}(a7:us≠[])(h:(ag (.split b k us)).In X (Jj sa sn sc) fp)(hf:fp=(Value.slice sa sn sc).ownBlock.toList):∃g,sa=I ⟨g,0,O⟩/\sn=us.length/\bK g us.length sc [] us X/\fp=[g]:=by
 obtain⟨cs,fs,h1,h2,h3⟩:∃cs fs,X.ownsRow 0 53 5 (Jj sa sn sc) (nodesOf us).length cs/\aY X (nodesOf us) cs fs/\fp=(Value.slice sa sn sc).ownBlock.toList++fs:=h
 rw[ax] at h1
 have lk:fs=[]:=by
  rw[hf] at h3
  exact (List.self_eq_append_right.1 h3)
 subst lk
 rcases h1.2 with ⟨_,h0⟩ | ⟨g,cap,cur,e,hb,hg,r⟩
 . exact absurd (List.length_eq_zero_iff.1 h0) a7
 . cases e
   exact⟨g,rfl,rfl,⟨⟨cs,[],h1,h2,nofun⟩,nofun,rfl⟩,by rw[hf];rfl⟩
theorem bK.free {g L cap:Nat}{fp:List Nat}{us:List Tree}{wr:World}(h:bK g L cap fp us wr)(o:Nat):wr.frozen? ⟨g,o,O⟩=false:=by
 obtain⟨cs,fs,h1,_⟩:=h.row
 rcases h1.2 with ⟨e,_⟩ | ⟨g',cap',cur,e,hb,hg,r⟩
 . cases e
 . cases e
   exact ai hg o
theorem G9 (k:Int)(zs:List Int)(b:Box)(h:2<=zs.length):eU k zs b=.split b k (fC k b zs.length zs 0):=by
 match zs,h with
 | x::y::zs,_=>rfl
theorem Px.open {ok:Bool}{n:Node}{w:World}{e:Ending}{w':World}(h:Px ok n w e w'):∃k4 w4 h4 i4 sa sn sc,e=Jz (.tuple #[.agg #[J Jq k4,J Jq w4,J Jq h4,J Jq i4,Jj sa sn sc],.bool ok])/\(ok=true->(k4=n.k/\w4=n.w/\h4=n.h/\i4=n.i)/\∃fp,n.In w' (Jj sa sn sc) fp/\(∀q∈fp,w.heap.size<=q)/\fp=(Value.slice sa sn sc).ownBlock.toList)/\Below w.heap.size w w':=by
 rcases h.2 with ⟨rfl,sa,sn,sc,fp,e,h1,h2,h3⟩ | ⟨rfl,e⟩
 . exact⟨n.k,n.w,n.h,n.i,sa,sn,sc,e,fun _=>⟨⟨rfl,rfl,rfl,rfl⟩,fp,h1,h2,h3⟩,h.1⟩
 . exact⟨0,0,0,0,O,0,0,e,fun h=>(by cases h),h.1⟩
theorem Ha (zs:List Int)(wd ht:Int)(v:Value)(w:World)(h1:1<=wd/\wd<=1000)(h2:1<=ht/\ht<=1000)(hI:iP w v zs)(fe:2<=zs.length)(rl:zs.length<=32):Calls prog 68 #[v,J Jq wd,J Jq ht] w (y8 (He ⟨0,0,wd,ht⟩ (iE zs.length).1 (iE zs.length).2 zs) (ag (Ah ⟨0,0,wd,ht⟩ (iE zs.length).1 (iE zs.length).2 zs)) w):=by
 obtain⟨g,o,cap,rfl,cG,hz⟩:=hI
 obtain⟨n,hn⟩:∃n,zs.length=n:=⟨_,rfl⟩
 have HN:Hid (zs.length=n):=hn
 rw[hn] at fe rl cG ⊢
 obtain⟨f1,f2,f3,f4,f5,f6⟩:=pV n (by omega) fe
 obtain⟨G,hG⟩:∃G,iE n=G:=⟨_,rfl⟩
 have HG:Hid (oL 40 n 1 1=G):=hG
 rw[hG] at f1 f2 f3 f4 f5 f6 ⊢
 obtain⟨b,hb⟩:∃b:Box,b=⟨0,0,wd,ht⟩:=⟨_,rfl⟩
 rw[<- hb]
 have Yt:Hid (2<=G.1/\0 < G.2/\(G.1-1)*G.2 < n/\G.1<=32/\G.2<=32):=⟨f1,f2,f3,f5,f6⟩
 have e8:Hid (b=⟨0,0,wd,ht⟩):=hb
 have HZ:Hid (∀X,Below w.heap.size w X->∀(i:Nat) z,zs[i]?=I z->X.cell? ⟨g,o+i,O⟩=I (J Jq z)):=fun X hX i z h=>(hX.cell (p:=⟨g,o+i,O⟩) (World.block_lt_of_cell? w _ (hz i z h))).trans (hz i z h)
 obtain⟨W,hW⟩:∃x,w.alloc (JZ #[J Jq 0,J Jq 0,J Jq 0,J Jq 0,Jj O 0 0] 53)=x:=⟨_,rfl⟩
 have HW:Hid (w.alloc (JZ #[J Jq 0,J Jq 0,J Jq 0,J Jq 0,Jj O 0 0] 53)=W):=hW
 have HP0:Hid (oK w 0 (Jj O 0 0) W):=⟨by rw[<- hW];exact heap_alloc_new _ _,World.ownsRow_nil _ _ _ _,by rw[<- hW];exact bM _ _⟩
 clear hW hz hn hG hb f1 f2 f3 f4 f5 f6
 go_enter func68,ntmps68
 go_upto_region 1 with fail
 rw[HW.out]
 go_wp2
 go_loopw [8,9] (fun vr vc wr=>∃r c:Nat,1<=r/\r<=33/\1<=c/\c<=r/\vr=J Jq r/\vc=J Jq c/\Hid (oL (41-r) n r c=G)/\W=wr) (fun vr _ _=>40-(intOf vr).toNat)
 case atStart=>exact⟨1,1,by omega,by omega,by omega,by omega,rfl,rfl,HG,rfl⟩
 case round=>
  obtain⟨r,c,UJ,im,mx,my,rfl,rfl,HT,rfl⟩:=hrel
  have hm:r*c<=33*33:=Nat.mul_le_mul im (Nat.le_trans my im)
  have bS:(r+1)*c<=34*33:=Nat.mul_le_mul (by omega) (Nat.le_trans my im)
  have e1:((r:Int)*(c:Int))=((r*c:Nat):Int):=by simp
  have e2:(((r:Int)+1)*(c:Int))=(((r+1)*c:Nat):Int):=by simp
  have w1:IntKind.i64.wrap ((r:Int)*(c:Int))=((r*c:Nat):Int):=by rw[e1,IntKind.wrap_i64];omega
  have w2:IntKind.i64.wrap (((r:Int)+1)*(c:Int))=(((r+1)*c:Nat):Int):=by rw[e2,IntKind.wrap_i64];omega
  have So:r<=r*c:=Nat.le_mul_of_pos_right r mx
  by_cases h:r*c < n
  . have HF:Hid (oL (41-r) n r c=if (r+1)*c < n then oL (41-(r+1)) n (r+1) (c+1) else oL (41-(r+1)) n (r+1) c):=by
     show _=_
     rw[show 41-r=(41-(r+1))+1 by omega]
     show (if r*c < n then _ else _)=_
     rw[if_pos h]
    have hd:decide (((r*c:Nat):Int) < (n:Int))=true:=decide_eq_true (by omega)
    obtain⟨m,Bw⟩:∃m,r*c=m:=⟨_,rfl⟩
    obtain⟨m2,tP⟩:∃m,(r+1)*c=m:=⟨_,rfl⟩
    rw[Bw] at w1 hd hm So h
    rw[tP] at w2 bS
    have gx:Hid ((r+1)*c=m2):=tP
    clear e1 e2 Bw tP
    by_cases h2:m2 < n
    . have eT:decide ((m2:Int) < (n:Int))=true:=decide_eq_true (by omega)
      have Do:Hid (oL (41-(r+1)) n (r+1) (c+1)=G):=by
       have:=HT.out
       rw[HF.out,gx.out,if_pos h2] at this
       exact this
      go_wp2
      go_roundw
      case rel=>exact⟨r+1,c+1,by omega,by omega,by omega,by omega,by go_num,by go_num,Do,by first | exact trivial | rfl⟩
      case measure=>simp[intOf];omega
    . have eT:decide ((m2:Int) < (n:Int))=false:=decide_eq_false (by omega)
      have Do:Hid (oL (41-(r+1)) n (r+1) c=G):=by
       have:=HT.out
       rw[HF.out,gx.out,if_neg h2] at this
       exact this
      go_wp2
      go_roundw
      case rel=>exact⟨r+1,c,by omega,by omega,by omega,by omega,by go_num,rfl,Do,by first | exact trivial | rfl⟩
      case measure=>simp[intOf];omega
  . have hd:decide (((r*c:Nat):Int) < (n:Int))=false:=decide_eq_false (by omega)
    have HE:G=(r,c):=by
     rw[<- HT.out]
     exact BJ _ _ _ _ h
    subst HE
    obtain⟨g1,g2,g3,g4,g5⟩:=Yt.out
    have g1':2<=r:=g1
    have g4':r<=32:=g4
    obtain⟨m,Bw⟩:∃m,r*c=m:=⟨_,rfl⟩
    rw[Bw] at w1 hd hm So h
    clear e1 e2 Bw w2 bS HT g1 g2 g3 g4 g5
    go_wp2
    go_loopw [10,11] (fun vp vi wr=>∃i:Nat,i<=r/\vi=J Jq i/\Hid (oK w i vp wr)) (fun _ vi _=>r-(intOf vi).toNat)
    case atStart=>exact⟨0,Nat.zero_le _,rfl,HP0⟩
    case round=>
     obtain⟨i,hi,rfl,HJ⟩:=hrel
     by_cases am:i < r
     . have hlen:(kY i).length<=16777216:=by rw[gI];omega
       go_wp2_with (at_builtin;refine mD wr rfl (.tmp 38) (.tmp 40) rfl (w.heap.size+1) _ (kY i) (i:Int) rfl HJ.out.row (by first | rfl | simp[Act.eval]) hlen HJ.out.lt ?_;intro v2 w2' a1 a2;have ix:Hid (oK w (i+1) v2 w2'):=HJ.out.next a1 a2;clear a1 a2)
       go_roundw
       case rel=>exact⟨i+1,by omega,by go_num,ix⟩
       case measure=>simp[intOf];omega
     . obtain rfl:r=i:=by omega
       have vR:iP wr u10 (kY r):=HJ.out.row.ids (fun e=>by have:=congrArg List.length e;rw[gI] at this;simp at this;omega)
       have k9:=wX 3 (.inr rfl) wd ht (kY r) u10 wr h1.2 h2.2 vR (fun e=>by have:=congrArg List.length e;rw[gI] at this;simp at this;omega) (by rw[gI];omega)
       rw[G9 3 _ _ (by rw[gI];omega),gI,<- e8.out] at k9
       obtain⟨us0,Gd⟩:∃us,fC 3 b r (kY r) 0=us:=⟨_,rfl⟩
       have VU:Hid (us0.length=r/\us0≠[]/\∀i:Nat,i < r->us0[i]?=I (.leaf (b.with 3 (bu b.h r i)) i)):=by
        have e1:us0.length=r:=by rw[<- Gd,jq,gI]
        refine⟨e1,fun e=>by rw[e] at e1;simp at e1;omega,fun i hi=> ?_⟩
        rw[<- Gd]
        have:=pW 3 b r (kY r) 0 i i (Hg r i hi)
        rw[Int.zero_add] at this
        exact this
       rw[Gd] at k9
       obtain⟨ok0,Mj⟩:∃x,ji 3 r b=x:=⟨_,rfl⟩
       rw[Mj] at k9
       have VV:Hid (Calls prog 66 #[u10,J Jq 3,J Jq wd,J Jq ht] wr (Px ok0 (ag (.split b 3 us0)) wr)):=k9
       have Sp:Hid (ji 3 r b=ok0):=Mj
       have Ds:Hid (wr.heap[w.heap.size]?=I (.cells aU 53 (0,0))/\Below w.heap.size w wr/\w.heap.size+1<=wr.heap.size):=⟨HJ.out.res,HJ.out.below,HJ.out.lt⟩
       clear vR k9 Gd Mj
       go_wp2_with fail
       refine VV.out.mono ?_
       rintro e X3 hD
       obtain⟨k4,w4,h4,i4,sa,sn,sc,rfl,iz,ee⟩:=hD.open
       have HD:Hid (ok0=true->(k4=(ag (.split b 3 us0)).k/\w4=(ag (.split b 3 us0)).w/\h4=(ag (.split b 3 us0)).h/\i4=(ag (.split b 3 us0)).i)/\∃fp,(ag (.split b 3 us0)).In X3 (Jj sa sn sc) fp/\(∀q∈fp,wr.heap.size<=q)/\fp=(Value.slice sa sn sc).ownBlock.toList):=iz
       have v6:Hid (Below wr.heap.size wr X3):=ee
       clear hD iz ee
       go_upto_region 12 with fail
       obtain⟨Y3,wa⟩:∃Y,X3.alloc (JZ #[J Jq k4,J Jq w4,J Jq h4,J Jq i4,Jj sa sn sc] 53)=Y:=⟨_,rfl⟩
       have yv:Hid (Below X3.heap.size X3 Y3):=by rw[<- wa];exact bM _ _
       have tM:Hid (Y3.heap[X3.heap.size]?=I (JZ #[J Jq k4,J Jq w4,J Jq h4,J Jq i4,Jj sa sn sc] 53 (0,0))):=by rw[<- wa];exact heap_alloc_new _ _
       have nQ:Hid (Below w.heap.size w Y3):=af Ds.out.2.1 (af v6.out yv.out)
       have Ka:Hid (Y3.heap[w.heap.size]?=I (.cells aU 53 (0,0))):=((af v6.out yv.out).block _ (by have:=Ds.out.2.2;omega)).trans Ds.out.1
       rw[wa]
       clear wa HJ
       cases ok0
       . obtain⟨q0,q1,q2,q3,q4,f0,f1,f2,f3,f4⟩:=jX Ka.out
         have Sq:Hid (He b (r,c).1 (r,c).2 zs=false):=by
          show (ji 3 r b&&qI b r c zs r 0)=false
          rw[Sp.out]
          rfl
         go_wp2
         exact bodyPost_ret (v:=.tuple #[.agg #[J Jq 0,J Jq 0,J Jq 0,J Jq 0,Jj O 0 0],.bool false]) (by simp[results,results68,go_sem,q0,q1,q2,q3,q4]) rfl ⟨bC nQ.out _ (Nat.le_refl _) _ _ _ _ _,.inr ⟨Sq.out,rfl⟩⟩
       . obtain⟨⟨rfl,rfl,rfl,rfl⟩,fp,ab,be,cf⟩:=HD.out (by first | rfl | trivial)
         obtain⟨gK,rfl,rfl,hK,Mk⟩:=OC VU.out.2.1 ab cf
         have hgK:=be gK (by rw[Mk];simp)
         obtain⟨rows,wb⟩:∃x,qo b r c zs r 0=x:=⟨_,rfl⟩
         have tQ:Hid (rows.length=r):=by show _=_;rw[<- wb,lN]
         have Rb:Hid (∀i:Nat,i < r->rows[i]?=I (eU 2 ((zs.drop (i*c)).take c) (b.with 3 (bu b.h r i)))):=fun i hi=>by
          rw[<- wb]
          have:=wY b r c r zs 0 i hi
          rw[Int.zero_add] at this
          exact this
         have Yu:Hid (ag (Ah b (r,c).1 (r,c).2 zs)=.mk 3 wd ht 0 (nodesOf rows)):=by
          show ag (.split b 3 (qo b r c zs r 0))=_
          rw[wb,e8.out]
          rfl
         have UL:uH w wd ht X3.heap.size gK r sc us0 rows 0 us0 Y3:=by
          have hN:=tM.out
          rw[VU.out.1] at hN hK
          refine⟨Ka.out,?_,hK.below yv.out,nofun,fun _ _=>rfl,nQ.out,by have:=Ds.out.2.2;omega,hK.lt⟩
          rw[hN,e8.out]
          rfl
         have Yv:Hid (uH w wd ht X3.heap.size gK r sc us0 rows 0 us0 Y3):=UL
         obtain⟨gN,Yw⟩:∃x,X3.heap.size=x:=⟨_,rfl⟩
         rw[Yw] at Yv ⊢
         clear ab be cf hK Mk hgK wb UL Yw tM HD
         go_wp2
         go_loopw [14] (fun vi wx=>∃i:Nat,i<=r/\vi=J Jq i/\∃us,Hid (uH w wd ht gN gK r sc us0 rows i us wx)/\Hid (∀j:Nat,j < i->ji 2 ((zs.drop (j*c)).take c).length (b.with 3 (bu b.h r j))=true)) (fun vi _=>r-(intOf vi).toNat)
         case atStart=>exact⟨0,Nat.zero_le _,rfl,us0,Yv,nofun⟩
         case round=>
          obtain⟨i,hi,rfl,us,HJ,Yx⟩:=hrel
          by_cases am:i < r
          . obtain⟨g1,g2,g3,g4,g5⟩:=Yt.out
            have x1:i*c < n:=by
             have e1:i*c<=(r-1)*c:=Nat.mul_le_mul_right c (by omega)
             exact Nat.lt_of_le_of_lt e1 g3
            have e1:((i:Int)*(c:Int))=((i*c:Nat):Int):=by simp
            obtain⟨lo,j9⟩:∃x,i*c=x:=⟨_,rfl⟩
            rw[j9] at e1 x1
            have hc32:c<=32:=g5
            obtain⟨rA,By⟩:∃x,lo+c=x:=⟨_,rfl⟩
            have v1:IntKind.i64.wrap ((i:Int)*(c:Int))=(lo:Int):=by rw[e1,IntKind.wrap_i64];omega
            have v2:IntKind.i64.wrap ((lo:Int)+(c:Int))=(rA:Int):=by rw[IntKind.wrap_i64];omega
            obtain⟨m',Ml⟩:∃m,min rA n=m:=⟨_,rfl⟩
            have v3:min (n:Int) (rA:Int)=(m':Int):=by omega
            have av:=BK g o n cap lo m' (by omega) (by omega) (by omega)
            obtain⟨L,hL⟩:∃L,m'-lo=L:=⟨_,rfl⟩
            rw[hL] at av
            obtain⟨row,br⟩:∃row,(zs.drop lo).take c=row:=⟨_,rfl⟩
            have gh:row.length=L:=by
             rw[<- br,y9 zs n lo rA c HN.out x1 By.symm,Ml,hL]
            have Sa:=zg (wh:=b.h) (n:=r) (i:=i) (by rw[e8.out];exact h2) (by omega)
            obtain⟨sh,k9⟩:∃s,bu b.h r i=s:=⟨_,rfl⟩
            rw[k9] at Sa
            have tW:b.with 3 sh=⟨0,0,wd,sh⟩:=by
             rw[e8.out]
             show (⟨0,0,wd,ht+(sh-ht)⟩:Box)=_
             rw[show ht+(sh-ht)=sh by omega]
            obtain⟨ok1,Mm⟩:∃x,ji 2 row.length ⟨0,0,wd,sh⟩=x:=⟨_,rfl⟩
            have Rc:Hid (ji 2 ((zs.drop (i*c)).take c).length (b.with 3 (bu b.h r i))=ok1):=by
             show _=_
             rw[j9,br,k9,tW,Mm]
            have pj:rows[i]?=I (eU 2 row ⟨0,0,wd,sh⟩):=by
             rw[Rb.out i am,j9,br,k9,tW]
            have Sr:Hid (∀X,Below w.heap.size w X->Calls prog 66 #[Jj (I ⟨g,o+lo,O⟩) L (cap-lo),J Jq 2,J Jq wd,J Jq sh] X (y8 ok1 (ag (eU 2 row ⟨0,0,wd,sh⟩)) X)):=fun X hX=>by
             have:=pX 2 (.inl rfl) wd sh row (Jj (I ⟨g,o+lo,O⟩) L (cap-lo)) X h1.2 Sa.2 ⟨g,o+lo,cap-lo,by rw[gh],by omega,by rw[<- br];exact iP.cut (n:=n) (cap:=cap) (HZ.out X hX) lo c⟩ (fun e=>by rw[e] at gh;simp at gh;omega) (by omega)
             rw[Mm] at this
             exact this
            obtain⟨ET,Kh⟩:∃t,eU 2 row ⟨0,0,wd,sh⟩=t:=⟨_,rfl⟩
            rw[Kh] at Sr pj
            have Ki:Hid (rows[i]?=I ET):=pj
            have j2:us[i]?=I (.leaf (b.with 3 (bu b.h r i)) i):=(HJ.out.left i (Nat.le_refl _)).trans (VU.out.2.2 i am)
            have DG:Hid (∀X,Below wr.heap.size wr X->X.cell? ⟨gK,i*5+2,O⟩=I (J Jq sh)/\X.cell? ⟨gN,4,O⟩=I (Jj (I ⟨gK,0,O⟩) r sc)):=fun X hX=>by
             have hx:=HJ.out.below' hX
             obtain⟨_,_,_,_,_,hk,_⟩:=hx.kids.one i _ j2
             refine⟨?_,ae hx.nod 4⟩
             have h7:=hk.q2
             have h8:(ag (.leaf (b.with 3 (bu b.h r i)) i)).h=sh:=by
              rw[k9,tW]
              rfl
             rw[h8] at h7
             exact h7
            have Mn:Hid (∀X,Below wr.heap.size wr X->(∃a0 a1 a2 a3 a4,X.cell? ⟨gK,i*5,O⟩=I a0/\X.cell? ⟨gK,i*5+1,O⟩=I a1/\X.cell? ⟨gK,i*5+2,O⟩=I a2/\X.cell? ⟨gK,i*5+3,O⟩=I a3/\X.cell? ⟨gK,i*5+4,O⟩=I a4)/\(X.frozen? ⟨gK,i*5,O⟩=false/\X.frozen? ⟨gK,i*5+1,O⟩=false/\X.frozen? ⟨gK,i*5+2,O⟩=false/\X.frozen? ⟨gK,i*5+3,O⟩=false/\X.frozen? ⟨gK,i*5+4,O⟩=false)):=fun X hX=>by
             have hx:=HJ.out.below' hX
             obtain⟨_,_,_,_,_,hk,_⟩:=hx.kids.one i _ j2
             exact⟨⟨_,_,_,_,_,hk.q0,hk.q1,hk.q2,hk.q3,hk.q4⟩,hx.kids.free _,hx.kids.free _,hx.kids.free _,hx.kids.free _,hx.kids.free _⟩
            have UU:Hid (Below w.heap.size w wr):=HJ.out.below
            obtain⟨k1,k2⟩:=DG.out wr (Below.refl _ _)
            obtain⟨k1a,k2a⟩:=DG.out _ (bM wr (JZ #[J Jq 0,J Jq 0,J Jq 0,J Jq 0,Jj O 0 0] 53))
            obtain⟨V,hV⟩:∃x,x=wr:=⟨_,rfl⟩
            subst hV
            clear g1 g2 g3 g4 g5 e1 j9 By Ml hL br gh Sa k9 tW Mm pj Kh j2
            go_wp2
            go_cut [15,16] (fun v vb wx=>vb=.bool ok1/\∃gC k4 w4 h4 i4 sa sn sc',v=JJ (I ⟨gC,0,O⟩)/\Hid (vG V wx gC #[J Jq k4,J Jq w4,J Jq h4,J Jq i4,Jj sa sn sc'])/\Hid (ok1=true->(k4=(ag ET).k/\w4=(ag ET).w/\h4=(ag ET).h/\i4=(ag ET).i)/\∃fp,(ag ET).In wx (Jj sa sn sc') fp/\∀q∈fp,V.heap.size<=q))
            case first=>
             go_region_law (first
              | (go_simp;go_at_call 66;refine (Sr.out _ (by first | exact rE UU.out | exact tV UU.out)).mono ?_;rintro e X4 hD;obtain⟨k4,w4,h4,i4,sa,sn,sc',rfl,iz,ee⟩:=hD.open;first | (have we:Hid (Below V.heap.size V X4):=⟨ee.os,ee.tape,ee.output,ee.size,ee.block⟩;have HD:Hid (ok1=true->(k4=(ag ET).k/\w4=(ag ET).w/\h4=(ag ET).h/\i4=(ag ET).i)/\∃fp,(ag ET).In X4 (Jj sa sn sc') fp/\∀q∈fp,V.heap.size<=q):=iz;clear hD iz ee) | (have we:Hid (lY V X4 V.heap.size):=rF (Below.refl _ _) ee;obtain⟨⟨t0,t1,t2,t3,t4⟩,t5,t6,t7,t8,t9⟩:=we.out.cells;have HD:Hid (ok1=true->(k4=(ag ET).k/\w4=(ag ET).w/\h4=(ag ET).h/\i4=(ag ET).i)/\∃fp,(ag ET).In X4 (Jj sa sn sc') fp/\∀q∈fp,V.heap.size+1<=q):=(fun h=>by (obtain⟨h1,fp,h2,h3⟩:=iz h;exact⟨h1,fp,h2,fun q hq=>by (have h9:=h3 q hq;rw[wZ] at h9;exact h9)⟩));clear hD iz ee)))
             all_goals (
              go_wp2_with fail
              go_meet
              first
               | exact⟨rfl,_,k4,w4,h4,i4,sa,sn,sc',rfl,mF we.out _,fun h=>by (obtain⟨h1,fp,h2,h3⟩:=HD.out h;exact⟨h1,fp,h2.below (bM _ _),h3⟩)⟩
               | exact⟨rfl,_,k4,w4,h4,i4,sa,sn,sc',rfl,iQ we.out _ _ _ _ _,fun h=>by (obtain⟨h1,fp,h2,h3⟩:=HD.out h;exact⟨h1,fp,kZ h2 _ (fun q hq=>by have:=h3 q hq;omega) _ _ _ _ _,fun q hq=>by have:=h3 q hq;omega⟩)⟩)
            case rest=>
             obtain⟨rfl,gC,k4,w4,h4,i4,sa,sn,sc',rfl,DO,HD⟩:=hcut
             have UV:Hid (Below V.heap.size V wc):=DO.out.below
             have Yy:Hid (uH w wd ht gN gK r sc us0 rows i us wc):=HJ.out.below' UV.out
             clear k1 k2 k1a k2a
             cases ok1
             . obtain⟨q0,q1,q2,q3,q4,f0,f1,f2,f3,f4⟩:=jX Yy.out.res
               have Sq:Hid (He b (r,c).1 (r,c).2 zs=false):=by
                show (ji 3 r b&&qI b r c zs r 0)=false
                rw[FW b r c r zs 0 i am (by rw[Int.zero_add];exact Rc.out),Bool.and_false]
               have HwC:Hid (Below w.heap.size w wc):=Yy.out.below
               go_wp2
               exact bodyPost_ret (v:=.tuple #[.agg #[J Jq 0,J Jq 0,J Jq 0,J Jq 0,Jj O 0 0],.bool false]) (by simp[results,results68,go_sem,q0,q1,q2,q3,q4]) rfl ⟨bC HwC.out _ (Nat.le_refl _) _ _ _ _ _,.inr ⟨Sq.out,rfl⟩⟩
             . obtain⟨⟨rfl,rfl,rfl,rfl⟩,fp,ab,be⟩:=HD.out (by first | rfl | trivial)
               have hP:=DO.out.at_
               have p0:wc.cell? ⟨gC,0,O⟩=I (J Jq (ag ET).k):=ae hP 0
               have p1:wc.cell? ⟨gC,1,O⟩=I (J Jq (ag ET).w):=ae hP 1
               have p2:wc.cell? ⟨gC,2,O⟩=I (J Jq (ag ET).h):=ae hP 2
               have p3:wc.cell? ⟨gC,3,O⟩=I (J Jq (ag ET).i):=ae hP 3
               have p4:wc.cell? ⟨gC,4,O⟩=I (Jj sa sn sc'):=ae hP 4
               have k2:=(DG.out wc UV.out).2
               obtain⟨⟨a0,a1,a2,a3,a4,s0,s1,s2,s3,s4⟩,s5,s6,s7,s8,s9⟩:=Mn.out wc UV.out
               have qk:Hid (uH w wd ht gN gK r sc us0 rows (i+1) (us.set i ET) (gq wc gK (i*5) (ag ET) (Jj sa sn sc'))):=HJ.out.next UV.out am Ki.out ab be
               have yy:Hid (∀j:Nat,j < i+1->ji 2 ((zs.drop (j*c)).take c).length (b.with 3 (bu b.h r j))=true):=fun j hj=>by
                by_cases e:j=i
                . subst e;exact Rc.out
                . exact Yx.out j (by omega)
               clear ab be hP
               go_wp2
               go_roundw
               case rel=>exact⟨i+1,by omega,by go_num,us.set i ET,qk,yy⟩
               case measure=>simp[intOf];omega
          . obtain rfl:r=i:=by omega
            have C7:us=rows:=by
             refine List.ext_getElem? fun j=> ?_
             by_cases hj:j < r
             . exact HJ.out.done j hj
             . rw[List.getElem?_eq_none (by rw[HJ.out.kids.len];omega),List.getElem?_eq_none (by rw[tQ.out];omega)]
            obtain⟨fp,ab,be⟩:=HJ.out.kids.node 3 wd ht 0
            rw[C7] at ab
            have HI:Hid ((Node.mk 3 wd ht 0 (nodesOf rows)).In wr (Jj (I ⟨gK,0,O⟩) r sc) fp):=ab
            have Re:Hid (∀q∈fp,w.heap.size < q):=fun q hq=>by
             have ha:=HJ.out.apart.1
             rcases be q hq with h6 | h6
             . cases h6
             . omega
            have Sq:Hid (He b (r,c).1 (r,c).2 zs=true):=by
             show (ji 3 r b&&qI b r c zs r 0)=true
             rw[Sp.out,FX b r c r zs 0 fun j hj=>by rw[Int.zero_add];exact Yx.out j hj]
             rfl
            have UU:Hid (Below w.heap.size w wr):=HJ.out.below
            have n0:wr.cell? ⟨gN,0,O⟩=I (J Jq 3):=ae HJ.out.nod 0
            have n1:wr.cell? ⟨gN,1,O⟩=I (J Jq wd):=ae HJ.out.nod 1
            have n2:wr.cell? ⟨gN,2,O⟩=I (J Jq ht):=ae HJ.out.nod 2
            have n3:wr.cell? ⟨gN,3,O⟩=I (J Jq 0):=ae HJ.out.nod 3
            have n4:wr.cell? ⟨gN,4,O⟩=I (Jj (I ⟨gK,0,O⟩) r sc):=ae HJ.out.nod 4
            obtain⟨q0,q1,q2,q3,q4,f0,f1,f2,f3,f4⟩:=jX HJ.out.res
            clear C7 ab be
            go_wp2
            exact bodyPost_ret (v:=.tuple #[.agg #[J Jq 3,J Jq wd,J Jq ht,J Jq 0,Jj (I ⟨gK,0,O⟩) r sc],.bool true]) (by simp[results,results68,go_sem,q0,q1,q2,q3,q4]) rfl ⟨bC UU.out _ (Nat.le_refl _) _ _ _ _ _,.inl ⟨Sq.out,I ⟨gK,0,O⟩,r,sc,fp,by rw[Yu.out];rfl,by rw[Yu.out];exact kZ HI.out _ (fun q hq=>by have:=Re.out q hq;omega) _ _ _ _ _,fun q hq=>by have:=Re.out q hq;omega⟩⟩
theorem OQ (how:Int)(Z8:1<=how/\how<=5)(z0:Int)(zs:List Int)(wd ht sz:Int)(h1:1<=zs.length)(h3:zs.length<=31)(hz:∀z∈z0::zs,idB z=true)(hw:1<=wd/\wd<=1000)(hh:1<=ht/\ht<=1000):(D9 how z0 zs ⟨0,0,wd,ht⟩ sz).sound=(if how=1 then ji 2 (z0::zs).length ⟨0,0,wd,ht⟩ else if how=2 then ji 3 (z0::zs).length ⟨0,0,wd,ht⟩ else if how=3 then Fq 3 zs.length ⟨0,0,wd,ht⟩ sz else if how=4 then Fq 2 zs.length ⟨0,0,wd,ht⟩ sz else He ⟨0,0,wd,ht⟩ (iE (z0::zs).length).1 (iE (z0::zs).length).2 (z0::zs)):=by
 have hb:(aG wd&&aG ht)=true:=by rw[jB hw.1 hw.2,jB hh.1 hh.2];rfl
 have a7:zs≠[]:=fun e=>by rw[e] at h1;simp at h1
 unfold D9
 split
 . exact qi 2 (.inl rfl) _ _ (by simp) hz
 . split
   . exact qi 3 (.inr rfl) _ _ (by simp) hz
   . split
     . exact yH 3 (.inr rfl) z0 zs _ sz a7 (hz z0 (by simp)) (fun z hm=>hz z (List.mem_cons_of_mem _ hm)) hb
     . split
       . exact yH 2 (.inl rfl) z0 zs _ sz a7 (hz z0 (by simp)) (fun z hm=>hz z (List.mem_cons_of_mem _ hm)) hb
       . obtain⟨f1,f2,f3,_⟩:=pV (z0::zs).length (by rw[List.length_cons];omega) (by rw[List.length_cons];omega)
         exact IY _ _ _ _ f1 f2 f3 hz hb
theorem KA (v:Value)(l:List aj)(how sz:Int)(w:World)(h:ay w v l)(hF:aT l=O):Calls prog 33 #[v,J Jq how,J Jq sz] w (dZ 40 [] w):=by
 have HT:Hid (Calls prog 53 #[v] w fun e w'=>e=Jz (.tuple #[.agg aU,.bool false])/\Below w.heap.size w w'):=tq v l w h hF
 unfold aU at HT
 clear h hF
 go_enter func33,ntmps33
 go_wp2_with fail
 refine HT.out.mono ?_
 rintro e w1 ⟨rfl,hb⟩
 have HB:Hid (∀o,Below w.heap.size w (w1.alloc o)):=fun o=>aK hb o
 clear hb
 go_wp2
 refine bodyPost_ret (v:=.tuple #[Jj O 0 0,J Jq 40]) (by simp[results,results33,go_sem]) rfl ?_
 exact⟨_,rfl,World.ownsRow_nil _ _ _ _,HB.out _⟩
theorem NE (v:Value)(l:List aj)(how sz:Int)(w:World)(h:ay w v l){t:Tree}(hF:aT l=I t)(hh:¬(1<=how/\how<=5)):Calls prog 33 #[v,J Jq how,J Jq sz] w (dZ 1 [] w):=by
 have HT:Hid (Calls prog 53 #[v] w (qF t w)):=dI v l w h hF
 clear hF h
 by_cases h1:how < 1
 . have d1:decide (how < (1:Int))=true:=decide_eq_true h1
   go_enter func33,ntmps33
   go_wp2_with fail
   refine HT.out.mono ?_
   rintro e w1 ⟨sa,sn,sc,fp,rfl,_,hb⟩
   have HB:Hid (∀o,Below w.heap.size w (w1.alloc o)):=fun o=>aK hb o
   unfold aC
   clear hb
   go_wp2
   refine bodyPost_ret (v:=.tuple #[Jj O 0 0,J Jq 1]) (by simp[results,results33,go_sem]) rfl ?_
   exact⟨_,rfl,World.ownsRow_nil _ _ _ _,HB.out _⟩
 . have d1:decide (how < (1:Int))=false:=decide_eq_false h1
   have d2:decide ((5:Int) < how)=true:=decide_eq_true (by omega)
   go_enter func33,ntmps33
   go_wp2_with fail
   refine HT.out.mono ?_
   rintro e w1 ⟨sa,sn,sc,fp,rfl,_,hb⟩
   have HB:Hid (∀o,Below w.heap.size w (w1.alloc o)):=fun o=>aK hb o
   unfold aC
   clear hb
   go_wp2
   refine bodyPost_ret (v:=.tuple #[Jj O 0 0,J Jq 1]) (by simp[results,results33,go_sem]) rfl ?_
   exact⟨_,rfl,World.ownsRow_nil _ _ _ _,HB.out _⟩
theorem lI {Y2 X:World}(h:Below (Y2.alloc (JZ #[J Jq 0,J Jq 0,J Jq 0,J Jq 0,Jj O 0 0] 53)).heap.size (Y2.alloc (JZ #[J Jq 0,J Jq 0,J Jq 0,J Jq 0,Jj O 0 0] 53)) X):lY Y2 X Y2.heap.size:=⟨af (bM _ _) h,(h.block _ (by simp)).trans (heap_alloc_new _ _),Nat.le_refl _⟩
theorem Ny (v:Value)(l:List aj)(sz:Int)(w:World){t AT:Tree}(HT:Hid (Calls prog 53 #[v] w (qF t w)))(wd ht nk ni:Int)(cH:Hid ((ag t).k=nk/\(ag t).w=wd/\(ag t).h=ht/\(ag t).i=ni))(gP:Hid ((ag t).cnt<=1000/\(ag t).ids=aH l))(z0:Int)(zs:List Int)(J2:Hid (aH l=z0::zs))(m:Nat)(HM:Hid (zs.length=m))(h1:1<=m)(HK:Hid (AT.kinds/\AT.size<=200))
 (yb:Hid (∀u X,iP X u (z0::zs)->Calls prog 66 #[u,J Jq 2,J Jq wd,J Jq ht] X (y8 AT.sound (ag AT) X))):Calls prog 33 #[v,J Jq 1,J Jq sz] w (fP AT w):=by
 have ef:((m:Int)+1==1)=false:=by
  have:(m:Int)+1≠1:=by omega
  simpa using this
 go_enter func33,ntmps33
 go_wp2_with fail
 refine HT.out.mono ?_
 rintro e w1 ⟨sa,sn,sc,fp,he,ab,hb⟩
 have jx:e=Jz (.tuple #[.agg #[J Jq nk,J Jq wd,J Jq ht,J Jq ni,Jj sa sn sc],.bool true]):=by
  rw[he,<- cH.out.1,<- cH.out.2.1,<- cH.out.2.2.1,<- cH.out.2.2.2]
  rfl
 subst jx
 obtain⟨W,hW⟩:∃W,w1.alloc (JZ #[J Jq nk,J Jq wd,J Jq ht,J Jq ni,Jj sa sn sc] 53)=W:=⟨_,rfl⟩
 have ap:Below w1.heap.size w1 W:=by rw[<- hW];exact bM _ _
 have bR:Hid (Below w.heap.size w W):=af hb ap
 have hM:W.heap[w1.heap.size]?=I (JZ #[J Jq nk,J Jq wd,J Jq ht,J Jq ni,Jj sa sn sc] 53 (0,0)):=by rw[<- hW];exact heap_alloc_new _ _
 have HX:Hid (∀X,Below W.heap.size W X->X.heap[w1.heap.size]?=I (JZ #[J Jq nk,J Jq wd,J Jq ht,J Jq ni,Jj sa sn sc] 53 (0,0))):=fun X hX=>(hX.block _ (lt_of_block hM)).trans hM
 have HW:Hid (w1.alloc (JZ #[J Jq nk,J Jq wd,J Jq ht,J Jq ni,Jj sa sn sc] 53)=W):=hW
 have bv:Hid (Calls prog 54 #[.agg #[J Jq nk,J Jq wd,J Jq ht,J Jq ni,Jj sa sn sc]] W fun e w'=>∃u,e=Jz u/\dD w' W.heap.size u (aH l)/\Below W.heap.size W w'):=by
  have hg:=dF (ag t) gP.out.1 _ fp W (ab.below ap)
  rw[gP.out.2] at hg
  have e0:aC (ag t) (Jj sa sn sc)=#[J Jq nk,J Jq wd,J Jq ht,J Jq ni,Jj sa sn sc]:=by
   rw[<- cH.out.1,<- cH.out.2.1,<- cH.out.2.2.1,<- cH.out.2.2.2]
   rfl
  rw[e0] at hg
  exact hg
 clear he hb ab ap hM hW HT
 go_upto_region 2 with fail
 rw[HW.out]
 have eZ:=HX.out W (Below.refl _ _)
 have n0:W.cell? ⟨w1.heap.size,0,O⟩=I (J Jq nk):=ae eZ 0
 have n1:W.cell? ⟨w1.heap.size,1,O⟩=I (J Jq wd):=ae eZ 1
 have n2:W.cell? ⟨w1.heap.size,2,O⟩=I (J Jq ht):=ae eZ 2
 have n3:W.cell? ⟨w1.heap.size,3,O⟩=I (J Jq ni):=ae eZ 3
 have n4:W.cell? ⟨w1.heap.size,4,O⟩=I (Jj sa sn sc):=ae eZ 4
 clear eZ
 go_wp2_with fail
 refine bv.out.mono ?_
 rintro e w2 ⟨u,rfl,hu,al⟩
 rw[J2.out] at hu
 have HU:Hid (iP w2 u (z0::zs)):=hu.ids (by simp)
 obtain⟨gu,ou,cu,sP,_⟩:=HU.out
 rw[List.length_cons,HM.out] at sP
 subst sP
 have aD:Hid (Below W.heap.size W w2):=al
 have lB:Hid (Below w.heap.size w w2):=af bR.out al
 clear hu al n0 n1 n2 n3 n4 bv
 obtain⟨Y,hY⟩:∃Y,w2.alloc (JZ #[J Jq 0,J Jq 0,J Jq 0,J Jq 0,Jj O 0 0] 53)=Y:=⟨_,rfl⟩
 have b7:Below w2.heap.size w2 Y:=by rw[<- hY];exact bM _ _
 have mK:=HX.out Y (af aD.out b7)
 have n1:Y.cell? ⟨w1.heap.size,1,O⟩=I (J Jq wd):=ae mK 1
 have n2:Y.cell? ⟨w1.heap.size,2,O⟩=I (J Jq ht):=ae mK 2
 have qS:Hid (Calls prog 66 #[Jj (I ⟨gu,ou,O⟩) (m+1) cu,J Jq 2,J Jq wd,J Jq ht] Y (y8 AT.sound (ag AT) Y)):=yb.out _ Y (HU.out.below b7)
 have lE:Hid (w2.alloc (JZ #[J Jq 0,J Jq 0,J Jq 0,J Jq 0,Jj O 0 0] 53)=Y):=hY
 clear hY b7 mK
 go_upto_region 10 with fail
 rw[lE.out]
 go_wp2_with fail
 refine qS.out.mono ?_
 rintro e X hD
 obtain⟨k4,w4,h4,i4,sa',sn',sc',rfl,iz,ee⟩:=hD.open
 rw[<- lE.out] at ee
 have tp:Hid (lY w2 X w2.heap.size):=lI ee
 obtain⟨⟨t0,t1,t2,t3,t4⟩,t5,t6,t7,t8,t9⟩:=tp.out.cells
 have ec:Hid (vG w2 (fB X w2.heap.size (J Jq k4) (J Jq w4) (J Jq h4) (J Jq i4) (Jj sa' sn' sc')) w2.heap.size #[J Jq k4,J Jq w4,J Jq h4,J Jq i4,Jj sa' sn' sc']):=iQ tp.out _ _ _ _ _
 have HD:Hid (AT.sound=true->(k4=(ag AT).k/\w4=(ag AT).w/\h4=(ag AT).h/\i4=(ag AT).i)/\∃fp,(ag AT).In (fB X w2.heap.size (J Jq k4) (J Jq w4) (J Jq h4) (J Jq i4) (Jj sa' sn' sc')) (Jj sa' sn' sc') fp):=fun h=>by
  obtain⟨a1,fp',a2,a3⟩:=iz h
  refine⟨a1,fp',kZ a2 _ (fun q hq=> ?_) _ _ _ _ _⟩
  have h6:=a3 q hq
  have h7:Y.heap.size=w2.heap.size+1:=by rw[<- lE.out];simp
  omega
 clear hD iz ee n1 n2
 go_upto_region 20 with fail
 obtain⟨Z,hZ⟩:∃Z,fB X w2.heap.size (J Jq k4) (J Jq w4) (J Jq h4) (J Jq i4) (Jj sa' sn' sc')=Z:=⟨_,rfl⟩
 rw[hZ] at ec HD
 unfold fB at hZ
 rw[hZ]
 have pL:Hid (Below w.heap.size w Z):=af lB.out ec.out.below
 clear hZ t0 t1 t2 t3 t4 t5 t6 t7 t8 t9
 obtain⟨sd,ar⟩:∃s,AT.sound=s:=⟨_,rfl⟩
 have j3:Hid (AT.sound=sd):=ar
 rw[ar] at HD ⊢
 clear ar qS yb
 cases sd
 . go_wp2
   refine bodyPost_ret (v:=.tuple #[Jj O 0 0,J Jq 44]) (by simp[results,results33,go_sem]) rfl ?_
   unfold fP
   rw[if_neg (by rw[j3.out];decide)]
   exact⟨_,rfl,World.ownsRow_nil _ _ _ _,pL.out⟩
 . obtain⟨⟨rfl,rfl,rfl,rfl⟩,fp',cj⟩:=HD.out (by first | rfl | trivial)
   have hP:=ec.out.at_
   have p0:Z.cell? ⟨w2.heap.size,0,O⟩=I (J Jq (ag AT).k):=ae hP 0
   have p1:Z.cell? ⟨w2.heap.size,1,O⟩=I (J Jq (ag AT).w):=ae hP 1
   have p2:Z.cell? ⟨w2.heap.size,2,O⟩=I (J Jq (ag AT).h):=ae hP 2
   have p3:Z.cell? ⟨w2.heap.size,3,O⟩=I (J Jq (ag AT).i):=ae hP 3
   have p4:Z.cell? ⟨w2.heap.size,4,O⟩=I (Jj sa' sn' sc'):=ae hP 4
   have qD:Hid (Calls prog 16 #[.agg #[J Jq (ag AT).k,J Jq (ag AT).w,J Jq (ag AT).h,J Jq (ag AT).i,Jj sa' sn' sc']] Z fun e w'=>∃u,e=Jz u/\az w' Z.heap.size u (cZ AT)/\Below Z.heap.size Z w'):=iW j3.out HK.out.1 HK.out.2 cj
   clear cj hP
   go_wp2_with fail
   refine qD.out.mono ?_
   rintro e w5 ⟨q,rfl,hq,cd⟩
   have H5:Hid (az w5 w.heap.size q (cZ AT)/\Below w.heap.size w w5):=⟨hq.lower pL.out.size,af pL.out cd⟩
   clear hq cd
   go_wp2
   refine bodyPost_ret (v:=.tuple #[q,J Jq 0]) (by simp[results,results33,go_sem]) rfl ?_
   unfold fP
   rw[if_pos j3.out]
   exact⟨_,rfl,H5.out.1,H5.out.2⟩
theorem Nz (v:Value)(l:List aj)(sz:Int)(w:World){t AT:Tree}(HT:Hid (Calls prog 53 #[v] w (qF t w)))(wd ht nk ni:Int)(cH:Hid ((ag t).k=nk/\(ag t).w=wd/\(ag t).h=ht/\(ag t).i=ni))(gP:Hid ((ag t).cnt<=1000/\(ag t).ids=aH l))(z0:Int)(zs:List Int)(J2:Hid (aH l=z0::zs))(m:Nat)(HM:Hid (zs.length=m))(h1:1<=m)(HK:Hid (AT.kinds/\AT.size<=200))
 (yb:Hid (∀u X,iP X u (z0::zs)->Calls prog 66 #[u,J Jq 3,J Jq wd,J Jq ht] X (y8 AT.sound (ag AT) X))):Calls prog 33 #[v,J Jq 2,J Jq sz] w (fP AT w):=by
 have ef:((m:Int)+1==1)=false:=by
  have:(m:Int)+1≠1:=by omega
  simpa using this
 go_enter func33,ntmps33
 go_wp2_with fail
 refine HT.out.mono ?_
 rintro e w1 ⟨sa,sn,sc,fp,he,ab,hb⟩
 have jx:e=Jz (.tuple #[.agg #[J Jq nk,J Jq wd,J Jq ht,J Jq ni,Jj sa sn sc],.bool true]):=by
  rw[he,<- cH.out.1,<- cH.out.2.1,<- cH.out.2.2.1,<- cH.out.2.2.2]
  rfl
 subst jx
 obtain⟨W,hW⟩:∃W,w1.alloc (JZ #[J Jq nk,J Jq wd,J Jq ht,J Jq ni,Jj sa sn sc] 53)=W:=⟨_,rfl⟩
 have ap:Below w1.heap.size w1 W:=by rw[<- hW];exact bM _ _
 have bR:Hid (Below w.heap.size w W):=af hb ap
 have hM:W.heap[w1.heap.size]?=I (JZ #[J Jq nk,J Jq wd,J Jq ht,J Jq ni,Jj sa sn sc] 53 (0,0)):=by rw[<- hW];exact heap_alloc_new _ _
 have HX:Hid (∀X,Below W.heap.size W X->X.heap[w1.heap.size]?=I (JZ #[J Jq nk,J Jq wd,J Jq ht,J Jq ni,Jj sa sn sc] 53 (0,0))):=fun X hX=>(hX.block _ (lt_of_block hM)).trans hM
 have HW:Hid (w1.alloc (JZ #[J Jq nk,J Jq wd,J Jq ht,J Jq ni,Jj sa sn sc] 53)=W):=hW
 have bv:Hid (Calls prog 54 #[.agg #[J Jq nk,J Jq wd,J Jq ht,J Jq ni,Jj sa sn sc]] W fun e w'=>∃u,e=Jz u/\dD w' W.heap.size u (aH l)/\Below W.heap.size W w'):=by
  have hg:=dF (ag t) gP.out.1 _ fp W (ab.below ap)
  rw[gP.out.2] at hg
  have e0:aC (ag t) (Jj sa sn sc)=#[J Jq nk,J Jq wd,J Jq ht,J Jq ni,Jj sa sn sc]:=by
   rw[<- cH.out.1,<- cH.out.2.1,<- cH.out.2.2.1,<- cH.out.2.2.2]
   rfl
  rw[e0] at hg
  exact hg
 clear he hb ab ap hM hW HT
 go_upto_region 2 with fail
 rw[HW.out]
 have eZ:=HX.out W (Below.refl _ _)
 have n0:W.cell? ⟨w1.heap.size,0,O⟩=I (J Jq nk):=ae eZ 0
 have n1:W.cell? ⟨w1.heap.size,1,O⟩=I (J Jq wd):=ae eZ 1
 have n2:W.cell? ⟨w1.heap.size,2,O⟩=I (J Jq ht):=ae eZ 2
 have n3:W.cell? ⟨w1.heap.size,3,O⟩=I (J Jq ni):=ae eZ 3
 have n4:W.cell? ⟨w1.heap.size,4,O⟩=I (Jj sa sn sc):=ae eZ 4
 clear eZ
 go_wp2_with fail
 refine bv.out.mono ?_
 rintro e w2 ⟨u,rfl,hu,al⟩
 rw[J2.out] at hu
 have HU:Hid (iP w2 u (z0::zs)):=hu.ids (by simp)
 obtain⟨gu,ou,cu,sP,_⟩:=HU.out
 rw[List.length_cons,HM.out] at sP
 subst sP
 have aD:Hid (Below W.heap.size W w2):=al
 have lB:Hid (Below w.heap.size w w2):=af bR.out al
 clear hu al n0 n1 n2 n3 n4 bv
 obtain⟨Y,hY⟩:∃Y,w2.alloc (JZ #[J Jq 0,J Jq 0,J Jq 0,J Jq 0,Jj O 0 0] 53)=Y:=⟨_,rfl⟩
 have b7:Below w2.heap.size w2 Y:=by rw[<- hY];exact bM _ _
 have mK:=HX.out Y (af aD.out b7)
 have n1:Y.cell? ⟨w1.heap.size,1,O⟩=I (J Jq wd):=ae mK 1
 have n2:Y.cell? ⟨w1.heap.size,2,O⟩=I (J Jq ht):=ae mK 2
 have qS:Hid (Calls prog 66 #[Jj (I ⟨gu,ou,O⟩) (m+1) cu,J Jq 3,J Jq wd,J Jq ht] Y (y8 AT.sound (ag AT) Y)):=yb.out _ Y (HU.out.below b7)
 have lE:Hid (w2.alloc (JZ #[J Jq 0,J Jq 0,J Jq 0,J Jq 0,Jj O 0 0] 53)=Y):=hY
 clear hY b7 mK
 go_upto_region 10 with fail
 rw[lE.out]
 go_wp2_with fail
 refine qS.out.mono ?_
 rintro e X hD
 obtain⟨k4,w4,h4,i4,sa',sn',sc',rfl,iz,ee⟩:=hD.open
 rw[<- lE.out] at ee
 have tp:Hid (lY w2 X w2.heap.size):=lI ee
 obtain⟨⟨t0,t1,t2,t3,t4⟩,t5,t6,t7,t8,t9⟩:=tp.out.cells
 have ec:Hid (vG w2 (fB X w2.heap.size (J Jq k4) (J Jq w4) (J Jq h4) (J Jq i4) (Jj sa' sn' sc')) w2.heap.size #[J Jq k4,J Jq w4,J Jq h4,J Jq i4,Jj sa' sn' sc']):=iQ tp.out _ _ _ _ _
 have HD:Hid (AT.sound=true->(k4=(ag AT).k/\w4=(ag AT).w/\h4=(ag AT).h/\i4=(ag AT).i)/\∃fp,(ag AT).In (fB X w2.heap.size (J Jq k4) (J Jq w4) (J Jq h4) (J Jq i4) (Jj sa' sn' sc')) (Jj sa' sn' sc') fp):=fun h=>by
  obtain⟨a1,fp',a2,a3⟩:=iz h
  refine⟨a1,fp',kZ a2 _ (fun q hq=> ?_) _ _ _ _ _⟩
  have h6:=a3 q hq
  have h7:Y.heap.size=w2.heap.size+1:=by rw[<- lE.out];simp
  omega
 clear hD iz ee n1 n2
 go_upto_region 20 with fail
 obtain⟨Z,hZ⟩:∃Z,fB X w2.heap.size (J Jq k4) (J Jq w4) (J Jq h4) (J Jq i4) (Jj sa' sn' sc')=Z:=⟨_,rfl⟩
 rw[hZ] at ec HD
 unfold fB at hZ
 rw[hZ]
 have pL:Hid (Below w.heap.size w Z):=af lB.out ec.out.below
 clear hZ t0 t1 t2 t3 t4 t5 t6 t7 t8 t9
 obtain⟨sd,ar⟩:∃s,AT.sound=s:=⟨_,rfl⟩
 have j3:Hid (AT.sound=sd):=ar
 rw[ar] at HD ⊢
 clear ar qS yb
 cases sd
 . go_wp2
   refine bodyPost_ret (v:=.tuple #[Jj O 0 0,J Jq 44]) (by simp[results,results33,go_sem]) rfl ?_
   unfold fP
   rw[if_neg (by rw[j3.out];decide)]
   exact⟨_,rfl,World.ownsRow_nil _ _ _ _,pL.out⟩
 . obtain⟨⟨rfl,rfl,rfl,rfl⟩,fp',cj⟩:=HD.out (by first | rfl | trivial)
   have hP:=ec.out.at_
   have p0:Z.cell? ⟨w2.heap.size,0,O⟩=I (J Jq (ag AT).k):=ae hP 0
   have p1:Z.cell? ⟨w2.heap.size,1,O⟩=I (J Jq (ag AT).w):=ae hP 1
   have p2:Z.cell? ⟨w2.heap.size,2,O⟩=I (J Jq (ag AT).h):=ae hP 2
   have p3:Z.cell? ⟨w2.heap.size,3,O⟩=I (J Jq (ag AT).i):=ae hP 3
   have p4:Z.cell? ⟨w2.heap.size,4,O⟩=I (Jj sa' sn' sc'):=ae hP 4
   have qD:Hid (Calls prog 16 #[.agg #[J Jq (ag AT).k,J Jq (ag AT).w,J Jq (ag AT).h,J Jq (ag AT).i,Jj sa' sn' sc']] Z fun e w'=>∃u,e=Jz u/\az w' Z.heap.size u (cZ AT)/\Below Z.heap.size Z w'):=iW j3.out HK.out.1 HK.out.2 cj
   clear cj hP
   go_wp2_with fail
   refine qD.out.mono ?_
   rintro e w5 ⟨q,rfl,hq,cd⟩
   have H5:Hid (az w5 w.heap.size q (cZ AT)/\Below w.heap.size w w5):=⟨hq.lower pL.out.size,af pL.out cd⟩
   clear hq cd
   go_wp2
   refine bodyPost_ret (v:=.tuple #[q,J Jq 0]) (by simp[results,results33,go_sem]) rfl ?_
   unfold fP
   rw[if_pos j3.out]
   exact⟨_,rfl,H5.out.1,H5.out.2⟩
theorem Kv (v:Value)(l:List aj)(sz:Int)(w:World){t AT:Tree}(HT:Hid (Calls prog 53 #[v] w (qF t w)))(wd ht nk ni:Int)(cH:Hid ((ag t).k=nk/\(ag t).w=wd/\(ag t).h=ht/\(ag t).i=ni))(gP:Hid ((ag t).cnt<=1000/\(ag t).ids=aH l))(z0:Int)(zs:List Int)(J2:Hid (aH l=z0::zs))(m:Nat)(HM:Hid (zs.length=m))(h1:1<=m)(HK:Hid (AT.kinds/\AT.size<=200))
 (yb:Hid (∀u X,iP X u (z0::zs)->Calls prog 67 #[u,J Jq 3,J Jq wd,J Jq ht,J Jq sz] X (y8 AT.sound (ag AT) X))):Calls prog 33 #[v,J Jq 3,J Jq sz] w (fP AT w):=by
 have ef:((m:Int)+1==1)=false:=by
  have:(m:Int)+1≠1:=by omega
  simpa using this
 go_enter func33,ntmps33
 go_wp2_with fail
 refine HT.out.mono ?_
 rintro e w1 ⟨sa,sn,sc,fp,he,ab,hb⟩
 have jx:e=Jz (.tuple #[.agg #[J Jq nk,J Jq wd,J Jq ht,J Jq ni,Jj sa sn sc],.bool true]):=by
  rw[he,<- cH.out.1,<- cH.out.2.1,<- cH.out.2.2.1,<- cH.out.2.2.2]
  rfl
 subst jx
 obtain⟨W,hW⟩:∃W,w1.alloc (JZ #[J Jq nk,J Jq wd,J Jq ht,J Jq ni,Jj sa sn sc] 53)=W:=⟨_,rfl⟩
 have ap:Below w1.heap.size w1 W:=by rw[<- hW];exact bM _ _
 have bR:Hid (Below w.heap.size w W):=af hb ap
 have hM:W.heap[w1.heap.size]?=I (JZ #[J Jq nk,J Jq wd,J Jq ht,J Jq ni,Jj sa sn sc] 53 (0,0)):=by rw[<- hW];exact heap_alloc_new _ _
 have HX:Hid (∀X,Below W.heap.size W X->X.heap[w1.heap.size]?=I (JZ #[J Jq nk,J Jq wd,J Jq ht,J Jq ni,Jj sa sn sc] 53 (0,0))):=fun X hX=>(hX.block _ (lt_of_block hM)).trans hM
 have HW:Hid (w1.alloc (JZ #[J Jq nk,J Jq wd,J Jq ht,J Jq ni,Jj sa sn sc] 53)=W):=hW
 have bv:Hid (Calls prog 54 #[.agg #[J Jq nk,J Jq wd,J Jq ht,J Jq ni,Jj sa sn sc]] W fun e w'=>∃u,e=Jz u/\dD w' W.heap.size u (aH l)/\Below W.heap.size W w'):=by
  have hg:=dF (ag t) gP.out.1 _ fp W (ab.below ap)
  rw[gP.out.2] at hg
  have e0:aC (ag t) (Jj sa sn sc)=#[J Jq nk,J Jq wd,J Jq ht,J Jq ni,Jj sa sn sc]:=by
   rw[<- cH.out.1,<- cH.out.2.1,<- cH.out.2.2.1,<- cH.out.2.2.2]
   rfl
  rw[e0] at hg
  exact hg
 clear he hb ab ap hM hW HT
 go_upto_region 2 with fail
 rw[HW.out]
 have eZ:=HX.out W (Below.refl _ _)
 have n0:W.cell? ⟨w1.heap.size,0,O⟩=I (J Jq nk):=ae eZ 0
 have n1:W.cell? ⟨w1.heap.size,1,O⟩=I (J Jq wd):=ae eZ 1
 have n2:W.cell? ⟨w1.heap.size,2,O⟩=I (J Jq ht):=ae eZ 2
 have n3:W.cell? ⟨w1.heap.size,3,O⟩=I (J Jq ni):=ae eZ 3
 have n4:W.cell? ⟨w1.heap.size,4,O⟩=I (Jj sa sn sc):=ae eZ 4
 clear eZ
 go_wp2_with fail
 refine bv.out.mono ?_
 rintro e w2 ⟨u,rfl,hu,al⟩
 rw[J2.out] at hu
 have HU:Hid (iP w2 u (z0::zs)):=hu.ids (by simp)
 obtain⟨gu,ou,cu,sP,_⟩:=HU.out
 rw[List.length_cons,HM.out] at sP
 subst sP
 have aD:Hid (Below W.heap.size W w2):=al
 have lB:Hid (Below w.heap.size w w2):=af bR.out al
 clear hu al n0 n1 n2 n3 n4 bv
 obtain⟨Y,hY⟩:∃Y,w2.alloc (JZ #[J Jq 0,J Jq 0,J Jq 0,J Jq 0,Jj O 0 0] 53)=Y:=⟨_,rfl⟩
 have b7:Below w2.heap.size w2 Y:=by rw[<- hY];exact bM _ _
 have mK:=HX.out Y (af aD.out b7)
 have n1:Y.cell? ⟨w1.heap.size,1,O⟩=I (J Jq wd):=ae mK 1
 have n2:Y.cell? ⟨w1.heap.size,2,O⟩=I (J Jq ht):=ae mK 2
 have qS:Hid (Calls prog 67 #[Jj (I ⟨gu,ou,O⟩) (m+1) cu,J Jq 3,J Jq wd,J Jq ht,J Jq sz] Y (y8 AT.sound (ag AT) Y)):=yb.out _ Y (HU.out.below b7)
 have lE:Hid (w2.alloc (JZ #[J Jq 0,J Jq 0,J Jq 0,J Jq 0,Jj O 0 0] 53)=Y):=hY
 clear hY b7 mK
 go_upto_region 10 with fail
 rw[lE.out]
 go_wp2_with fail
 refine qS.out.mono ?_
 rintro e X hD
 obtain⟨k4,w4,h4,i4,sa',sn',sc',rfl,iz,ee⟩:=hD.open
 rw[<- lE.out] at ee
 have tp:Hid (lY w2 X w2.heap.size):=lI ee
 obtain⟨⟨t0,t1,t2,t3,t4⟩,t5,t6,t7,t8,t9⟩:=tp.out.cells
 have ec:Hid (vG w2 (fB X w2.heap.size (J Jq k4) (J Jq w4) (J Jq h4) (J Jq i4) (Jj sa' sn' sc')) w2.heap.size #[J Jq k4,J Jq w4,J Jq h4,J Jq i4,Jj sa' sn' sc']):=iQ tp.out _ _ _ _ _
 have HD:Hid (AT.sound=true->(k4=(ag AT).k/\w4=(ag AT).w/\h4=(ag AT).h/\i4=(ag AT).i)/\∃fp,(ag AT).In (fB X w2.heap.size (J Jq k4) (J Jq w4) (J Jq h4) (J Jq i4) (Jj sa' sn' sc')) (Jj sa' sn' sc') fp):=fun h=>by
  obtain⟨a1,fp',a2,a3⟩:=iz h
  refine⟨a1,fp',kZ a2 _ (fun q hq=> ?_) _ _ _ _ _⟩
  have h6:=a3 q hq
  have h7:Y.heap.size=w2.heap.size+1:=by rw[<- lE.out];simp
  omega
 clear hD iz ee n1 n2
 go_upto_region 20 with fail
 obtain⟨Z,hZ⟩:∃Z,fB X w2.heap.size (J Jq k4) (J Jq w4) (J Jq h4) (J Jq i4) (Jj sa' sn' sc')=Z:=⟨_,rfl⟩
 rw[hZ] at ec HD
 unfold fB at hZ
 rw[hZ]
 have pL:Hid (Below w.heap.size w Z):=af lB.out ec.out.below
 clear hZ t0 t1 t2 t3 t4 t5 t6 t7 t8 t9
 obtain⟨sd,ar⟩:∃s,AT.sound=s:=⟨_,rfl⟩
 have j3:Hid (AT.sound=sd):=ar
 rw[ar] at HD ⊢
 clear ar qS yb
 cases sd
 . go_wp2
   refine bodyPost_ret (v:=.tuple #[Jj O 0 0,J Jq 44]) (by simp[results,results33,go_sem]) rfl ?_
   unfold fP
   rw[if_neg (by rw[j3.out];decide)]
   exact⟨_,rfl,World.ownsRow_nil _ _ _ _,pL.out⟩
 . obtain⟨⟨rfl,rfl,rfl,rfl⟩,fp',cj⟩:=HD.out (by first | rfl | trivial)
   have hP:=ec.out.at_
   have p0:Z.cell? ⟨w2.heap.size,0,O⟩=I (J Jq (ag AT).k):=ae hP 0
   have p1:Z.cell? ⟨w2.heap.size,1,O⟩=I (J Jq (ag AT).w):=ae hP 1
   have p2:Z.cell? ⟨w2.heap.size,2,O⟩=I (J Jq (ag AT).h):=ae hP 2
   have p3:Z.cell? ⟨w2.heap.size,3,O⟩=I (J Jq (ag AT).i):=ae hP 3
   have p4:Z.cell? ⟨w2.heap.size,4,O⟩=I (Jj sa' sn' sc'):=ae hP 4
   have qD:Hid (Calls prog 16 #[.agg #[J Jq (ag AT).k,J Jq (ag AT).w,J Jq (ag AT).h,J Jq (ag AT).i,Jj sa' sn' sc']] Z fun e w'=>∃u,e=Jz u/\az w' Z.heap.size u (cZ AT)/\Below Z.heap.size Z w'):=iW j3.out HK.out.1 HK.out.2 cj
   clear cj hP
   go_wp2_with fail
   refine qD.out.mono ?_
   rintro e w5 ⟨q,rfl,hq,cd⟩
   have H5:Hid (az w5 w.heap.size q (cZ AT)/\Below w.heap.size w w5):=⟨hq.lower pL.out.size,af pL.out cd⟩
   clear hq cd
   go_wp2
   refine bodyPost_ret (v:=.tuple #[q,J Jq 0]) (by simp[results,results33,go_sem]) rfl ?_
   unfold fP
   rw[if_pos j3.out]
   exact⟨_,rfl,H5.out.1,H5.out.2⟩
theorem Kw (v:Value)(l:List aj)(sz:Int)(w:World){t AT:Tree}(HT:Hid (Calls prog 53 #[v] w (qF t w)))(wd ht nk ni:Int)(cH:Hid ((ag t).k=nk/\(ag t).w=wd/\(ag t).h=ht/\(ag t).i=ni))(gP:Hid ((ag t).cnt<=1000/\(ag t).ids=aH l))(z0:Int)(zs:List Int)(J2:Hid (aH l=z0::zs))(m:Nat)(HM:Hid (zs.length=m))(h1:1<=m)(HK:Hid (AT.kinds/\AT.size<=200))
 (yb:Hid (∀u X,iP X u (z0::zs)->Calls prog 67 #[u,J Jq 2,J Jq wd,J Jq ht,J Jq sz] X (y8 AT.sound (ag AT) X))):Calls prog 33 #[v,J Jq 4,J Jq sz] w (fP AT w):=by
 have ef:((m:Int)+1==1)=false:=by
  have:(m:Int)+1≠1:=by omega
  simpa using this
 go_enter func33,ntmps33
 go_wp2_with fail
 refine HT.out.mono ?_
 rintro e w1 ⟨sa,sn,sc,fp,he,ab,hb⟩
 have jx:e=Jz (.tuple #[.agg #[J Jq nk,J Jq wd,J Jq ht,J Jq ni,Jj sa sn sc],.bool true]):=by
  rw[he,<- cH.out.1,<- cH.out.2.1,<- cH.out.2.2.1,<- cH.out.2.2.2]
  rfl
 subst jx
 obtain⟨W,hW⟩:∃W,w1.alloc (JZ #[J Jq nk,J Jq wd,J Jq ht,J Jq ni,Jj sa sn sc] 53)=W:=⟨_,rfl⟩
 have ap:Below w1.heap.size w1 W:=by rw[<- hW];exact bM _ _
 have bR:Hid (Below w.heap.size w W):=af hb ap
 have hM:W.heap[w1.heap.size]?=I (JZ #[J Jq nk,J Jq wd,J Jq ht,J Jq ni,Jj sa sn sc] 53 (0,0)):=by rw[<- hW];exact heap_alloc_new _ _
 have HX:Hid (∀X,Below W.heap.size W X->X.heap[w1.heap.size]?=I (JZ #[J Jq nk,J Jq wd,J Jq ht,J Jq ni,Jj sa sn sc] 53 (0,0))):=fun X hX=>(hX.block _ (lt_of_block hM)).trans hM
 have HW:Hid (w1.alloc (JZ #[J Jq nk,J Jq wd,J Jq ht,J Jq ni,Jj sa sn sc] 53)=W):=hW
 have bv:Hid (Calls prog 54 #[.agg #[J Jq nk,J Jq wd,J Jq ht,J Jq ni,Jj sa sn sc]] W fun e w'=>∃u,e=Jz u/\dD w' W.heap.size u (aH l)/\Below W.heap.size W w'):=by
  have hg:=dF (ag t) gP.out.1 _ fp W (ab.below ap)
  rw[gP.out.2] at hg
  have e0:aC (ag t) (Jj sa sn sc)=#[J Jq nk,J Jq wd,J Jq ht,J Jq ni,Jj sa sn sc]:=by
   rw[<- cH.out.1,<- cH.out.2.1,<- cH.out.2.2.1,<- cH.out.2.2.2]
   rfl
  rw[e0] at hg
  exact hg
 clear he hb ab ap hM hW HT
 go_upto_region 2 with fail
 rw[HW.out]
 have eZ:=HX.out W (Below.refl _ _)
 have n0:W.cell? ⟨w1.heap.size,0,O⟩=I (J Jq nk):=ae eZ 0
 have n1:W.cell? ⟨w1.heap.size,1,O⟩=I (J Jq wd):=ae eZ 1
 have n2:W.cell? ⟨w1.heap.size,2,O⟩=I (J Jq ht):=ae eZ 2
 have n3:W.cell? ⟨w1.heap.size,3,O⟩=I (J Jq ni):=ae eZ 3
 have n4:W.cell? ⟨w1.heap.size,4,O⟩=I (Jj sa sn sc):=ae eZ 4
 clear eZ
 go_wp2_with fail
 refine bv.out.mono ?_
 rintro e w2 ⟨u,rfl,hu,al⟩
 rw[J2.out] at hu
 have HU:Hid (iP w2 u (z0::zs)):=hu.ids (by simp)
 obtain⟨gu,ou,cu,sP,_⟩:=HU.out
 rw[List.length_cons,HM.out] at sP
 subst sP
 have aD:Hid (Below W.heap.size W w2):=al
 have lB:Hid (Below w.heap.size w w2):=af bR.out al
 clear hu al n0 n1 n2 n3 n4 bv
 obtain⟨Y,hY⟩:∃Y,w2.alloc (JZ #[J Jq 0,J Jq 0,J Jq 0,J Jq 0,Jj O 0 0] 53)=Y:=⟨_,rfl⟩
 have b7:Below w2.heap.size w2 Y:=by rw[<- hY];exact bM _ _
 have mK:=HX.out Y (af aD.out b7)
 have n1:Y.cell? ⟨w1.heap.size,1,O⟩=I (J Jq wd):=ae mK 1
 have n2:Y.cell? ⟨w1.heap.size,2,O⟩=I (J Jq ht):=ae mK 2
 have qS:Hid (Calls prog 67 #[Jj (I ⟨gu,ou,O⟩) (m+1) cu,J Jq 2,J Jq wd,J Jq ht,J Jq sz] Y (y8 AT.sound (ag AT) Y)):=yb.out _ Y (HU.out.below b7)
 have lE:Hid (w2.alloc (JZ #[J Jq 0,J Jq 0,J Jq 0,J Jq 0,Jj O 0 0] 53)=Y):=hY
 clear hY b7 mK
 go_upto_region 10 with fail
 rw[lE.out]
 go_wp2_with fail
 refine qS.out.mono ?_
 rintro e X hD
 obtain⟨k4,w4,h4,i4,sa',sn',sc',rfl,iz,ee⟩:=hD.open
 rw[<- lE.out] at ee
 have tp:Hid (lY w2 X w2.heap.size):=lI ee
 obtain⟨⟨t0,t1,t2,t3,t4⟩,t5,t6,t7,t8,t9⟩:=tp.out.cells
 have ec:Hid (vG w2 (fB X w2.heap.size (J Jq k4) (J Jq w4) (J Jq h4) (J Jq i4) (Jj sa' sn' sc')) w2.heap.size #[J Jq k4,J Jq w4,J Jq h4,J Jq i4,Jj sa' sn' sc']):=iQ tp.out _ _ _ _ _
 have HD:Hid (AT.sound=true->(k4=(ag AT).k/\w4=(ag AT).w/\h4=(ag AT).h/\i4=(ag AT).i)/\∃fp,(ag AT).In (fB X w2.heap.size (J Jq k4) (J Jq w4) (J Jq h4) (J Jq i4) (Jj sa' sn' sc')) (Jj sa' sn' sc') fp):=fun h=>by
  obtain⟨a1,fp',a2,a3⟩:=iz h
  refine⟨a1,fp',kZ a2 _ (fun q hq=> ?_) _ _ _ _ _⟩
  have h6:=a3 q hq
  have h7:Y.heap.size=w2.heap.size+1:=by rw[<- lE.out];simp
  omega
 clear hD iz ee n1 n2
 go_upto_region 20 with fail
 obtain⟨Z,hZ⟩:∃Z,fB X w2.heap.size (J Jq k4) (J Jq w4) (J Jq h4) (J Jq i4) (Jj sa' sn' sc')=Z:=⟨_,rfl⟩
 rw[hZ] at ec HD
 unfold fB at hZ
 rw[hZ]
 have pL:Hid (Below w.heap.size w Z):=af lB.out ec.out.below
 clear hZ t0 t1 t2 t3 t4 t5 t6 t7 t8 t9
 obtain⟨sd,ar⟩:∃s,AT.sound=s:=⟨_,rfl⟩
 have j3:Hid (AT.sound=sd):=ar
 rw[ar] at HD ⊢
 clear ar qS yb
 cases sd
 . go_wp2
   refine bodyPost_ret (v:=.tuple #[Jj O 0 0,J Jq 44]) (by simp[results,results33,go_sem]) rfl ?_
   unfold fP
   rw[if_neg (by rw[j3.out];decide)]
   exact⟨_,rfl,World.ownsRow_nil _ _ _ _,pL.out⟩
 . obtain⟨⟨rfl,rfl,rfl,rfl⟩,fp',cj⟩:=HD.out (by first | rfl | trivial)
   have hP:=ec.out.at_
   have p0:Z.cell? ⟨w2.heap.size,0,O⟩=I (J Jq (ag AT).k):=ae hP 0
   have p1:Z.cell? ⟨w2.heap.size,1,O⟩=I (J Jq (ag AT).w):=ae hP 1
   have p2:Z.cell? ⟨w2.heap.size,2,O⟩=I (J Jq (ag AT).h):=ae hP 2
   have p3:Z.cell? ⟨w2.heap.size,3,O⟩=I (J Jq (ag AT).i):=ae hP 3
   have p4:Z.cell? ⟨w2.heap.size,4,O⟩=I (Jj sa' sn' sc'):=ae hP 4
   have qD:Hid (Calls prog 16 #[.agg #[J Jq (ag AT).k,J Jq (ag AT).w,J Jq (ag AT).h,J Jq (ag AT).i,Jj sa' sn' sc']] Z fun e w'=>∃u,e=Jz u/\az w' Z.heap.size u (cZ AT)/\Below Z.heap.size Z w'):=iW j3.out HK.out.1 HK.out.2 cj
   clear cj hP
   go_wp2_with fail
   refine qD.out.mono ?_
   rintro e w5 ⟨q,rfl,hq,cd⟩
   have H5:Hid (az w5 w.heap.size q (cZ AT)/\Below w.heap.size w w5):=⟨hq.lower pL.out.size,af pL.out cd⟩
   clear hq cd
   go_wp2
   refine bodyPost_ret (v:=.tuple #[q,J Jq 0]) (by simp[results,results33,go_sem]) rfl ?_
   unfold fP
   rw[if_pos j3.out]
   exact⟨_,rfl,H5.out.1,H5.out.2⟩
theorem Ky (v:Value)(l:List aj)(sz:Int)(w:World){t AT:Tree}(HT:Hid (Calls prog 53 #[v] w (qF t w)))(wd ht nk ni:Int)(cH:Hid ((ag t).k=nk/\(ag t).w=wd/\(ag t).h=ht/\(ag t).i=ni))(gP:Hid ((ag t).cnt<=1000/\(ag t).ids=aH l))(z0:Int)(zs:List Int)(J2:Hid (aH l=z0::zs))(m:Nat)(HM:Hid (zs.length=m))(h1:1<=m)(HK:Hid (AT.kinds/\AT.size<=200))
 (yb:Hid (∀u X,iP X u (z0::zs)->Calls prog 68 #[u,J Jq wd,J Jq ht] X (y8 AT.sound (ag AT) X))):Calls prog 33 #[v,J Jq 5,J Jq sz] w (fP AT w):=by
 have ef:((m:Int)+1==1)=false:=by
  have:(m:Int)+1≠1:=by omega
  simpa using this
 go_enter func33,ntmps33
 go_wp2_with fail
 refine HT.out.mono ?_
 rintro e w1 ⟨sa,sn,sc,fp,he,ab,hb⟩
 have jx:e=Jz (.tuple #[.agg #[J Jq nk,J Jq wd,J Jq ht,J Jq ni,Jj sa sn sc],.bool true]):=by
  rw[he,<- cH.out.1,<- cH.out.2.1,<- cH.out.2.2.1,<- cH.out.2.2.2]
  rfl
 subst jx
 obtain⟨W,hW⟩:∃W,w1.alloc (JZ #[J Jq nk,J Jq wd,J Jq ht,J Jq ni,Jj sa sn sc] 53)=W:=⟨_,rfl⟩
 have ap:Below w1.heap.size w1 W:=by rw[<- hW];exact bM _ _
 have bR:Hid (Below w.heap.size w W):=af hb ap
 have hM:W.heap[w1.heap.size]?=I (JZ #[J Jq nk,J Jq wd,J Jq ht,J Jq ni,Jj sa sn sc] 53 (0,0)):=by rw[<- hW];exact heap_alloc_new _ _
 have HX:Hid (∀X,Below W.heap.size W X->X.heap[w1.heap.size]?=I (JZ #[J Jq nk,J Jq wd,J Jq ht,J Jq ni,Jj sa sn sc] 53 (0,0))):=fun X hX=>(hX.block _ (lt_of_block hM)).trans hM
 have HW:Hid (w1.alloc (JZ #[J Jq nk,J Jq wd,J Jq ht,J Jq ni,Jj sa sn sc] 53)=W):=hW
 have bv:Hid (Calls prog 54 #[.agg #[J Jq nk,J Jq wd,J Jq ht,J Jq ni,Jj sa sn sc]] W fun e w'=>∃u,e=Jz u/\dD w' W.heap.size u (aH l)/\Below W.heap.size W w'):=by
  have hg:=dF (ag t) gP.out.1 _ fp W (ab.below ap)
  rw[gP.out.2] at hg
  have e0:aC (ag t) (Jj sa sn sc)=#[J Jq nk,J Jq wd,J Jq ht,J Jq ni,Jj sa sn sc]:=by
   rw[<- cH.out.1,<- cH.out.2.1,<- cH.out.2.2.1,<- cH.out.2.2.2]
   rfl
  rw[e0] at hg
  exact hg
 clear he hb ab ap hM hW HT
 go_upto_region 2 with fail
 rw[HW.out]
 have eZ:=HX.out W (Below.refl _ _)
 have n0:W.cell? ⟨w1.heap.size,0,O⟩=I (J Jq nk):=ae eZ 0
 have n1:W.cell? ⟨w1.heap.size,1,O⟩=I (J Jq wd):=ae eZ 1
 have n2:W.cell? ⟨w1.heap.size,2,O⟩=I (J Jq ht):=ae eZ 2
 have n3:W.cell? ⟨w1.heap.size,3,O⟩=I (J Jq ni):=ae eZ 3
 have n4:W.cell? ⟨w1.heap.size,4,O⟩=I (Jj sa sn sc):=ae eZ 4
 clear eZ
 go_wp2_with fail
 refine bv.out.mono ?_
 rintro e w2 ⟨u,rfl,hu,al⟩
 rw[J2.out] at hu
 have HU:Hid (iP w2 u (z0::zs)):=hu.ids (by simp)
 obtain⟨gu,ou,cu,sP,_⟩:=HU.out
 rw[List.length_cons,HM.out] at sP
 subst sP
 have aD:Hid (Below W.heap.size W w2):=al
 have lB:Hid (Below w.heap.size w w2):=af bR.out al
 clear hu al n0 n1 n2 n3 n4 bv
 obtain⟨Y,hY⟩:∃Y,w2.alloc (JZ #[J Jq 0,J Jq 0,J Jq 0,J Jq 0,Jj O 0 0] 53)=Y:=⟨_,rfl⟩
 have b7:Below w2.heap.size w2 Y:=by rw[<- hY];exact bM _ _
 have mK:=HX.out Y (af aD.out b7)
 have n1:Y.cell? ⟨w1.heap.size,1,O⟩=I (J Jq wd):=ae mK 1
 have n2:Y.cell? ⟨w1.heap.size,2,O⟩=I (J Jq ht):=ae mK 2
 have qS:Hid (Calls prog 68 #[Jj (I ⟨gu,ou,O⟩) (m+1) cu,J Jq wd,J Jq ht] Y (y8 AT.sound (ag AT) Y)):=yb.out _ Y (HU.out.below b7)
 have lE:Hid (w2.alloc (JZ #[J Jq 0,J Jq 0,J Jq 0,J Jq 0,Jj O 0 0] 53)=Y):=hY
 clear hY b7 mK
 go_upto_region 10 with fail
 rw[lE.out]
 go_wp2_with fail
 refine qS.out.mono ?_
 rintro e X hD
 obtain⟨k4,w4,h4,i4,sa',sn',sc',rfl,iz,ee⟩:=hD.open
 rw[<- lE.out] at ee
 have tp:Hid (lY w2 X w2.heap.size):=lI ee
 obtain⟨⟨t0,t1,t2,t3,t4⟩,t5,t6,t7,t8,t9⟩:=tp.out.cells
 have ec:Hid (vG w2 (fB X w2.heap.size (J Jq k4) (J Jq w4) (J Jq h4) (J Jq i4) (Jj sa' sn' sc')) w2.heap.size #[J Jq k4,J Jq w4,J Jq h4,J Jq i4,Jj sa' sn' sc']):=iQ tp.out _ _ _ _ _
 have HD:Hid (AT.sound=true->(k4=(ag AT).k/\w4=(ag AT).w/\h4=(ag AT).h/\i4=(ag AT).i)/\∃fp,(ag AT).In (fB X w2.heap.size (J Jq k4) (J Jq w4) (J Jq h4) (J Jq i4) (Jj sa' sn' sc')) (Jj sa' sn' sc') fp):=fun h=>by
  obtain⟨a1,fp',a2,a3⟩:=iz h
  refine⟨a1,fp',kZ a2 _ (fun q hq=> ?_) _ _ _ _ _⟩
  have h6:=a3 q hq
  have h7:Y.heap.size=w2.heap.size+1:=by rw[<- lE.out];simp
  omega
 clear hD iz ee n1 n2
 go_upto_region 20 with fail
 obtain⟨Z,hZ⟩:∃Z,fB X w2.heap.size (J Jq k4) (J Jq w4) (J Jq h4) (J Jq i4) (Jj sa' sn' sc')=Z:=⟨_,rfl⟩
 rw[hZ] at ec HD
 unfold fB at hZ
 rw[hZ]
 have pL:Hid (Below w.heap.size w Z):=af lB.out ec.out.below
 clear hZ t0 t1 t2 t3 t4 t5 t6 t7 t8 t9
 obtain⟨sd,ar⟩:∃s,AT.sound=s:=⟨_,rfl⟩
 have j3:Hid (AT.sound=sd):=ar
 rw[ar] at HD ⊢
 clear ar qS yb
 cases sd
 . go_wp2
   refine bodyPost_ret (v:=.tuple #[Jj O 0 0,J Jq 44]) (by simp[results,results33,go_sem]) rfl ?_
   unfold fP
   rw[if_neg (by rw[j3.out];decide)]
   exact⟨_,rfl,World.ownsRow_nil _ _ _ _,pL.out⟩
 . obtain⟨⟨rfl,rfl,rfl,rfl⟩,fp',cj⟩:=HD.out (by first | rfl | trivial)
   have hP:=ec.out.at_
   have p0:Z.cell? ⟨w2.heap.size,0,O⟩=I (J Jq (ag AT).k):=ae hP 0
   have p1:Z.cell? ⟨w2.heap.size,1,O⟩=I (J Jq (ag AT).w):=ae hP 1
   have p2:Z.cell? ⟨w2.heap.size,2,O⟩=I (J Jq (ag AT).h):=ae hP 2
   have p3:Z.cell? ⟨w2.heap.size,3,O⟩=I (J Jq (ag AT).i):=ae hP 3
   have p4:Z.cell? ⟨w2.heap.size,4,O⟩=I (Jj sa' sn' sc'):=ae hP 4
   have qD:Hid (Calls prog 16 #[.agg #[J Jq (ag AT).k,J Jq (ag AT).w,J Jq (ag AT).h,J Jq (ag AT).i,Jj sa' sn' sc']] Z fun e w'=>∃u,e=Jz u/\az w' Z.heap.size u (cZ AT)/\Below Z.heap.size Z w'):=iW j3.out HK.out.1 HK.out.2 cj
   clear cj hP
   go_wp2_with fail
   refine qD.out.mono ?_
   rintro e w5 ⟨q,rfl,hq,cd⟩
   have H5:Hid (az w5 w.heap.size q (cZ AT)/\Below w.heap.size w w5):=⟨hq.lower pL.out.size,af pL.out cd⟩
   clear hq cd
   go_wp2
   refine bodyPost_ret (v:=.tuple #[q,J Jq 0]) (by simp[results,results33,go_sem]) rfl ?_
   unfold fP
   rw[if_pos j3.out]
   exact⟨_,rfl,H5.out.1,H5.out.2⟩
theorem Nw (v:Value)(l:List aj)(how sz:Int)(w:World)(h:ay w v l){t:Tree}(hF:aT l=I t)(hh:1<=how/\how<=5)(ye:(aH l).length=1):Calls prog 33 #[v,J Jq how,J Jq sz] w (fP t w):=by
 have hO:=CV hF
 have HT:Hid (Calls prog 53 #[v] w (qF t w)):=dI v l w h hF
 have gP:Hid ((ag t).cnt<=1000/\(ag t).ids=aH l):=⟨by rw[kC];have:=lay_size hO.lay;omega,by rw[jo t 0 hO.lay.kinds,hO.lay.tell]⟩
 have HK:Hid (t.kinds/\t.size<=200/\t.sound=true):=⟨hO.lay.kinds,by have:=lay_size hO.lay;omega,hO.lay.sound⟩
 have H1:Hid ((aH l).length=1):=ye
 have Cq:fP t w=dZ 0 (cZ t) w:=by funext e w';unfold fP;rw[if_pos HK.out.2.2]
 rw[Cq]
 obtain⟨nk,LL⟩:∃x,(ag t).k=x:=⟨_,rfl⟩
 obtain⟨wd,EV⟩:∃x,(ag t).w=x:=⟨_,rfl⟩
 obtain⟨ht,K8⟩:∃x,(ag t).h=x:=⟨_,rfl⟩
 obtain⟨ni,VO⟩:∃x,(ag t).i=x:=⟨_,rfl⟩
 have cH:Hid ((ag t).k=nk/\(ag t).w=wd/\(ag t).h=ht/\(ag t).i=ni):=⟨LL,EV,K8,VO⟩
 have d1:decide (how < (1:Int))=false:=decide_eq_false (by omega)
 have d2:decide ((5:Int) < how)=false:=decide_eq_false (by omega)
 clear hF h hO ye hh Cq LL EV K8 VO
 go_enter func33,ntmps33
 go_wp2_with fail
 refine HT.out.mono ?_
 rintro e w1 ⟨sa,sn,sc,fp,he,ab,hb⟩
 have jx:e=Jz (.tuple #[.agg #[J Jq nk,J Jq wd,J Jq ht,J Jq ni,Jj sa sn sc],.bool true]):=by
  rw[he,<- cH.out.1,<- cH.out.2.1,<- cH.out.2.2.1,<- cH.out.2.2.2]
  rfl
 subst jx
 obtain⟨W,hW⟩:∃W,w1.alloc (JZ #[J Jq nk,J Jq wd,J Jq ht,J Jq ni,Jj sa sn sc] 53)=W:=⟨_,rfl⟩
 have ap:Below w1.heap.size w1 W:=by rw[<- hW];exact bM _ _
 have bR:Hid (Below w.heap.size w W):=af hb ap
 have hM:W.heap[w1.heap.size]?=I (JZ #[J Jq nk,J Jq wd,J Jq ht,J Jq ni,Jj sa sn sc] 53 (0,0)):=by rw[<- hW];exact heap_alloc_new _ _
 have HX:Hid (∀X,Below W.heap.size W X->X.heap[w1.heap.size]?=I (JZ #[J Jq nk,J Jq wd,J Jq ht,J Jq ni,Jj sa sn sc] 53 (0,0))):=fun X hX=>(hX.block _ (lt_of_block hM)).trans hM
 have HW:Hid (w1.alloc (JZ #[J Jq nk,J Jq wd,J Jq ht,J Jq ni,Jj sa sn sc] 53)=W):=hW
 have bv:Hid (Calls prog 54 #[.agg #[J Jq nk,J Jq wd,J Jq ht,J Jq ni,Jj sa sn sc]] W fun e w'=>∃u,e=Jz u/\dD w' W.heap.size u (aH l)/\Below W.heap.size W w'):=by
  have hg:=dF (ag t) gP.out.1 _ fp W (ab.below ap)
  rw[gP.out.2] at hg
  have e0:aC (ag t) (Jj sa sn sc)=#[J Jq nk,J Jq wd,J Jq ht,J Jq ni,Jj sa sn sc]:=by
   rw[<- cH.out.1,<- cH.out.2.1,<- cH.out.2.2.1,<- cH.out.2.2.2]
   rfl
  rw[e0] at hg
  exact hg
 have qD:Hid (∀X,Below W.heap.size W X->Calls prog 16 #[.agg #[J Jq nk,J Jq wd,J Jq ht,J Jq ni,Jj sa sn sc]] X fun e w'=>∃u,e=Jz u/\az w' X.heap.size u (cZ t)/\Below X.heap.size X w'):=fun X hX=>by
  have hg:=iW HK.out.2.2 HK.out.1 HK.out.2.1 ((ab.below ap).below hX)
  have e0:aC (ag t) (Jj sa sn sc)=#[J Jq nk,J Jq wd,J Jq ht,J Jq ni,Jj sa sn sc]:=by
   rw[<- cH.out.1,<- cH.out.2.1,<- cH.out.2.2.1,<- cH.out.2.2.2]
   rfl
  rw[e0] at hg
  exact hg
 clear he hb ab ap hM hW HT
 go_upto_region 2 with fail
 rw[HW.out]
 have eZ:=HX.out W (Below.refl _ _)
 have n0:W.cell? ⟨w1.heap.size,0,O⟩=I (J Jq nk):=ae eZ 0
 have n1:W.cell? ⟨w1.heap.size,1,O⟩=I (J Jq wd):=ae eZ 1
 have n2:W.cell? ⟨w1.heap.size,2,O⟩=I (J Jq ht):=ae eZ 2
 have n3:W.cell? ⟨w1.heap.size,3,O⟩=I (J Jq ni):=ae eZ 3
 have n4:W.cell? ⟨w1.heap.size,4,O⟩=I (Jj sa sn sc):=ae eZ 4
 clear eZ
 go_wp2_with fail
 refine bv.out.mono ?_
 rintro e w2 ⟨u,rfl,hu,al⟩
 obtain⟨ua,uc,rfl⟩:∃a c,u=Jj a 1 c:=by
  have h2:w2.ownsRow W.heap.size 3 1 u (aH l).length ((aH l).map (Value.int .i64)):=hu
  rw[H1.out] at h2
  rcases h2.2 with ⟨_,h0⟩ | ⟨g',cap,cur,e,_⟩
  . cases h0
  . exact⟨_,_,e⟩
 have aD:Hid (Below W.heap.size W w2):=al
 have lB:Hid (Below w.heap.size w w2):=af bR.out al
 clear hu al n0 n1 n2 n3 n4 bv
 have ie:=HX.out w2 aD.out
 have n0:w2.cell? ⟨w1.heap.size,0,O⟩=I (J Jq nk):=ae ie 0
 have n1:w2.cell? ⟨w1.heap.size,1,O⟩=I (J Jq wd):=ae ie 1
 have n2:w2.cell? ⟨w1.heap.size,2,O⟩=I (J Jq ht):=ae ie 2
 have n3:w2.cell? ⟨w1.heap.size,3,O⟩=I (J Jq ni):=ae ie 3
 have n4:w2.cell? ⟨w1.heap.size,4,O⟩=I (Jj sa sn sc):=ae ie 4
 clear ie
 go_wp2_with fail
 refine (qD.out _ aD.out).mono ?_
 rintro e w5 ⟨q,rfl,hq,cd⟩
 have H5:Hid (az w5 w.heap.size q (cZ t)/\Below w.heap.size w w5):=⟨hq.lower lB.out.size,af lB.out cd⟩
 clear hq cd
 go_wp2
 refine bodyPost_ret (v:=.tuple #[q,J Jq 0]) (by simp[results,results33,go_sem]) rfl ?_
 exact⟨_,rfl,H5.out.1,H5.out.2⟩
theorem Ku (v:Value)(l:List aj)(how sz:Int)(w:World)(h:ay w v l){t:Tree}(hF:aT l=I t)(hh:1<=how/\how<=5)(hsz: -9223372036854775808<=sz/\sz<=9223372036854775807)(z0:Int)(zs:List Int)(ao:aH l=z0::zs)(h1:1<=zs.length):Calls prog 33 #[v,J Jq how,J Jq sz] w (fP (D9 how z0 zs ⟨0,0,t.box.w,t.box.h⟩ sz) w):=by
 have hO:=CV hF
 have HT:Hid (Calls prog 53 #[v] w (qF t w)):=dI v l w h hF
 have gP:Hid ((ag t).cnt<=1000/\(ag t).ids=aH l):=⟨by rw[kC];have:=lay_size hO.lay;omega,by rw[jo t 0 hO.lay.kinds,hO.lay.tell]⟩
 have cH:Hid ((ag t).k=(ag t).k/\(ag t).w=t.box.w/\(ag t).h=t.box.h/\(ag t).i=(ag t).i):=⟨rfl,bV t,bW t,rfl⟩
 have ol:=hO.few
 rw[ao,List.length_cons] at ol
 have hz:∀z∈z0::zs,idB z=true:=by rw[<- ao];exact hO.ids
 have hw:=hO.sides.1
 have Rz:=hO.sides.2
 have a7:zs≠[]:=fun e=>by rw[e] at h1;simp at h1
 have Cr:=OQ how hh z0 zs t.box.w t.box.h sz h1 (by omega) hz hw Rz
 have HK:Hid ((D9 how z0 zs ⟨0,0,t.box.w,t.box.h⟩ sz).kinds/\(D9 how z0 zs ⟨0,0,t.box.w,t.box.h⟩ sz).size<=200):=⟨CW _ _ _ _ _,by have:=AP how z0 zs ⟨0,0,t.box.w,t.box.h⟩ sz h1 (by omega);omega⟩
 have hc:how=1\/how=2\/how=3\/how=4\/how=5:=by omega
 rcases hc with rfl | rfl | rfl | rfl | rfl
 . refine Ny v l sz w HT _ _ _ _ cH gP z0 zs ao zs.length rfl h1 HK fun u X hX=> ?_
   have:=pX 2 (.inl rfl) t.box.w t.box.h (z0::zs) u X hw.2 Rz.2 hX (by simp) (by rw[List.length_cons];omega)
   rw[Cr]
   exact this
 . refine Nz v l sz w HT _ _ _ _ cH gP z0 zs ao zs.length rfl h1 HK fun u X hX=> ?_
   have:=pX 3 (.inr rfl) t.box.w t.box.h (z0::zs) u X hw.2 Rz.2 hX (by simp) (by rw[List.length_cons];omega)
   rw[Cr]
   exact this
 . refine Kv v l sz w HT _ _ _ _ cH gP z0 zs ao zs.length rfl h1 HK fun u X hX=> ?_
   have:=yg 3 (.inr rfl) z0 zs t.box.w t.box.h sz u X hw Rz hsz hX a7 (by omega)
   rw[Cr]
   exact this
 . refine Kw v l sz w HT _ _ _ _ cH gP z0 zs ao zs.length rfl h1 HK fun u X hX=> ?_
   have:=yg 2 (.inl rfl) z0 zs t.box.w t.box.h sz u X hw Rz hsz hX a7 (by omega)
   rw[Cr]
   exact this
 . refine Ky v l sz w HT _ _ _ _ cH gP z0 zs ao zs.length rfl h1 HK fun u X hX=> ?_
   have:=Ha (z0::zs) t.box.w t.box.h u X hw Rz hX (by rw[List.length_cons];omega) (by rw[List.length_cons];omega)
   rw[Cr]
   exact this
theorem ans_of (T:Tree)(hz:T.size<=100):∃er r,(r:List aj).length<=100/\∀w,fP T w=dZ er r w:=by
 cases hs:T.sound with
 | true=>exact⟨0,cZ T,by rw[CX];exact hz,fun w=>by funext e w';unfold fP;rw[if_pos hs]⟩
 | false=>exact⟨44,[],by simp,fun w=>by funext e w';unfold fP;rw[if_neg (by rw[hs];decide)]⟩
theorem EP (l:List aj)(how sz:Int)(hsz: -9223372036854775808<=sz/\sz<=9223372036854775807):∃er r,(r:List aj).length<=100/\(∀v X,ay X v l->Calls prog 25 #[v,J Jq how,J Jq sz] X (dZ er r X))/\(∀v X,ay X v l->Calls prog 33 #[v,J Jq how,J Jq sz] X (dZ er r X)):=by
 cases hF:aT l with
 | none=>exact⟨40,[],by simp,fun v X h=>Kz v l how sz X h hF,fun v X h=>KA v l how sz X h hF⟩
 | some t=>
   by_cases hh:1<=how/\how<=5
   . have hO:=CV hF
     match hi:aH l,hO.I with
     | [],h0=>simp at h0
     | [z],_=>
       obtain⟨er,r,h1,h2⟩:=ans_of t (by have:=lay_size hO.lay;omega)
       exact⟨er,r,h1,fun v X h=>by rw[<- h2];exact NC v l how sz X h hF hh (by rw[hi];rfl),fun v X h=>by rw[<- h2];exact Nw v l how sz X h hF hh (by rw[hi];rfl)⟩
     | z0::z1::zs,_=>
       have ol:=hO.few
       rw[hi] at ol
       have hl:(z1::zs).length<=31:=by simp at ol ⊢;omega
       obtain⟨er,r,h1,h2⟩:=ans_of (D9 how z0 (z1::zs) ⟨0,0,t.box.w,t.box.h⟩ sz) (AP how z0 (z1::zs) _ sz (by simp) hl)
       exact⟨er,r,h1,fun v X h=>by rw[<- h2];exact KC v l how sz X h hF hh hsz z0 (z1::zs) hi (by simp),fun v X h=>by rw[<- h2];exact Ku v l how sz X h hF hh hsz z0 (z1::zs) hi (by simp)⟩
   . exact⟨1,[],by simp,fun v X h=>ND v l how sz X h hF hh,fun v X h=>NE v l how sz X h hF hh⟩
end Go.Proofs.YtejlincnnonhaaaGreat
