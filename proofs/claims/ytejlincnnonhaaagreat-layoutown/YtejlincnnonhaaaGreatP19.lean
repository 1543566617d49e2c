import Derived.Test.YtejlincnnonhaaaGreatP16
namespace Go.Proofs.YtejlincnnonhaaaGreat
open Go.RowKit Go.Proofs.Tryz
open Value renaming int->J,slice->Jj,pointer->JJ
open IntKind renaming i64->Jq
open Option renaming none->O,some->I
open Ending renaming returned->Jz
open Obj renaming cells->JZ
set_option linter.unusedVariables false
set_option maxRecDepth 100000
set_option maxHeartbeats 16000000
open Go.RowKit Go.Lib
theorem FI {w:World}{t:Tree}{v:Value}{fp ps:List Nat}{st:List (Nat × Nat)}{gl:Nat}{bl:Box}{q:Int}(hA:t.At w 0 v fp)(hr:Reach w v ps (aZ gl) st)(aL:t.cO ps=I (.leaf bl q)):bD w gl bl q:=by
 obtain⟨s,f',R,hS⟩:=Tree.At.reach ps hA hr
 have hs:s=.leaf bl q:=by
  have:=hS.sub
  rw[aL] at this
  exact (Option.some.inj this).symm
 subst hs
 obtain⟨gl',e,hl,_⟩:=hS.here
 cases e
 exact hl
theorem IP (v:Value)(l:List aj)(q k z id:Int)(bf:Bool)(w:World)(h:ay w v l){t:Tree}(hF:aT l=I t)(hk:k=2\/k=3){ps:List Nat}{bl:Box}(hp:t.path q=I ps)(aL:t.cO ps=I (.leaf bl q))(hj:jF l id=0)(h3:bl.ext k < 3):Calls prog 18 #[v,J Jq q,J Jq k,J Jq z,.bool bf,J Jq id] w (dZ 44 [] w):=by
 have HR:=zh (dQ v l w h hF)
 have HC:Hid (∀W,Calls prog 36 #[J Jq k] W fun e w'=>e=Jz (.bool true)/\W=w'):=fun W=>(decide_eq_true hk) ▸ fE k W
 have ko:=(iM (by rw[hF];rfl:(aT l).isSome=true)).1
 have HJ:Hid (∀X,Below w.heap.size w X->Calls prog 37 #[v,J Jq id] X fun e w'=>e=Jz (J Jq 0)/\Below X.heap.size X w'):=fun X hX=>hj ▸ iY v l id X (h.below hX) (by omega)
 have hl:=aV hF
 have hz:=lay_size hl
 obtain⟨E,hE⟩:∃x,bl.ext k=x:=⟨_,rfl⟩
 rw[hE] at h3
 have HW : Hid (∀ T g fp w1, t.At w1 0 (.iface T (JJ (I ⟨g, 0, O⟩))) fp → ∃ Fw, (∀ W, (method 286 T (JJ (I ⟨g, 0, O⟩)) "mullion/layout.way").run prog W = .ok (Fw, JJ (I ⟨g, 0, O⟩)) W) ∧ (∀ a c W, (callFunc Fw #[a, c]).run prog W = .ok (.enter Fw #[a, c]) W) ∧ Calls prog Fw #[JJ (I ⟨g, 0, O⟩), J Jq q] w1 fun e w' => Below w1.heap.size w1 w' ∧ ∃ gl sa sn sc, e = Jz (.tuple #[Jj sa sn sc, JJ (I ⟨gl, 0, O⟩)]) ∧ ∀ X, Below w'.heap.size w' X → Calls prog 38 #[JJ (I ⟨gl, 0, O⟩), J Jq k] X fun e w' => e = Jz (J Jq E) ∧ X = w') := fun T g fp w1 hA => by
  obtain⟨Fw,m1,m2,hc⟩:=nV hA hl.sound (by omega) q
  refine⟨Fw,m1,m2,(hc w1 (Below.refl _ _)).mono fun e w' h=> ?_⟩
  obtain⟨hb,⟨h1,_⟩ | ⟨ps',gl,st,sa,sn,sc,h1,h2,he,h3⟩⟩:=h
  . rw[hp] at h1
    cases h1
  . rw[hp] at h1
    cases h1
    exact⟨hb,gl,sa,sn,sc,he,fun X hX=>hE ▸ dC gl bl k X (((FI hA h2 aL).below hb).below hX).box⟩
 clear h hF hk ko hl hz hp aL hj hE
 go_enter func18,ntmps18
 go_wp2_with fail
 refine HR.out.mono ?_
 rintro e w1 ⟨T,g,fp,rfl,bq,aE,be,hb⟩
 have HB:=zh hb
 obtain⟨Fw,m1,m2,hc⟩:=HW.out T g fp w1 bq
 have HF:=kw hc
 clear bq aE be hb hc HR HW
 go_wp2_with fail
 refine (HC.out _).mono ?_
 rintro e w9 ⟨rfl,rfl⟩
 go_wp2_with fail
 refine HF.out.mono ?_
 rintro e w8 ⟨pD,gl,sa,sn,sc,rfl,hx⟩
 have sC:=zh (af HB.out pD)
 have HX:=kw hx
 clear pD HF hx
 go_wp2_with fail
 refine (HJ.out _ sC.out).mono ?_
 rintro e w2 ⟨rfl,al⟩
 have aD:=zh (af sC.out al)
 have eW:=kw (HX.out w2 al)
 clear al HX
 go_wp2_with fail
 refine eW.out.mono ?_
 rintro e w3 ⟨rfl,rfl⟩
 go_wp2
 go_ret2
 exact⟨_,rfl,World.ownsRow_nil _ _ _ _,aD.out⟩
theorem Pm (v:Value)(l:List aj)(q k z id:Int)(bf:Bool)(w:World)(h:ay w v l){t t':Tree}(hF:aT l=I t)(hk:k=2\/k=3){ps:List Nat}{bl:Box}{n:Int}(hp:t.path q=I ps)(aL:t.cO ps=I (.leaf bl q))(hj:jF l id=0)(h3:3<=bl.ext k)(hn:n=min (gZ z (bl.ext k)) (bl.ext k-2))(du:1<=n)(hC:Ei q k n id bf bl)(hS:Fg q (yZ q k n id bf) bl t ps t'):Calls prog 18 #[v,J Jq q,J Jq k,J Jq z,.bool bf,J Jq id] w (dZ 0 (cZ t') w):=by
 have HR:=zh (dQ v l w h hF)
 have HC:Hid (∀W,Calls prog 36 #[J Jq k] W fun e w'=>e=Jz (.bool true)/\W=w'):=fun W=>(decide_eq_true hk) ▸ fE k W
 have ko:=(iM (by rw[hF];rfl:(aT l).isSome=true)).1
 have HJ:Hid (∀X,Below w.heap.size w X->Calls prog 37 #[v,J Jq id] X fun e w'=>e=Jz (J Jq 0)/\Below X.heap.size X w'):=fun X hX=>hj ▸ iY v l id X (h.below hX) (by omega)
 have hl:=aV hF
 have hz:=lay_size hl
 have pd:(Tree.leaf bl q).sound=true:=(jA ps t _ aL hl.sound hl.kinds).1
 have tO:=df bl k ((Tree.leaf bl q).aF pd)
 have ft:n<=bl.ext k-2:=by rw[hn];exact Int.min_le_right _ _
 obtain⟨LT,ki⟩:∃x,cZ t'=x:=⟨_,rfl⟩
 obtain⟨fb,xp⟩:∃x,bl.with k n=x:=⟨_,rfl⟩
 obtain⟨E,hE⟩:∃x,bl.ext k=x:=⟨_,rfl⟩
 have HW : Hid (∀ T g fp w1, t.At w1 0 (.iface T (JJ (I ⟨g, 0, O⟩))) fp → fp.Nodup → (∀ x ∈ fp, w.heap.size ≤ x) → Below w.heap.size w w1 → ∃ Fw, (∀ W, (method 286 T (JJ (I ⟨g, 0, O⟩)) "mullion/layout.way").run prog W = .ok (Fw, JJ (I ⟨g, 0, O⟩)) W) ∧ (∀ a c W, (callFunc Fw #[a, c]).run prog W = .ok (.enter Fw #[a, c]) W) ∧ Calls prog Fw #[JJ (I ⟨g, 0, O⟩), J Jq q] w1 fun e w2 => Below w1.heap.size w1 w2 ∧ ∃ gl sa sn sc, e = Jz (.tuple #[Jj sa sn sc, JJ (I ⟨gl, 0, O⟩)]) ∧ Lj w LT w2 (.iface T (JJ (I ⟨g, 0, O⟩))) gl (Jj sa sn sc) k n id E bf fb) := fun T g fp w1 hA aE be hb => by
  obtain⟨Fw,m1,m2,hc⟩:=nV hA hl.sound (by omega) q
  refine⟨Fw,m1,m2,(hc w1 (Below.refl _ _)).mono fun e w2 h=> ?_⟩
  obtain⟨al,⟨h1,_⟩ | ⟨ps',gl,st,sa,sn,sc,h1,h2,he,h3⟩⟩:=h
  . rw[hp] at h1
    cases h1
  . rw[hp] at h1
    cases h1
    refine⟨al,gl,sa,sn,sc,he,?_⟩
    rw[<- ki,<- hE,<- xp]
    exact IC hb hA aE be al h2 h3 hl.sound hl.kinds (by omega) hk aL hC ⟨du,ft⟩ hS
 rw[hE] at hn tO ft h3
 have BW:Hid (∀W,Calls prog 39 #[J Jq z,J Jq E] W fun e w'=>e=Jz (J Jq (gZ z E))/\W=w'):=fun W=>uo z E W (by omega)
 obtain⟨wt,Rx⟩:∃r,gZ z E=r:=⟨_,rfl⟩
 rw[Rx] at BW hn
 have zz:=zh hn.symm
 have kr:IntKind.i64.wrap (E-2)=E-2:=by rw[IntKind.wrap_i64];omega
 have rj:IntKind.i64.wrap (-n)= -n:=by rw[IntKind.wrap_i64];omega
 have FS:IntKind.i64.wrap (-n-1)= -n-1:=by rw[IntKind.wrap_i64];omega
 have hEl:¬E < 3:=by omega
 have K7:Hid (∀T1 T2 g1 g2 W,Calls prog 44 #[.iface T1 (JJ (I ⟨g1,0,O⟩)),.iface T2 (JJ (I ⟨g2,0,O⟩)),.bool bf] W fun e w'=>e=Jz (Jj (I ⟨W.heap.size,0,O⟩) 2 2)/\w'=W.alloc (.cells (if bf then #[.iface T2 (JJ (I ⟨g2,0,O⟩)),.iface T1 (JJ (I ⟨g1,0,O⟩))] else #[.iface T1 (JJ (I ⟨g1,0,O⟩)),.iface T2 (JJ (I ⟨g2,0,O⟩))]) 70)):=fun T1 T2 g1 g2 W=>qO T1 T2 g1 g2 bf W
 rw[ki]
 obtain⟨fx,fy,fw,fh⟩:=fb
 clear h hF hk ko hl hz hp aL hj hE pd tO ft hn h3 du hC hS Rx ki xp
 go_enter func18,ntmps18
 go_wp2_with fail
 refine HR.out.mono ?_
 rintro e w1 ⟨T,g,fp,rfl,bq,aE,be,hb⟩
 have HB:=zh hb
 obtain⟨Fw,m1,m2,hc⟩:=HW.out T g fp w1 bq aE be hb
 have HF:=kw hc
 clear bq aE be hb hc HR HW
 go_wp2_with fail
 refine (HC.out _).mono ?_
 rintro e w9 ⟨rfl,rfl⟩
 go_wp2_with fail
 refine HF.out.mono ?_
 rintro e w2 ⟨pD,gl,sa,sn,sc,rfl,hD⟩
 have sC:=zh (af HB.out pD)
 have HD:=kw hD
 clear pD HF hD m1 m2
 go_wp2_with fail
 refine (HJ.out _ sC.out).mono ?_
 rintro e w3 ⟨rfl,aM⟩
 have cQ:=zh aM
 have eW:=kw (HD.out.ext w3 aM)
 clear aM HJ HC
 go_wp2_with fail
 refine eW.out.mono ?_
 rintro e w9 ⟨rfl,rfl⟩
 go_wp2_with fail
 refine (BW.out _).mono ?_
 rintro e w9 ⟨rfl,rfl⟩
 have Gr:=kw (HD.out.wth w3 cQ.out)
 clear eW BW
 go_wp2_with fail
 rw[zz.out]
 refine Gr.out.mono ?_
 rintro e w4 ⟨rfl,cv⟩
 have kp:=kw (HD.out.str (w4.alloc (.cells (wV ⟨fx,fy,fw,fh⟩ id) 49)) w4.heap.size (af (af cQ.out cv) ((Below.refl _ _).alloc (Nat.le_refl _) _)) (heap_alloc_new _ _) (Nat.le_trans cQ.out.size cv.size))
 unfold wV at kp
 clear cv Gr HD
 go_wp2_with fail
 refine kp.out.mono ?_
 rintro e Z ⟨rfl,hJ⟩
 have Nt:=kw hJ
 clear hJ kp
 cases bf
 all_goals (
  simp only[Bool.false_eq_true,if_false,if_true] at Nt K7
  go_wp2_with fail
  refine (K7.out _ _ _ _ _).mono ?_
  rintro e w7 ⟨rfl,rfl⟩
  go_wp2_with fail
  refine Nt.out.mono ?_
  rintro e Z1 ⟨p,rfl,UQ⟩
  have Iv:=kw (UQ 0)
  clear UQ Nt
  go_wp2_with fail
  refine Iv.out.mono ?_
  rintro e Z2 ⟨T3,g3,rfl,hL⟩
  have HL:=kw hL
  clear hL Iv
  go_wp2_with fail
  refine HL.out.mono ?_
  rintro e w9 ⟨u,rfl,hu,ez⟩
  have HU:=zh hu
  have pC:=zh ez
  clear hu ez HL
  go_wp2
  go_ret2
  exact⟨u,rfl,HU.out,pC.out⟩)
theorem JL (v:Value)(l:List aj)(q k z id:Int)(bf:Bool)(w:World)(h:ay w v l)(hF:aT l=O):Calls prog 26 #[v,J Jq q,J Jq k,J Jq z,.bool bf,J Jq id] w (dZ 40 [] w):=by
 have HT:=zh (tq v l w h hF)
 clear h hF
 go_enter func26,ntmps26
 go_wp2_with fail
 refine HT.out.mono ?_
 rintro e w1 ⟨rfl,hb⟩
 have HB:=zh (aK hb)
 unfold aU
 clear hb
 go_wp2
 go_ret2
 exact⟨_,rfl,World.ownsRow_nil _ _ _ _,HB.out _⟩
theorem MS (v:Value)(l:List aj)(q k z id:Int)(bf:Bool)(w:World)(h:ay w v l){t:Tree}(hF:aT l=I t)(hk:¬(k=2\/k=3)):Calls prog 26 #[v,J Jq q,J Jq k,J Jq z,.bool bf,J Jq id] w (dZ 1 [] w):=by
 have HT:=zh (dI v l w h hF)
 have k2:(k != 2)=true:=by
  have:k≠2:=fun e=>hk (.inl e)
  simpa using this
 have k3:(k != 3)=true:=by
  have:k≠3:=fun e=>hk (.inr e)
  simpa using this
 clear h hF hk
 go_enter func26,ntmps26
 go_wp2_with fail
 refine HT.out.mono ?_
 rintro e w1 ⟨sa,sn,sc,fp,rfl,ab,hb⟩
 have HB:=zh (aK hb)
 obtain⟨nn,aR⟩:∃x,ag t=x:=⟨_,rfl⟩
 rw[aR]
 unfold aC
 clear hb ab aR
 go_wp2
 all_goals go_ret2
 all_goals exact⟨_,rfl,World.ownsRow_nil _ _ _ _,HB.out _⟩
theorem JM (v:Value)(l:List aj)(q k z id:Int)(bf:Bool)(w:World)(h:ay w v l){t:Tree}(hF:aT l=I t)(hk:k=2\/k=3)(hq:q ∉ aH l):Calls prog 26 #[v,J Jq q,J Jq k,J Jq z,.bool bf,J Jq id] w (dZ 42 [] w):=by
 have HT:=zh (dI v l w h hF)
 have ao:=jr hF
 have dq:=zh (aV hF)
 have bL:Hid ((ag t).ids=aH l/\1<=(aH l).length/\(aH l).length<=32/\(ag t).cnt<=1000):=⟨ao.1,ao.2.1,ao.2.2.1,ao.2.2.2.2⟩
 have AG:Hid (∀u B W,dD W B u (aH l)->Calls prog 55 #[u,J Jq q] W fun e w'=>e=Jz (.bool false)/\W=w'):=fun u B W hu=>by
  have:=iK u (aH l) B q W hu (by omega) (by intro h0;rw[h0] at ao;exact absurd ao.2.1 (by decide))
  rw[decide_eq_false hq] at this
  exact this
 have HK:=zh hk
 have pt:((k != 2)=false)\/((k != 2)=true/\(k != 3)=false):=by rcases hk with rfl | rfl <;> simp
 clear h hF hk ao hq
 go_enter func26,ntmps26
 go_wp2_with fail
 refine HT.out.mono ?_
 rintro e w1 ⟨sa,sn,sc,fp,rfl,ab,hb⟩
 obtain⟨W,hW⟩:∃W,w1.alloc (JZ #[J Jq (ag t).k,J Jq (ag t).w,J Jq (ag t).h,J Jq (ag t).i,Jj sa sn sc] 53)=W:=⟨_,rfl⟩
 have ap:Below w1.heap.size w1 W:=by rw[<- hW];exact (Below.refl _ _).alloc (Nat.le_refl _) _
 have bR:=zh (af hb ap)
 have hM:W.heap[w1.heap.size]?=I (JZ #[J Jq (ag t).k,J Jq (ag t).w,J Jq (ag t).h,J Jq (ag t).i,Jj sa sn sc] 53 (0,0)):=by rw[<- hW];exact heap_alloc_new _ _
 have HX:Hid (∀X,Below W.heap.size W X->X.heap[w1.heap.size]?=I (JZ #[J Jq (ag t).k,J Jq (ag t).w,J Jq (ag t).h,J Jq (ag t).i,Jj sa sn sc] 53 (0,0))):=fun X hX=>(hX.block _ (lt_of_block hM)).trans hM
 have en:Hid (∀X,Below W.heap.size W X->(ag t).In X (Jj sa sn sc) fp):=fun X hX=>(ab.below ap).below hX
 have HW:=zh hW
 have bv:Hid (Calls prog 54 #[.agg #[J Jq (ag t).k,J Jq (ag t).w,J Jq (ag t).h,J Jq (ag t).i,Jj sa sn sc]] W fun e w'=>∃u,e=Jz u/\dD w' W.heap.size u (aH l)/\Below W.heap.size W w'):=by
  refine (dF (ag t) bL.out.2.2.2 _ fp W (en.out W (Below.refl _ _))).mono ?_
  rintro e w' ⟨u,rfl,h1,h2⟩
  rw[bL.out.1] at h1
  exact⟨u,rfl,h1,h2⟩
 have pP:Hid ((ag t).w=t.box.w/\(ag t).h=t.box.h):=⟨bV t,bW t⟩
 obtain⟨nn,aR⟩:∃x,ag t=x:=⟨_,rfl⟩
 have fq:=zh aR
 rw[aR] at HX HW bv pP ⊢
 have fN:Hid (∀X,Below W.heap.size W X->X.cell? ⟨w1.heap.size,0,O⟩=I (J Jq nn.k)/\X.cell? ⟨w1.heap.size,1,O⟩=I (J Jq nn.w)/\X.cell? ⟨w1.heap.size,2,O⟩=I (J Jq nn.h)/\X.cell? ⟨w1.heap.size,3,O⟩=I (J Jq nn.i)/\X.cell? ⟨w1.heap.size,4,O⟩=I (Jj sa sn sc)):=fun X hX=>⟨ae (HX.out X hX) 0,ae (HX.out X hX) 1,ae (HX.out X hX) 2,ae (HX.out X hX) 3,ae (HX.out X hX) 4⟩
 unfold aC
 clear hb ab ap hM hW aR HT
 rcases pt with kb | ⟨kb,kb'⟩
 all_goals (
  go_upto_region 6 with fail
  rw[HW.out]
  obtain⟨m0,m1,m2,m3,m4⟩:=fN.out W (Below.refl _ _)
  go_wp2_with fail
  refine bv.out.mono ?_
  rintro e w2 ⟨u,rfl,hu,al⟩
  have zj:Hid (Calls prog 55 #[u,J Jq q] w2 fun e w'=>e=Jz (.bool false)/\w2=w'):=AG.out u _ w2 hu
  have aD:=zh al
  clear hu al bv AG m0 m1 m2 m3 m4
  go_wp2_with fail
  refine zj.out.mono ?_
  rintro e w9 ⟨rfl,rfl⟩
  have cQ:=zh (af bR.out aD.out)
  go_wp2
  all_goals go_ret2
  all_goals exact⟨_,rfl,World.ownsRow_nil _ _ _ _,cQ.out⟩)
theorem JO (v:Value)(l:List aj)(q k z id:Int)(bf:Bool)(w:World)(h:ay w v l){t:Tree}(hF:aT l=I t)(hk:k=2\/k=3)(hq:q∈aH l)(er:Int)(vB:jF l id=er)(h0:er≠0):Calls prog 26 #[v,J Jq q,J Jq k,J Jq z,.bool bf,J Jq id] w (dZ er [] w):=by
 have HT:=zh (dI v l w h hF)
 have ao:=jr hF
 have dq:=zh (aV hF)
 have bL:Hid ((ag t).ids=aH l/\1<=(aH l).length/\(aH l).length<=32/\(ag t).cnt<=1000):=⟨ao.1,ao.2.1,ao.2.2.1,ao.2.2.2.2⟩
 have wy:Hid (∀u B W,dD W B u (aH l)->Calls prog 56 #[u,J Jq id] W fun e w'=>e=Jz (J Jq er)/\W=w'):=fun u B W hu=>vB ▸ oP u l id B W hu ao.2.1 ao.2.2.1
 have AG:Hid (∀u B W,dD W B u (aH l)->Calls prog 55 #[u,J Jq q] W fun e w'=>e=Jz (.bool true)/\W=w'):=fun u B W hu=>by
  have:=iK u (aH l) B q W hu (by omega) (by intro h0;rw[h0] at ao;exact absurd ao.2.1 (by decide))
  rw[decide_eq_true hq] at this
  exact this
 have HK:=zh hk
 have pt:((k != 2)=false)\/((k != 2)=true/\(k != 3)=false):=by rcases hk with rfl | rfl <;> simp
 have E6:(er != 0)=true:=by simpa using h0
 clear h hF hk vB h0 ao hq
 go_enter func26,ntmps26
 go_wp2_with fail
 refine HT.out.mono ?_
 rintro e w1 ⟨sa,sn,sc,fp,rfl,ab,hb⟩
 obtain⟨W,hW⟩:∃W,w1.alloc (JZ #[J Jq (ag t).k,J Jq (ag t).w,J Jq (ag t).h,J Jq (ag t).i,Jj sa sn sc] 53)=W:=⟨_,rfl⟩
 have ap:Below w1.heap.size w1 W:=by rw[<- hW];exact (Below.refl _ _).alloc (Nat.le_refl _) _
 have bR:=zh (af hb ap)
 have hM:W.heap[w1.heap.size]?=I (JZ #[J Jq (ag t).k,J Jq (ag t).w,J Jq (ag t).h,J Jq (ag t).i,Jj sa sn sc] 53 (0,0)):=by rw[<- hW];exact heap_alloc_new _ _
 have HX:Hid (∀X,Below W.heap.size W X->X.heap[w1.heap.size]?=I (JZ #[J Jq (ag t).k,J Jq (ag t).w,J Jq (ag t).h,J Jq (ag t).i,Jj sa sn sc] 53 (0,0))):=fun X hX=>(hX.block _ (lt_of_block hM)).trans hM
 have en:Hid (∀X,Below W.heap.size W X->(ag t).In X (Jj sa sn sc) fp):=fun X hX=>(ab.below ap).below hX
 have HW:=zh hW
 have bv:Hid (Calls prog 54 #[.agg #[J Jq (ag t).k,J Jq (ag t).w,J Jq (ag t).h,J Jq (ag t).i,Jj sa sn sc]] W fun e w'=>∃u,e=Jz u/\dD w' W.heap.size u (aH l)/\Below W.heap.size W w'):=by
  refine (dF (ag t) bL.out.2.2.2 _ fp W (en.out W (Below.refl _ _))).mono ?_
  rintro e w' ⟨u,rfl,h1,h2⟩
  rw[bL.out.1] at h1
  exact⟨u,rfl,h1,h2⟩
 have pP:Hid ((ag t).w=t.box.w/\(ag t).h=t.box.h):=⟨bV t,bW t⟩
 obtain⟨nn,aR⟩:∃x,ag t=x:=⟨_,rfl⟩
 have fq:=zh aR
 rw[aR] at HX HW bv pP ⊢
 have fN:Hid (∀X,Below W.heap.size W X->X.cell? ⟨w1.heap.size,0,O⟩=I (J Jq nn.k)/\X.cell? ⟨w1.heap.size,1,O⟩=I (J Jq nn.w)/\X.cell? ⟨w1.heap.size,2,O⟩=I (J Jq nn.h)/\X.cell? ⟨w1.heap.size,3,O⟩=I (J Jq nn.i)/\X.cell? ⟨w1.heap.size,4,O⟩=I (Jj sa sn sc)):=fun X hX=>⟨ae (HX.out X hX) 0,ae (HX.out X hX) 1,ae (HX.out X hX) 2,ae (HX.out X hX) 3,ae (HX.out X hX) 4⟩
 unfold aC
 clear hb ab ap hM hW aR HT
 rcases pt with kb | ⟨kb,kb'⟩
 all_goals (
  go_upto_region 6 with fail
  rw[HW.out]
  obtain⟨m0,m1,m2,m3,m4⟩:=fN.out W (Below.refl _ _)
  go_wp2_with fail
  refine bv.out.mono ?_
  rintro e w2 ⟨u,rfl,hu,al⟩
  have zj:Hid (Calls prog 55 #[u,J Jq q] w2 fun e w'=>e=Jz (.bool true)/\w2=w'):=AG.out u _ w2 hu
  have oc:Hid (Calls prog 56 #[u,J Jq id] w2 fun e w'=>e=Jz (J Jq er)/\w2=w'):=wy.out u _ w2 hu
  have aD:=zh al
  clear hu al bv wy AG m0 m1 m2 m3 m4
  go_wp2_with fail
  refine zj.out.mono ?_
  rintro e w9 ⟨rfl,rfl⟩
  go_wp2_with fail
  refine oc.out.mono ?_
  rintro e w3 ⟨rfl,rfl⟩
  have cQ:=zh (af bR.out aD.out)
  go_wp2
  all_goals go_ret2
  all_goals exact⟨_,rfl,World.ownsRow_nil _ _ _ _,cQ.out⟩)
theorem OA (t:Tree)(hk:t.kinds):(ag t).ids=t.idl:=(jo t 0 hk).trans (lK t 0 hk).symm
theorem PG (t:Tree)(hk:t.kinds)(hs:t.sound=true):(ag t).ids≠[]:=fun e=>by
 have:=nH t hk hs
 rw[e] at this
 simp at this
theorem OB {W:World}{k wd ht i:Int}{ts:List Tree}{g L cap:Nat}{fp:List Nat}(hn:(Node.mk k wd ht i (nodesOf ts)).In W (Jj (I ⟨g,0,O⟩) L cap) fp)(hL:ts.length=L)(j:Nat)(t:Tree)(dr:ts[j]?=I t):∃sa sn sc f,(∀q∈f,q∈fp)/\∀X,Below W.heap.size W X->(ag t).In X (Jj sa sn sc) f/\kG X g (j*5) (ag t) (Jj sa sn sc):=by
 obtain⟨cs,fs,h1,h2,rfl⟩:=hn
 rw[ax,hL] at h1
 have pZ:j < L:=by rw[<- hL];exact (List.getElem?_eq_some_iff.1 dr).1
 obtain⟨sl2,f2,g1,g2,g3⟩:=h2.get j (ag t) (dS ts j t dr)
 have hcell:∀o,o < 5->W.cell? ⟨g,j*5+o,O⟩=(fQ (ag t) sl2)[o]?:=fun o ho=>by
  rw[World.ownsRow.cellAt h1 (j*5+o) (by omega),g3 o ho]
 obtain⟨ad,c,av⟩:=g1.sl
 subst av
 have hg:g < W.heap.size:=iD h1 g (by simp[Value.ownBlock])
 refine⟨ad,_,c,f2,fun q hq=>List.mem_append_right _ (g2 q hq),fun X hX=>⟨g1.below hX,?_⟩⟩
 have hc:∀o,X.cell? ⟨g,o,O⟩=W.cell? ⟨g,o,O⟩:=fun o=>hX.cell (p:=⟨g,o,O⟩) hg
 exact⟨(hc _).trans (hcell 0 (by omega)),(hc _).trans (hcell 1 (by omega)),(hc _).trans (hcell 2 (by omega)),(hc _).trans (hcell 3 (by omega)),(hc _).trans (hcell 4 (by omega))⟩
def MJ (bl:Box)(q:Int)(w:World)(e:Ending)(w':World):Prop:=∃sa sn sc,e=Jz (.agg #[J Jq 1,J Jq bl.w,J Jq bl.h,J Jq q,Jj sa sn sc])/\Below w.heap.size w w'
def Jn (q:Int)(bl:Box)(t:Tree):Prop:=∀sl fp w,(ag t).In w sl fp->Calls prog 58 #[.agg (aC (ag t) sl),J Jq q] w (MJ bl q w)
theorem Jo (q:Int)(bl:Box):Jn q bl (.leaf bl q):=by
 intro sl fp w ab
 obtain⟨ad,c,av⟩:=ab.sl
 subst av
 change Calls prog 58 #[.agg #[J Jq 1,J Jq bl.w,J Jq bl.h,J Jq q,Jj ad 0 c],J Jq q] w _
 obtain⟨W,hW⟩:∃W,(w.alloc (JZ #[J Jq 1,J Jq bl.w,J Jq bl.h,J Jq q,Jj ad 0 c] 53)).alloc (JZ #[J Jq 0,J Jq 0,J Jq 0,J Jq 0,Jj O 0 0] 53)=W:=⟨_,rfl⟩
 have HE:=zh hW
 obtain⟨ap,fi,bp,hblk⟩:=BF w (JZ #[J Jq 1,J Jq bl.w,J Jq bl.h,J Jq q,Jj ad 0 c] 53) (JZ #[J Jq 0,J Jq 0,J Jq 0,J Jq 0,Jj O 0 0] 53)
 rw[hW] at ap fi bp hblk
 have HF:Hid (∀v0 v1 v2 v3 v4,MJ bl q w (Jz (.agg #[J Jq 1,J Jq bl.w,J Jq bl.h,J Jq q,Jj ad 0 c])) (fB W (w.heap.size+1) v0 v1 v2 v3 v4)):=fun v0 v1 v2 v3 v4=>⟨ad,0,c,rfl,bC ap _ (by omega) _ _ _ _ _⟩
 have m0:W.cell? ⟨w.heap.size,0,O⟩=I (J Jq 1):=ae hblk 0
 have m1:W.cell? ⟨w.heap.size,1,O⟩=I (J Jq bl.w):=ae hblk 1
 have m2:W.cell? ⟨w.heap.size,2,O⟩=I (J Jq bl.h):=ae hblk 2
 have m3:W.cell? ⟨w.heap.size,3,O⟩=I (J Jq q):=ae hblk 3
 have m4:W.cell? ⟨w.heap.size,4,O⟩=I (Jj ad 0 c):=ae hblk 4
 have r0:W.cell? ⟨w.heap.size+1,0,O⟩=I (J Jq 0):=ae bp 0
 have r1:W.cell? ⟨w.heap.size+1,1,O⟩=I (J Jq 0):=ae bp 1
 have r2:W.cell? ⟨w.heap.size+1,2,O⟩=I (J Jq 0):=ae bp 2
 have r3:W.cell? ⟨w.heap.size+1,3,O⟩=I (J Jq 0):=ae bp 3
 have r4:W.cell? ⟨w.heap.size+1,4,O⟩=I (Jj O 0 0):=ae bp 4
 have f0:=ai bp 0
 have f1:=ai bp 1
 have f2:=ai bp 2
 have f3:=ai bp 3
 have f4:=ai bp 4
 clear ab hW ap fi bp hblk
 go_enter func58,ntmps58
 go_upto_region 1 with fail
 rw[HE.out]
 go_wp2
 exact bodyPost_ret (v:=.agg #[J Jq 1,J Jq bl.w,J Jq bl.h,J Jq q,Jj ad 0 c]) (by simp[results,results58,go_sem,r0,r1,r2,r3,r4]) rfl (HF.out _ _ _ _ _)
theorem Jp (q:Int)(b:Box)(k':Int)(ts:List Tree)(i:Nat)(s:Tree)(bl:Box)(hi:ts[i]?=I s)(hpre:∀(a:Nat) u,a < i->ts[a]?=I u->q ∉ u.idl)(hq:q∈s.idl)(hs:(Tree.split b k' ts).sound=true)(hk:(Tree.split b k' ts).kinds)(hz:(Tree.split b k' ts).size<=900)(IH:Jn q bl s):Jn q bl (.split b k' ts):=by
 intro sl fp w ab
 unfold Tree.sound at hs
 simp only[Bool.and_eq_true,decide_eq_true_eq] at hs
 change 1+sizes ts<=900 at hz
 have h2:=hs.1.1
 have gd:=aI ts
 have fo:=ab
 change (Node.mk k' b.w b.h 0 (nodesOf ts)).In w sl fp at ab
 obtain⟨g,cap0,av,hg,io⟩:=ab.kids (by intro e;have:=congrArg List.length e;rw[ax] at this;simp at this;rw[this] at h2;simp at h2)
 rw[ax] at av
 obtain⟨L,hL⟩:∃L,ts.length=L:=⟨_,rfl⟩
 rw[hL] at av h2 gd
 subst av
 have vQ:i < L:=by rw[<- hL];exact (List.getElem?_eq_some_iff.1 hi).1
 have De:L<=900:=by omega
 have kl:(k'==1)=false:=by
  have:=hk.1
  have:k'≠1:=by omega
  simpa using this
 obtain⟨W,hW⟩:∃W,(w.alloc (JZ #[J Jq k',J Jq b.w,J Jq b.h,J Jq 0,Jj (I ⟨g,0,O⟩) L cap0] 53)).alloc (.cells aU 53)=W:=⟨_,rfl⟩
 have ap:Below w.heap.size w W:=by rw[<- hW];exact ((Below.refl _ _).alloc (Nat.le_refl _) _).alloc (by simp) _
 have fi:W.heap.size=w.heap.size+2:=by rw[<- hW];simp
 have hP:W.heap[w.heap.size]?=I (JZ #[J Jq k',J Jq b.w,J Jq b.h,J Jq 0,Jj (I ⟨g,0,O⟩) L cap0] 53 (0,0)):=by
  rw[<- hW]
  exact (Below.heap_alloc _ _ _ (by simp)).trans (heap_alloc_new _ _)
 have hR:W.heap[w.heap.size+1]?=I (.cells aU 53 (0,0)):=by
  rw[<- hW]
  have h:=heap_alloc_new (w.alloc (JZ #[J Jq k',J Jq b.w,J Jq b.h,J Jq 0,Jj (I ⟨g,0,O⟩) L cap0] 53)) (.cells aU 53)
  rw[show (w.alloc (JZ #[J Jq k',J Jq b.w,J Jq b.h,J Jq 0,Jj (I ⟨g,0,O⟩) L cap0] 53)).heap.size=w.heap.size+1 by simp] at h
  exact h
 have cV:Hid (∀X,Below W.heap.size W X->X.heap[w.heap.size]?=I (JZ #[J Jq k',J Jq b.w,J Jq b.h,J Jq 0,Jj (I ⟨g,0,O⟩) L cap0] 53 (0,0))):=fun X hX=>(hX.block _ (by omega)).trans hP
 have ew:Hid (∀X,Below W.heap.size W X->X.heap[w.heap.size+1]?=I (.cells aU 53 (0,0))):=fun X hX=>(hX.block _ (by omega)).trans hR
 have ml:Hid (∀(j:Nat) t,ts[j]?=I t->∃sa sn sc f,(∀q∈f,q∈fp)/\∀X,Below W.heap.size W X->(ag t).In X (Jj sa sn sc) f/\kG X g (j*5) (ag t) (Jj sa sn sc)):=fun j t ht=>OB (ab.below ap) hL j t ht
 have bL:Hid (∀(j:Nat) t,ts[j]?=I t->(ag t).ids=t.idl/\t.idl.length<=1000/\t.idl≠[]/\(ag t).cnt<=1000):=fun j t ht=>by
  have ar:=aO ts b k' j t ht hs.2.1
  simp only[Bool.and_eq_true,decide_eq_true_eq] at ar
  have eB:=bF ts j t ht hk.2
  have cg:=bI ts j t ht
  have h1:=OA t eB
  have h3:=nI (ag t)
  rw[kC] at h3
  exact⟨h1,by rw[<- h1];omega,by rw[<- h1];exact PG t eB ar.1,by rw[kC];omega⟩
 have bR:=zh ap
 have pm:=zh fi
 have HW:=zh hW
 have HL:=zh hL
 have mo:=zh hpre
 have HQ:=zh hq
 have HI:=zh hi
 have eJ:=zh IH
 unfold aU at HW
 show Calls prog 58 #[.agg #[J Jq k',J Jq b.w,J Jq b.h,J Jq 0,Jj (I ⟨g,0,O⟩) L cap0],J Jq q] w _
 clear io ab fo ap fi hP hR hW hs hk hz gd hL hpre hq hi IH
 go_enter func58,ntmps58
 go_upto_region 1 with fail
 rw[HW.out]
 have p0:W.cell? ⟨w.heap.size,0,O⟩=I (J Jq k'):=ae (cV.out W (Below.refl _ _)) 0
 go_wp2_with fail
 clear p0
 go_loopw [5] (fun v wr=>∃j:Nat,j<=i/\v=J Jq j/\Hid (Below W.heap.size W wr)) (fun v _=>i-(intOf v).toNat)
 case atStart=>exact⟨0,Nat.zero_le _,rfl,Below.refl _ _⟩
 case round=>
  obtain⟨j,hj,rfl,bB⟩:=hrel
  obtain⟨t,ht⟩:∃t,ts[j]?=I t:=⟨_,List.getElem?_eq_getElem (by rw[HL.out];omega)⟩
  obtain⟨sa,sn,sc,f,hf,mq⟩:=ml.out j t ht
  obtain⟨e1,⟨q0,q1,q2,q3,q4⟩⟩:=mq wr bB.out
  obtain⟨i1,i2,i3,i4⟩:=bL.out j t ht
  have L0:j < L:=by omega
  have bv:Hid (Calls prog 54 #[.agg #[J Jq (ag t).k,J Jq (ag t).w,J Jq (ag t).h,J Jq (ag t).i,Jj sa sn sc]] wr fun e w'=>∃u,e=Jz u/\Below W.heap.size W w'/\Calls prog 55 #[u,J Jq q] w' fun e w''=>e=Jz (.bool (decide (q∈t.idl)))/\w'=w''):=by
   refine (dF (ag t) i4 _ f wr e1).mono ?_
   rintro e w' ⟨u,rfl,h1,h2⟩
   rw[i1] at h1
   exact⟨u,rfl,af bB.out h2,iK u t.idl _ q w' h1 i2 i3⟩
  have b4:wr.cell? ⟨w.heap.size,4,O⟩=I (Jj (I ⟨g,0,O⟩) L cap0):=ae (cV.out wr bB.out) 4
  have po:=zh mq
  have HT:=zh ht
  obtain⟨nn,aR⟩:∃x,ag t=x:=⟨_,rfl⟩
  have fq:=zh aR
  rw[aR] at q0 q1 q2 q3 bv
  clear e1 i1 i2 i3 i4 ht hf mq aR
  by_cases am:j < i
  . have HD:Hid (decide (q∈t.idl)=false):=decide_eq_false (mo.out j t am HT.out)
    rw[HD.out] at bv
    go_wp2_with fail
    refine bv.out.mono ?_
    rintro e w2 ⟨u,rfl,al,hh⟩
    have HH:=zh hh
    have aD:=zh al
    clear al hh bv q0 q1 q2 q3 q4 b4
    go_wp2_with fail
    refine HH.out.mono ?_
    rintro e w3 ⟨rfl,rfl⟩
    go_wp2
    go_roundw
    case rel=>exact⟨j+1,by omega,by go_num,aD⟩
    case measure=>simp[intOf];omega
  . have dl:j=i:=by omega
    subst dl
    have gn:t=s:=by
     have h1:=HT.out
     rw[HI.out] at h1
     exact (Option.some.inj h1).symm
    subst gn
    have HD:=zh (decide_eq_true HQ.out)
    rw[HD.out] at bv
    have ec:Hid (∀X,Below W.heap.size W X->Calls prog 58 #[.agg #[J Jq nn.k,J Jq nn.w,J Jq nn.h,J Jq nn.i,Jj sa sn sc],J Jq q] X fun e w'=>∃ta tn tc,e=Jz (.agg #[J Jq 1,J Jq bl.w,J Jq bl.h,J Jq q,Jj ta tn tc])/\Below W.heap.size W w'):=fun X hX=>by
     have h:=eJ.out _ f X (po.out X hX).1
     rw[fq.out] at h
     refine Calls.mono h ?_
     rintro e w' ⟨ta,tn,tc,rfl,h3⟩
     exact⟨ta,tn,tc,rfl,af hX h3⟩
    go_wp2_with fail
    refine bv.out.mono ?_
    rintro e w2 ⟨u,rfl,al,hh⟩
    have HH:=zh hh
    have aD:=zh al
    clear al hh bv q0 q1 q2 q3 q4 b4
    obtain⟨_,⟨q0,q1,q2,q3,q4⟩⟩:=po.out w2 aD.out
    rw[fq.out] at q0 q1 q2 q3
    have b4:w2.cell? ⟨w.heap.size,4,O⟩=I (Jj (I ⟨g,0,O⟩) L cap0):=ae (cV.out w2 aD.out) 4
    go_wp2_with fail
    refine HH.out.mono ?_
    rintro e w3 ⟨rfl,rfl⟩
    go_wp2_with fail
    refine (ec.out w2 aD.out).mono ?_
    rintro e w3 ⟨ta,tn,tc,rfl,aM⟩
    have HF:Hid (∀v0 v1 v2 v3 v4,MJ bl q w (Jz (.agg #[J Jq 1,J Jq bl.w,J Jq bl.h,J Jq q,Jj ta tn tc])) (fB w3 (w.heap.size+1) v0 v1 v2 v3 v4)):=fun v0 v1 v2 v3 v4=>⟨ta,tn,tc,rfl,bC (af bR.out aM) _ (by omega) _ _ _ _ _⟩
    have lj:=ew.out w3 aM
    have r0:w3.cell? ⟨w.heap.size+1,0,O⟩=I (J Jq 0):=ae lj 0
    have r1:w3.cell? ⟨w.heap.size+1,1,O⟩=I (J Jq 0):=ae lj 1
    have r2:w3.cell? ⟨w.heap.size+1,2,O⟩=I (J Jq 0):=ae lj 2
    have r3:w3.cell? ⟨w.heap.size+1,3,O⟩=I (J Jq 0):=ae lj 3
    have r4:w3.cell? ⟨w.heap.size+1,4,O⟩=I (Jj O 0 0):=ae lj 4
    have f0:=ai lj 0
    have f1:=ai lj 1
    have f2:=ai lj 2
    have f3:=ai lj 3
    have f4:=ai lj 4
    clear lj aM HH ec aD q0 q1 q2 q3 q4 b4
    go_wp2
    exact bodyPost_ret (v:=.agg #[J Jq 1,J Jq bl.w,J Jq bl.h,J Jq q,Jj ta tn tc]) (by simp[results,results58,go_sem,r0,r1,r2,r3,r4]) rfl (HF.out _ _ _ _ _)
theorem FU (q:Int)(bl:Box):∀(ps:List Nat) (t:Tree),t.sound=true->t.kinds->t.size<=900->t.idl.Nodup->t.path q=I ps->t.cO ps=I (.leaf bl q)->Jn q bl t
 | [],t,hs,hk,hz,hn,hp,aL=>by
   unfold Tree.cO at aL
   cases aL
   exact Jo q bl
 | i::ps,.leaf b p,hs,hk,hz,hn,hp,aL=>by
   unfold Tree.path at hp
   split at hp <;> cases hp
 | i::ps,.split b k ts,hs,hk,hz,hn,hp,aL=>by
   unfold Tree.path at hp
   obtain⟨i',s,ps',e,hi,k7⟩:=gG q ts 0 _ hp
   rw[Nat.zero_add] at e
   cases e
   unfold Tree.idl at hn
   have pf:=hs
   unfold Tree.sound at hs
   simp only[Bool.and_eq_true,decide_eq_true_eq] at hs
   have E9:q∈s.idl:=Classical.byContradiction fun h=>by rw[(dR s q).2 h] at k7;cases k7
   have ar:=aO ts b k i s hi hs.2.1
   simp only[Bool.and_eq_true,decide_eq_true_eq] at ar
   have dj:=bF ts i s hi hk.2
   have Ao:=bI ts i s hi
   have Kb:1+sizes ts<=900:=hz
   have Bp:s.cO ps=I (.leaf bl q):=by
    unfold Tree.cO at aL
    rw[hi] at aL
    exact aL
   exact Jp q b k ts i s bl hi (fun a u ha hu=>mi q ts hn i a s u hi hu (by omega) E9) E9 pf hk hz (FU q bl ps s ar.1 dj (by omega) (mr ts hn i s hi) k7 Bp)
theorem MH (q k z id:Int)(bf:Bool)(bl:Box)(n:Int)(hk:k=2\/k=3)(h3:3<=bl.ext k)(hn:n=min (gZ z (bl.ext k)) (bl.ext k-2))(hC:Ei q k n id bf bl)(pd:(Tree.leaf bl q).sound=true):Oe q k z id bf (.leaf bl q) (yZ q k n id bf bl):=by
 intro sl fp w ab
 obtain⟨ad,c,av⟩:=ab.sl
 subst av
 change Calls prog 59 #[.agg #[J Jq 1,J Jq bl.w,J Jq bl.h,J Jq q,Jj ad 0 c],J Jq q,J Jq k,J Jq z,.bool bf,J Jq id] w _
 have ar:=(Tree.leaf bl q).aF pd
 change (1<=bl.w/\bl.w<=1000)/\(1<=bl.h/\bl.h<=1000) at ar
 have tO:=df bl k ar
 have du:1<=n/\n<=bl.ext k-2:=by
  rw[hn]
  unfold gZ dM
  split <;> omega
 have hA:(bl.str k (-n-1)).w=(if k=2 then bl.ext k-1-n else bl.w)/\(bl.str k (-n-1)).h=(if k=2 then bl.h else bl.ext k-1-n):=by
  rcases hk with rfl | rfl <;> simp[Box.str,Box.ext] <;> omega
 have hB:(bl.with k n).w=(if k=2 then n else bl.w)/\(bl.with k n).h=(if k=2 then bl.h else n):=by
  rcases hk with rfl | rfl <;> simp[Box.with,Box.str,Box.ext] <;> omega
 have Q2:=MI (q:=q) (id:=id) hk hC pd du
 rw[hA.1,hA.2,hB.1,hB.2] at Q2
 obtain⟨E,hE⟩:∃x,bl.ext k=x:=⟨_,rfl⟩
 rw[hE] at Q2 hn du tO h3
 have ff:Hid (∀X,Calls prog 57 #[.agg #[J Jq 1,J Jq bl.w,J Jq bl.h,J Jq q,Jj ad 0 c],J Jq k] X fun e w'=>e=Jz (J Jq E)/\Below X.heap.size X w'):=fun X=>by
  have:=eQ (.mk 1 bl.w bl.h q []) ad 0 c k X
  rw[<- hE]
  exact this
 obtain⟨fw,Q6⟩:∃f:Int->Int,∀m,(if k=2 then m else bl.w)=f m:=⟨_,fun _=>rfl⟩
 obtain⟨fh,Q9⟩:∃f:Int->Int,∀m,(if k=2 then bl.h else m)=f m:=⟨_,fun _=>rfl⟩
 have fg:Hid (∀i m X,Calls prog 61 #[.agg #[J Jq 1,J Jq bl.w,J Jq bl.h,J Jq q,Jj ad 0 c],J Jq i,J Jq k,J Jq m] X fun e w'=>e=Jz (.agg #[J Jq 1,J Jq (fw m),J Jq (fh m),J Jq i,Jj O 0 0])/\Below X.heap.size X w'):=fun i m X=>by
  have:=oI (.mk 1 bl.w bl.h q []) ad 0 c i k m hk X
  rw[<- Q6 m,<- Q9 m]
  exact this
 rw[Q6 (E-1-n),Q9 (E-1-n),Q6 n,Q9 n] at Q2
 have kr:IntKind.i64.wrap (E-1)=E-1:=by rw[IntKind.wrap_i64];omega
 have hq:(E-1).tdiv 2=dM E:=by unfold dM;rw[Int.tdiv_eq_ediv_of_nonneg (by omega)]
 have rj:IntKind.i64.wrap (dM E)=dM E:=by rw[IntKind.wrap_i64];unfold dM;omega
 have FS:IntKind.i64.wrap (E-2)=E-2:=by rw[IntKind.wrap_i64];omega
 have Yo:IntKind.i64.wrap (E-1-n)=E-1-n:=by rw[IntKind.wrap_i64];omega
 obtain⟨T,hT⟩:∃T,yZ q k n id bf bl=T:=⟨_,rfl⟩
 rw[hT] at Q2 ⊢
 have am:=ab.lt
 have nv:Hid (∀o1 o2,Below w.heap.size w ((w.alloc o1).alloc o2)/\((w.alloc o1).alloc o2).heap.size=w.heap.size+2):=fun o1 o2=>⟨((Below.refl _ _).alloc (Nat.le_refl _) o1).alloc (by simp) o2,by simp⟩
 obtain⟨W,hW⟩:∃W,(w.alloc (JZ #[J Jq 1,J Jq bl.w,J Jq bl.h,J Jq q,Jj ad 0 c] 53)).alloc (JZ #[J Jq 0,J Jq 0,J Jq 0,J Jq 0,Jj O 0 0] 53)=W:=⟨_,rfl⟩
 have HE:=zh hW
 have HB:Hid (Below w.heap.size w W/\W.heap.size=w.heap.size+2/\W.heap[w.heap.size+1]?=I (JZ #[J Jq 0,J Jq 0,J Jq 0,J Jq 0,Jj O 0 0] 53 (0,0))/\W.heap[w.heap.size]?=I (JZ #[J Jq 1,J Jq bl.w,J Jq bl.h,J Jq q,Jj ad 0 c] 53 (0,0))):=by
  rw[<- hW]
  obtain⟨O1,rk⟩:∃o,Obj.cells #[J Jq 1,J Jq bl.w,J Jq bl.h,J Jq q,Jj ad 0 c] 53=o:=⟨_,rfl⟩
  obtain⟨O2,nB⟩:∃o,Obj.cells #[J Jq 0,J Jq 0,J Jq 0,J Jq 0,Jj O 0 0] 53=o:=⟨_,rfl⟩
  have s1:(w.alloc O1).heap.size=w.heap.size+1:=by simp
  show Below _ _ _/\_/\_/\_
  rw[rk,nB]
  refine⟨((Below.refl _ _).alloc (Nat.le_refl _) O1).alloc (by omega) O2,by simp,?_,?_⟩
  . have:=heap_alloc_new (w.alloc O1) O2
    rw[s1] at this
    rw[this]
  . exact (Below.heap_alloc _ _ _ (by omega)).trans (heap_alloc_new _ _)
 have Kf:Hid (∀X,Below W.heap.size W X->X.cell? ⟨w.heap.size,0,O⟩=I (J Jq 1)/\X.cell? ⟨w.heap.size,1,O⟩=I (J Jq bl.w)/\X.cell? ⟨w.heap.size,2,O⟩=I (J Jq bl.h)/\X.cell? ⟨w.heap.size,3,O⟩=I (J Jq q)/\X.cell? ⟨w.heap.size,4,O⟩=I (Jj ad 0 c)):=fun X hX=>by
  have h:=(hX.block w.heap.size (by have:=HB.out.2.1;omega)).trans HB.out.2.2.2
  exact⟨ae h 0,ae h 1,ae h 2,ae h 3,ae h 4⟩
 have ow:Hid (∀X,Below W.heap.size W X->X.heap[w.heap.size+1]?=I (JZ #[J Jq 0,J Jq 0,J Jq 0,J Jq 0,Jj O 0 0] 53 (0,0))):=fun X hX=>(hX.block (w.heap.size+1) (by have:=HB.out.2.1;omega)).trans HB.out.2.2.1
 have Yp:Hid (∀X,Below W.heap.size W X->Calls prog 62 #[J Jq k,.agg #[J Jq 1,J Jq (fw (E-1-n)),J Jq (fh (E-1-n)),J Jq q,Jj O 0 0],.agg #[J Jq 1,J Jq (fw n),J Jq (fh n),J Jq id,Jj O 0 0],.bool bf] X fun e Y=>∃(nr:Node),∃ta tn tc,e=Jz (.agg #[J Jq nr.k,J Jq nr.w,J Jq nr.h,J Jq nr.i,Jj ta tn tc])/\Below W.heap.size W Y/\∀v0 v1 v2 v3 v4,uD T fp w (Jz (.agg #[J Jq nr.k,J Jq nr.w,J Jq nr.h,J Jq nr.i,Jj ta tn tc])) (fB Y (w.heap.size+1) v0 v1 v2 v3 v4)):=fun X hX=>by
  refine (Q2 X).mono ?_
  rintro e Y ⟨ta,tn,tc,f',rfl,h1,h2,h3⟩
  have hY:=af hX h3
  refine⟨ag T,ta,tn,tc,rfl,hY,fun v0 v1 v2 v3 v4=> ?_⟩
  have be:∀y∈f',X.heap.size<=y:=fun y hy=>by
   rcases h2 y hy with h | h
   . cases h
   . exact h
  have hXs:=hX.size
  have fi:=HB.out.2.1
  refine⟨ta,tn,tc,f',rfl,h1.keep fun y hy=>fD _ _ _ _ _ _ _ y (by have:=be y hy;omega),fun y hy=>.inr (by have:=be y hy;omega),bC (af HB.out.1 hY) _ (by omega) _ _ _ _ _⟩
 have Ra:(z < 1/\dM E=n)\/(¬z < 1/\min z (E-2)=n):=by
  unfold gZ at hn
  by_cases hz:z < 1
  . rw[if_pos hz] at hn
    refine .inl ⟨hz,?_⟩
    unfold dM at hn ⊢
    omega
  . rw[if_neg hz] at hn
    exact .inr ⟨hz,hn.symm⟩
 have HZ:=zh Ra
 clear Ra ab am hn du Q2 tO ar h3 hA hB hC pd hE Q6 Q9 hT hW hk nv
 go_enter func59,ntmps59
 go_upto_region 1 with fail
 rw[HE.out]
 obtain⟨m0,m1,m2,m3,m4⟩:=Kf.out W (Below.refl _ _)
 go_wp2_with fail
 refine (ff.out _).mono ?_
 rintro e w1 ⟨rfl,bj⟩
 have cY:=zh bj
 clear bj m0 m1 m2 m3 m4 ff
 obtain⟨m0,m1,m2,m3,m4⟩:=Kf.out w1 cY.out
 have e8:=jW cY.out
 rcases HZ.out with ⟨hz,VQ⟩ | ⟨hz,VQ⟩
 . have Kb:¬ 1<=z:=by omega
   rw[VQ] at hq rj
   go_wp2_with fail
   go_region_held3 (fun X=>X.cell? ⟨w.heap.size,0,O⟩=I (J Jq 1)/\X.cell? ⟨w.heap.size,1,O⟩=I (J Jq bl.w)/\X.cell? ⟨w.heap.size,2,O⟩=I (J Jq bl.h)/\X.cell? ⟨w.heap.size,3,O⟩=I (J Jq q)/\X.cell? ⟨w.heap.size,4,O⟩=I (Jj ad 0 c)) (go_keep) (first
    | (go_at_call 61;refine (fg.out _ _ _).mono ?_;rintro e wS ⟨rfl,Sf⟩;have Av:Hid (Below W.heap.size W wS):=af (by first | exact e8.out | exact e8.out.drew) Sf;clear Sf;clear e8;have e8:=jW Av.out;clear Av;obtain⟨m0,m1,m2,m3,m4⟩:=Kf.out wS e8.out)
    | (go_at_call 62;refine (Yp.out _ (by first | exact e8.out | exact e8.out.drew)).mono ?_;rintro e Y ⟨nr,ta,tn,tc,rfl,b7,hF⟩;have HF:=jW hF;have eS:=jW b7;have r0:Y.cell? ⟨w.heap.size+1,0,O⟩=I (J Jq 0):=ae (ow.out Y b7) 0;have f0:=ai (ow.out Y b7) 0;have r1:Y.cell? ⟨w.heap.size+1,1,O⟩=I (J Jq 0):=ae (ow.out Y b7) 1;have f1:=ai (ow.out Y b7) 1;have r2:Y.cell? ⟨w.heap.size+1,2,O⟩=I (J Jq 0):=ae (ow.out Y b7) 2;have f2:=ai (ow.out Y b7) 2;have r3:Y.cell? ⟨w.heap.size+1,3,O⟩=I (J Jq 0):=ae (ow.out Y b7) 3;have f3:=ai (ow.out Y b7) 3;have r4:Y.cell? ⟨w.heap.size+1,4,O⟩=I (Jj O 0 0):=ae (ow.out Y b7) 4;have f4:=ai (ow.out Y b7) 4;obtain⟨m0,m1,m2,m3,m4⟩:=Kf.out Y b7;clear hF b7))
   all_goals (
    go_wp2
    exact bodyPost_ret (v:=.agg #[J Jq nr.k,J Jq nr.w,J Jq nr.h,J Jq nr.i,Jj ta tn tc]) (by simp[results,results59,go_sem,r0,r1,r2,r3,r4]) rfl (HF.out _ _ _ _ _))
 . have Kb:1<=z:=by omega
   go_wp2_with fail
   go_region_held3 (fun X=>X.cell? ⟨w.heap.size,0,O⟩=I (J Jq 1)/\X.cell? ⟨w.heap.size,1,O⟩=I (J Jq bl.w)/\X.cell? ⟨w.heap.size,2,O⟩=I (J Jq bl.h)/\X.cell? ⟨w.heap.size,3,O⟩=I (J Jq q)/\X.cell? ⟨w.heap.size,4,O⟩=I (Jj ad 0 c)) (go_keep) (first
    | (go_at_call 61;refine (fg.out _ _ _).mono ?_;rintro e wS ⟨rfl,Sf⟩;have Av:Hid (Below W.heap.size W wS):=af (by first | exact e8.out | exact e8.out.drew) Sf;clear Sf;clear e8;have e8:=jW Av.out;clear Av;obtain⟨m0,m1,m2,m3,m4⟩:=Kf.out wS e8.out)
    | (go_at_call 62;refine (Yp.out _ (by first | exact e8.out | exact e8.out.drew)).mono ?_;rintro e Y ⟨nr,ta,tn,tc,rfl,b7,hF⟩;have HF:=jW hF;have eS:=jW b7;have r0:Y.cell? ⟨w.heap.size+1,0,O⟩=I (J Jq 0):=ae (ow.out Y b7) 0;have f0:=ai (ow.out Y b7) 0;have r1:Y.cell? ⟨w.heap.size+1,1,O⟩=I (J Jq 0):=ae (ow.out Y b7) 1;have f1:=ai (ow.out Y b7) 1;have r2:Y.cell? ⟨w.heap.size+1,2,O⟩=I (J Jq 0):=ae (ow.out Y b7) 2;have f2:=ai (ow.out Y b7) 2;have r3:Y.cell? ⟨w.heap.size+1,3,O⟩=I (J Jq 0):=ae (ow.out Y b7) 3;have f3:=ai (ow.out Y b7) 3;have r4:Y.cell? ⟨w.heap.size+1,4,O⟩=I (Jj O 0 0):=ae (ow.out Y b7) 4;have f4:=ai (ow.out Y b7) 4;obtain⟨m0,m1,m2,m3,m4⟩:=Kf.out Y b7;clear hF b7))
   all_goals (
    go_wp2
    exact bodyPost_ret (v:=.agg #[J Jq nr.k,J Jq nr.w,J Jq nr.h,J Jq nr.i,Jj ta tn tc]) (by simp[results,results59,go_sem,r0,r1,r2,r3,r4]) rfl (HF.out _ _ _ _ _))
theorem Ej (q k z id:Int)(bf:Bool)(bl:Box)(n:Int)(hk:k=2\/k=3)(h3:3<=bl.ext k)(hn:n=min (gZ z (bl.ext k)) (bl.ext k-2))(hC:Ei q k n id bf bl)(pd:(Tree.leaf bl q).sound=true):∀(N:Nat) (t:Tree),t.size<=N->t.size<=100->t.sound=true->t.kinds->∀t',Oz q (yZ q k n id bf) bl t t'->Oe q k z id bf t t'
 | 0,t,hN,_,_,_,_,_=>by
   have:=t.kK
   omega
 | N+1,.leaf b p,hN,hz,hs,io,t',hS=>by
   cases hS with
   | keep _ hq=>exact Jl q k z id bf b p (fun e=>hq (by simp[Tree.idl,e]))
   | here=>exact MH q k z id bf bl n hk h3 hn hC pd
 | N+1,.split b k' ts,hN,hz,hs,io,t',hS=>by
   have pf:=hs
   unfold Tree.sound at hs
   simp only[Bool.and_eq_true,decide_eq_true_eq] at hs
   have hN':1+sizes ts<=N+1:=hN
   have Kb:1+sizes ts<=100:=hz
   have ox:∀rs:List Tree,sizes rs<=200->∀j,(gQ k' (rs.take j)).length<=1000:=fun rs hr j=>by
    have h1:=aI (gQ k' (rs.take j))
    have h3:=qH k' (rs.take j)
    have h4:sizes (rs.take j)<=sizes rs:=by
     conv=>rhs;rw[<- List.take_append_drop j rs]
     rw[dw]
     omega
    omega
   have yq:∀rs:List Tree,sizes rs<=200->∀r∈rs,(ag r).ks.length<=1000:=fun rs hr r bE=>by
    obtain⟨j,hj⟩:=List.getElem?_of_mem bE
    have h1:=bI rs j r hj
    have:=wQ r (by omega)
    omega
   have jp:∀(j:Nat) t,ts[j]?=I t->q ∉ t.idl->Oe q k z id bf t t:=fun j t hj hq=>by
    have ar:=aO ts b k' j t hj hs.2.1
    simp only[Bool.and_eq_true] at ar
    have eB:=bF ts j t hj io.2
    have Yq:=bI ts j t hj
    exact Ej q k z id bf bl n hk h3 hn hC pd N t (by omega) (by omega) ar.1 eB t (.keep t hq)
   cases hS with
   | keep _ hq=>
     have Dd:q ∉ kF ts:=hq
     have h:=FT q k z id bf b k' ts ts pf io hz rfl (ox ts (by omega)) (yq ts (by omega)) (fun j t r hj hr=>by
      rw[hj] at hr
      cases hr
      exact jp j t hj fun h=>Dd (oJ q ts j t hj h))
     rw[lM b k' ts hs.2.1] at h
     exact h
   | deep _ _ _ i s s' hi Sg nj=>
     have ar:=aO ts b k' i s hi hs.2.1
     simp only[Bool.and_eq_true,decide_eq_true_eq,Bool.not_eq_true'] at ar
     have dj:=bF ts i s hi io.2
     have Ao:=bI ts i s hi
     have am:=(List.getElem?_eq_some_iff.1 hi).1
     have hsz:=Jm q (yZ q k n id bf) bl hC.size Sg
     have cF:=wR s s' ts i hi
     have li:gQ k' (ts.set i s')=dK k' ts i s':=by
      have ke:=hs.2.1
      rw[uC hi,dV] at ke
      simp only[Bool.and_eq_true] at ke
      have Dg:=ke.2
      unfold au at Dg
      simp only[Bool.and_eq_true] at Dg
      rw[List.set_eq_take_append_cons_drop,if_pos am,uG,lM b k' _ ke.1]
      show ts.take i++(iw k' s'++gQ k' (ts.drop (i+1)))=dK k' ts i s'
      rw[lM b k' _ Dg.2]
      rfl
     have h:=FT q k z id bf b k' ts (ts.set i s') pf io hz (by rw[List.length_set]) (ox _ (by omega)) (yq _ (by omega)) (fun j t r hj hr=>by
      by_cases dl:j=i
      . subst dl
        rw[hi] at hj
        cases hj
        rw[List.getElem?_set_self am] at hr
        cases hr
        exact Ej q k z id bf bl n hk h3 hn hC pd N s (by omega) (by omega) ar.1 dj s' Sg
      . rw[List.getElem?_set_ne (Ne.symm dl)] at hr
        rw[hj] at hr
        cases hr
        exact jp j t hj (nj j t dl hj))
     rw[li] at h
     exact h
theorem DD (v:Value)(l:List aj)(q k z id:Int)(bf:Bool)(w:World)(h:ay w v l){t:Tree}(hF:aT l=I t)(hk:k=2\/k=3)(hq:q∈aH l)(hj:jF l id=0){ps:List Nat}{bl:Box}(hp:t.path q=I ps)(aL:t.cO ps=I (.leaf bl q))(er:Int)(r:List aj)(kh:(bl.ext k < 3/\er=44/\r=[])\/(3<=bl.ext k/\er=0/\∃t',r=cZ t'/\t'.sound=true/\t'.kinds/\t'.size<=200/\Oe q k z id bf t t')):Calls prog 26 #[v,J Jq q,J Jq k,J Jq z,.bool bf,J Jq id] w (dZ er r w):=by
 have HT:=zh (dI v l w h hF)
 have ao:=jr hF
 have dq:=zh (aV hF)
 have bL:Hid ((ag t).ids=aH l/\1<=(aH l).length/\(aH l).length<=32/\(ag t).cnt<=1000):=⟨ao.1,ao.2.1,ao.2.2.1,ao.2.2.2.2⟩
 have wy:Hid (∀u B W,dD W B u (aH l)->Calls prog 56 #[u,J Jq id] W fun e w'=>e=Jz (J Jq 0)/\W=w'):=fun u B W hu=>hj ▸ oP u l id B W hu ao.2.1 ao.2.2.1
 have AG:Hid (∀u B W,dD W B u (aH l)->Calls prog 55 #[u,J Jq q] W fun e w'=>e=Jz (.bool true)/\W=w'):=fun u B W hu=>by
  have:=iK u (aH l) B q W hu (by omega) (by intro h0;rw[h0] at ao;exact absurd ao.2.1 (by decide))
  rw[decide_eq_true hq] at this
  exact this
 have HK:=zh hk
 have pt:((k != 2)=false)\/((k != 2)=true/\(k != 3)=false):=by rcases hk with rfl | rfl <;> simp
 have ZA:Jn q bl t:=FU q bl ps t dq.out.sound dq.out.kinds (by have:=lay_size dq.out;omega) (by rw[lK t 0 dq.out.kinds,dq.out.tell];exact ao.2.2.2.1) hp aL
 obtain⟨E,hE⟩:∃x,bl.ext k=x:=⟨_,rfl⟩
 rw[hE] at kh
 have ff:Hid (∀sa sn sc X,Calls prog 57 #[.agg #[J Jq 1,J Jq bl.w,J Jq bl.h,J Jq q,Jj sa sn sc],J Jq k] X fun e w'=>e=Jz (J Jq E)/\Below X.heap.size X w'):=fun sa sn sc X=>by
  have:=eQ (.mk 1 bl.w bl.h q []) sa sn sc k X
  rw[<- hE]
  exact this
 have GA:=zh kh
 have ZB:=zh ZA
 clear h hF hk ao hq hj hp aL kh hE ZA
 go_enter func26,ntmps26
 go_wp2_with fail
 refine HT.out.mono ?_
 rintro e w1 ⟨sa,sn,sc,fp,rfl,ab,hb⟩
 obtain⟨W,hW⟩:∃W,w1.alloc (JZ #[J Jq (ag t).k,J Jq (ag t).w,J Jq (ag t).h,J Jq (ag t).i,Jj sa sn sc] 53)=W:=⟨_,rfl⟩
 have ap:Below w1.heap.size w1 W:=by rw[<- hW];exact (Below.refl _ _).alloc (Nat.le_refl _) _
 have bR:=zh (af hb ap)
 have hM:W.heap[w1.heap.size]?=I (JZ #[J Jq (ag t).k,J Jq (ag t).w,J Jq (ag t).h,J Jq (ag t).i,Jj sa sn sc] 53 (0,0)):=by rw[<- hW];exact heap_alloc_new _ _
 have HX:Hid (∀X,Below W.heap.size W X->X.heap[w1.heap.size]?=I (JZ #[J Jq (ag t).k,J Jq (ag t).w,J Jq (ag t).h,J Jq (ag t).i,Jj sa sn sc] 53 (0,0))):=fun X hX=>(hX.block _ (lt_of_block hM)).trans hM
 have en:Hid (∀X,Below W.heap.size W X->(ag t).In X (Jj sa sn sc) fp):=fun X hX=>(ab.below ap).below hX
 have HW:=zh hW
 have bv:Hid (Calls prog 54 #[.agg #[J Jq (ag t).k,J Jq (ag t).w,J Jq (ag t).h,J Jq (ag t).i,Jj sa sn sc]] W fun e w'=>∃u,e=Jz u/\dD w' W.heap.size u (aH l)/\Below W.heap.size W w'):=by
  refine (dF (ag t) bL.out.2.2.2 _ fp W (en.out W (Below.refl _ _))).mono ?_
  rintro e w' ⟨u,rfl,h1,h2⟩
  rw[bL.out.1] at h1
  exact⟨u,rfl,h1,h2⟩
 have SL:Hid (∀X,Below W.heap.size W X->Calls prog 58 #[.agg #[J Jq (ag t).k,J Jq (ag t).w,J Jq (ag t).h,J Jq (ag t).i,Jj sa sn sc],J Jq q] X (MJ bl q X)):=fun X hX=>ZB.out _ fp X (en.out X hX)
 have Ms:Hid (∀t' X,Oe q k z id bf t t'->t'.sound=true->t'.kinds->t'.size<=200->Below W.heap.size W X->Calls prog 59 #[.agg #[J Jq (ag t).k,J Jq (ag t).w,J Jq (ag t).h,J Jq (ag t).i,Jj sa sn sc],J Jq q,J Jq k,J Jq z,.bool bf,J Jq id] X fun e w'=>∃(nr:Node),∃ua un uc,e=Jz (.agg #[J Jq nr.k,J Jq nr.w,J Jq nr.h,J Jq nr.i,Jj ua un uc])/\Below w.heap.size w w'/\Calls prog 16 #[.agg #[J Jq nr.k,J Jq nr.w,J Jq nr.h,J Jq nr.i,Jj ua un uc]] w' fun e w''=>∃u,e=Jz u/\az w'' w.heap.size u (cZ t')/\Below w.heap.size w w''):=fun t' X hS h1 h2 h3 hX=>by
  refine (hS _ fp X (en.out X hX)).mono ?_
  rintro e w' ⟨ua,un,uc,f',he,Rh,_,cC⟩
  have D3:Below w.heap.size w w':=af (af bR.out hX) cC
  refine⟨ag t',ua,un,uc,he,D3,(iW h1 h2 h3 Rh).mono ?_⟩
  rintro e w'' ⟨u,rfl,hu,Mt⟩
  exact⟨u,rfl,hu.lower D3.size,af D3 Mt⟩
 have pP:Hid ((ag t).w=t.box.w/\(ag t).h=t.box.h):=⟨bV t,bW t⟩
 obtain⟨nn,aR⟩:∃x,ag t=x:=⟨_,rfl⟩
 have fq:=zh aR
 rw[aR] at HX HW bv pP SL Ms ⊢
 have fN:Hid (∀X,Below W.heap.size W X->X.cell? ⟨w1.heap.size,0,O⟩=I (J Jq nn.k)/\X.cell? ⟨w1.heap.size,1,O⟩=I (J Jq nn.w)/\X.cell? ⟨w1.heap.size,2,O⟩=I (J Jq nn.h)/\X.cell? ⟨w1.heap.size,3,O⟩=I (J Jq nn.i)/\X.cell? ⟨w1.heap.size,4,O⟩=I (Jj sa sn sc)):=fun X hX=>⟨ae (HX.out X hX) 0,ae (HX.out X hX) 1,ae (HX.out X hX) 2,ae (HX.out X hX) 3,ae (HX.out X hX) 4⟩
 unfold aC
 clear hb ab ap hM hW aR HT
 rcases pt with kb | ⟨kb,kb'⟩
 all_goals (
  go_upto_region 6 with fail
  rw[HW.out]
  obtain⟨m0,m1,m2,m3,m4⟩:=fN.out W (Below.refl _ _)
  go_wp2_with fail
  refine bv.out.mono ?_
  rintro e w2 ⟨u,rfl,hu,al⟩
  have zj:Hid (Calls prog 55 #[u,J Jq q] w2 fun e w'=>e=Jz (.bool true)/\w2=w'):=AG.out u _ w2 hu
  have oc:Hid (Calls prog 56 #[u,J Jq id] w2 fun e w'=>e=Jz (J Jq 0)/\w2=w'):=wy.out u _ w2 hu
  have aD:=zh al
  clear hu al bv wy AG m0 m1 m2 m3 m4
  go_wp2_with fail
  refine zj.out.mono ?_
  rintro e w9 ⟨rfl,rfl⟩
  go_wp2_with fail
  refine oc.out.mono ?_
  rintro e w3 ⟨rfl,rfl⟩
  have cQ:=zh (af bR.out aD.out)
  have TX:=jW (SL.out w2 aD.out)
  obtain⟨m0,m1,m2,m3,m4⟩:=fN.out w2 aD.out
  clear zj oc SL ZB
  go_wp2_with fail
  refine TX.out.mono ?_
  rintro e w4 ⟨ca,cn,cc,rfl,cv⟩
  have gr:=zh (af aD.out cv)
  clear cv TX m0 m1 m2 m3 m4
  go_wp2_with fail
  refine (ff.out _ _ _ _).mono ?_
  rintro e w5 ⟨rfl,cd⟩
  have fY:=zh (af gr.out cd)
  clear cd ff gr
  rcases GA.out with ⟨h1,rfl,rfl⟩ | ⟨h1,rfl,t',rfl,h3,h4,h5,h6⟩
  . have HZ:Hid (Below w.heap.size w w5):=af bR.out fY.out
    go_wp2
    go_ret2
    exact⟨_,rfl,World.ownsRow_nil _ _ _ _,HZ.out⟩
  . have HE:=jW (Ms.out t' w5 h6 h3 h4 h5 fY.out)
    have h1':¬E < 3:=by omega
    obtain⟨m0,m1,m2,m3,m4⟩:=fN.out w5 fY.out
    clear h1 h3 h4 h5 h6 Ms GA
    go_wp2_with fail
    refine HE.out.mono ?_
    rintro e w6 ⟨nr,xa,xn,xc,rfl,eM,hL⟩
    have HL:=jW hL
    clear m0 m1 m2 m3 m4 hL eM HE
    go_wp2_with fail
    refine HL.out.mono ?_
    rintro e w7 ⟨u,rfl,hu,j7⟩
    have HZ:Hid (az w7 w.heap.size u (cZ t')/\Below w.heap.size w w7):=⟨hu,j7⟩
    clear hu j7 HL
    go_wp2
    go_ret2
    exact⟨_,rfl,HZ.out.1,HZ.out.2⟩)
theorem EG (set:Bool)(n k q:Int)(b:Box)(k':Int)(ts:List Tree)(i:Nat)(s s':Tree)(mv:Int)(hi:ts[i]?=I s)(hpre:∀(a:Nat) u,a < i->ts[a]?=I u->q ∉ u.idl)(hq:q∈s.idl)(hs:(Tree.split b k' ts).sound=true)(hk:(Tree.split b k' ts).kinds)(hz:(Tree.split b k' ts).size<=900)(IH:lm set n k q s s' mv true):lm set n k q (.split b k' ts) (.split b k' (ts.set i s')) mv true:=by
 intro sl fp w ab
 unfold Tree.sound at hs
 simp only[Bool.and_eq_true,decide_eq_true_eq] at hs
 change 1+sizes ts<=900 at hz
 have h2:=hs.1.1
 have gd:=aI ts
 have fo:=ab
 change (Node.mk k' b.w b.h 0 (nodesOf ts)).In w sl fp at ab
 obtain⟨g,cap0,av,hg,io⟩:=ab.kids (by intro e;have:=congrArg List.length e;rw[ax] at this;simp at this;rw[this] at h2;simp at h2)
 rw[ax] at av
 obtain⟨L,hL⟩:∃L,ts.length=L:=⟨_,rfl⟩
 rw[hL] at av h2 gd
 subst av
 have vQ:i < L:=by rw[<- hL];exact (List.getElem?_eq_some_iff.1 hi).1
 have De:L<=900:=by omega
 have gR:=zh ab.lt
 obtain⟨W,hW⟩:∃W,(w.alloc (JZ #[J Jq k',J Jq b.w,J Jq b.h,J Jq 0,Jj (I ⟨g,0,O⟩) L cap0] 53)).alloc (.cells aU 53)=W:=⟨_,rfl⟩
 have ap:Below w.heap.size w W:=by rw[<- hW];exact ((Below.refl _ _).alloc (Nat.le_refl _) _).alloc (by simp) _
 have fi:W.heap.size=w.heap.size+2:=by rw[<- hW];simp
 have hP:W.heap[w.heap.size]?=I (JZ #[J Jq k',J Jq b.w,J Jq b.h,J Jq 0,Jj (I ⟨g,0,O⟩) L cap0] 53 (0,0)):=by
  rw[<- hW]
  exact (Below.heap_alloc _ _ _ (by simp)).trans (heap_alloc_new _ _)
 have hR:W.heap[w.heap.size+1]?=I (.cells aU 53 (0,0)):=by
  rw[<- hW]
  have h:=heap_alloc_new (w.alloc (JZ #[J Jq k',J Jq b.w,J Jq b.h,J Jq 0,Jj (I ⟨g,0,O⟩) L cap0] 53)) (.cells aU 53)
  rw[show (w.alloc (JZ #[J Jq k',J Jq b.w,J Jq b.h,J Jq 0,Jj (I ⟨g,0,O⟩) L cap0] 53)).heap.size=w.heap.size+1 by simp] at h
  exact h
 have cV:Hid (∀X,Below W.heap.size W X->X.heap[w.heap.size]?=I (JZ #[J Jq k',J Jq b.w,J Jq b.h,J Jq 0,Jj (I ⟨g,0,O⟩) L cap0] 53 (0,0))):=fun X hX=>(hX.block _ (by omega)).trans hP
 have ew:Hid (∀X,Below W.heap.size W X->X.heap[w.heap.size+1]?=I (.cells aU 53 (0,0))):=fun X hX=>(hX.block _ (by omega)).trans hR
 have ml:Hid (∀(j:Nat) t,ts[j]?=I t->∃sa sn sc f,(∀q∈f,q∈fp)/\∀X,Below W.heap.size W X->(ag t).In X (Jj sa sn sc) f/\kG X g (j*5) (ag t) (Jj sa sn sc)):=fun j t ht=>rO (ab.below ap) hL j t ht
 have bL:Hid (∀(j:Nat) t,ts[j]?=I t->(ag t).ids=t.idl/\t.idl.length<=1000/\t.idl≠[]/\(ag t).cnt<=1000):=fun j t ht=>by
  have ar:=aO ts b k' j t ht hs.2.1
  simp only[Bool.and_eq_true,decide_eq_true_eq] at ar
  have eB:=bF ts j t ht hk.2
  have cg:=bI ts j t ht
  have h1:=oO t eB
  have h3:=nI (ag t)
  rw[kC] at h3
  exact⟨h1,by rw[<- h1];omega,by rw[<- h1];exact uK t eB ar.1,by rw[kC];omega⟩
 have en:Hid (∀X,Below w.heap.size w X->(ag (.split b k' ts)).In X (Jj (I ⟨g,0,O⟩) L cap0) fp):=fun X hX=>fo.below hX
 have bR:=zh ap
 have pm:=zh fi
 have HW:=zh hW
 have HL:=zh hL
 have mo:=zh hpre
 have HQ:=zh hq
 have HI:=zh hi
 have eJ:=zh IH
 unfold aU at HW
 show Calls prog 65 #[.agg #[J Jq k',J Jq b.w,J Jq b.h,J Jq 0,Jj (I ⟨g,0,O⟩) L cap0],J Jq q,J Jq k,J Jq n,.bool set] w _
 clear io ab fo ap fi hP hR hW hs hk hz gd hL hpre hq hi IH
 go_enter func65,ntmps65
 go_upto_region 1 with fail
 rw[HW.out]
 go_wp2
 go_loopw [3,13] (fun u v wr=>u=J Jq n/\∃j:Nat,j<=i/\v=J Jq j/\Hid (Below W.heap.size W wr)) (fun _ v _=>i-(intOf v).toNat)
 case atStart=>exact⟨rfl,0,Nat.zero_le _,rfl,Below.refl _ _⟩
 case round=>
  obtain⟨rfl,j,hj,rfl,bB⟩:=hrel
  obtain⟨t,ht⟩:∃t,ts[j]?=I t:=⟨_,List.getElem?_eq_getElem (by rw[HL.out];omega)⟩
  obtain⟨sa,sn,sc,f,hf,mq⟩:=ml.out j t ht
  obtain⟨e1,⟨q0,q1,q2,q3,q4⟩⟩:=mq wr bB.out
  obtain⟨i1,i2,i3,i4⟩:=bL.out j t ht
  have L0:j < L:=by omega
  have bv:Hid (Calls prog 54 #[.agg #[J Jq (ag t).k,J Jq (ag t).w,J Jq (ag t).h,J Jq (ag t).i,Jj sa sn sc]] wr fun e w'=>∃u,e=Jz u/\Below W.heap.size W w'/\Calls prog 55 #[u,J Jq q] w' fun e w''=>e=Jz (.bool (decide (q∈t.idl)))/\w'=w''):=by
   refine (dF (ag t) i4 _ f wr e1).mono ?_
   rintro e w' ⟨u,rfl,h1,h2⟩
   rw[i1] at h1
   exact⟨u,rfl,af bB.out h2,iK u t.idl _ q w' h1 i2 i3⟩
  have b4:wr.cell? ⟨w.heap.size,4,O⟩=I (Jj (I ⟨g,0,O⟩) L cap0):=ae (cV.out wr bB.out) 4
  have po:=zh mq
  have HT:=zh ht
  have Hf:=zh hf
  obtain⟨nn,aR⟩:∃x,ag t=x:=⟨_,rfl⟩
  have fq:=zh aR
  rw[aR] at q0 q1 q2 q3 bv
  clear e1 i1 i2 i3 i4 ht hf mq aR
  by_cases am:j < i
  . have HD:Hid (decide (q∈t.idl)=false):=decide_eq_false (mo.out j t am HT.out)
    rw[HD.out] at bv
    go_wp2_with fail
    refine bv.out.mono ?_
    rintro e w2 ⟨u,rfl,al,hh⟩
    have HH:=zh hh
    have aD:=zh al
    clear al hh bv q0 q1 q2 q3 q4 b4
    go_wp2_with fail
    refine HH.out.mono ?_
    rintro e w3 ⟨rfl,rfl⟩
    go_wp2
    go_roundw
    case rel=>exact⟨rfl,j+1,by omega,by go_num,aD⟩
    case measure=>simp[intOf];omega
  . have dl:j=i:=by omega
    subst dl
    have gn:t=s:=by
     have h1:=HT.out
     rw[HI.out] at h1
     exact (Option.some.inj h1).symm
    subst gn
    have HD:=zh (decide_eq_true HQ.out)
    rw[HD.out] at bv
    obtain⟨nt,lz⟩:∃x,ag s'=x:=⟨_,rfl⟩
    have ti:=zh lz
    have ec:Hid (∀X,Below W.heap.size W X->Calls prog 65 #[.agg #[J Jq nn.k,J Jq nn.w,J Jq nn.h,J Jq nn.i,Jj sa sn sc],J Jq q,J Jq k,J Jq n,.bool set] X fun e w'=>∃ta tn tc fk,e=Jz (.tuple #[.agg #[J Jq nt.k,J Jq nt.w,J Jq nt.h,J Jq nt.i,Jj ta tn tc],J Jq mv,.bool true])/\(ag s').In w' (Jj ta tn tc) fk/\(∀x∈fk,x∈fp\/W.heap.size<=x)/\Below W.heap.size W w'):=fun X hX=>by
     have h:=eJ.out _ f X (po.out X hX).1
     rw[fq.out] at h
     refine Calls.mono h ?_
     rintro e w' ⟨ta,tn,tc,fk,rfl,h1,h2,h3⟩
     refine⟨ta,tn,tc,fk,by rw[ti.out];rfl,h1,fun x hx=> ?_,af hX h3⟩
     rcases h2 x hx with h4 | h4
     . exact .inl (Hf.out x h4)
     . exact .inr (Nat.le_trans hX.size h4)
    go_wp2_with fail
    refine bv.out.mono ?_
    rintro e w2 ⟨u,rfl,al,hh⟩
    have HH:=zh hh
    have aD:=zh al
    clear al hh bv q0 q1 q2 q3 q4 b4 lz
    obtain⟨_,⟨q0,q1,q2,q3,q4⟩⟩:=po.out w2 aD.out
    rw[fq.out] at q0 q1 q2 q3
    have b4:w2.cell? ⟨w.heap.size,4,O⟩=I (Jj (I ⟨g,0,O⟩) L cap0):=ae (cV.out w2 aD.out) 4
    go_wp2_with fail
    refine HH.out.mono ?_
    rintro e w3 ⟨rfl,rfl⟩
    go_wp2_with fail
    refine (ec.out w2 aD.out).mono ?_
    rintro e w3 ⟨ta,tn,tc,fk,rfl,wq,rK,aM⟩
    have Sx:=zh wq
    have Rm:=zh rK
    have cQ:=zh aM
    clear wq rK aM HH ec aD q0 q1 q2 q3 q4 b4
    obtain⟨Z,hZ⟩:∃x,w3.alloc (JZ #[J Jq nt.k,J Jq nt.w,J Jq nt.h,J Jq nt.i,Jj ta tn tc] 53)=x:=⟨_,rfl⟩
    have HZ:=zh hZ
    have eK:Below w3.heap.size w3 Z:=by rw[<- hZ];exact (Below.refl _ _).alloc (Nat.le_refl _) _
    have GP:Z.heap[w3.heap.size]?=I (JZ #[J Jq nt.k,J Jq nt.w,J Jq nt.h,J Jq nt.i,Jj ta tn tc] 53 (0,0)):=by rw[<- hZ];exact heap_alloc_new _ _
    have eC:=zh (af cQ.out eK)
    have b0:Z.cell? ⟨w.heap.size,0,O⟩=I (J Jq k'):=ae (cV.out Z eC.out) 0
    have b1:Z.cell? ⟨w.heap.size,1,O⟩=I (J Jq b.w):=ae (cV.out Z eC.out) 1
    have b2:Z.cell? ⟨w.heap.size,2,O⟩=I (J Jq b.h):=ae (cV.out Z eC.out) 2
    have b3:Z.cell? ⟨w.heap.size,3,O⟩=I (J Jq 0):=ae (cV.out Z eC.out) 3
    have b4:Z.cell? ⟨w.heap.size,4,O⟩=I (Jj (I ⟨g,0,O⟩) L cap0):=ae (cV.out Z eC.out) 4
    have HkZ:=zh GP
    have Ux:=zh (Sx.out.below eK)
    have h3Z:w3.heap.size < Z.heap.size:=lt_of_block GP
    clear hZ eK GP
    go_upto_region 6 with fail
    rw[HZ.out]
    go_upto_region 8 with fail
    obtain⟨Y,hY⟩:∃x,Z.alloc (JZ #[J Jq k',J Jq b.w,J Jq b.h,J Jq 0,Jj (I ⟨g,0,O⟩) L cap0] 53)=x:=⟨_,rfl⟩
    have HY:=zh hY
    have b7:Below Z.heap.size Z Y:=by rw[<- hY];exact (Below.refl _ _).alloc (Nat.le_refl _) _
    have mz:Y.heap[Z.heap.size]?=I (JZ #[J Jq k',J Jq b.w,J Jq b.h,J Jq 0,Jj (I ⟨g,0,O⟩) L cap0] 53 (0,0)):=by rw[<- hY];exact heap_alloc_new _ _
    have eS:=zh (af eC.out b7)
    rw[HY.out]
    have HmY:=zh mz
    have hZY:Y.heap.size=Z.heap.size+1:=by rw[<- hY];simp
    have HkY:Hid (Y.heap[w3.heap.size]?=I (JZ #[J Jq nt.k,J Jq nt.w,J Jq nt.h,J Jq nt.i,Jj ta tn tc] 53 (0,0))):=(b7.block _ h3Z).trans HkZ.out
    have Uy:=zh (Ux.out.below b7)
    have Rv:w.heap.size+2<=Z.heap.size:=by have h1:=pm.out;have h2:=eC.out.size;omega
    obtain⟨cs,fs,br,a8,cf⟩:=en.out Y (af bR.out eS.out)
    rw[ax,HL.out] at br
    have eN:=zh br
    have cB:=zh a8.oneCell
    have Vn:Hid (∀v w6,Y.grownBy w6 O->w6.ownsRow Y.heap.size 53 5 v L cs->∃g2 cap2,v=Jj (I ⟨g2,0,O⟩) L cap2/\Y.heap.size<=g2/\Hid (bK g2 L cap2 (fp++fk) ts (w6.setCell ⟨Z.heap.size,4,O⟩ v))/\(∃u,w6.cell? ⟨Z.heap.size,4,O⟩=I u)/\w6.frozen? ⟨Z.heap.size,4,O⟩=false/\Hid (Y.grownBy w6 O)):=fun v w6 pr hr=>by
     have lk:∀q∈fs,q∈fp:=fun q hq=>by rw[cf];exact List.mem_append_right _ hq
     obtain⟨g2,cap2,e1,e2,e3⟩:=bK.copy (fp:=fp++fk) (fun q hq=>List.mem_append_left _ (lk q hq)) (fun q hq=>by
      rcases List.mem_append.1 hq with h | h
      . have:=gR.out q h
        omega
      . exact Uy.out.lt q h) a8 pr (by rw[HL.out];exact hr) (by rw[HL.out];omega) Z.heap.size (by omega) (fun h=>by have:=gR.out _ (lk _ h);omega)
     rw[HL.out] at e1 e3
     have eM:=(pr.block Z.heap.size (by omega) (by simp)).trans HmY.out
     exact⟨g2,cap2,e1,e2,e3,⟨_,ae eM 4⟩,ai eM 4,pr⟩
    have b4:Y.cell? ⟨w.heap.size,4,O⟩=I (Jj (I ⟨g,0,O⟩) L cap0):=ae (cV.out Y eS.out) 4
    clear br a8 cf hY b7 mz b0 b1 b2 b3
    go_upto_region 9 with (at_builtin;refine aW _ rfl (.const (Jj O 0 0)) (.tmp 54) 51 53 rfl (.agg aU) 5 56 underlying51 eX rfl (by decide) (by decide) Y.heap.size (Jj O 0 0) 0 [] rfl (World.ownsRow_nil _ _ _ _) 0 (Jj (I ⟨g,0,O⟩) L cap0) L cs rfl eN.out cB.out ?x1 ?x2 ?_;(case x1=>omega);(case x2=>exact Nat.le_refl _);intro v w6 a1 a2;rw[Nat.zero_add,List.nil_append] at a1;obtain⟨g2,cap2,rfl,eO,AS,⟨u4,c4⟩,f4,Yb⟩:=Vn.out v w6 a2 a1;clear a1 a2)
    obtain⟨V,hV⟩:∃x,w6.setCell ⟨Z.heap.size,4,O⟩ (Jj (I ⟨g2,0,O⟩) L cap2)=x:=⟨_,rfl⟩
    rw[hV]
    have HV:=zh hV
    have hold:∀q,q < Y.heap.size->q≠Z.heap.size->V.heap[q]?=Y.heap[q]?:=fun q h1 h2=>by
     rw[<- hV]
     exact (Below.heap_setCell _ _ _ _ h2).trans (Yb.out.block q h1 (by simp))
    have E4:V.heap[Z.heap.size]?=I (JZ #[J Jq k',J Jq b.w,J Jq b.h,J Jq 0,Jj (I ⟨g2,0,O⟩) L cap2] 53 (0,0)):=by
     rw[<- hV]
     exact rQ ((Yb.out.block Z.heap.size (by omega) (by simp)).trans HmY.out) _
    have RU:V.heap[w3.heap.size]?=I (JZ #[J Jq nt.k,J Jq nt.w,J Jq nt.h,J Jq nt.i,Jj ta tn tc] 53 (0,0)):=(hold _ (by omega) (by omega)).trans HkY.out
    have lj:V.heap[w.heap.size+1]?=I (.cells aU 53 (0,0)):=(hold _ (by omega) (by omega)).trans (ew.out Y eS.out)
    have HmV:=zh E4
    have HrV:=zh lj
    have HF:Hid (∀v0 v1 v2 v3 v4,PuA (.split b k' (ts.set j s')) mv true fp w (Jz (.tuple #[.agg #[J Jq k',J Jq b.w,J Jq b.h,J Jq 0,Jj (I ⟨g2,0,O⟩) L cap2],J Jq mv,.bool true])) (fB (gq V g2 (j*5) nt (Jj ta tn tc)) (w.heap.size+1) v0 v1 v2 v3 v4)):=fun v0 v1 v2 v3 v4=>by
     have h:=OE (w:=w) (b:=b) (k':=k') (mv:=mv) (fp:=fp) AS.out HT.out Uy.out gR.out (fun q hq=>by
      rcases Rm.out q hq with h | h
      . exact .inl h
      . exact .inr (by have:=pm.out;omega)) (by omega) Yb.out (by omega) (fun h=>by
      rcases Rm.out _ h with h4 | h4
      . have:=gR.out _ h4
        omega
      . have:=Ux.out.lt _ h
        omega) (af bR.out eS.out) v0 v1 v2 v3 v4
     rw[HV.out,ti.out] at h
     exact h
    obtain⟨xa,xn,xc,xf,_,⟨q0,q1,q2,q3,q4⟩,_⟩:=AS.out.one j t HT.out
    have fz:∀o,V.frozen? ⟨g2,o,O⟩=false:=fun o=>by
     obtain⟨cs',fs',h1,_⟩:=AS.out.row
     rw[HV.out] at h1
     exact World.ownsRow.frozenAt h1 o
    rw[HV.out] at q0 q1 q2 q3 q4
    have k0:=ae RU 0
    have k1:=ae RU 1
    have k2:=ae RU 2
    have k3:=ae RU 3
    have k4:=ae RU 4
    have m4:=ae E4 4
    clear c4 f4 b4 hV hold E4 RU lj Vn eN cB
    go_upto_region 10 with fail
    all_goals (
     obtain⟨V9,RV⟩:∃x,gq V g2 (j*5) nt (Jj ta tn tc)=x:=⟨_,rfl⟩
     have E4:V9.heap[Z.heap.size]?=I (JZ #[J Jq k',J Jq b.w,J Jq b.h,J Jq 0,Jj (I ⟨g2,0,O⟩) L cap2] 53 (0,0)):=by
      rw[<- RV]
      exact (dO _ _ _ _ _ _ (by omega)).trans HmV.out
     have lj:V9.heap[w.heap.size+1]?=I (.cells aU 53 (0,0)):=by
      rw[<- RV]
      exact (dO _ _ _ _ _ _ (by omega)).trans HrV.out
     rw[RV] at HF
     unfold gq at RV
     rw[RV]
     clear fz q0 q1 q2 q3 q4 k0 k1 k2 k3 k4 m4 RV
     have m0:=ae E4 0
     have m1:=ae E4 1
     have m2:=ae E4 2
     have m3:=ae E4 3
     have m4:=ae E4 4
     have r0:V9.cell? ⟨w.heap.size+1,0,O⟩=I (J Jq 0):=ae lj 0
     have r1:V9.cell? ⟨w.heap.size+1,1,O⟩=I (J Jq 0):=ae lj 1
     have r2:V9.cell? ⟨w.heap.size+1,2,O⟩=I (J Jq 0):=ae lj 2
     have r3:V9.cell? ⟨w.heap.size+1,3,O⟩=I (J Jq 0):=ae lj 3
     have r4:V9.cell? ⟨w.heap.size+1,4,O⟩=I (Jj O 0 0):=ae lj 4
     have f0:=ai lj 0
     have f1:=ai lj 1
     have f2:=ai lj 2
     have f3:=ai lj 3
     have f4:=ai lj 4
     clear E4 lj
     go_wp2
     exact bodyPost_ret (v:=.tuple #[.agg #[J Jq k',J Jq b.w,J Jq b.h,J Jq 0,Jj (I ⟨g2,0,O⟩) L cap2],J Jq mv,.bool true]) (by simp[results,results65,go_sem,r0,r1,r2,r3,r4]) rfl (HF.out _ _ _ _ _))
theorem EH (set:Bool)(n k q:Int)(b:Box)(k':Int)(ts:List Tree)(i:Nat)(s s':Tree)(mv:Int)(hi:ts[i]?=I s)(hpre:∀(a:Nat) u,a < i->ts[a]?=I u->q ∉ u.idl)(hq:q∈s.idl)(hs:(Tree.split b k' ts).sound=true)(hk:(Tree.split b k' ts).kinds)(hz:(Tree.split b k' ts).size<=900)(IH:lm set n k q s s' mv false)(l8:k'≠k):lm set n k q (.split b k' ts) (.split b k' ts) 0 false:=by
 intro sl fp w ab
 unfold Tree.sound at hs
 simp only[Bool.and_eq_true,decide_eq_true_eq] at hs
 change 1+sizes ts<=900 at hz
 have h2:=hs.1.1
 have gd:=aI ts
 have fo:=ab
 change (Node.mk k' b.w b.h 0 (nodesOf ts)).In w sl fp at ab
 obtain⟨g,cap0,av,hg,io⟩:=ab.kids (by intro e;have:=congrArg List.length e;rw[ax] at this;simp at this;rw[this] at h2;simp at h2)
 rw[ax] at av
 obtain⟨L,hL⟩:∃L,ts.length=L:=⟨_,rfl⟩
 rw[hL] at av h2 gd
 subst av
 have vQ:i < L:=by rw[<- hL];exact (List.getElem?_eq_some_iff.1 hi).1
 have De:L<=900:=by omega
 have gR:=zh ab.lt
 obtain⟨W,hW⟩:∃W,(w.alloc (JZ #[J Jq k',J Jq b.w,J Jq b.h,J Jq 0,Jj (I ⟨g,0,O⟩) L cap0] 53)).alloc (.cells aU 53)=W:=⟨_,rfl⟩
 have ap:Below w.heap.size w W:=by rw[<- hW];exact ((Below.refl _ _).alloc (Nat.le_refl _) _).alloc (by simp) _
 have fi:W.heap.size=w.heap.size+2:=by rw[<- hW];simp
 have hP:W.heap[w.heap.size]?=I (JZ #[J Jq k',J Jq b.w,J Jq b.h,J Jq 0,Jj (I ⟨g,0,O⟩) L cap0] 53 (0,0)):=by
  rw[<- hW]
  exact (Below.heap_alloc _ _ _ (by simp)).trans (heap_alloc_new _ _)
 have hR:W.heap[w.heap.size+1]?=I (.cells aU 53 (0,0)):=by
  rw[<- hW]
  have h:=heap_alloc_new (w.alloc (JZ #[J Jq k',J Jq b.w,J Jq b.h,J Jq 0,Jj (I ⟨g,0,O⟩) L cap0] 53)) (.cells aU 53)
  rw[show (w.alloc (JZ #[J Jq k',J Jq b.w,J Jq b.h,J Jq 0,Jj (I ⟨g,0,O⟩) L cap0] 53)).heap.size=w.heap.size+1 by simp] at h
  exact h
 have cV:Hid (∀X,Below W.heap.size W X->X.heap[w.heap.size]?=I (JZ #[J Jq k',J Jq b.w,J Jq b.h,J Jq 0,Jj (I ⟨g,0,O⟩) L cap0] 53 (0,0))):=fun X hX=>(hX.block _ (by omega)).trans hP
 have ew:Hid (∀X,Below W.heap.size W X->X.heap[w.heap.size+1]?=I (.cells aU 53 (0,0))):=fun X hX=>(hX.block _ (by omega)).trans hR
 have ml:Hid (∀(j:Nat) t,ts[j]?=I t->∃sa sn sc f,(∀q∈f,q∈fp)/\∀X,Below W.heap.size W X->(ag t).In X (Jj sa sn sc) f/\kG X g (j*5) (ag t) (Jj sa sn sc)):=fun j t ht=>rO (ab.below ap) hL j t ht
 have bL:Hid (∀(j:Nat) t,ts[j]?=I t->(ag t).ids=t.idl/\t.idl.length<=1000/\t.idl≠[]/\(ag t).cnt<=1000):=fun j t ht=>by
  have ar:=aO ts b k' j t ht hs.2.1
  simp only[Bool.and_eq_true,decide_eq_true_eq] at ar
  have eB:=bF ts j t ht hk.2
  have cg:=bI ts j t ht
  have h1:=oO t eB
  have h3:=nI (ag t)
  rw[kC] at h3
  exact⟨h1,by rw[<- h1];omega,by rw[<- h1];exact uK t eB ar.1,by rw[kC];omega⟩
 have en:Hid (∀X,Below w.heap.size w X->(ag (.split b k' ts)).In X (Jj (I ⟨g,0,O⟩) L cap0) fp):=fun X hX=>fo.below hX
 have bR:=zh ap
 have pm:=zh fi
 have HW:=zh hW
 have HL:=zh hL
 have mo:=zh hpre
 have HQ:=zh hq
 have HI:=zh hi
 have eJ:=zh IH
 have iN:(k' != k)=true:=by simpa using l8
 unfold aU at HW
 show Calls prog 65 #[.agg #[J Jq k',J Jq b.w,J Jq b.h,J Jq 0,Jj (I ⟨g,0,O⟩) L cap0],J Jq q,J Jq k,J Jq n,.bool set] w _
 clear io ab fo ap fi hP hR hW hs hk hz gd hL hpre hq hi IH l8
 go_enter func65,ntmps65
 go_upto_region 1 with fail
 rw[HW.out]
 go_wp2
 go_loopw [3,13] (fun u v wr=>u=J Jq n/\∃j:Nat,j<=i/\v=J Jq j/\Hid (Below W.heap.size W wr)) (fun _ v _=>i-(intOf v).toNat)
 case atStart=>exact⟨rfl,0,Nat.zero_le _,rfl,Below.refl _ _⟩
 case round=>
  obtain⟨rfl,j,hj,rfl,bB⟩:=hrel
  obtain⟨t,ht⟩:∃t,ts[j]?=I t:=⟨_,List.getElem?_eq_getElem (by rw[HL.out];omega)⟩
  obtain⟨sa,sn,sc,f,hf,mq⟩:=ml.out j t ht
  obtain⟨e1,⟨q0,q1,q2,q3,q4⟩⟩:=mq wr bB.out
  obtain⟨i1,i2,i3,i4⟩:=bL.out j t ht
  have L0:j < L:=by omega
  have bv:Hid (Calls prog 54 #[.agg #[J Jq (ag t).k,J Jq (ag t).w,J Jq (ag t).h,J Jq (ag t).i,Jj sa sn sc]] wr fun e w'=>∃u,e=Jz u/\Below W.heap.size W w'/\Calls prog 55 #[u,J Jq q] w' fun e w''=>e=Jz (.bool (decide (q∈t.idl)))/\w'=w''):=by
   refine (dF (ag t) i4 _ f wr e1).mono ?_
   rintro e w' ⟨u,rfl,h1,h2⟩
   rw[i1] at h1
   exact⟨u,rfl,af bB.out h2,iK u t.idl _ q w' h1 i2 i3⟩
  have b4:wr.cell? ⟨w.heap.size,4,O⟩=I (Jj (I ⟨g,0,O⟩) L cap0):=ae (cV.out wr bB.out) 4
  have po:=zh mq
  have HT:=zh ht
  have Hf:=zh hf
  obtain⟨nn,aR⟩:∃x,ag t=x:=⟨_,rfl⟩
  have fq:=zh aR
  rw[aR] at q0 q1 q2 q3 bv
  clear e1 i1 i2 i3 i4 ht hf mq aR
  by_cases am:j < i
  . have HD:Hid (decide (q∈t.idl)=false):=decide_eq_false (mo.out j t am HT.out)
    rw[HD.out] at bv
    go_wp2_with fail
    refine bv.out.mono ?_
    rintro e w2 ⟨u,rfl,al,hh⟩
    have HH:=zh hh
    have aD:=zh al
    clear al hh bv q0 q1 q2 q3 q4 b4
    go_wp2_with fail
    refine HH.out.mono ?_
    rintro e w3 ⟨rfl,rfl⟩
    go_wp2
    go_roundw
    case rel=>exact⟨rfl,j+1,by omega,by go_num,aD⟩
    case measure=>simp[intOf];omega
  . have dl:j=i:=by omega
    subst dl
    have gn:t=s:=by
     have h1:=HT.out
     rw[HI.out] at h1
     exact (Option.some.inj h1).symm
    subst gn
    have HD:=zh (decide_eq_true HQ.out)
    rw[HD.out] at bv
    obtain⟨nt,lz⟩:∃x,ag s'=x:=⟨_,rfl⟩
    have ti:=zh lz
    have ec:Hid (∀X,Below W.heap.size W X->Calls prog 65 #[.agg #[J Jq nn.k,J Jq nn.w,J Jq nn.h,J Jq nn.i,Jj sa sn sc],J Jq q,J Jq k,J Jq n,.bool set] X fun e w'=>∃ta tn tc fk,e=Jz (.tuple #[.agg #[J Jq nt.k,J Jq nt.w,J Jq nt.h,J Jq nt.i,Jj ta tn tc],J Jq mv,.bool false])/\(ag s').In w' (Jj ta tn tc) fk/\(∀x∈fk,x∈fp\/W.heap.size<=x)/\Below W.heap.size W w'):=fun X hX=>by
     have h:=eJ.out _ f X (po.out X hX).1
     rw[fq.out] at h
     refine Calls.mono h ?_
     rintro e w' ⟨ta,tn,tc,fk,rfl,h1,h2,h3⟩
     refine⟨ta,tn,tc,fk,by rw[ti.out];rfl,h1,fun x hx=> ?_,af hX h3⟩
     rcases h2 x hx with h4 | h4
     . exact .inl (Hf.out x h4)
     . exact .inr (Nat.le_trans hX.size h4)
    go_wp2_with fail
    refine bv.out.mono ?_
    rintro e w2 ⟨u,rfl,al,hh⟩
    have HH:=zh hh
    have aD:=zh al
    clear al hh bv q0 q1 q2 q3 q4 b4 lz
    obtain⟨_,⟨q0,q1,q2,q3,q4⟩⟩:=po.out w2 aD.out
    rw[fq.out] at q0 q1 q2 q3
    have b4:w2.cell? ⟨w.heap.size,4,O⟩=I (Jj (I ⟨g,0,O⟩) L cap0):=ae (cV.out w2 aD.out) 4
    go_wp2_with fail
    refine HH.out.mono ?_
    rintro e w3 ⟨rfl,rfl⟩
    go_wp2_with fail
    refine (ec.out w2 aD.out).mono ?_
    rintro e w3 ⟨ta,tn,tc,fk,rfl,wq,rK,aM⟩
    have Sx:=zh wq
    have Rm:=zh rK
    have cQ:=zh aM
    clear wq rK aM HH ec aD q0 q1 q2 q3 q4 b4
    obtain⟨Z,hZ⟩:∃Z,w3.alloc (JZ #[J Jq nt.k,J Jq nt.w,J Jq nt.h,J Jq nt.i,Jj ta tn tc] 53)=Z:=⟨_,rfl⟩
    have HZ:=zh hZ
    have eK:Below w3.heap.size w3 Z:=by rw[<- hZ];exact (Below.refl _ _).alloc (Nat.le_refl _) _
    have eC:=zh (af cQ.out eK)
    have r0:Z.cell? ⟨w.heap.size+1,0,O⟩=I (J Jq 0):=ae (ew.out Z eC.out) 0
    have f0:=ai (ew.out Z eC.out) 0
    have r1:Z.cell? ⟨w.heap.size+1,1,O⟩=I (J Jq 0):=ae (ew.out Z eC.out) 1
    have f1:=ai (ew.out Z eC.out) 1
    have r2:Z.cell? ⟨w.heap.size+1,2,O⟩=I (J Jq 0):=ae (ew.out Z eC.out) 2
    have f2:=ai (ew.out Z eC.out) 2
    have r3:Z.cell? ⟨w.heap.size+1,3,O⟩=I (J Jq 0):=ae (ew.out Z eC.out) 3
    have f3:=ai (ew.out Z eC.out) 3
    have r4:Z.cell? ⟨w.heap.size+1,4,O⟩=I (Jj O 0 0):=ae (ew.out Z eC.out) 4
    have f4:=ai (ew.out Z eC.out) 4
    have b0:Z.cell? ⟨w.heap.size,0,O⟩=I (J Jq k'):=ae (cV.out Z eC.out) 0
    have b1:Z.cell? ⟨w.heap.size,1,O⟩=I (J Jq b.w):=ae (cV.out Z eC.out) 1
    have b2:Z.cell? ⟨w.heap.size,2,O⟩=I (J Jq b.h):=ae (cV.out Z eC.out) 2
    have b3:Z.cell? ⟨w.heap.size,3,O⟩=I (J Jq 0):=ae (cV.out Z eC.out) 3
    have b4:Z.cell? ⟨w.heap.size,4,O⟩=I (Jj (I ⟨g,0,O⟩) L cap0):=ae (cV.out Z eC.out) 4
    have HF:Hid (∀v0 v1 v2 v3 v4,PuA (.split b k' ts) 0 false fp w (Jz (.tuple #[.agg #[J Jq k',J Jq b.w,J Jq b.h,J Jq 0,Jj (I ⟨g,0,O⟩) L cap0],J Jq 0,.bool false])) (fB Z (w.heap.size+1) v0 v1 v2 v3 v4)):=fun v0 v1 v2 v3 v4=>OD (en.out w (Below.refl _ _)) (af bR.out eC.out) v0 v1 v2 v3 v4
    clear hZ eK
    go_upto_region 6 with fail
    rw[HZ.out]
    go_wp2
    exact bodyPost_ret (v:=.tuple #[.agg #[J Jq k',J Jq b.w,J Jq b.h,J Jq 0,Jj (I ⟨g,0,O⟩) L cap0],J Jq 0,.bool false]) (by simp[results,results65,go_sem,r0,r1,r2,r3,r4]) rfl (HF.out _ _ _ _ _)
theorem BR {w w' w1:World}{k:Int}{t:Tree}{v:Value}{qs:List Nat}{a:Nat}{fp:List Nat}{st:List (Nat × Nat)}{j gg:Nat}{b:Box}{ts:List Tree}{f':List Nat}{s:Tree}(be:∀q∈fp,w.heap.size+1<=q)(hN:FY w1 k t v fp st qs a j gg b ts f')(ly:But [w.heap.size] w1 w')(ke:ts[a]?=I s):
 ∃ pg cap Ta ga, (∀ X, (method 286 Ta (JJ (I ⟨ga, 0, O⟩)) "mullion/layout.extent").run prog X = .ok (38, JJ (I ⟨ga, 0, O⟩)) X) ∧ (∀ X, (nilAhead 286 Ta (JJ (I ⟨ga, 0, O⟩)) "mullion/layout.extent").run prog X = .ok (I false) X) ∧ ∀ X, Below w'.heap.size w' X → X.cell? ⟨gg, 5, O⟩ = I (Jj (I ⟨pg, 0, O⟩) ts.length cap) ∧ X.cell? ⟨pg, a, O⟩ = I (.iface Ta (JJ (I ⟨ga, 0, O⟩))) ∧ ∀ d, Calls prog 38 #[JJ (I ⟨ga, 0, O⟩), J Jq d] X fun e w2 => e = Jz (J Jq (s.box.ext d)) ∧ X = w2 := by
 have GB:∀q∈fp,q ∉ [w.heap.size]:=fun q hq e=>by
  have h1:=be q hq
  have:q=w.heap.size:=by simpa using e
  omega
 have BY:=hN.here.but ly (fun q hq=>GB q (hN.inn q hq))
 obtain⟨g0,sl,vs,fs,e0,k2,k3,k4,qq⟩:=BY
 cases e0
 have dk:=k4.length
 have zb:a < ts.length:=(List.getElem?_eq_some_iff.1 ke).1
 rcases k3.2 with ⟨_,h0⟩ | ⟨pg,cap,cur,rfl,hb0,Rj,mx,my,GF,te⟩
 . omega
 obtain⟨v',f,e1,e2,_⟩:=aB.get k4 a s ke
 obtain⟨ga,ud,_⟩:=e2.own
 obtain⟨Ta,rfl,hm⟩:=wO ud
 have hc:=World.ownsRow.cellAt k3 a (by omega)
 rw[e1] at hc
 refine⟨pg,cap,Ta,ga,fun X=>(hm X).1,fun X=>(hm X).2,fun X hX=>⟨?_,?_,fun d=>(iH e2 d X hX).2⟩⟩
 . rw[<- dk]
   exact (hX.cell (p:=⟨gg,5,O⟩) (lt_of_block k2)).trans (ae k2 5)
 . exact (hX.cell (p:=⟨pg,a,O⟩) (lt_of_block Rj)).trans hc
theorem vU (v:Value)(q k n er:Int)(w:World)(h:Calls prog 48 #[v,J Jq q,J Jq k] w (tZ er w))(h0:er≠0):Calls prog 23 #[v,J Jq q,J Jq k,J Jq n] w (dZ er [] w):=by
 have HN:=zh h
 have E6:(er != 0)=true:=by simpa using h0
 clear h h0
 go_enter func23,ntmps23
 go_wp2_with fail
 refine HN.out.mono ?_
 rintro e w1 ⟨rfl,hb⟩
 have HB:Hid (∀o,Below w.heap.size w (w1.alloc o)):=fun o=>af hb ((Below.refl _ _).alloc (Nat.le_refl _) o)
 clear hb HN
 go_wp2
 go_ret2
 exact⟨_,rfl,World.ownsRow_nil _ _ _ _,HB.out _⟩
theorem JF (v:Value)(q k n:Int)(w:World){t:Tree}{qs:List Nat}{a:Nat}(h:Calls prog 48 #[v,J Jq q,J Jq k] w (qK k t qs a w))(hn:aG n=false):Calls prog 23 #[v,J Jq q,J Jq k,J Jq n] w (dZ 41 [] w):=by
 have HN:Hid (Calls prog 48 #[v,J Jq q,J Jq k] w fun e w'=>∃T g gg,e=Jz (.tuple #[.iface T (JJ (I ⟨g,0,O⟩)),.agg #[JJ (I ⟨gg,0,O⟩),J Jq a],J Jq 0])/\Below w.heap.size w w'):=h.mono fun e w' h=>by
  obtain⟨T,g,fp,st,j,gg,b',ts',f',w1,he,hA,aE,be,hN,ly,hb⟩:=h
  exact⟨T,g,gg,he,hb⟩
 have HI:Hid (∀W,Calls prog 13 #[J Jq n] W fun e w'=>e=Jz (.bool false)/\W=w'):=fun W=>hn ▸ ed n W
 clear h hn
 go_enter func23,ntmps23
 go_wp2_with fail
 refine HN.out.mono ?_
 rintro e w1 ⟨T,g,gg,rfl,hb⟩
 have HB:Hid (∀o,Below w.heap.size w (w1.alloc o)):=fun o=>af hb ((Below.refl _ _).alloc (Nat.le_refl _) o)
 clear hb HN
 go_wp2_with fail
 refine (HI.out _).mono ?_
 rintro e w2 ⟨rfl,rfl⟩
 go_wp2
 go_ret2
 exact⟨_,rfl,World.ownsRow_nil _ _ _ _,HB.out _⟩
theorem MN (v:Value)(q k n:Int)(w:World){t:Tree}{qs:List Nat}{a:Nat}{b:Box}{ts rs:List Tree}{c:Nat}{got:Int}{s:Tree}(h:Calls prog 48 #[v,J Jq q,J Jq k] w (qK k t qs a w))(hs:t.sound=true)(hk:t.kinds)(hz:t.size<=200)(aL:t.cO qs=I (.split b k ts))(ke:ts[a]?=I s)(hn:1<=n/\n<=1000)(E:Int)(hE:s.box.ext k=E)(D4:1<=E/\E<=1000)(hP:JG k b ts a (n-E) rs c got)(Kl:c=a):Calls prog 23 #[v,J Jq q,J Jq k,J Jq n] w (dZ 0 (cZ (t.putAt qs (.split b k rs))) w):=by
 have HN : Hid (Calls prog 48 #[v, J Jq q, J Jq k] w fun e w' => ∃ T g gg pg cap Ta ga, e = Jz (.tuple #[.iface T (JJ (I ⟨g, 0, O⟩)), .agg #[JJ (I ⟨gg, 0, O⟩), J Jq a], J Jq 0]) ∧ (∀ X, (method 286 Ta (JJ (I ⟨ga, 0, O⟩)) "mullion/layout.extent").run prog X = .ok (38, JJ (I ⟨ga, 0, O⟩)) X) ∧ (∀ X, (nilAhead 286 Ta (JJ (I ⟨ga, 0, O⟩)) "mullion/layout.extent").run prog X = .ok (I false) X) ∧ ∀ X, Below w'.heap.size w' X → X.cell? ⟨gg, 5, O⟩ = I (Jj (I ⟨pg, 0, O⟩) ts.length cap) ∧ X.cell? ⟨pg, a, O⟩ = I (.iface Ta (JJ (I ⟨ga, 0, O⟩))) ∧ (Calls prog 38 #[JJ (I ⟨ga, 0, O⟩), J Jq k] X fun e w2 => e = Jz (J Jq E) ∧ X = w2) ∧ Calls prog 49 #[.agg #[JJ (I ⟨gg, 0, O⟩), J Jq a], J Jq (n - E)] X fun e w3 => (∃ mv, e = Jz (J Jq mv)) ∧ Calls prog 15 #[.iface T (JJ (I ⟨g, 0, O⟩))] w3 fun e w4 => ∃ u, e = Jz u ∧ az w4 w.heap.size u (cZ (t.putAt qs (.split b k rs))) ∧ Below w.heap.size w w4) := h.mono fun e w' h => by
  obtain⟨T,g,fp,st,j,gg,b',ts',f',w1,he,hA,aE,be,hN,ly,hb⟩:=h
  have ej:=hN.sub
  rw[aL] at ej
  cases ej
  obtain⟨pg,cap,Ta,ga,m1,m2,m3⟩:=BR be hN ly ke
  refine⟨T,g,gg,pg,cap,Ta,ga,he,m1,m2,fun X hX=>⟨(m3 X hX).1,(m3 X hX).2.1,hE ▸ (m3 X hX).2.2 k,?_⟩⟩
  exact (xA hA aE be hN ly hb hs hk hz hP (by omega) X hX).mono fun e w3 h=>⟨⟨_,h.1⟩,h.2⟩
 have zb:a < ts.length:=(List.getElem?_eq_some_iff.1 ke).1
 have h2:=hP.two
 have h9:=hP.max_
 have tf:=hP.mid
 obtain⟨L,hL⟩:∃L,ts.length=L:=⟨_,rfl⟩
 obtain⟨LT,ki⟩:∃m,cZ (t.putAt qs (.split b k rs))=m:=⟨_,rfl⟩
 rw[hL,ki] at HN
 rw[hL] at zb h2 h9 tf
 rw[ki]
 have HI:Hid (∀W,Calls prog 13 #[J Jq n] W fun e w'=>e=Jz (.bool true)/\W=w'):=fun W=>by
  have:=ed n W
  rw[show aG n=true by simp[aG,hn.1,hn.2]] at this
  exact this
 have Su:∀gg pg cap X,X.cell? ⟨gg,5,O⟩=I (Jj (I ⟨pg,0,O⟩) L cap)->Calls prog 50 #[.agg #[JJ (I ⟨gg,0,O⟩),J Jq a]] X fun e w'=>e=Jz (J Jq c)/\Below X.heap.size X w':=fun gg pg cap X h5=>by
  have h:=pY gg pg L cap a X h5 h2 (by omega) zb
  rw[<- tf] at h
  exact h
 have kA:=zh Su
 have kr:IntKind.i64.wrap (n-E)=n-E:=by rw[IntKind.wrap_i64];omega
 have yW:((a:Int) != (c:Int))=false:=by
  have:(a:Int)=(c:Int):=by omega
  simpa using this
 clear h hs hk hz aL ke hn hE D4 hP Kl hL ki h2 h9 tf Su
 go_enter func23,ntmps23
 go_wp2_with fail
 refine HN.out.mono ?_
 rintro e w1 ⟨T,g,gg,pg,cap,Ta,ga,rfl,m1,m2,hX⟩
 obtain⟨Z,hZ⟩:∃Z,w1.alloc (JZ #[JJ (I ⟨gg,0,O⟩),J Jq a] 88)=Z:=⟨_,rfl⟩
 have eK:Below w1.heap.size w1 Z:=by rw[<- hZ];exact (Below.refl _ _).alloc (Nat.le_refl _) _
 have hM:Z.heap[w1.heap.size]?=I (JZ #[JJ (I ⟨gg,0,O⟩),J Jq a] 88 (0,0)):=by rw[<- hZ];exact heap_alloc_new _ _
 have HC:Hid (∀X,Below Z.heap.size Z X->X.cell? ⟨w1.heap.size,0,O⟩=I (JJ (I ⟨gg,0,O⟩))/\X.cell? ⟨w1.heap.size,1,O⟩=I (J Jq a)/\X.cell? ⟨gg,5,O⟩=I (Jj (I ⟨pg,0,O⟩) L cap)/\X.cell? ⟨pg,a,O⟩=I (.iface Ta (JJ (I ⟨ga,0,O⟩)))):=fun X hB=>by
  have h:=(hB.block _ (lt_of_block hM)).trans hM
  have h2:=hX X (af eK hB)
  exact⟨ae h 0,ae h 1,h2.1,h2.2.1⟩
 have ff:Hid (∀X,Below Z.heap.size Z X->Calls prog 38 #[JJ (I ⟨ga,0,O⟩),J Jq k] X fun e w'=>e=Jz (J Jq E)/\Below Z.heap.size Z w'):=fun X hB=>(hX X (af eK hB)).2.2.1.mono fun e w' h=>⟨h.1,h.2 ▸ hB⟩
 have GO:Hid (∀X,Below Z.heap.size Z X->Calls prog 50 #[.agg #[JJ (I ⟨gg,0,O⟩),J Jq a]] X fun e w'=>e=Jz (J Jq c)/\Below Z.heap.size Z w'):=fun X hB=>(kA.out gg pg cap X (HC.out X hB).2.2.1).mono fun e w' h=>⟨h.1,af hB h.2⟩
 have ec:Hid (∀X,Below Z.heap.size Z X->Calls prog 49 #[.agg #[JJ (I ⟨gg,0,O⟩),J Jq a],J Jq (n-E)] X fun e w3=>(∃mv,e=Jz (J Jq mv))/\Calls prog 15 #[.iface T (JJ (I ⟨g,0,O⟩))] w3 fun e w4=>∃u,e=Jz u/\az w4 w.heap.size u LT/\Below w.heap.size w w4):=fun X hB=>(hX X (af eK hB)).2.2.2
 have HZ:=zh hZ
 clear hX eK hM hZ HN kA
 go_upto_region 2 with fail
 rw[HZ.out]
 go_wp2_with fail
 refine (HI.out _).mono ?_
 rintro e w2 ⟨rfl,rfl⟩
 go_wp2_with fail
 refine aQ (fun X=>Below Z.heap.size Z X) (by kernel_rfl) (by kernel_rfl) (Below.refl _ _).drew ?_
 repeat (
  refine dJ (v:= ?_) (by rfl) (fun X hX=> ?_) ?_
  rotate_left
  . obtain⟨c0,c1,c5,cc⟩:=HC.out X hX
    go_simp
    all_goals first | with_reducible rfl | with_reducible exact ff.out X hX
  intro K hK
  go_simp
  refine hK.out _ ?_
  clear hK K)
 refine fK ?_
 intro w4 eI
 go_wp2_with fail
 refine aQ (fun X=>Below Z.heap.size Z X) (by kernel_rfl) (by kernel_rfl) eI.drew ?_
 repeat (
  refine dJ (v:= ?_) (by rfl) (fun X hX=> ?_) ?_
  rotate_left
  . obtain⟨c0,c1,c5,cc⟩:=HC.out X hX
    go_simp
    all_goals first | with_reducible rfl | with_reducible exact GO.out X hX
  intro K hK
  go_simp
  refine hK.out _ ?_
  clear hK K)
 refine fK ?_
 intro w5 ue
 obtain⟨c0,c1,c5,cc⟩:=HC.out w5 ue
 clear eI
 have fY:=zh ue
 clear ue
 go_wp2_with fail
 refine (ec.out w5 fY.out).mono ?_
 rintro e w6 ⟨⟨mv,rfl⟩,hl⟩
 have oy:=zh hl
 clear hl ec c0 c1 c5 cc
 go_wp2_with fail
 refine oy.out.mono ?_
 rintro e w7 ⟨u,rfl,hu,j7⟩
 have HU:Hid (az w7 w.heap.size u LT/\Below w.heap.size w w7):=⟨hu,j7⟩
 clear hu j7 oy
 go_wp2
 go_ret2
 exact⟨u,rfl,HU.out.1,HU.out.2⟩
theorem MO (v:Value)(q k n:Int)(w:World){t:Tree}{qs:List Nat}{a:Nat}{b:Box}{ts rs:List Tree}{c:Nat}{got:Int}{s:Tree}(h:Calls prog 48 #[v,J Jq q,J Jq k] w (qK k t qs a w))(hs:t.sound=true)(hk:t.kinds)(hz:t.size<=200)(aL:t.cO qs=I (.split b k ts))(ke:ts[a]?=I s)(hn:1<=n/\n<=1000)(E:Int)(hE:s.box.ext k=E)(D4:1<=E/\E<=1000)(hP:JG k b ts a (-(n-E)) rs c got)(Kl:c≠a):Calls prog 23 #[v,J Jq q,J Jq k,J Jq n] w (dZ 0 (cZ (t.putAt qs (.split b k rs))) w):=by
 have HN : Hid (Calls prog 48 #[v, J Jq q, J Jq k] w fun e w' => ∃ T g gg pg cap Ta ga, e = Jz (.tuple #[.iface T (JJ (I ⟨g, 0, O⟩)), .agg #[JJ (I ⟨gg, 0, O⟩), J Jq a], J Jq 0]) ∧ (∀ X, (method 286 Ta (JJ (I ⟨ga, 0, O⟩)) "mullion/layout.extent").run prog X = .ok (38, JJ (I ⟨ga, 0, O⟩)) X) ∧ (∀ X, (nilAhead 286 Ta (JJ (I ⟨ga, 0, O⟩)) "mullion/layout.extent").run prog X = .ok (I false) X) ∧ ∀ X, Below w'.heap.size w' X → X.cell? ⟨gg, 5, O⟩ = I (Jj (I ⟨pg, 0, O⟩) ts.length cap) ∧ X.cell? ⟨pg, a, O⟩ = I (.iface Ta (JJ (I ⟨ga, 0, O⟩))) ∧ (Calls prog 38 #[JJ (I ⟨ga, 0, O⟩), J Jq k] X fun e w2 => e = Jz (J Jq E) ∧ X = w2) ∧ Calls prog 49 #[.agg #[JJ (I ⟨gg, 0, O⟩), J Jq a], J Jq (-(n - E))] X fun e w3 => (∃ mv, e = Jz (J Jq mv)) ∧ Calls prog 15 #[.iface T (JJ (I ⟨g, 0, O⟩))] w3 fun e w4 => ∃ u, e = Jz u ∧ az w4 w.heap.size u (cZ (t.putAt qs (.split b k rs))) ∧ Below w.heap.size w w4) := h.mono fun e w' h => by
  obtain⟨T,g,fp,st,j,gg,b',ts',f',w1,he,hA,aE,be,hN,ly,hb⟩:=h
  have ej:=hN.sub
  rw[aL] at ej
  cases ej
  obtain⟨pg,cap,Ta,ga,m1,m2,m3⟩:=BR be hN ly ke
  refine⟨T,g,gg,pg,cap,Ta,ga,he,m1,m2,fun X hX=>⟨(m3 X hX).1,(m3 X hX).2.1,hE ▸ (m3 X hX).2.2 k,?_⟩⟩
  exact (xA hA aE be hN ly hb hs hk hz hP (by omega) X hX).mono fun e w3 h=>⟨⟨_,h.1⟩,h.2⟩
 have zb:a < ts.length:=(List.getElem?_eq_some_iff.1 ke).1
 have h2:=hP.two
 have h9:=hP.max_
 have tf:=hP.mid
 obtain⟨L,hL⟩:∃L,ts.length=L:=⟨_,rfl⟩
 obtain⟨LT,ki⟩:∃m,cZ (t.putAt qs (.split b k rs))=m:=⟨_,rfl⟩
 rw[hL,ki] at HN
 rw[hL] at zb h2 h9 tf
 rw[ki]
 have HI:Hid (∀W,Calls prog 13 #[J Jq n] W fun e w'=>e=Jz (.bool true)/\W=w'):=fun W=>by
  have:=ed n W
  rw[show aG n=true by simp[aG,hn.1,hn.2]] at this
  exact this
 have Su:∀gg pg cap X,X.cell? ⟨gg,5,O⟩=I (Jj (I ⟨pg,0,O⟩) L cap)->Calls prog 50 #[.agg #[JJ (I ⟨gg,0,O⟩),J Jq a]] X fun e w'=>e=Jz (J Jq c)/\Below X.heap.size X w':=fun gg pg cap X h5=>by
  have h:=pY gg pg L cap a X h5 h2 (by omega) zb
  rw[<- tf] at h
  exact h
 have kA:=zh Su
 have kr:IntKind.i64.wrap (n-E)=n-E:=by rw[IntKind.wrap_i64];omega
 have rj:IntKind.i64.wrap (-(n-E))= -(n-E):=by rw[IntKind.wrap_i64];omega
 have yW:((a:Int) != (c:Int))=true:=by
  have:(a:Int)≠(c:Int):=by omega
  simpa using this
 clear h hs hk hz aL ke hn hE D4 hP Kl hL ki h2 h9 tf Su
 go_enter func23,ntmps23
 go_wp2_with fail
 refine HN.out.mono ?_
 rintro e w1 ⟨T,g,gg,pg,cap,Ta,ga,rfl,m1,m2,hX⟩
 obtain⟨Z,hZ⟩:∃Z,w1.alloc (JZ #[JJ (I ⟨gg,0,O⟩),J Jq a] 88)=Z:=⟨_,rfl⟩
 have eK:Below w1.heap.size w1 Z:=by rw[<- hZ];exact (Below.refl _ _).alloc (Nat.le_refl _) _
 have hM:Z.heap[w1.heap.size]?=I (JZ #[JJ (I ⟨gg,0,O⟩),J Jq a] 88 (0,0)):=by rw[<- hZ];exact heap_alloc_new _ _
 have HC:Hid (∀X,Below Z.heap.size Z X->X.cell? ⟨w1.heap.size,0,O⟩=I (JJ (I ⟨gg,0,O⟩))/\X.cell? ⟨w1.heap.size,1,O⟩=I (J Jq a)/\X.cell? ⟨gg,5,O⟩=I (Jj (I ⟨pg,0,O⟩) L cap)/\X.cell? ⟨pg,a,O⟩=I (.iface Ta (JJ (I ⟨ga,0,O⟩)))):=fun X hB=>by
  have h:=(hB.block _ (lt_of_block hM)).trans hM
  have h2:=hX X (af eK hB)
  exact⟨ae h 0,ae h 1,h2.1,h2.2.1⟩
 have ff:Hid (∀X,Below Z.heap.size Z X->Calls prog 38 #[JJ (I ⟨ga,0,O⟩),J Jq k] X fun e w'=>e=Jz (J Jq E)/\Below Z.heap.size Z w'):=fun X hB=>(hX X (af eK hB)).2.2.1.mono fun e w' h=>⟨h.1,h.2 ▸ hB⟩
 have GO:Hid (∀X,Below Z.heap.size Z X->Calls prog 50 #[.agg #[JJ (I ⟨gg,0,O⟩),J Jq a]] X fun e w'=>e=Jz (J Jq c)/\Below Z.heap.size Z w'):=fun X hB=>(kA.out gg pg cap X (HC.out X hB).2.2.1).mono fun e w' h=>⟨h.1,af hB h.2⟩
 have ec:Hid (∀X,Below Z.heap.size Z X->Calls prog 49 #[.agg #[JJ (I ⟨gg,0,O⟩),J Jq a],J Jq (-(n-E))] X fun e w3=>(∃mv,e=Jz (J Jq mv))/\Calls prog 15 #[.iface T (JJ (I ⟨g,0,O⟩))] w3 fun e w4=>∃u,e=Jz u/\az w4 w.heap.size u LT/\Below w.heap.size w w4):=fun X hB=>(hX X (af eK hB)).2.2.2
 have HZ:=zh hZ
 clear hX eK hM hZ HN kA
 go_upto_region 2 with fail
 rw[HZ.out]
 go_wp2_with fail
 refine (HI.out _).mono ?_
 rintro e w2 ⟨rfl,rfl⟩
 go_wp2_with fail
 refine aQ (fun X=>Below Z.heap.size Z X) (by kernel_rfl) (by kernel_rfl) (Below.refl _ _).drew ?_
 repeat (
  refine dJ (v:= ?_) (by rfl) (fun X hX=> ?_) ?_
  rotate_left
  . obtain⟨c0,c1,c5,cc⟩:=HC.out X hX
    go_simp
    all_goals first | with_reducible rfl | with_reducible exact ff.out X hX
  intro K hK
  go_simp
  refine hK.out _ ?_
  clear hK K)
 refine fK ?_
 intro w4 eI
 go_wp2_with fail
 refine aQ (fun X=>Below Z.heap.size Z X) (by kernel_rfl) (by kernel_rfl) eI.drew ?_
 repeat (
  refine dJ (v:= ?_) (by rfl) (fun X hX=> ?_) ?_
  rotate_left
  . obtain⟨c0,c1,c5,cc⟩:=HC.out X hX
    go_simp
    all_goals first | with_reducible rfl | with_reducible exact GO.out X hX
  intro K hK
  go_simp
  refine hK.out _ ?_
  clear hK K)
 refine fK ?_
 intro w5 ue
 obtain⟨c0,c1,c5,cc⟩:=HC.out w5 ue
 clear eI
 have fY:=zh ue
 clear ue
 go_wp2_with fail
 refine (ec.out w5 fY.out).mono ?_
 rintro e w6 ⟨⟨mv,rfl⟩,hl⟩
 have oy:=zh hl
 clear hl ec c0 c1 c5 cc
 go_wp2_with fail
 refine oy.out.mono ?_
 rintro e w7 ⟨u,rfl,hu,j7⟩
 have HU:Hid (az w7 w.heap.size u LT/\Below w.heap.size w w7):=⟨hu,j7⟩
 clear hu j7 oy
 go_wp2
 go_ret2
 exact⟨u,rfl,HU.out.1,HU.out.2⟩
end Go.Proofs.YtejlincnnonhaaaGreat
