import Derived.Test.YtejlincnnonhaaaGreatP18
import Derived.Test.YtejlincnnonhaaaGreatP19
import Derived.Test.YtejlincnnonhaaaGreatP20
namespace Go.Proofs.YtejlincnnonhaaaGreat
open Go.RowKit Go.Proofs.Tryz
open Value renaming int->J,slice->Jj,pointer->JJ
open IntKind renaming i64->Jq
open Option renaming none->O,some->I
open Ending renaming returned->Jz
open Obj renaming cells->JZ
set_option linter.unusedVariables false
set_option maxRecDepth 100000
set_option maxHeartbeats 16000000
theorem LW (t:Tree):(cZ t).length=t.size:=by
 unfold cZ
 rw[Tree.eu,Tree.iI]
theorem Gw (q:Int):∀(ps:List Nat) (t:Tree),t.path q=I ps->∃bl,t.cO ps=I (.leaf bl q)
 | ps,.leaf b p,hp=>by
   unfold Tree.path at hp
   split at hp
   . rename_i e
     cases hp
     exact⟨b,by rw[show q=p from by simpa using e.symm];rfl⟩
   . cases hp
 | ps,.split b k ts,hp=>by
   unfold Tree.path at hp
   obtain⟨i,s,ps',e,hi,k7⟩:=gG q ts 0 _ hp
   rw[Nat.zero_add] at e
   subst e
   have am:s.size < (Tree.split b k ts).size:=by
    have:=bI ts i s hi
    show s.size < 1+sizes ts
    omega
   obtain⟨bl,h⟩:=Gw q ps' s k7
   exact⟨bl,vK hi h⟩
 termination_by ps t=>t.size
theorem Pj {l:List aj}{id:Int}(h:jF l id=0):idB id=true:=by
 cases hi:idB id with
 | true=>rfl
 | false=>
   unfold jF at h
   rw[hi] at h
   simp at h
theorem KF (l:List aj)(q k z id:Int)(bf:Bool):∃er r,(r:List aj).length<=100/\(∀v X,ay X v l->Calls prog 18 #[v,J Jq q,J Jq k,J Jq z,.bool bf,J Jq id] X (dZ er r X))/\(∀v X,ay X v l->Calls prog 26 #[v,J Jq q,J Jq k,J Jq z,.bool bf,J Jq id] X (dZ er r X)):=by
 cases hF:aT l with
 | none=>exact⟨40,[],by simp,fun v X h=>KP v l q k z id bf X h hF,fun v X h=>JL v l q k z id bf X h hF⟩
 | some t=>
   have hl:=aV hF
   have hid:t.idl=aH l:=by rw[lK t 0 hl.kinds,hl.tell]
   have hz:=lay_size hl
   have hi:=jr hF
   by_cases hk:k=2\/k=3
   . cases hp:t.path q with
     | none=>
       have AE:q ∉ aH l:=by rw[<- hid];exact (dR t q).1 hp
       exact⟨42,[],by simp,fun v X h=>KQ v l q k z id bf X h hF hk hp,fun v X h=>JM v l q k z id bf X h hF hk AE⟩
     | some ps=>
       have bE:q∈aH l:=by
        rw[<- hid]
        refine Classical.byContradiction fun hx=> ?_
        rw[(dR t q).2 hx] at hp
        cases hp
       by_cases hj:jF l id=0
       . obtain⟨bl,aL⟩:=Gw q ps t hp
         by_cases h3:bl.ext k < 3
         . exact⟨44,[],by simp,fun v X h=>IP v l q k z id bf X h hF hk hp aL hj h3,fun v X h=>DD v l q k z id bf X h hF hk bE hj hp aL 44 [] (.inl ⟨h3,rfl,rfl⟩)⟩
         . obtain⟨n,hn⟩:∃n,n=min (gZ z (bl.ext k)) (bl.ext k-2):=⟨_,rfl⟩
           have pd:(Tree.leaf bl q).sound=true:=(jA ps t _ aL hl.sound hl.kinds).1
           have du:1<=n/\n<=bl.ext k-2:=by
            rw[hn]
            unfold gZ dM
            split <;> omega
           have XM:idB id=true:=Pj hj
           have hC:=Qg (q:=q) (id:=id) (n:=n) bf hk pd XM du.1 du.2
           obtain⟨t',hS⟩:=Dz q (yZ q k n id bf) bl hC.sound hC.kinds hC.box hC.size ps t hl.sound hl.kinds (by rw[hid];exact hi.2.2.2.1) hp aL
           have cJ:=hS.size
           refine⟨0,cZ t',by rw[LW];omega,fun v X h=>Pm v l q k z id bf X h hF hk hp aL hj (by omega) hn du.1 hC hS,fun v X h=>DD v l q k z id bf X h hF hk bE hj hp aL 0 _ (.inr ⟨by omega,rfl,t',rfl,hS.sound,hS.kinds,by omega,?_⟩)⟩
           exact Ej q k z id bf bl n hk (by omega) hn hC pd t.size t (Nat.le_refl _) (by omega) hl.sound hl.kinds t' hS.cutd
       . exact⟨jF l id,[],by simp,fun v X h=>KR v l q k z id bf X h hF hk (by rw[hp];simp) _ rfl hj,fun v X h=>JO v l q k z id bf X h hF hk bE _ rfl hj⟩
   . exact⟨1,[],by simp,fun v X h=>NM v l q k z id bf X h hF hk,fun v X h=>MS v l q k z id bf X h hF hk⟩
theorem EF (set:Bool)(n k q:Int)(b:Box)(p:Int):lm set n k q (.leaf b p) (.leaf b p) 0 false:=by
 intro sl fp w ab
 obtain⟨ad,cap0,av⟩:=ab.sl
 change sl=Jj ad 0 cap0 at av
 subst av
 obtain⟨W,hW⟩:∃W,(w.alloc (JZ #[J Jq 1,J Jq b.w,J Jq b.h,J Jq p,Jj ad 0 cap0] 53)).alloc (.cells aU 53)=W:=⟨_,rfl⟩
 have ap:Below w.heap.size w W:=by rw[<- hW];exact ((Below.refl _ _).alloc (Nat.le_refl _) _).alloc (by simp) _
 have hP:W.heap[w.heap.size]?=I (JZ #[J Jq 1,J Jq b.w,J Jq b.h,J Jq p,Jj ad 0 cap0] 53 (0,0)):=by
  rw[<- hW]
  exact (Below.heap_alloc _ _ _ (by simp)).trans (heap_alloc_new _ _)
 have hR:W.heap[w.heap.size+1]?=I (.cells aU 53 (0,0)):=by
  rw[<- hW]
  have h:=heap_alloc_new (w.alloc (JZ #[J Jq 1,J Jq b.w,J Jq b.h,J Jq p,Jj ad 0 cap0] 53)) (.cells aU 53)
  rw[show (w.alloc (JZ #[J Jq 1,J Jq b.w,J Jq b.h,J Jq p,Jj ad 0 cap0] 53)).heap.size=w.heap.size+1 by simp] at h
  exact h
 have HF:Hid (∀v0 v1 v2 v3 v4,PuA (.leaf b p) 0 false fp w (Jz (.tuple #[.agg #[J Jq 1,J Jq b.w,J Jq b.h,J Jq p,Jj ad 0 cap0],J Jq 0,.bool false])) (fB W (w.heap.size+1) v0 v1 v2 v3 v4)):=fun v0 v1 v2 v3 v4=>Aj (nn:=.mk 1 b.w b.h p []) rfl (ab.below ap) (fun q hq=>.inl hq) ab.lt ap v0 v1 v2 v3 v4
 have b0:=ae hP 0
 have b1:=ae hP 1
 have b2:=ae hP 2
 have b3:=ae hP 3
 have b4:=ae hP 4
 have r0:W.cell? ⟨w.heap.size+1,0,O⟩=I (J Jq 0):=ae hR 0
 have r1:W.cell? ⟨w.heap.size+1,1,O⟩=I (J Jq 0):=ae hR 1
 have r2:W.cell? ⟨w.heap.size+1,2,O⟩=I (J Jq 0):=ae hR 2
 have r3:W.cell? ⟨w.heap.size+1,3,O⟩=I (J Jq 0):=ae hR 3
 have r4:W.cell? ⟨w.heap.size+1,4,O⟩=I (Jj O 0 0):=ae hR 4
 have f0:=ai hR 0
 have f1:=ai hR 1
 have f2:=ai hR 2
 have f3:=ai hR 3
 have f4:=ai hR 4
 have HW:=zh hW
 unfold aU at HW
 show Calls prog 65 #[.agg #[J Jq 1,J Jq b.w,J Jq b.h,J Jq p,Jj ad 0 cap0],J Jq q,J Jq k,J Jq n,.bool set] w _
 clear ab ap hP hR hW
 go_enter func65,ntmps65
 go_upto_region 1 with fail
 rw[HW.out]
 go_wp2
 go_loopw [3,13] (fun u v wr=>u=J Jq n/\v=J Jq 0/\W=wr) (fun _ _ _=>0)
 case atStart=>exact⟨rfl,rfl,rfl⟩
 case round=>
  obtain⟨rfl,rfl,rfl⟩:=hrel
  go_wp2
  exact bodyPost_ret (v:=.tuple #[.agg #[J Jq 1,J Jq b.w,J Jq b.h,J Jq p,Jj ad 0 cap0],J Jq 0,.bool false]) (by simp[results,results65,go_sem,r0,r1,r2,r3,r4]) rfl (HF.out _ _ _ _ _)
theorem uj {b:Box}{k' q:Int}{ts:List Tree}{i:Nat}{ps:List Nat}{s:Tree}(hp:(Tree.split b k' ts).path q=I (i::ps))(hi:ts[i]?=I s):s.path q=I ps/\q∈s.idl/\∀(a:Nat) u,a < i->ts[a]?=I u->q ∉ u.idl:=by
 unfold Tree.path at hp
 obtain⟨i',u,ps',e,h1,h2,h3⟩:=kU q ts 0 _ hp
 rw[Nat.zero_add] at e
 injection e with e1 e2
 subst e1
 subst e2
 rw[hi] at h1
 cases h1
 refine⟨h2,?_,fun a u ha hu=>(dR u q).1 (h3 a u ha hu)⟩
 by_cases e:q∈s.idl
 . exact e
 . rw[(dR s q).2 e] at h2
   cases h2
theorem mO {set:Bool}{n k q:Int}{t:Tree}{ps:List Nat}{t':Tree}{mv:Int}{ok:Bool}(h:Pu set n k t ps t' mv ok):t.path q=I ps->t.sound=true->t.kinds->t.size<=900->(set=true->1<=n/\n<=1000)->lm set n k q t t' mv ok:=by
 induction h with
 | leaf b p=>exact fun _ _ _ _ _=>EF set n k q b p
 | deep b k' ts i ps s s' mv hi _ ih=>
   intro hp hs hk hz hn
   obtain⟨p1,p2,p3⟩:=uj hp hi
   obtain⟨c1,c2,c3⟩:=mP [i] (.split b k' ts) s (by simp[Tree.cO,hi]) hs hk
   exact EG set n k q b k' ts i s s' mv hi p3 p2 hs hk hz (ih p1 c1 c2 (by omega) hn)
 | none b k' ts i ps s hi _ l8 ih=>
   intro hp hs hk hz hn
   obtain⟨p1,p2,p3⟩:=uj hp hi
   obtain⟨c1,c2,c3⟩:=mP [i] (.split b k' ts) s (by simp[Tree.cO,hi]) hs hk
   exact EH set n k q b k' ts i s s 0 hi p3 p2 hs hk hz (ih p1 c1 c2 (by omega) hn) l8
 | here b ts i ps s rs c got hi _ hc hM ih=>
   intro hp hs hk hz hn
   obtain⟨p1,p2,p3⟩:=uj hp hi
   obtain⟨c1,c2,c3⟩:=mP [i] (.split b k ts) s (by simp[Tree.cO,hi]) hs hk
   have IH:=ih p1 c1 c2 (by omega) hn
   cases set with
   | false=>
     have e:Bq false n k ts i s=n:=by simp[Bq]
     rw[e] at hM ⊢
     exact CG n k q b k ts i s s 0 hi p3 p2 hs hk hz IH rfl rs c n got hc hM rfl
   | true=>
     by_cases Rl:c=i
     . have e:Bq true n k ts i s=n-s.box.ext k:=by
        unfold Bq
        rw[if_pos rfl,if_pos (by omega)]
       rw[e] at hM ⊢
       exact CJ n k q b k ts i s s 0 hi p3 p2 hs hk hz IH rfl rs c _ got hc hM rfl (hn rfl) Rl
     . have e:Bq true n k ts i s= -(n-s.box.ext k):=by
        unfold Bq
        rw[if_pos rfl,if_neg (by omega)]
       rw[e] at hM ⊢
       exact BV n k q b k ts i s s 0 hi p3 p2 hs hk hz IH rfl rs c _ got hc hM rfl (hn rfl) Rl
theorem zB (v:Value)(l:List aj)(q k n:Int)(w:World)(h:ay w v l)(hF:aT l=O):Calls prog 30 #[v,J Jq q,J Jq k,J Jq n] w (EJ 0 40 [] w):=by
 have HT:=zh (tq v l w h hF)
 clear h hF
 go_enter func30,ntmps30
 go_wp2_with fail
 refine HT.out.mono ?_
 rintro e w1 ⟨rfl,hb⟩
 have HB:=zh (aK hb)
 unfold aU
 clear hb
 go_wp2
 exact bodyPost_ret (v:=.tuple #[Jj O 0 0,J Jq 0,J Jq 40]) (by simp[results,results30,go_sem]) rfl ⟨_,rfl,World.ownsRow_nil _ _ _ _,HB.out _⟩
theorem CQ (v:Value)(l:List aj)(q k n:Int)(w:World)(h:ay w v l){t:Tree}(hF:aT l=I t)(hk:¬(k=2\/k=3)):Calls prog 30 #[v,J Jq q,J Jq k,J Jq n] w (EJ 0 1 [] w):=by
 have HT:=zh (dI v l w h hF)
 have k2:(k != 2)=true:=by
  have:k≠2:=fun e=>hk (.inl e)
  simpa using this
 have k3:(k != 3)=true:=by
  have:k≠3:=fun e=>hk (.inr e)
  simpa using this
 clear h hF hk
 go_enter func30,ntmps30
 go_wp2_with fail
 refine HT.out.mono ?_
 rintro e w1 ⟨sa,sn,sc,fp,rfl,ab,hb⟩
 have HB:=zh (aK hb)
 obtain⟨nn,aR⟩:∃x,ag t=x:=⟨_,rfl⟩
 rw[aR]
 unfold aC
 clear hb ab aR
 go_wp2
 exact bodyPost_ret (v:=.tuple #[Jj O 0 0,J Jq 0,J Jq 1]) (by simp[results,results30,go_sem]) rfl ⟨_,rfl,World.ownsRow_nil _ _ _ _,HB.out _⟩
theorem zC (v:Value)(l:List aj)(q k n:Int)(w:World)(h:ay w v l){t:Tree}(hF:aT l=I t)(hk:k=2\/k=3)(hp:t.path q=O):Calls prog 30 #[v,J Jq q,J Jq k,J Jq n] w (EJ 0 42 [] w):=by
 have HT:=zh (dI v l w h hF)
 have ao:=jr hF
 have eE:=aV hF
 have TW:=lay_size eE
 have bL:Hid ((ag t).ids=t.idl/\t.idl.length<=32/\t.idl≠[]/\(ag t).cnt<=1000):=by
  have h1:=oO t eE.kinds
  refine⟨h1,?_,?_,ao.2.2.2.2⟩
  . rw[<- h1,ao.1];exact ao.2.2.1
  . rw[<- h1];exact uK t eE.kinds eE.sound
 have pt:((k != 2)=false)\/((k != 2)=true/\(k != 3)=false):=by rcases hk with rfl | rfl <;> simp
 have HQ:=zh (decide_eq_false ((dR t q).1 hp))
 clear h hF hk ao eE TW hp
 go_enter func30,ntmps30
 go_wp2_with fail
 refine HT.out.mono ?_
 rintro e w1 ⟨sa,sn,sc,fp,rfl,ab,hb⟩
 obtain⟨W,hW⟩:∃W,w1.alloc (JZ #[J Jq (ag t).k,J Jq (ag t).w,J Jq (ag t).h,J Jq (ag t).i,Jj sa sn sc] 53)=W:=⟨_,rfl⟩
 have ap:Below w1.heap.size w1 W:=by rw[<- hW];exact (Below.refl _ _).alloc (Nat.le_refl _) _
 have bR:=zh (af hb ap)
 have hM:W.heap[w1.heap.size]?=I (JZ #[J Jq (ag t).k,J Jq (ag t).w,J Jq (ag t).h,J Jq (ag t).i,Jj sa sn sc] 53 (0,0)):=by rw[<- hW];exact heap_alloc_new _ _
 have HX:Hid (∀X,Below W.heap.size W X->X.heap[w1.heap.size]?=I (JZ #[J Jq (ag t).k,J Jq (ag t).w,J Jq (ag t).h,J Jq (ag t).i,Jj sa sn sc] 53 (0,0))):=fun X hX=>(hX.block _ (lt_of_block hM)).trans hM
 have en:Hid (∀X,Below W.heap.size W X->(ag t).In X (Jj sa sn sc) fp):=fun X hX=>(ab.below ap).below hX
 have HW:=zh hW
 have bv:Hid (Calls prog 54 #[.agg #[J Jq (ag t).k,J Jq (ag t).w,J Jq (ag t).h,J Jq (ag t).i,Jj sa sn sc]] W fun e w'=>∃u,e=Jz u/\dD w' W.heap.size u t.idl/\Below W.heap.size W w'):=by
  refine (dF (ag t) bL.out.2.2.2 _ fp W (en.out W (Below.refl _ _))).mono ?_
  rintro e w' ⟨u,rfl,h1,h2⟩
  rw[bL.out.1] at h1
  exact⟨u,rfl,h1,h2⟩
 obtain⟨nn,aR⟩:∃x,ag t=x:=⟨_,rfl⟩
 have fq:=zh aR
 rw[aR] at HX HW bv ⊢
 have fN:Hid (∀X,Below W.heap.size W X->X.cell? ⟨w1.heap.size,0,O⟩=I (J Jq nn.k)/\X.cell? ⟨w1.heap.size,1,O⟩=I (J Jq nn.w)/\X.cell? ⟨w1.heap.size,2,O⟩=I (J Jq nn.h)/\X.cell? ⟨w1.heap.size,3,O⟩=I (J Jq nn.i)/\X.cell? ⟨w1.heap.size,4,O⟩=I (Jj sa sn sc)):=fun X hX=>⟨ae (HX.out X hX) 0,ae (HX.out X hX) 1,ae (HX.out X hX) 2,ae (HX.out X hX) 3,ae (HX.out X hX) 4⟩
 unfold aC
 clear hb ab ap hM hW aR HT
 rcases pt with kb | ⟨kb,kb'⟩
 all_goals (
  go_upto_region 6 with fail
  rw[HW.out]
  obtain⟨m0,m1,m2,m3,m4⟩:=fN.out W (Below.refl _ _)
  go_wp2_with fail
  refine bv.out.mono ?_
  rintro e w2 ⟨u,rfl,hu,al⟩
  have IS:Hid (Calls prog 55 #[u,J Jq q] w2 fun e w'=>e=Jz (.bool false)/\w2=w'):=by
   have:=iK u t.idl _ q w2 hu (by have:=bL.out.2.1;omega) bL.out.2.2.1
   rw[HQ.out] at this
   exact this
  have aD:=zh al
  clear hu al bv m0 m1 m2 m3 m4
  go_wp2_with fail
  refine IS.out.mono ?_
  rintro e w3 ⟨rfl,rfl⟩
  have cQ:=zh (af bR.out aD.out)
  go_wp2
  exact bodyPost_ret (v:=.tuple #[Jj O 0 0,J Jq 0,J Jq 42]) (by simp[results,results30,go_sem]) rfl ⟨_,rfl,World.ownsRow_nil _ _ _ _,cQ.out⟩)
theorem xQ (v:Value)(l:List aj)(q k n:Int)(w:World)(h:ay w v l){t:Tree}(hF:aT l=I t)(hk:k=2\/k=3){ps:List Nat}(hp:t.path q=I ps){s':Tree}{mv:Int}(hG:lm false (max (-1000) (min n 1000)) k q t s' mv false):Calls prog 30 #[v,J Jq q,J Jq k,J Jq n] w (EJ 0 47 [] w):=by
 have HT:=zh (dI v l w h hF)
 have ao:=jr hF
 have eE:=aV hF
 have TW:=lay_size eE
 have bL:Hid ((ag t).ids=t.idl/\t.idl.length<=32/\t.idl≠[]/\(ag t).cnt<=1000):=by
  have h1:=oO t eE.kinds
  refine⟨h1,?_,?_,ao.2.2.2.2⟩
  . rw[<- h1,ao.1];exact ao.2.2.1
  . rw[<- h1];exact uK t eE.kinds eE.sound
 have pt:((k != 2)=false)\/((k != 2)=true/\(k != 3)=false):=by rcases hk with rfl | rfl <;> simp
 have HQ:Hid (decide (q∈t.idl)=true):=decide_eq_true (by
  by_cases e:q∈t.idl
  . exact e
  . rw[(dR t q).2 e] at hp
    cases hp)
 obtain⟨nc,Rt⟩:∃x,max (-1000) (min n 1000)=x:=⟨_,rfl⟩
 rw[Rt] at hG
 obtain⟨nt,lz⟩:∃x,ag s'=x:=⟨_,rfl⟩
 have HG:=zh hG
 have ti:=zh lz
 clear h hF hk ao eE TW hp hG lz
 go_enter func30,ntmps30
 go_wp2_with fail
 refine HT.out.mono ?_
 rintro e w1 ⟨sa,sn,sc,fp,rfl,ab,hb⟩
 obtain⟨W,hW⟩:∃W,w1.alloc (JZ #[J Jq (ag t).k,J Jq (ag t).w,J Jq (ag t).h,J Jq (ag t).i,Jj sa sn sc] 53)=W:=⟨_,rfl⟩
 have ap:Below w1.heap.size w1 W:=by rw[<- hW];exact (Below.refl _ _).alloc (Nat.le_refl _) _
 have bR:=zh (af hb ap)
 have hM:W.heap[w1.heap.size]?=I (JZ #[J Jq (ag t).k,J Jq (ag t).w,J Jq (ag t).h,J Jq (ag t).i,Jj sa sn sc] 53 (0,0)):=by rw[<- hW];exact heap_alloc_new _ _
 have HX:Hid (∀X,Below W.heap.size W X->X.heap[w1.heap.size]?=I (JZ #[J Jq (ag t).k,J Jq (ag t).w,J Jq (ag t).h,J Jq (ag t).i,Jj sa sn sc] 53 (0,0))):=fun X hX=>(hX.block _ (lt_of_block hM)).trans hM
 have en:Hid (∀X,Below W.heap.size W X->(ag t).In X (Jj sa sn sc) fp):=fun X hX=>(ab.below ap).below hX
 have HW:=zh hW
 have bv:Hid (Calls prog 54 #[.agg #[J Jq (ag t).k,J Jq (ag t).w,J Jq (ag t).h,J Jq (ag t).i,Jj sa sn sc]] W fun e w'=>∃u,e=Jz u/\dD w' W.heap.size u t.idl/\Below W.heap.size W w'):=by
  refine (dF (ag t) bL.out.2.2.2 _ fp W (en.out W (Below.refl _ _))).mono ?_
  rintro e w' ⟨u,rfl,h1,h2⟩
  rw[bL.out.1] at h1
  exact⟨u,rfl,h1,h2⟩
 have ec:Hid (∀X,Below W.heap.size W X->Calls prog 65 #[.agg #[J Jq (ag t).k,J Jq (ag t).w,J Jq (ag t).h,J Jq (ag t).i,Jj sa sn sc],J Jq q,J Jq k,J Jq nc,.bool false] X fun e w'=>∃ta tn tc fp',e=Jz (.tuple #[.agg (aC nt (Jj ta tn tc)),J Jq mv,.bool false])/\(ag s').In w' (Jj ta tn tc) fp'/\Below W.heap.size W w'):=fun X hX=>by
  refine (HG.out _ fp X (en.out X hX)).mono ?_
  rintro e w' ⟨ta,tn,tc,fp',rfl,e1,e2,e3⟩
  exact⟨ta,tn,tc,fp',by rw[ti.out],e1,af hX e3⟩
 obtain⟨nn,aR⟩:∃x,ag t=x:=⟨_,rfl⟩
 have fq:=zh aR
 rw[aR] at HX HW bv ec ⊢
 have fN:Hid (∀X,Below W.heap.size W X->X.cell? ⟨w1.heap.size,0,O⟩=I (J Jq nn.k)/\X.cell? ⟨w1.heap.size,1,O⟩=I (J Jq nn.w)/\X.cell? ⟨w1.heap.size,2,O⟩=I (J Jq nn.h)/\X.cell? ⟨w1.heap.size,3,O⟩=I (J Jq nn.i)/\X.cell? ⟨w1.heap.size,4,O⟩=I (Jj sa sn sc)):=fun X hX=>⟨ae (HX.out X hX) 0,ae (HX.out X hX) 1,ae (HX.out X hX) 2,ae (HX.out X hX) 3,ae (HX.out X hX) 4⟩
 unfold aC
 clear hb ab ap hM hW aR HT
 rcases pt with kb | ⟨kb,kb'⟩
 all_goals (
  go_upto_region 6 with fail
  rw[HW.out]
  obtain⟨m0,m1,m2,m3,m4⟩:=fN.out W (Below.refl _ _)
  go_wp2_with fail
  refine bv.out.mono ?_
  rintro e w2 ⟨u,rfl,hu,al⟩
  have IS:Hid (Calls prog 55 #[u,J Jq q] w2 fun e w'=>e=Jz (.bool true)/\w2=w'):=by
   have:=iK u t.idl _ q w2 hu (by have:=bL.out.2.1;omega) bL.out.2.2.1
   rw[HQ.out] at this
   exact this
  have aD:=zh al
  clear hu al bv m0 m1 m2 m3 m4
  go_wp2_with fail
  refine IS.out.mono ?_
  rintro e w3 ⟨rfl,rfl⟩
  obtain⟨m0,m1,m2,m3,m4⟩:=fN.out w2 aD.out
  go_wp2_with fail
  refine (ec.out _ aD.out).mono ?_
  rintro e w4 ⟨ta,tn,tc,fp',rfl,cj,cv⟩
  unfold aC
  clear m0 m1 m2 m3 m4
  have gr:=zh (aK (af bR.out cv))
  clear cv cj
  go_wp2
  exact bodyPost_ret (v:=.tuple #[Jj O 0 0,J Jq 0,J Jq 47]) (by simp[results,results30,go_sem]) rfl ⟨_,rfl,World.ownsRow_nil _ _ _ _,gr.out _⟩)
theorem Gh (v:Value)(l:List aj)(q k n:Int)(w:World)(h:ay w v l){t:Tree}(hF:aT l=I t)(hk:k=2\/k=3){ps:List Nat}(hp:t.path q=I ps){s':Tree}{mv:Int}(hG:lm false (max (-1000) (min n 1000)) k q t s' mv true)(hs:s'.sound=true)(dj:s'.kinds)(hz:s'.size<=200):Calls prog 30 #[v,J Jq q,J Jq k,J Jq n] w (EJ mv 0 (cZ s') w):=by
 have HT:=zh (dI v l w h hF)
 have ao:=jr hF
 have eE:=aV hF
 have TW:=lay_size eE
 have bL:Hid ((ag t).ids=t.idl/\t.idl.length<=32/\t.idl≠[]/\(ag t).cnt<=1000):=by
  have h1:=oO t eE.kinds
  refine⟨h1,?_,?_,ao.2.2.2.2⟩
  . rw[<- h1,ao.1];exact ao.2.2.1
  . rw[<- h1];exact uK t eE.kinds eE.sound
 have pt:((k != 2)=false)\/((k != 2)=true/\(k != 3)=false):=by rcases hk with rfl | rfl <;> simp
 have HQ:Hid (decide (q∈t.idl)=true):=decide_eq_true (by
  by_cases e:q∈t.idl
  . exact e
  . rw[(dR t q).2 e] at hp
    cases hp)
 obtain⟨nc,Rt⟩:∃x,max (-1000) (min n 1000)=x:=⟨_,rfl⟩
 rw[Rt] at hG
 obtain⟨nt,lz⟩:∃x,ag s'=x:=⟨_,rfl⟩
 have HG:=zh hG
 have ti:=zh lz
 obtain⟨LT,ki⟩:∃x,cZ s'=x:=⟨_,rfl⟩
 have qD:Hid (∀X ta tn tc fp',(ag s').In X (Jj ta tn tc) fp'->Calls prog 16 #[.agg #[J Jq nt.k,J Jq nt.w,J Jq nt.h,J Jq nt.i,Jj ta tn tc]] X fun e w'=>∃u,e=Jz u/\az w' X.heap.size u LT/\Below X.heap.size X w'):=fun X ta tn tc fp' hX=>by
  have:=iW hs dj hz hX
  rw[lz,ki] at this
  exact this
 rw[ki]
 clear h hF hk ao eE TW hp hG lz hs dj hz ki
 go_enter func30,ntmps30
 go_wp2_with fail
 refine HT.out.mono ?_
 rintro e w1 ⟨sa,sn,sc,fp,rfl,ab,hb⟩
 obtain⟨W,hW⟩:∃W,w1.alloc (JZ #[J Jq (ag t).k,J Jq (ag t).w,J Jq (ag t).h,J Jq (ag t).i,Jj sa sn sc] 53)=W:=⟨_,rfl⟩
 have ap:Below w1.heap.size w1 W:=by rw[<- hW];exact (Below.refl _ _).alloc (Nat.le_refl _) _
 have bR:=zh (af hb ap)
 have hM:W.heap[w1.heap.size]?=I (JZ #[J Jq (ag t).k,J Jq (ag t).w,J Jq (ag t).h,J Jq (ag t).i,Jj sa sn sc] 53 (0,0)):=by rw[<- hW];exact heap_alloc_new _ _
 have HX:Hid (∀X,Below W.heap.size W X->X.heap[w1.heap.size]?=I (JZ #[J Jq (ag t).k,J Jq (ag t).w,J Jq (ag t).h,J Jq (ag t).i,Jj sa sn sc] 53 (0,0))):=fun X hX=>(hX.block _ (lt_of_block hM)).trans hM
 have en:Hid (∀X,Below W.heap.size W X->(ag t).In X (Jj sa sn sc) fp):=fun X hX=>(ab.below ap).below hX
 have HW:=zh hW
 have bv:Hid (Calls prog 54 #[.agg #[J Jq (ag t).k,J Jq (ag t).w,J Jq (ag t).h,J Jq (ag t).i,Jj sa sn sc]] W fun e w'=>∃u,e=Jz u/\dD w' W.heap.size u t.idl/\Below W.heap.size W w'):=by
  refine (dF (ag t) bL.out.2.2.2 _ fp W (en.out W (Below.refl _ _))).mono ?_
  rintro e w' ⟨u,rfl,h1,h2⟩
  rw[bL.out.1] at h1
  exact⟨u,rfl,h1,h2⟩
 have ec:Hid (∀X,Below W.heap.size W X->Calls prog 65 #[.agg #[J Jq (ag t).k,J Jq (ag t).w,J Jq (ag t).h,J Jq (ag t).i,Jj sa sn sc],J Jq q,J Jq k,J Jq nc,.bool false] X fun e w'=>∃ta tn tc fp',e=Jz (.tuple #[.agg (aC nt (Jj ta tn tc)),J Jq mv,.bool true])/\(ag s').In w' (Jj ta tn tc) fp'/\Below W.heap.size W w'):=fun X hX=>by
  refine (HG.out _ fp X (en.out X hX)).mono ?_
  rintro e w' ⟨ta,tn,tc,fp',rfl,e1,e2,e3⟩
  exact⟨ta,tn,tc,fp',by rw[ti.out],e1,af hX e3⟩
 obtain⟨nn,aR⟩:∃x,ag t=x:=⟨_,rfl⟩
 have fq:=zh aR
 rw[aR] at HX HW bv ec ⊢
 have fN:Hid (∀X,Below W.heap.size W X->X.cell? ⟨w1.heap.size,0,O⟩=I (J Jq nn.k)/\X.cell? ⟨w1.heap.size,1,O⟩=I (J Jq nn.w)/\X.cell? ⟨w1.heap.size,2,O⟩=I (J Jq nn.h)/\X.cell? ⟨w1.heap.size,3,O⟩=I (J Jq nn.i)/\X.cell? ⟨w1.heap.size,4,O⟩=I (Jj sa sn sc)):=fun X hX=>⟨ae (HX.out X hX) 0,ae (HX.out X hX) 1,ae (HX.out X hX) 2,ae (HX.out X hX) 3,ae (HX.out X hX) 4⟩
 unfold aC
 clear hb ab ap hM hW aR HT
 rcases pt with kb | ⟨kb,kb'⟩
 all_goals (
  go_upto_region 6 with fail
  rw[HW.out]
  obtain⟨m0,m1,m2,m3,m4⟩:=fN.out W (Below.refl _ _)
  go_wp2_with fail
  refine bv.out.mono ?_
  rintro e w2 ⟨u,rfl,hu,al⟩
  have IS:Hid (Calls prog 55 #[u,J Jq q] w2 fun e w'=>e=Jz (.bool true)/\w2=w'):=by
   have:=iK u t.idl _ q w2 hu (by have:=bL.out.2.1;omega) bL.out.2.2.1
   rw[HQ.out] at this
   exact this
  have aD:=zh al
  clear hu al bv m0 m1 m2 m3 m4
  go_wp2_with fail
  refine IS.out.mono ?_
  rintro e w3 ⟨rfl,rfl⟩
  obtain⟨m0,m1,m2,m3,m4⟩:=fN.out w2 aD.out
  go_wp2_with fail
  refine (ec.out _ aD.out).mono ?_
  rintro e w4 ⟨ta,tn,tc,fp',rfl,cj,cv⟩
  unfold aC
  clear m0 m1 m2 m3 m4
  obtain⟨Z,hZ⟩:∃Z,w4.alloc (JZ #[J Jq nt.k,J Jq nt.w,J Jq nt.h,J Jq nt.i,Jj ta tn tc] 53)=Z:=⟨_,rfl⟩
  have eK:Below w4.heap.size w4 Z:=by rw[<- hZ];exact (Below.refl _ _).alloc (Nat.le_refl _) _
  have zr:Z.heap[w4.heap.size]?=I (JZ #[J Jq nt.k,J Jq nt.w,J Jq nt.h,J Jq nt.i,Jj ta tn tc] 53 (0,0)):=by rw[<- hZ];exact heap_alloc_new _ _
  have oy:Hid (Calls prog 16 #[.agg #[J Jq nt.k,J Jq nt.w,J Jq nt.h,J Jq nt.i,Jj ta tn tc]] Z fun e w'=>∃u,e=Jz u/\az w' w.heap.size u LT/\Below w.heap.size w w'):=by
   have Rv:=af (af bR.out cv) eK
   refine (qD.out Z ta tn tc fp' (cj.below eK)).mono ?_
   rintro e w' ⟨u,rfl,h1,h2⟩
   exact⟨u,rfl,h1.lower Rv.size,af Rv h2⟩
  have z0:=ae zr 0
  have z1:=ae zr 1
  have z2:=ae zr 2
  have z3:=ae zr 3
  have z4:=ae zr 4
  have HZ:=zh hZ
  clear cv cj eK zr hZ
  go_upto_region 14 with fail
  rw[HZ.out]
  go_wp2_with fail
  refine oy.out.mono ?_
  rintro e w5 ⟨u5,rfl,h5,cd⟩
  have H5:Hid (az w5 w.heap.size u5 LT/\Below w.heap.size w w5):=⟨h5,cd⟩
  clear h5 cd z0 z1 z2 z3 z4
  go_wp2
  exact bodyPost_ret (v:=.tuple #[u5,J Jq mv,J Jq 0]) (by simp[results,results30,go_sem]) rfl ⟨u5,rfl,H5.out.1,H5.out.2⟩)
theorem CP (t:Tree):(cZ t).length=t.size:=by
 unfold cZ
 rw[Tree.eu,Tree.iI]
theorem uk (k:Int)(ts:List Tree)(n:Int)(rs:List Tree)(c:Nat)(got:Int)(h:PL k ts n rs c got):BX k ts (max (-1000) (min n 1000)) rs c got/\jv (max (-1000) (min n 1000)) got=jv n got:=by
 obtain⟨h1,h2⟩:=h.draw
 have e1:0<=n->max (-1000) (min n 1000)=min n 1000:=fun e=>by omega
 have e2:n < 0->max (-1000) (min n 1000)=max n (-1000):=fun e=>by omega
 refine⟨⟨by omega,by omega,fun e=> ?_,fun e=> ?_⟩,?_⟩
 . have h0:0<=n:=by omega
   rw[e1 h0]
   exact h1 h0
 . have h0:n < 0:=by omega
   rw[e2 h0]
   exact h2 h0
 . unfold jv
   by_cases h0:0<=n
   . rw[if_pos h0,if_pos (by omega)]
   . rw[if_neg h0,if_neg (by omega)]
theorem push_any (l:List aj)(q k n:Int)(hn: -9223372036854775808<=n/\n<=9223372036854775807):∃mv er r,(r:List aj).length<=200/\(∀v X,ay X v l->Calls prog 22 #[v,J Jq q,J Jq k,J Jq n] X (EJ mv er r X))/\(∀v X,ay X v l->Calls prog 30 #[v,J Jq q,J Jq k,J Jq n] X (EJ mv er r X)):=by
 cases hF:aT l with
 | none=>exact⟨0,40,[],by simp,fun v X h=>rZ v q k n 40 X (Ci v l q k X h hF) (by decide),fun v X h=>zB v l q k n X h hF⟩
 | some t=>
   have hl:=aV hF
   have hz:=lay_size hl
   by_cases hk:k=2\/k=3
   . cases hp:t.path q with
     | none=>exact⟨0,42,[],by simp,fun v X h=>rZ v q k n 42 X (Cj v l q k X h hF hk hp) (by decide),fun v X h=>zC v l q k n X h hF hk hp⟩
     | some ps=>
       have vR:=rX t q ps hp
       cases eV:iT k t ps with
       | none=>
         have yr:=AA false (max (-1000) (min n 1000)) k ps t q hp eV
         exact⟨0,47,[],by simp,fun v X h=>rZ v q k n 47 X (zy v l q k X h hF hk ps hp (by omega) eV) (by decide),fun v X h=>xQ v l q k n X h hF hk hp (mO yr hp hl.sound hl.kinds (by omega) (fun e=>by cases e))⟩
       | some r=>
         obtain⟨qs,a⟩:=r
         obtain⟨b,ts,aL,ha⟩:=AC k ps t qs a eV
         obtain⟨s1,s2,s3⟩:=mP qs t _ aL hl.sound hl.kinds
         obtain⟨rs,c,got,hT,hG,_⟩:=xR b k ts a n s1 s2 (by omega) ha
         obtain⟨hM,Rw⟩:=uk k ts n rs c got hG
         obtain⟨s,hs⟩:∃s,ts[a]?=I s:=⟨_,List.getElem?_eq_getElem ha⟩
         have yr:=AB false (max (-1000) (min n 1000)) k ps t q qs a b ts s rs c got hp eV aL hs hT.mid hM
         have hbo:Bq false (max (-1000) (min n 1000)) k ts a s=max (-1000) (min n 1000):=by simp[Bq]
         rw[hbo,Rw] at yr
         have kq:=su qs t _ _ aL (mQ b k ts rs hT.same)
         have cJ:(t.putAt qs (.split b k rs)).size=t.size:=kq.size
         refine⟨jv n got,0,cZ (t.putAt qs (.split b k rs)),?_,fun v X h=>Nl v q k n X (qh v l q k X h hF hk ps hp (by omega) qs a eV) hl.sound hl.kinds (by omega) aL hT hn,fun v X h=>Gh v l q k n X h hF hk hp (mO yr hp hl.sound hl.kinds (by omega) (fun e=>by cases e)) (kq.sound hl.sound) (kq.kinds hl.kinds) (by omega)⟩
         rw[CP]
         omega
   . exact⟨0,1,[],by simp,fun v X h=>rZ v q k n 1 X (Gg v l q k X h hF hk) (by decide),fun v X h=>CQ v l q k n X h hF hk⟩
theorem ww (v:Value)(q k n mv er:Int)(r:List aj)(w:World)(h:Calls prog 30 #[v,J Jq q,J Jq k,J Jq 0] w (EJ mv er r w))(h0:er≠0):Calls prog 31 #[v,J Jq q,J Jq k,J Jq n] w (dZ er [] w):=by
 have HN:=zh h
 have E6:(er != 0)=true:=by simpa using h0
 clear h h0
 go_enter func31,ntmps31
 go_wp2_with fail
 refine HN.out.mono ?_
 rintro e w1 ⟨u,rfl,_,hb⟩
 have HB:=zh hb
 clear hb HN
 go_wp2
 go_ret2
 exact⟨_,rfl,World.ownsRow_nil _ _ _ _,HB.out⟩
theorem J6 (v:Value)(q k n mv:Int)(r:List aj)(w:World)(h:Calls prog 30 #[v,J Jq q,J Jq k,J Jq 0] w (EJ mv 0 r w))(hn:aG n=false):Calls prog 31 #[v,J Jq q,J Jq k,J Jq n] w (dZ 41 [] w):=by
 have HN:=zh h
 have eV:n < 1\/(¬n < 1/\1000 < n):=by
  by_cases e:n < 1
  . exact .inl e
  . refine .inr ⟨e,?_⟩
    by_cases e2:1000 < n
    . exact e2
    . have h1:1<=n:=by omega
      have h2:n<=1000:=by omega
      simp[aG,h1,h2] at hn
 clear h hn
 go_enter func31,ntmps31
 go_wp2_with fail
 refine HN.out.mono ?_
 rintro e w1 ⟨u,rfl,_,hb⟩
 have HB:=zh hb
 clear hb HN
 rcases eV with h1 | ⟨h1,h2⟩
 . have d1:decide (n < 1)=true:=decide_eq_true h1
   go_wp2
   all_goals go_ret2
   all_goals exact⟨_,rfl,World.ownsRow_nil _ _ _ _,HB.out⟩
 . have d1:decide (n < 1)=false:=decide_eq_false (by omega)
   have d2:decide (1000 < n)=true:=decide_eq_true h2
   go_wp2
   all_goals go_ret2
   all_goals exact⟨_,rfl,World.ownsRow_nil _ _ _ _,HB.out⟩
theorem OM (v:Value)(l:List aj)(q k n mv:Int)(r:List aj)(w:World)(hv:ay w v l)(h:Calls prog 30 #[v,J Jq q,J Jq k,J Jq 0] w (EJ mv 0 r w))(hn:1<=n/\n<=1000){t:Tree}(hF:aT l=I t){s':Tree}{mv':Int}(hG:lm true n k q t s' mv' true)(hs:s'.sound=true)(dj:s'.kinds)(hz:s'.size<=200):Calls prog 31 #[v,J Jq q,J Jq k,J Jq n] w (dZ 0 (cZ s') w):=by
 have HN:=zh h
 have HT:Hid (∀X,Below w.heap.size w X->Calls prog 53 #[v] X (qF t X)):=fun X hX=>dI v l X (hv.below hX) hF
 obtain⟨nt,lz⟩:∃x,ag s'=x:=⟨_,rfl⟩
 have HG:=zh hG
 have ti:=zh lz
 obtain⟨LT,ki⟩:∃x,cZ s'=x:=⟨_,rfl⟩
 have qD:Hid (∀X ta tn tc fp',(ag s').In X (Jj ta tn tc) fp'->Calls prog 16 #[.agg #[J Jq nt.k,J Jq nt.w,J Jq nt.h,J Jq nt.i,Jj ta tn tc]] X fun e w'=>∃u,e=Jz u/\az w' X.heap.size u LT/\Below X.heap.size X w'):=fun X ta tn tc fp' hX=>by
  have:=iW hs dj hz hX
  rw[lz,ki] at this
  exact this
 rw[ki]
 have d1:decide (n < 1)=false:=decide_eq_false (by omega)
 have d2:decide (1000 < n)=false:=decide_eq_false (by omega)
 clear h hv hF hG hs dj hz lz ki hn
 go_enter func31,ntmps31
 go_wp2_with fail
 refine HN.out.mono ?_
 rintro e w0 ⟨u,rfl,_,hb0⟩
 have UO:=zh hb0
 clear hb0 HN
 go_wp2_with fail
 refine (HT.out w0 UO.out).mono ?_
 rintro e w1 ⟨sa,sn,sc,fp,rfl,ab,hb⟩
 obtain⟨W,hW⟩:∃W,w1.alloc (JZ #[J Jq (ag t).k,J Jq (ag t).w,J Jq (ag t).h,J Jq (ag t).i,Jj sa sn sc] 53)=W:=⟨_,rfl⟩
 have ap:Below w1.heap.size w1 W:=by rw[<- hW];exact (Below.refl _ _).alloc (Nat.le_refl _) _
 have bR:=zh (af (af UO.out hb) ap)
 have hM:W.heap[w1.heap.size]?=I (JZ #[J Jq (ag t).k,J Jq (ag t).w,J Jq (ag t).h,J Jq (ag t).i,Jj sa sn sc] 53 (0,0)):=by rw[<- hW];exact heap_alloc_new _ _
 have HW:=zh hW
 have ec:Hid (Calls prog 65 #[.agg #[J Jq (ag t).k,J Jq (ag t).w,J Jq (ag t).h,J Jq (ag t).i,Jj sa sn sc],J Jq q,J Jq k,J Jq n,.bool true] W fun e w'=>∃ta tn tc fp',e=Jz (.tuple #[.agg (aC nt (Jj ta tn tc)),J Jq mv',.bool true])/\(ag s').In w' (Jj ta tn tc) fp'/\Below W.heap.size W w'):=by
  refine (HG.out _ fp W (ab.below ap)).mono ?_
  rintro e w' ⟨ta,tn,tc,fp',rfl,e1,e2,e3⟩
  exact⟨ta,tn,tc,fp',by rw[ti.out],e1,e3⟩
 obtain⟨nn,aR⟩:∃x,ag t=x:=⟨_,rfl⟩
 rw[aR] at HW ec hM ⊢
 unfold aC
 have m0:=ae hM 0
 have m1:=ae hM 1
 have m2:=ae hM 2
 have m3:=ae hM 3
 have m4:=ae hM 4
 clear hb ab ap hM hW aR HT
 go_upto_region 7 with fail
 rw[HW.out]
 go_wp2_with fail
 refine ec.out.mono ?_
 rintro e w4 ⟨ta,tn,tc,fp',rfl,cj,cv⟩
 unfold aC
 clear m0 m1 m2 m3 m4
 obtain⟨Z,hZ⟩:∃Z,w4.alloc (JZ #[J Jq nt.k,J Jq nt.w,J Jq nt.h,J Jq nt.i,Jj ta tn tc] 53)=Z:=⟨_,rfl⟩
 have eK:Below w4.heap.size w4 Z:=by rw[<- hZ];exact (Below.refl _ _).alloc (Nat.le_refl _) _
 have zr:Z.heap[w4.heap.size]?=I (JZ #[J Jq nt.k,J Jq nt.w,J Jq nt.h,J Jq nt.i,Jj ta tn tc] 53 (0,0)):=by rw[<- hZ];exact heap_alloc_new _ _
 have oy:Hid (Calls prog 16 #[.agg #[J Jq nt.k,J Jq nt.w,J Jq nt.h,J Jq nt.i,Jj ta tn tc]] Z fun e w'=>∃u,e=Jz u/\az w' w.heap.size u LT/\Below w.heap.size w w'):=by
  have Rv:=af (af bR.out cv) eK
  refine (qD.out Z ta tn tc fp' (cj.below eK)).mono ?_
  rintro e w' ⟨u,rfl,h1,h2⟩
  exact⟨u,rfl,h1.lower Rv.size,af Rv h2⟩
 have z0:=ae zr 0
 have z1:=ae zr 1
 have z2:=ae zr 2
 have z3:=ae zr 3
 have z4:=ae zr 4
 have HZ:=zh hZ
 clear cv cj eK zr hZ
 go_upto_region 8 with fail
 rw[HZ.out]
 go_wp2_with fail
 refine oy.out.mono ?_
 rintro e w5 ⟨u5,rfl,h5,cd⟩
 have H5:Hid (az w5 w.heap.size u5 LT/\Below w.heap.size w w5):=⟨h5,cd⟩
 clear h5 cd z0 z1 z2 z3 z4
 go_wp2
 go_ret2
 exact⟨u5,rfl,H5.out.1,H5.out.2⟩
theorem set_any (l:List aj)(q k n:Int):∃er r,(r:List aj).length<=200/\(∀v X,ay X v l->Calls prog 23 #[v,J Jq q,J Jq k,J Jq n] X (dZ er r X))/\(∀v X,ay X v l->Calls prog 31 #[v,J Jq q,J Jq k,J Jq n] X (dZ er r X)):=by
 cases hF:aT l with
 | none=>exact⟨40,[],by simp,fun v X h=>vU v q k n 40 X (Ci v l q k X h hF) (by decide),fun v X h=>ww v q k n 0 40 [] X (zB v l q k 0 X h hF) (by decide)⟩
 | some t=>
   have hl:=aV hF
   have hz:=lay_size hl
   by_cases hk:k=2\/k=3
   . cases hp:t.path q with
     | none=>exact⟨42,[],by simp,fun v X h=>vU v q k n 42 X (Cj v l q k X h hF hk hp) (by decide),fun v X h=>ww v q k n 0 42 [] X (zC v l q k 0 X h hF hk hp) (by decide)⟩
     | some ps=>
       have vR:=rX t q ps hp
       cases eV:iT k t ps with
       | none=>
         have yr:=AA false (max (-1000) (min 0 1000)) k ps t q hp eV
         exact⟨47,[],by simp,fun v X h=>vU v q k n 47 X (zy v l q k X h hF hk ps hp (by omega) eV) (by decide),fun v X h=>ww v q k n 0 47 [] X (xQ v l q k 0 X h hF hk hp (mO yr hp hl.sound hl.kinds (by omega) (fun e=>by cases e))) (by decide)⟩
       | some r=>
         obtain⟨qs,a⟩:=r
         obtain⟨b,ts,aL,ha⟩:=AC k ps t qs a eV
         obtain⟨s1,s2,s3⟩:=mP qs t _ aL hl.sound hl.kinds
         obtain⟨s,hs⟩:∃s,ts[a]?=I s:=⟨_,List.getElem?_eq_getElem ha⟩
         have Ev:∃mv r,∀v X,ay X v l->Calls prog 30 #[v,J Jq q,J Jq k,J Jq 0] X (EJ mv 0 r X):=by
          obtain⟨rs,c,got,hT,hG,_⟩:=xR b k ts a 0 s1 s2 (by omega) ha
          obtain⟨hM,Rw⟩:=uk k ts 0 rs c got hG
          have hM':BX k ts (Bq false (max (-1000) (min 0 1000)) k ts a s) rs c got:=by
           unfold Bq
           rw[if_neg (by decide)]
           exact hM
          have yr:=AB false (max (-1000) (min 0 1000)) k ps t q qs a b ts s rs c got hp eV aL hs hT.mid hM'
          have kq:=su qs t _ _ aL (mQ b k ts rs hT.same)
          have cJ:(t.putAt qs (.split b k rs)).size=t.size:=kq.size
          exact⟨_,_,fun v X h=>Gh v l q k 0 X h hF hk hp (mO yr hp hl.sound hl.kinds (by omega) (fun e=>by cases e)) (kq.sound hl.sound) (kq.kinds hl.kinds) (by omega)⟩
         obtain⟨mv0,r0,Ev⟩:=Ev
         cases ar:aG n with
         | false=>exact⟨41,[],by simp,fun v X h=>JF v q k n X (qh v l q k X h hF hk ps hp (by omega) qs a eV) ar,fun v X h=>J6 v q k n mv0 r0 X (Ev v X h) ar⟩
         | true=>
           have ft:1<=n/\n<=1000:=by
            simp only[aG,Bool.and_eq_true,decide_eq_true_eq] at ar
            exact ar
           obtain⟨E,hE⟩:∃x,s.box.ext k=x:=⟨_,rfl⟩
           have D4:1<=E/\E<=1000:=by
            have r7:=s1
            unfold Tree.sound at r7
            simp only[Bool.and_eq_true,decide_eq_true_eq] at r7
            have hx:=aO ts b k a s hs r7.2.1
            simp only[Bool.and_eq_true,decide_eq_true_eq] at hx
            have h:=df s.box k (s.aF hx.1)
            rw[hE] at h
            omega
           obtain⟨m,hm⟩:∃m,Bq true n k ts a s=m:=⟨_,rfl⟩
           have hmb: -1000<=m/\m<=1000:=by
            rw[<- hm]
            unfold Bq
            rw[if_pos rfl,hE]
            split <;> omega
           obtain⟨rs,c,got,hT,hG,_⟩:=xR b k ts a m s1 s2 (by omega) ha
           obtain⟨hM,Rw⟩:=uk k ts m rs c got hG
           rw[show max (-1000) (min m 1000)=m by omega] at hM
           have yr:=AB true n k ps t q qs a b ts s rs c got hp eV aL hs hT.mid (hm ▸ hM)
           have kq:=su qs t _ _ aL (mQ b k ts rs hT.same)
           have cJ:(t.putAt qs (.split b k rs)).size=t.size:=kq.size
           refine⟨0,cZ (t.putAt qs (.split b k rs)),?_,fun v X h=> ?_,fun v X h=>OM v l q k n mv0 r0 X h (Ev v X h) ft hF (mO yr hp hl.sound hl.kinds (by omega) (fun _=>ft)) (kq.sound hl.sound) (kq.kinds hl.kinds) (by omega)⟩
           . rw[CP]
             omega
           . have cy:=hT.mid
             by_cases Kl:c=a
             . have e:m=n-E:=by
                rw[<- hm,<- hE]
                unfold Bq
                rw[if_pos rfl,if_pos (by omega)]
               rw[e] at hT
               exact MN v q k n X (qh v l q k X h hF hk ps hp (by omega) qs a eV) hl.sound hl.kinds (by omega) aL hs ft E hE D4 hT Kl
             . have e:m= -(n-E):=by
                rw[<- hm,<- hE]
                unfold Bq
                rw[if_pos rfl,if_neg (by omega)]
               rw[e] at hT
               exact MO v q k n X (qh v l q k X h hF hk ps hp (by omega) qs a eV) hl.sound hl.kinds (by omega) aL hs ft E hE D4 hT Kl
   . exact⟨1,[],by simp,fun v X h=>vU v q k n 1 X (Gg v l q k X h hF hk) (by decide),fun v X h=>ww v q k n 0 1 [] X (CQ v l q k 0 X h hF hk) (by decide)⟩
theorem aJ (w:World)(o1 o2:Obj):Below w.heap.size w ((w.alloc o1).alloc o2):=((Below.refl _ _).alloc (Nat.le_refl _) _).alloc (by simp) _
theorem dL {p:Prop}(h:p):Hid p:=h
theorem PU (v:Value)(o:OpV)(w:World)(er:Int)(r:List aj)(hk:o.k=0)(hC:∀X,Below w.heap.size w X->Calls prog 18 #[v,J Jq o.pane,J Jq o.kind,J Jq o.size,.bool o.bf,J Jq o.id] X (dZ er r X)):Calls prog 9 #[v,.agg o.vals] w (dZ er r w):=by
 obtain⟨ok,pane,kind,size,bf,id,a,b⟩:=o
 change ok=0 at hk
 subst hk
 have HC:=dL hC
 clear hC
 unfold OpV.vals
 dsimp only at HC ⊢
 go_enter func9,ntmps9
 go_wp2_with fail
 refine (HC.out _ (aJ w _ _)).mono ?_
 rintro e w1 ⟨u,rfl,hu,hb⟩
 have HB:Hid (Below w.heap.size w w1):=af (aJ w _ _) hb
 have HU:Hid (az w1 w.heap.size u r):=hu.lower (aJ w _ _).size
 clear hu hb HC
 go_wp2
 go_ret2
 exact⟨u,rfl,HU.out,HB.out⟩
theorem PV (v:Value)(o:OpV)(w:World)(er:Int)(r:List aj)(hk:o.k=1)(hC:∀X,Below w.heap.size w X->Calls prog 19 #[v,J Jq o.kind,J Jq o.size,.bool o.bf,J Jq o.id] X (dZ er r X)):Calls prog 9 #[v,.agg o.vals] w (dZ er r w):=by
 obtain⟨ok,pane,kind,size,bf,id,a,b⟩:=o
 change ok=1 at hk
 subst hk
 have HC:=dL hC
 clear hC
 unfold OpV.vals
 dsimp only at HC ⊢
 go_enter func9,ntmps9
 go_wp2_with fail
 refine (HC.out _ (aJ w _ _)).mono ?_
 rintro e w1 ⟨u,rfl,hu,hb⟩
 have HB:Hid (Below w.heap.size w w1):=af (aJ w _ _) hb
 have HU:Hid (az w1 w.heap.size u r):=hu.lower (aJ w _ _).size
 clear hu hb HC
 go_wp2
 go_ret2
 exact⟨u,rfl,HU.out,HB.out⟩
theorem PW (v:Value)(o:OpV)(w:World)(er:Int)(r:List aj)(hk:o.k=2)(hC:∀X,Below w.heap.size w X->Calls prog 20 #[v,J Jq o.pane] X (dZ er r X)):Calls prog 9 #[v,.agg o.vals] w (dZ er r w):=by
 obtain⟨ok,pane,kind,size,bf,id,a,b⟩:=o
 change ok=2 at hk
 subst hk
 have HC:=dL hC
 clear hC
 unfold OpV.vals
 dsimp only at HC ⊢
 go_enter func9,ntmps9
 go_wp2_with fail
 refine (HC.out _ (aJ w _ _)).mono ?_
 rintro e w1 ⟨u,rfl,hu,hb⟩
 have HB:Hid (Below w.heap.size w w1):=af (aJ w _ _) hb
 have HU:Hid (az w1 w.heap.size u r):=hu.lower (aJ w _ _).size
 clear hu hb HC
 go_wp2
 go_ret2
 exact⟨u,rfl,HU.out,HB.out⟩
theorem PX (v:Value)(o:OpV)(w:World)(er:Int)(r:List aj)(hk:o.k=3)(hC:∀X,Below w.heap.size w X->Calls prog 21 #[v,J Jq o.a,J Jq o.b] X (dZ er r X)):Calls prog 9 #[v,.agg o.vals] w (dZ er r w):=by
 obtain⟨ok,pane,kind,size,bf,id,a,b⟩:=o
 change ok=3 at hk
 subst hk
 have HC:=dL hC
 clear hC
 unfold OpV.vals
 dsimp only at HC ⊢
 go_enter func9,ntmps9
 go_wp2_with fail
 refine (HC.out _ (aJ w _ _)).mono ?_
 rintro e w1 ⟨u,rfl,hu,hb⟩
 have HB:Hid (Below w.heap.size w w1):=af (aJ w _ _) hb
 have HU:Hid (az w1 w.heap.size u r):=hu.lower (aJ w _ _).size
 clear hu hb HC
 go_wp2
 go_ret2
 exact⟨u,rfl,HU.out,HB.out⟩
theorem PY (v:Value)(o:OpV)(w:World)(mv:Int)(er:Int)(r:List aj)(hk:o.k=4)(hC:∀X,Below w.heap.size w X->Calls prog 22 #[v,J Jq o.pane,J Jq o.kind,J Jq o.size] X (EJ mv er r X)):Calls prog 9 #[v,.agg o.vals] w (dZ er r w):=by
 obtain⟨ok,pane,kind,size,bf,id,a,b⟩:=o
 change ok=4 at hk
 subst hk
 have HC:=dL hC
 clear hC
 unfold OpV.vals
 dsimp only at HC ⊢
 go_enter func9,ntmps9
 go_wp2_with fail
 refine (HC.out _ (aJ w _ _)).mono ?_
 rintro e w1 ⟨u,rfl,hu,hb⟩
 have HB:Hid (Below w.heap.size w w1):=af (aJ w _ _) hb
 have HU:Hid (az w1 w.heap.size u r):=hu.lower (aJ w _ _).size
 clear hu hb HC
 go_wp2
 go_ret2
 exact⟨u,rfl,HU.out,HB.out⟩
theorem PZ (v:Value)(o:OpV)(w:World)(er:Int)(r:List aj)(hk:o.k=5)(hC:∀X,Below w.heap.size w X->Calls prog 23 #[v,J Jq o.pane,J Jq o.kind,J Jq o.size] X (dZ er r X)):Calls prog 9 #[v,.agg o.vals] w (dZ er r w):=by
 obtain⟨ok,pane,kind,size,bf,id,a,b⟩:=o
 change ok=5 at hk
 subst hk
 have HC:=dL hC
 clear hC
 unfold OpV.vals
 dsimp only at HC ⊢
 go_enter func9,ntmps9
 go_wp2_with fail
 refine (HC.out _ (aJ w _ _)).mono ?_
 rintro e w1 ⟨u,rfl,hu,hb⟩
 have HB:Hid (Below w.heap.size w w1):=af (aJ w _ _) hb
 have HU:Hid (az w1 w.heap.size u r):=hu.lower (aJ w _ _).size
 clear hu hb HC
 go_wp2
 go_ret2
 exact⟨u,rfl,HU.out,HB.out⟩
theorem P5 (v:Value)(o:OpV)(w:World)(er:Int)(r:List aj)(hk:o.k=6)(hC:∀X,Below w.heap.size w X->Calls prog 24 #[v,J Jq o.pane,J Jq o.a] X (dZ er r X)):Calls prog 9 #[v,.agg o.vals] w (dZ er r w):=by
 obtain⟨ok,pane,kind,size,bf,id,a,b⟩:=o
 change ok=6 at hk
 subst hk
 have HC:=dL hC
 clear hC
 unfold OpV.vals
 dsimp only at HC ⊢
 go_enter func9,ntmps9
 go_wp2_with fail
 refine (HC.out _ (aJ w _ _)).mono ?_
 rintro e w1 ⟨u,rfl,hu,hb⟩
 have HB:Hid (Below w.heap.size w w1):=af (aJ w _ _) hb
 have HU:Hid (az w1 w.heap.size u r):=hu.lower (aJ w _ _).size
 clear hu hb HC
 go_wp2
 go_ret2
 exact⟨u,rfl,HU.out,HB.out⟩
theorem P6 (v:Value)(o:OpV)(w:World)(er:Int)(r:List aj)(hk:∀n:Int,0<=n->n<=6->o.k≠n)(hC:∀X,Below w.heap.size w X->Calls prog 25 #[v,J Jq o.a,J Jq o.b] X (dZ er r X)):Calls prog 9 #[v,.agg o.vals] w (dZ er r w):=by
 obtain⟨ok,pane,kind,size,bf,id,a,b⟩:=o
 change ∀n:Int,0<=n->n<=6->ok≠n at hk
 have k0:(ok==0)=false:=by simpa using hk 0 (by decide) (by decide)
 have k1:(ok==1)=false:=by simpa using hk 1 (by decide) (by decide)
 have k2:(ok==2)=false:=by simpa using hk 2 (by decide) (by decide)
 have k3:(ok==3)=false:=by simpa using hk 3 (by decide) (by decide)
 have k4:(ok==4)=false:=by simpa using hk 4 (by decide) (by decide)
 have k5:(ok==5)=false:=by simpa using hk 5 (by decide) (by decide)
 have k6:(ok==6)=false:=by simpa using hk 6 (by decide) (by decide)
 clear hk
 have HC:=dL hC
 clear hC
 unfold OpV.vals
 dsimp only at HC ⊢
 go_enter func9,ntmps9
 go_wp2_with fail
 refine (HC.out _ (aJ w _ _)).mono ?_
 rintro e w1 ⟨u,rfl,hu,hb⟩
 have HB:Hid (Below w.heap.size w w1):=af (aJ w _ _) hb
 have HU:Hid (az w1 w.heap.size u r):=hu.lower (aJ w _ _).size
 clear hu hb HC
 go_wp2
 go_ret2
 exact⟨u,rfl,HU.out,HB.out⟩
theorem OU (v:Value)(o:OpV)(w:World)(er:Int)(r:List aj)(hk:o.k=0)(hC:∀X,Below w.heap.size w X->Calls prog 26 #[v,J Jq o.pane,J Jq o.kind,J Jq o.size,.bool o.bf,J Jq o.id] X (dZ er r X)):Calls prog 10 #[v,.agg o.vals] w (dZ er r w):=by
 obtain⟨ok,pane,kind,size,bf,id,a,b⟩:=o
 change ok=0 at hk
 subst hk
 have HC:=dL hC
 clear hC
 unfold OpV.vals
 dsimp only at HC ⊢
 go_enter func10,ntmps10
 go_wp2_with fail
 refine (HC.out _ (aJ w _ _)).mono ?_
 rintro e w1 ⟨u,rfl,hu,hb⟩
 have HB:Hid (Below w.heap.size w w1):=af (aJ w _ _) hb
 have HU:Hid (az w1 w.heap.size u r):=hu.lower (aJ w _ _).size
 clear hu hb HC
 go_wp2
 go_ret2
 exact⟨u,rfl,HU.out,HB.out⟩
theorem OV (v:Value)(o:OpV)(w:World)(er:Int)(r:List aj)(hk:o.k=1)(hC:∀X,Below w.heap.size w X->Calls prog 27 #[v,J Jq o.kind,J Jq o.size,.bool o.bf,J Jq o.id] X (dZ er r X)):Calls prog 10 #[v,.agg o.vals] w (dZ er r w):=by
 obtain⟨ok,pane,kind,size,bf,id,a,b⟩:=o
 change ok=1 at hk
 subst hk
 have HC:=dL hC
 clear hC
 unfold OpV.vals
 dsimp only at HC ⊢
 go_enter func10,ntmps10
 go_wp2_with fail
 refine (HC.out _ (aJ w _ _)).mono ?_
 rintro e w1 ⟨u,rfl,hu,hb⟩
 have HB:Hid (Below w.heap.size w w1):=af (aJ w _ _) hb
 have HU:Hid (az w1 w.heap.size u r):=hu.lower (aJ w _ _).size
 clear hu hb HC
 go_wp2
 go_ret2
 exact⟨u,rfl,HU.out,HB.out⟩
theorem OW (v:Value)(o:OpV)(w:World)(er:Int)(r:List aj)(hk:o.k=2)(hC:∀X,Below w.heap.size w X->Calls prog 28 #[v,J Jq o.pane] X (dZ er r X)):Calls prog 10 #[v,.agg o.vals] w (dZ er r w):=by
 obtain⟨ok,pane,kind,size,bf,id,a,b⟩:=o
 change ok=2 at hk
 subst hk
 have HC:=dL hC
 clear hC
 unfold OpV.vals
 dsimp only at HC ⊢
 go_enter func10,ntmps10
 go_wp2_with fail
 refine (HC.out _ (aJ w _ _)).mono ?_
 rintro e w1 ⟨u,rfl,hu,hb⟩
 have HB:Hid (Below w.heap.size w w1):=af (aJ w _ _) hb
 have HU:Hid (az w1 w.heap.size u r):=hu.lower (aJ w _ _).size
 clear hu hb HC
 go_wp2
 go_ret2
 exact⟨u,rfl,HU.out,HB.out⟩
theorem OX (v:Value)(o:OpV)(w:World)(er:Int)(r:List aj)(hk:o.k=3)(hC:∀X,Below w.heap.size w X->Calls prog 29 #[v,J Jq o.a,J Jq o.b] X (dZ er r X)):Calls prog 10 #[v,.agg o.vals] w (dZ er r w):=by
 obtain⟨ok,pane,kind,size,bf,id,a,b⟩:=o
 change ok=3 at hk
 subst hk
 have HC:=dL hC
 clear hC
 unfold OpV.vals
 dsimp only at HC ⊢
 go_enter func10,ntmps10
 go_wp2_with fail
 refine (HC.out _ (aJ w _ _)).mono ?_
 rintro e w1 ⟨u,rfl,hu,hb⟩
 have HB:Hid (Below w.heap.size w w1):=af (aJ w _ _) hb
 have HU:Hid (az w1 w.heap.size u r):=hu.lower (aJ w _ _).size
 clear hu hb HC
 go_wp2
 go_ret2
 exact⟨u,rfl,HU.out,HB.out⟩
theorem OY (v:Value)(o:OpV)(w:World)(mv:Int)(er:Int)(r:List aj)(hk:o.k=4)(hC:∀X,Below w.heap.size w X->Calls prog 30 #[v,J Jq o.pane,J Jq o.kind,J Jq o.size] X (EJ mv er r X)):Calls prog 10 #[v,.agg o.vals] w (dZ er r w):=by
 obtain⟨ok,pane,kind,size,bf,id,a,b⟩:=o
 change ok=4 at hk
 subst hk
 have HC:=dL hC
 clear hC
 unfold OpV.vals
 dsimp only at HC ⊢
 go_enter func10,ntmps10
 go_wp2_with fail
 refine (HC.out _ (aJ w _ _)).mono ?_
 rintro e w1 ⟨u,rfl,hu,hb⟩
 have HB:Hid (Below w.heap.size w w1):=af (aJ w _ _) hb
 have HU:Hid (az w1 w.heap.size u r):=hu.lower (aJ w _ _).size
 clear hu hb HC
 go_wp2
 go_ret2
 exact⟨u,rfl,HU.out,HB.out⟩
theorem OZ (v:Value)(o:OpV)(w:World)(er:Int)(r:List aj)(hk:o.k=5)(hC:∀X,Below w.heap.size w X->Calls prog 31 #[v,J Jq o.pane,J Jq o.kind,J Jq o.size] X (dZ er r X)):Calls prog 10 #[v,.agg o.vals] w (dZ er r w):=by
 obtain⟨ok,pane,kind,size,bf,id,a,b⟩:=o
 change ok=5 at hk
 subst hk
 have HC:=dL hC
 clear hC
 unfold OpV.vals
 dsimp only at HC ⊢
 go_enter func10,ntmps10
 go_wp2_with fail
 refine (HC.out _ (aJ w _ _)).mono ?_
 rintro e w1 ⟨u,rfl,hu,hb⟩
 have HB:Hid (Below w.heap.size w w1):=af (aJ w _ _) hb
 have HU:Hid (az w1 w.heap.size u r):=hu.lower (aJ w _ _).size
 clear hu hb HC
 go_wp2
 go_ret2
 exact⟨u,rfl,HU.out,HB.out⟩
theorem O0 (v:Value)(o:OpV)(w:World)(er:Int)(r:List aj)(hk:o.k=6)(hC:∀X,Below w.heap.size w X->Calls prog 32 #[v,J Jq o.pane,J Jq o.a] X (dZ er r X)):Calls prog 10 #[v,.agg o.vals] w (dZ er r w):=by
 obtain⟨ok,pane,kind,size,bf,id,a,b⟩:=o
 change ok=6 at hk
 subst hk
 have HC:=dL hC
 clear hC
 unfold OpV.vals
 dsimp only at HC ⊢
 go_enter func10,ntmps10
 go_wp2_with fail
 refine (HC.out _ (aJ w _ _)).mono ?_
 rintro e w1 ⟨u,rfl,hu,hb⟩
 have HB:Hid (Below w.heap.size w w1):=af (aJ w _ _) hb
 have HU:Hid (az w1 w.heap.size u r):=hu.lower (aJ w _ _).size
 clear hu hb HC
 go_wp2
 go_ret2
 exact⟨u,rfl,HU.out,HB.out⟩
theorem O3 (v:Value)(o:OpV)(w:World)(er:Int)(r:List aj)(hk:∀n:Int,0<=n->n<=6->o.k≠n)(hC:∀X,Below w.heap.size w X->Calls prog 33 #[v,J Jq o.a,J Jq o.b] X (dZ er r X)):Calls prog 10 #[v,.agg o.vals] w (dZ er r w):=by
 obtain⟨ok,pane,kind,size,bf,id,a,b⟩:=o
 change ∀n:Int,0<=n->n<=6->ok≠n at hk
 have k0:(ok==0)=false:=by simpa using hk 0 (by decide) (by decide)
 have k1:(ok==1)=false:=by simpa using hk 1 (by decide) (by decide)
 have k2:(ok==2)=false:=by simpa using hk 2 (by decide) (by decide)
 have k3:(ok==3)=false:=by simpa using hk 3 (by decide) (by decide)
 have k4:(ok==4)=false:=by simpa using hk 4 (by decide) (by decide)
 have k5:(ok==5)=false:=by simpa using hk 5 (by decide) (by decide)
 have k6:(ok==6)=false:=by simpa using hk 6 (by decide) (by decide)
 clear hk
 have HC:=dL hC
 clear hC
 unfold OpV.vals
 dsimp only at HC ⊢
 go_enter func10,ntmps10
 go_wp2_with fail
 refine (HC.out _ (aJ w _ _)).mono ?_
 rintro e w1 ⟨u,rfl,hu,hb⟩
 have HB:Hid (Below w.heap.size w w1):=af (aJ w _ _) hb
 have HU:Hid (az w1 w.heap.size u r):=hu.lower (aJ w _ _).size
 clear hu hb HC
 go_wp2
 go_ret2
 exact⟨u,rfl,HU.out,HB.out⟩
theorem Gf (l:List aj)(o:OpV)(ho:o.Ok):∃er r,(r:List aj).length<=200/\(∀v X,ay X v l->Calls prog 9 #[v,.agg o.vals] X (dZ er r X))/\(∀v X,ay X v l->Calls prog 10 #[v,.agg o.vals] X (dZ er r X)):=by
 by_cases h0:o.k=0
 . obtain⟨er,r,h1,h2,h3⟩:=KF l o.pane o.kind o.size o.id o.bf
   exact⟨er,r,by omega,fun v X hv=>PU v o X er r h0 fun Y hY=>h2 v Y (hv.below hY),fun v X hv=>OU v o X er r h0 fun Y hY=>h3 v Y (hv.below hY)⟩
 by_cases h1:o.k=1
 . obtain⟨er,r,g1,g2,g3⟩:=NI l o.kind o.size o.id o.bf
   exact⟨er,r,by omega,fun v X hv=>PV v o X er r h1 fun Y hY=>g2 v Y (hv.below hY),fun v X hv=>OV v o X er r h1 fun Y hY=>g3 v Y (hv.below hY)⟩
 by_cases h2:o.k=2
 . obtain⟨er,r,g1,g2,g3⟩:=KG l o.pane
   exact⟨er,r,by omega,fun v X hv=>PW v o X er r h2 fun Y hY=>g2 v Y (hv.below hY),fun v X hv=>OW v o X er r h2 fun Y hY=>g3 v Y (hv.below hY)⟩
 by_cases h3:o.k=3
 . obtain⟨er,r,g1,g2,g3⟩:=Ij l o.a o.b
   exact⟨er,r,by omega,fun v X hv=>PX v o X er r h3 fun Y hY=>g2 v Y (hv.below hY),fun v X hv=>OX v o X er r h3 fun Y hY=>g3 v Y (hv.below hY)⟩
 by_cases h4:o.k=4
 . obtain⟨mv,er,r,g1,g2,g3⟩:=push_any l o.pane o.kind o.size ho.size
   exact⟨er,r,by omega,fun v X hv=>PY v o X mv er r h4 fun Y hY=>g2 v Y (hv.below hY),fun v X hv=>OY v o X mv er r h4 fun Y hY=>g3 v Y (hv.below hY)⟩
 by_cases h5:o.k=5
 . obtain⟨er,r,g1,g2,g3⟩:=set_any l o.pane o.kind o.size
   exact⟨er,r,by omega,fun v X hv=>PZ v o X er r h5 fun Y hY=>g2 v Y (hv.below hY),fun v X hv=>OZ v o X er r h5 fun Y hY=>g3 v Y (hv.below hY)⟩
 by_cases h6:o.k=6
 . refine⟨lV l o.pane o.a,kE l o.pane o.a,by have:=BU l o.pane o.a;omega,fun v X hv=>P5 v o X _ _ h6 fun Y hY=>Jc v l o.pane o.a Y (hv.below hY),fun v X hv=>O0 v o X _ _ h6 fun Y hY=>MP v l o.pane o.a Y (hv.below hY)⟩
 . obtain⟨er,r,g1,g2,g3⟩:=EP l o.a o.b ho.b
   have hn:∀n:Int,0<=n->n<=6->o.k≠n:=fun n a1 a2 e=>by omega
   exact⟨er,r,by omega,fun v X hv=>P6 v o X er r hn fun Y hY=>g2 v Y (hv.below hY),fun v X hv=>O3 v o X er r hn fun Y hY=>g3 v Y (hv.below hY)⟩
end Go.Proofs.YtejlincnnonhaaaGreat
