import Derived.Test.YtejlincnnonhaaaGreatP13
import Derived.Test.YtejlincnnonhaaaGreatP15
namespace Go.Proofs.YtejlincnnonhaaaGreat
open Go.RowKit Go.Proofs.Tryz
open Value renaming int->J,slice->Jj,pointer->JJ
open IntKind renaming i64->Jq
open Option renaming none->O,some->I
open Ending renaming returned->Jz
open Obj renaming cells->JZ
set_option linter.unusedVariables false
set_option maxRecDepth 100000
set_option maxHeartbeats 16000000
open Go.RowKit Go.Lib
def yZ (q k n id:Int)(bf:Bool)(bl:Box):Tree:=eF k bf (.leaf (bl.str k (-n-1)) q) (.leaf (bl.with k n) id)
structure Ei (q k n id:Int)(bf:Bool)(bl:Box):Prop where
 beside:vP k bf (.leaf (bl.str k (-n-1)) q) (.leaf (bl.with k n) id)
 sound:(yZ q k n id bf bl).sound=true
 kinds:(yZ q k n id bf bl).kinds
 box:(yZ q k n id bf bl).box.w=bl.w/\(yZ q k n id bf bl).box.h=bl.h
 size:(yZ q k n id bf bl).size<=3
theorem Qg {q k n id:Int}(bf:Bool){bl:Box}(hk:k=2\/k=3)(hs:(Tree.leaf bl q).sound=true)(hid:idB id=true)(h1:1<=n)(h2:n<=bl.ext k-2):Ei q k n id bf bl:=by
 have ar:=(Tree.leaf bl q).aF hs
 change (1<=bl.w/\bl.w<=1000)/\(1<=bl.h/\bl.h<=1000) at ar
 have hB:vP k bf (.leaf (bl.str k (-n-1)) q) (.leaf (bl.with k n) id):=by
  have hq:idB q=true:=by
   unfold Tree.sound at hs
   simp only[Bool.and_eq_true] at hs
   simp[hs]
  refine BL k hk bf _ _ id ?_ trivial (by unfold Tree.size;omega) ?_ ?_ ?_
  . unfold Tree.sound
    rcases hk with rfl | rfl
    . unfold Box.ext at h2
      simp only[Box.str,aG,if_true] at*
      simp[hq];omega
    . unfold Box.ext at h2
      simp only[Box.str,aG] at*
      simp at h2
      simp[hq];omega
  . unfold Tree.sound
    rcases hk with rfl | rfl
    . unfold Box.ext at h2
      simp only[Box.with,Box.ext,Box.str,aG,if_true] at*
      simp[hid];omega
    . unfold Box.ext at h2
      simp only[Box.with,Box.ext,Box.str,aG] at*
      simp at h2
      simp[hid];omega
  . rcases hk with rfl | rfl <;> simp[aA,Box.ext,Box.with,Box.str,Tree.box]
  . rcases hk with rfl | rfl
    . simp[Box.ext,Box.with,Box.str,Tree.box];omega
    . simp[Box.ext,Box.with,Box.str,Tree.box];omega
 refine⟨hB,hB.sound,hB.kinds,?_,hB.size⟩
 have hn:=hB.node
 have hw:=bV (yZ q k n id bf bl)
 have hh:=bW (yZ q k n id bf bl)
 unfold yZ at hw hh ⊢
 rw[<- hw,<- hh,hn]
 rcases hk with rfl | rfl
 . simp[Box.ext,Box.with,Box.str,Tree.box,Node.w,Node.h];omega
 . simp[Box.ext,Box.with,Box.str,Tree.box,Node.w,Node.h];omega
inductive Oz (q:Int)(c:Box->Tree)(bl:Box):Tree->Tree->Prop
 | keep (t:Tree):q ∉ t.idl->Oz q c bl t t
 | here:Oz q c bl (.leaf bl q) (c bl)
 | deep (b:Box) (k:Int) (ts:List Tree) (i:Nat) (s s':Tree):ts[i]?=I s->Oz q c bl s s'->(∀(j:Nat) u,j≠i->ts[j]?=I u->q ∉ u.idl)->Oz q c bl (.split b k ts) (.split b k (dK k ts i s'))
inductive Dy (q:Int)(c:Box->Tree)(t:Tree):List Nat->Tree->Prop
 | root (bl:Box):t=.leaf bl q->Dy q c t [] (c bl)
 | «at» (qs:List Nat) (a:Nat) (b:Box) (k:Int) (ts:List Tree) (bl:Box):t.cO qs=I (.split b k ts)->ts[a]?=I (.leaf bl q)->Dy q c t (qs++[a]) (t.putAt qs (.split b k (dK k ts a (c bl))))
structure Fg (q:Int)(c:Box->Tree)(bl:Box)(t:Tree)(ps:List Nat)(t':Tree):Prop where
 split:Dy q c t ps t'
 cutd:Oz q c bl t t'
 sound:t'.sound=true
 kinds:t'.kinds
 box:t'.box.w=t.box.w/\t'.box.h=t.box.h
 size:t'.size<=t.size+2
theorem Dz (q:Int)(c:Box->Tree)(bl:Box)(h1:(c bl).sound=true)(h2:(c bl).kinds)(h3:(c bl).box.w=bl.w/\(c bl).box.h=bl.h)(h4:(c bl).size<=3):∀(ps:List Nat) (t:Tree),t.sound=true->t.kinds->t.idl.Nodup->t.path q=I ps->t.cO ps=I (.leaf bl q)->∃t',Fg q c bl t ps t'
 | [],t,hs,hk,hn,hp,aL=>by
   unfold Tree.cO at aL
   cases aL
   exact⟨c bl,.root bl rfl,.here,h1,h2,h3,by show _<=1+2;omega⟩
 | i::ps,.leaf b p,hs,hk,hn,hp,aL=>by
   unfold Tree.path at hp
   split at hp <;> cases hp
 | i::ps,.split b k ts,hs,hk,hn,hp,aL=>by
   unfold Tree.path at hp
   obtain⟨i',s,ps',e,hi,k7⟩:=gG q ts 0 _ hp
   rw[Nat.zero_add] at e
   cases e
   unfold Tree.idl at hn
   have pf:=hs
   unfold Tree.sound at hs
   simp only[Bool.and_eq_true,decide_eq_true_eq] at hs
   have E9:q∈s.idl:=Classical.byContradiction fun h=>by rw[(dR s q).2 h] at k7;cases k7
   have nj:∀(j:Nat) u,j≠i->ts[j]?=I u->q ∉ u.idl:=fun j u hj hu=>mi q ts hn i j s u hi hu (Ne.symm hj) E9
   have ar:=aO ts b k i s hi hs.2.1
   simp only[Bool.and_eq_true,decide_eq_true_eq] at ar
   have dj:=bF ts i s hi hk.2
   have am:=(List.getElem?_eq_some_iff.1 hi).1
   have LL:s.bY k=false:=by simpa using ar.2.1
   have Bp:s.cO ps=I (.leaf bl q):=by
    unfold Tree.cO at aL
    rw[hi] at aL
    exact aL
   obtain⟨s',hS⟩:=Dz q c bl h1 h2 h3 h4 ps s ar.1 dj (mr ts hn i s hi) k7 Bp
   obtain⟨hf,cJ⟩:=wL b k ts i s s' hi hS.sound hS.kinds hS.box hk.1 pf
   refine⟨.split b k (dK k ts i s'),?_,.deep b k ts i s s' hi hS.cutd nj,hf.sound pf,hf.kinds hk,⟨rfl,rfl⟩,by have:=hS.size;omega⟩
   cases hS.split with
   | root bl' e=>
     exact Dy.«at» [] i b k ts bl' rfl (by rw[hi,e])
   | «at» qs a b' k' ts' bl' g1 g2=>
     have io:(s.putAt qs (.split b' k' (dK k' ts' a (c bl')))).bY k=false:=(Ad qs s _ (.split b' k' (dK k' ts' a (c bl'))) g1 (fun q=>rfl) k).trans LL
     have:=Dy.«at» (q:=q) (c:=c) (t:=.split b k ts) (i::qs) a b' k' ts' bl' (vK hi g1) g2
     rw[vM hi] at this
     rw[wM io am]
     exact this
theorem kw {p:Prop}(h:p):Hid p:=h
theorem KP (v:Value)(l:List aj)(q k z id:Int)(bf:Bool)(w:World)(h:ay w v l)(hF:aT l=O):Calls prog 18 #[v,J Jq q,J Jq k,J Jq z,.bool bf,J Jq id] w (dZ 40 [] w):=by
 have HR:=zh (wG v l w h hF)
 clear h hF
 go_enter func18,ntmps18
 go_wp2_with fail
 refine HR.out.mono ?_
 rintro e w1 ⟨rfl,hb⟩
 unfold eH
 go_wp2
 go_ret2
 exact⟨_,rfl,World.ownsRow_nil _ _ _ _,hb⟩
theorem NM (v:Value)(l:List aj)(q k z id:Int)(bf:Bool)(w:World)(h:ay w v l){t:Tree}(hF:aT l=I t)(hk:¬(k=2\/k=3)):Calls prog 18 #[v,J Jq q,J Jq k,J Jq z,.bool bf,J Jq id] w (dZ 1 [] w):=by
 have HR:=zh (dQ v l w h hF)
 have HC:Hid (∀W,Calls prog 36 #[J Jq k] W fun e w'=>e=Jz (.bool false)/\W=w'):=fun W=>(decide_eq_false hk) ▸ fE k W
 clear h hF hk
 go_enter func18,ntmps18
 go_wp2_with fail
 refine HR.out.mono ?_
 rintro e w1 ⟨T,g,fp,rfl,bq,aE,be,hb⟩
 have HB:=zh hb
 clear bq aE be hb HR
 go_wp2_with fail
 refine (HC.out _).mono ?_
 rintro e w2 ⟨rfl,rfl⟩
 go_wp2
 go_ret2
 exact⟨_,rfl,World.ownsRow_nil _ _ _ _,HB.out⟩
theorem KQ (v:Value)(l:List aj)(q k z id:Int)(bf:Bool)(w:World)(h:ay w v l){t:Tree}(hF:aT l=I t)(hk:k=2\/k=3)(hp:t.path q=O):Calls prog 18 #[v,J Jq q,J Jq k,J Jq z,.bool bf,J Jq id] w (dZ 42 [] w):=by
 have HR:=zh (dQ v l w h hF)
 have hl:=aV hF
 have hz:=lay_size hl
 have HW : Hid (∀ T g fp w1, t.At w1 0 (.iface T (JJ (I ⟨g, 0, O⟩))) fp → ∃ Fw, (∀ W, (method 286 T (JJ (I ⟨g, 0, O⟩)) "mullion/layout.way").run prog W = .ok (Fw, JJ (I ⟨g, 0, O⟩)) W) ∧ (∀ a c W, (callFunc Fw #[a, c]).run prog W = .ok (.enter Fw #[a, c]) W) ∧ Calls prog Fw #[JJ (I ⟨g, 0, O⟩), J Jq q] w1 fun e w' => Below w1.heap.size w1 w' ∧ e = Jz (.tuple #[Jj O 0 0, JJ O])) := fun T g fp w1 hA => by
  obtain⟨Fw,m1,m2,hc⟩:=nV hA hl.sound (by omega) q
  refine⟨Fw,m1,m2,(hc w1 (Below.refl _ _)).mono fun e w' h=> ?_⟩
  obtain⟨hb,⟨_,he⟩ | ⟨ps,gl,st,sa,sn,sc,h1,_⟩⟩:=h
  . exact⟨hb,he⟩
  . rw[hp] at h1
    cases h1
 have TD:Hid (∀W,Calls prog 36 #[J Jq k] W fun e w'=>e=Jz (.bool true)/\W=w'):=fun W=>(decide_eq_true hk) ▸ fE k W
 clear h hF hl hz hp hk
 go_enter func18,ntmps18
 go_wp2_with fail
 refine HR.out.mono ?_
 rintro e w1 ⟨T,g,fp,rfl,bq,aE,be,hb⟩
 have HB:=zh hb
 obtain⟨Fw,m1,m2,hc⟩:=HW.out T g fp w1 bq
 have HC:=zh hc
 clear bq aE be hb hc HR HW
 go_wp2_with fail
 refine (TD.out _).mono ?_
 rintro e w9 ⟨rfl,rfl⟩
 go_wp2_with fail
 refine HC.out.mono ?_
 rintro e w2 ⟨al,rfl⟩
 have aD:=zh (af HB.out al)
 clear al HC
 go_wp2
 go_ret2
 exact⟨_,rfl,World.ownsRow_nil _ _ _ _,aD.out⟩
theorem KR (v:Value)(l:List aj)(q k z id:Int)(bf:Bool)(w:World)(h:ay w v l){t:Tree}(hF:aT l=I t)(hk:k=2\/k=3)(hp:t.path q≠O)(er:Int)(vB:jF l id=er)(h0:er≠0):Calls prog 18 #[v,J Jq q,J Jq k,J Jq z,.bool bf,J Jq id] w (dZ er [] w):=by
 have HR:=zh (dQ v l w h hF)
 have HC:Hid (∀W,Calls prog 36 #[J Jq k] W fun e w'=>e=Jz (.bool true)/\W=w'):=fun W=>(decide_eq_true hk) ▸ fE k W
 have ko:=(iM (by rw[hF];rfl:(aT l).isSome=true)).1
 have HJ:Hid (∀X,Below w.heap.size w X->Calls prog 37 #[v,J Jq id] X fun e w'=>e=Jz (J Jq er)/\Below X.heap.size X w'):=fun X hX=>vB ▸ iY v l id X (h.below hX) (by omega)
 have hl:=aV hF
 have hz:=lay_size hl
 have HW : Hid (∀ T g fp w1, t.At w1 0 (.iface T (JJ (I ⟨g, 0, O⟩))) fp → ∃ Fw, (∀ W, (method 286 T (JJ (I ⟨g, 0, O⟩)) "mullion/layout.way").run prog W = .ok (Fw, JJ (I ⟨g, 0, O⟩)) W) ∧ (∀ a c W, (callFunc Fw #[a, c]).run prog W = .ok (.enter Fw #[a, c]) W) ∧ Calls prog Fw #[JJ (I ⟨g, 0, O⟩), J Jq q] w1 fun e w' => Below w1.heap.size w1 w' ∧ ∃ gl sa sn sc, e = Jz (.tuple #[Jj sa sn sc, JJ (I ⟨gl, 0, O⟩)])) := fun T g fp w1 hA => by
  obtain⟨Fw,m1,m2,hc⟩:=nV hA hl.sound (by omega) q
  refine⟨Fw,m1,m2,(hc w1 (Below.refl _ _)).mono fun e w' h=> ?_⟩
  obtain⟨hb,⟨h1,_⟩ | ⟨ps,gl,st,sa,sn,sc,h1,h2,he,h3⟩⟩:=h
  . exact absurd h1 hp
  . exact⟨hb,gl,sa,sn,sc,he⟩
 have E6:(er != 0)=true:=by simpa using h0
 clear h hF hk vB h0 ko hl hz hp
 go_enter func18,ntmps18
 go_wp2_with fail
 refine HR.out.mono ?_
 rintro e w1 ⟨T,g,fp,rfl,bq,aE,be,hb⟩
 have HB:=zh hb
 obtain⟨Fw,m1,m2,hc⟩:=HW.out T g fp w1 bq
 have HF:=kw hc
 clear bq aE be hb hc HR HW
 go_wp2_with fail
 refine (HC.out _).mono ?_
 rintro e w9 ⟨rfl,rfl⟩
 go_wp2_with fail
 refine HF.out.mono ?_
 rintro e w8 ⟨pD,gl,sa,sn,sc,rfl⟩
 have sC:=zh (af HB.out pD)
 clear pD HF
 go_wp2_with fail
 refine (HJ.out _ sC.out).mono ?_
 rintro e w2 ⟨rfl,al⟩
 have aD:=zh (af sC.out al)
 clear al
 go_wp2
 go_ret2
 exact⟨_,rfl,World.ownsRow_nil _ _ _ _,aD.out⟩
theorem Lh {Z:World}{q k n id:Int}{bf:Bool}{bl:Box}(hk:k=2\/k=3)(hC:Ei q k n id bf bl){gl gf:Nat}(hl:bD Z gl (bl.str k (-n-1)) q)(hf:bD Z gf (bl.with k n) id):
 Calls prog 43 #[J Jq k,Jj (I ⟨Z.heap.size,0,O⟩) 2 2] (Z.alloc (.cells (if bf then #[aZ gf,aZ gl] else #[aZ gl,aZ gf]) 70)) fun e Z'=>∃sl:Value,e=Jz (JJ (I ⟨Z.heap.size+1,0,O⟩))/\(yZ q k n id bf bl).At Z' 0 (dA (Z.heap.size+1)) ((Z.heap.size+1)::(sl.ownBlock.toList++(if bf then [gf,gl] else [gl,gf])))/\(∀y∈sl.ownBlock.toList,Z.heap.size+2<=y)/\Below Z.heap.size Z Z':=by
 have hB:=hC.beside
 obtain⟨C,Zy⟩:∃o,Obj.cells (if bf then #[aZ gf,aZ gl] else #[aZ gl,aZ gf]) 70=o:=⟨_,rfl⟩
 have s1:(Z.alloc C).heap.size=Z.heap.size+1:=by simp
 have b1:Below Z.heap.size Z (Z.alloc C):=(Below.refl _ _).alloc (Nat.le_refl _) _
 have ce:=heap_alloc_new Z C
 rw[Zy]
 obtain⟨W,hW⟩:∃W,Z.alloc C=W:=⟨_,rfl⟩
 rw[hW] at s1 b1 ce ⊢
 have UT:∀x∈dB k bf (.leaf (bl.str k (-n-1)) q) (.leaf (bl.with k n) id),x.sound=true:=fun x hx=>(nJ (bZ (dB k bf (.leaf (bl.str k (-n-1)) q) (.leaf (bl.with k n) id)) k) k _ (by
  have:=hB.sound
  unfold eF Tree.sound at this
  simp only[Bool.and_eq_true,decide_eq_true_eq] at this
  exact this.2.1) x hx).1
 have ye:(Tree.leaf (bl.str k (-n-1)) q).sound=true:=UT _ (by unfold dB;cases bf <;> simp[iw])
 have hf1:(Tree.leaf (bl.with k n) id).sound=true:=UT _ (by unfold dB;cases bf <;> simp[iw])
 have Xm:(Tree.leaf (bl.str k (-n-1)) q).At W 0 (aZ gl) [gl]:=⟨_,rfl,hl.below b1,rfl⟩
 have Xn:(Tree.leaf (bl.with k n) id).At W 0 (aZ gf) [gf]:=⟨_,rfl,hf.below b1,rfl⟩
 obtain⟨u1,f1,Mo,_,_⟩:=wP (k:=k) (t:=.leaf (bl.str k (-n-1)) q) Xm trivial ye
 have e1:u1=[aZ gl]:=Mo.no rfl
 subst e1
 obtain⟨u2,f2,Mg,_,_⟩:=wP (k:=k) (t:=.leaf (bl.with k n) id) Xn trivial hf1
 have e2:u2=[aZ gf]:=Mg.no rfl
 subst e2
 have br:∀(i:Nat) u,(if bf then [aZ gf,aZ gl] else [aZ gl,aZ gf])[i]?=I u->W.cell? ⟨Z.heap.size,i,O⟩=I u:=by
  intro i u hu
  rw[<- Zy] at ce
  rw[ae ce]
  cases bf <;> simpa using hu
 have hP:aB W 0 (dB k bf (.leaf (bl.str k (-n-1)) q) (.leaf (bl.with k n) id)) (if bf then [[aZ gf],[aZ gl]] else [[aZ gl],[aZ gf]]).flatten (if bf then [gf,gl] else [gl,gf]):=by
  cases bf with
  | true=>exact⟨aZ gf,[aZ gl],[gf],[gl],rfl,Xn,⟨aZ gl,[],[gl],[],rfl,Xm,⟨rfl,rfl⟩,rfl⟩,rfl⟩
  | false=>exact⟨aZ gl,[aZ gf],[gl],[gf],rfl,Xm,⟨aZ gf,[],[gf],[],rfl,Xn,⟨rfl,rfl⟩,rfl⟩,rfl⟩
 obtain⟨c,cs,Bu⟩:∃c cs,dB k bf (.leaf (bl.str k (-n-1)) q) (.leaf (bl.with k n) id)=c::cs:=by
  cases h:dB k bf (.leaf (bl.str k (-n-1)) q) (.leaf (bl.with k n) id) with
  | nil=>exact absurd h hB.ne
  | cons c cs=>exact⟨c,cs,rfl⟩
 have hj:=BI k hk Z.heap.size 2 2 (if bf then [aZ gf,aZ gl] else [aZ gl,aZ gf]) (if bf then [[aZ gf],[aZ gl]] else [[aZ gl],[aZ gf]]) (if bf then [gf,gl] else [gl,gf]) (if bf then [.leaf (bl.with k n) id,.leaf (bl.str k (-n-1)) q] else [.leaf (bl.str k (-n-1)) q,.leaf (bl.with k n) id]) c cs W br (by
  intro i x hx
  cases bf with
  | true=>
    match i,hx with
    | 0,hx=>cases hx;exact⟨_,_,rfl,rfl,Mg⟩
    | 1,hx=>cases hx;exact⟨_,_,rfl,rfl,Mo⟩
  | false=>
    match i,hx with
    | 0,hx=>cases hx;exact⟨_,_,rfl,rfl,Mo⟩
    | 1,hx=>cases hx;exact⟨_,_,rfl,rfl,Mg⟩) (by rw[<- Bu];exact hP) (by rw[<- Bu];exact hB.small) (by cases bf <;> rfl) (by cases bf <;> rfl) (by decide)
 rw[s1] at hj
 refine hj.mono ?_
 rintro e w' ⟨sl,he,hS,hO,nF⟩
 rw[<- Bu] at hS
 have Gc:Below W.heap.size W w':=nF.mono (by omega)
 refine⟨sl,he,⟨Z.heap.size+1,sl,_,_,rfl,hS,?_,hP.below Gc,rfl⟩,fun y hy=>(World.ownsRow.lt hO y (by simpa using hy)).1,af b1 Gc⟩
 rcases hO with ⟨a,b | ⟨g,cap,cur,e,_,c⟩⟩
 . exact⟨a,.inl b⟩
 . exact⟨a,.inr ⟨g,cap,cur,e,Nat.zero_le _,c⟩⟩
structure Lj (w:World)(T':List aj)(w2:World)(r:Value)(gl:Nat)(wv:Value)(k n id E:Int)(bf:Bool)(fb:Box):Prop where
 ext:∀X,Below w2.heap.size w2 X->Calls prog 38 #[JJ (I ⟨gl,0,O⟩),J Jq k] X fun e w'=>e=Jz (J Jq E)/\X=w'
 wth:∀X,Below w2.heap.size w2 X->Calls prog 40 #[JJ (I ⟨gl,0,O⟩),J Jq k,J Jq n] X fun e w'=>e=Jz (.agg #[J Jq fb.x,J Jq fb.y,J Jq fb.w,J Jq fb.h])/\Below X.heap.size X w'
 str:∀Y gf,Below w2.heap.size w2 Y->bD Y gf fb id->w2.heap.size<=gf->Calls prog 41 #[JJ (I ⟨gl,0,O⟩),J Jq k,J Jq (-n-1)] Y fun e Z=>e=Jz (.tuple #[])/\Calls prog 43 #[J Jq k,Jj (I ⟨Z.heap.size,0,O⟩) 2 2] (Z.alloc (.cells (if bf then #[aZ gf,aZ gl] else #[aZ gl,aZ gf]) 70)) fun e Z1=>∃p,e=Jz (JJ (I ⟨p,0,O⟩))/\∀m,Calls prog 42 #[r,wv,dA p] (Z1.drewN m) fun e Z2=>∃T3 g3,e=Jz (.iface T3 (JJ (I ⟨g3,0,O⟩)))/\Calls prog 15 #[.iface T3 (JJ (I ⟨g3,0,O⟩))] Z2 (Fin T' w)
theorem IC {w w1 w2:World}{t t':Tree}{T:TypeId}{g0:Nat}{fp ps:List Nat}{st:List (Nat × Nat)}{wv:Value}{gl:Nat}{q k n id:Int}{bf:Bool}{bl:Box}(hb:Below w.heap.size w w1)(hA:t.At w1 0 (.iface T (JJ (I ⟨g0,0,O⟩))) fp)(aE:fp.Nodup)(be:∀x∈fp,w.heap.size<=x)(al:Below w1.heap.size w1 w2)(hr:Reach w1 (.iface T (JJ (I ⟨g0,0,O⟩))) ps (aZ gl) st)(cg:Steps w2 w1.heap.size wv st)(hs:t.sound=true)(eB:t.kinds)(hz:t.size<=63)(hk:k=2\/k=3)(aL:t.cO ps=I (.leaf bl q))(hC:Ei q k n id bf bl)(hn:1<=n/\n<=bl.ext k-2)(hS:Fg q (yZ q k n id bf) bl t ps t'):
 Lj w (cZ t') w2 (.iface T (JJ (I ⟨g0,0,O⟩))) gl wv k n id (bl.ext k) bf (bl.with k n):=by
 have cJ:t'.size<=200:=by have:=hS.size;omega
 have pd:(Tree.leaf bl q).sound=true:=(jA ps t _ aL hs eB).1
 have ar:=(Tree.leaf bl q).aF pd
 change (1<=bl.w/\bl.w<=1000)/\(1<=bl.h/\bl.h<=1000) at ar
 have tO:=df bl k ar
 have rj:w.heap.size<=w2.heap.size:=Nat.le_trans hb.size al.size
 have key:bD w1 gl bl q->gl∈fp->(∀Y Z Z1 p fS m,Below w2.heap.size w2 Y->But [gl] Y Z->Below Z.heap.size Z Z1->(yZ q k n id bf bl).At Z1 0 (dA p) fS->fS.Nodup->(∀y∈fS,y=gl\/w2.heap.size<=y)->Calls prog 42 #[.iface T (JJ (I ⟨g0,0,O⟩)),wv,dA p] (Z1.drewN m) fun e Z2=>∃T3 g3,e=Jz (.iface T3 (JJ (I ⟨g3,0,O⟩)))/\Calls prog 15 #[.iface T3 (JJ (I ⟨g3,0,O⟩))] Z2 (Fin (cZ t') w))->Lj w (cZ t') w2 (.iface T (JJ (I ⟨g0,0,O⟩))) gl wv k n id (bl.ext k) bf (bl.with k n):=by
  intro Br sY jN
  have uE:bD w2 gl bl q:=Br.below al
  have Xo:gl < w1.heap.size:=hA.lt gl sY
  refine⟨fun X hX=>dC gl bl k X (uE.below hX).box,fun X hX=>Gs gl bl k n X (uE.below hX).box (by omega) (by omega) (by omega),fun Y gf hY Kc hfr=> ?_⟩
  refine (l7 gl bl q k (-n-1) Y (uE.below hY) (by omega) (by omega) (by omega)).mono fun e Z h=>⟨h.1,?_⟩
  have nh:But [gl] Y Z:=But.grown h.2.2
  have a7:gf≠gl:=by have:=al.size;omega
  have TU:bD Z gf (bl.with k n) id:=(nh.block gf (lt_of_block Kc) (by simpa using a7)).trans Kc
  refine (Lh hk hC h.2.1 TU).mono fun e Z1 h1=> ?_
  obtain⟨sl,he,bq,bm,eK⟩:=h1
  refine⟨Z.heap.size+1,he,fun m=>jN Y Z Z1 (Z.heap.size+1) _ m hY nh eK bq ?_ ?_⟩
  . have hgZ:gf < Z.heap.size:=lt_of_block TU
    have hlZ:gl < Z.heap.size:=lt_of_block h.2.1
    have am:∀y∈(if bf then [gf,gl] else [gl,gf]),y < Z.heap.size:=fun y hy=>by
     cases bf <;> simp at hy <;> rcases hy with rfl | rfl <;> assumption
    refine List.nodup_cons.2 ⟨fun h=> ?_,List.nodup_append.2 ⟨?_,?_,fun a ha b cC e=> ?_⟩⟩
    . rcases List.mem_append.1 h with h | h
      . have:=bm _ h
        omega
      . have:=am _ h
        omega
    . cases sl.ownBlock <;> simp
    . cases bf <;> simp[a7,Ne.symm a7]
    . have h1:=bm a ha
      have h2:=am b cC
      omega
  . intro y hy
    have Zz:w2.heap.size<=Z.heap.size:=Nat.le_trans hY.size nh.size
    rcases List.mem_cons.1 hy with h | h
    . exact .inr (by omega)
    . rcases List.mem_append.1 h with h | h
      . have:=bm y h
        exact .inr (by omega)
      . have hyy:y=gl\/y=gf:=by cases bf <;> simp at h <;> omega
        rcases hyy with rfl | rfl
        . exact .inl rfl
        . exact .inr hfr
 cases hS.split with
 | root bl' e=>
   subst e
   obtain⟨y4,y5⟩:=hr
   unfold Tree.cO at aL
   cases aL
   obtain⟨gl',e1,Br,e2⟩:=hA
   have e3:=y4.trans e1
   cases e3
   subst e2 y5
   refine key Br (by simp) (fun Y Z Z1 p fS m hY nh TV bq td Vo=> ?_)
   obtain⟨a',c',e0⟩:=dG cg
   subst e0
   refine (oW _ _ _ _ _).mono ?_
   rintro e Z' ⟨rfl,rfl⟩
   have b7:Below w.heap.size w Y:=af (af hb al) hY
   have eK:Below w.heap.size w Z1:=af (gX b7 nh be) TV
   refine⟨_,_,rfl,xP (below_drewN eK m) (fun y hy=> ?_) td (bq.below (below_drewN (Below.refl _ _) m)) hS.sound hS.kinds cJ⟩
   rcases Vo y hy with h | h
   . exact be y (by simp[h])
   . omega
 | «at» qs a b k' ts bl' x1 x2=>
   have pe:bl'=bl:=by
    have:=nU qs t b k' ts a _ x1 x2
    rw[aL] at this
    injection this with this
    injection this with this
    exact this.symm
   subst pe
   obtain⟨g,st',pg,cap,vs,f1,f2,R,e0,_,hI⟩:=Qh hA aE hr x1 x2
   have IO:gl∈fp:=hI.perm.mem_iff.2 (by simp)
   refine key hI.lf IO (fun Y Z Z1 p fS m hY nh TV bq td Vo=> ?_)
   have lA:=hI.below hA al
   have am:=hI.lt hA
   obtain⟨a1,a2⟩:=List.nodup_cons.1 hI.nd
   obtain⟨a3,a4⟩:=List.nodup_cons.1 a2
   obtain⟨a5,a6⟩:=List.nodup_cons.1 a4
   obtain⟨c1,c2,c3⟩:=List.nodup_append.1 a6
   have Xo:=hA.lt gl IO
   have eA:∀y,y < w2.heap.size->y≠gl->(Z1.drewN m).heap[y]?=w2.heap[y]?:=fun y hy eV=>by
    have h1:y < Y.heap.size:=Nat.lt_of_lt_of_le hy hY.size
    have h2:y < Z.heap.size:=Nat.lt_of_lt_of_le h1 nh.size
    exact (TV.block y h2).trans ((nh.block y h1 (by simpa using eV)).trans (hY.block y hy))
   have ir:∀y,y∈g::pg::(f1++(f2++R))->y < w1.heap.size/\y≠gl:=fun y hy=>by
    refine⟨am y ?_,fun e=> ?_⟩
    . rcases List.mem_cons.1 hy with h | h
      . simp[h]
      . rcases List.mem_cons.1 h with h | h
        . simp[h]
        . exact List.mem_cons_of_mem _ (List.mem_cons_of_mem _ (List.mem_cons_of_mem _ h))
    . subst e
      rcases List.mem_cons.1 hy with h | h
      . exact a1 (by simp[h])
      . rcases List.mem_cons.1 h with h | h
        . exact a3 (by simp[h])
        . exact a5 h
   have Cl:∀y,y∈g::pg::(f1++(f2++R))->(Z1.drewN m).heap[y]?=w2.heap[y]?:=fun y hy=>eA y (Nat.lt_of_lt_of_le (ir y hy).1 al.size) (ir y hy).2
   obtain⟨wg,wc,e3,s1,s2,s3,s4,s5⟩:=step_cells cg (by rw[e0];simp)
   subst e3
   have Hd:=s5 0 (g,a) (by rw[e0];rfl)
   have Cn:∀o,(Z1.drewN m).cell? ⟨wg,o,O⟩=w2.cell? ⟨wg,o,O⟩:=fun o=>World.cell?_of_block (w':=Z1.drewN m) (w:=w2) (a:=⟨wg,o,O⟩) (eA wg s2 (by omega))
   have A5:1<=st.length:=by rw[e0];simp
   have zb:a < ts.length:=(List.getElem?_eq_some_iff.1 x2).1
   have Co:=aI ts
   obtain⟨n1,n2,n3⟩:=jA qs t _ x1 hs eB
   have U6:1+sizes ts<=63:=by
    change 1+sizes ts<=t.size at n3
    omega
   have Vp:∀y∈fS,y ∉ g::pg::(f1++(f2++R)):=fun y hy bE=>by
    have h1:=ir y bE
    rcases Vo y hy with h | h
    . exact h1.2 h
    . have:=al.size
      omega
   have pr:=ry t (.iface T (JJ (I ⟨g0,0,O⟩))) fp qs b k' ts g pg ts.length cap a vs f1 f2 R (yZ q k n id bf bl') (dA p) fS wg 0 st.length wc (Z1.drewN m)
    (by rw[Cn];exact Hd.1) (by rw[Cn];exact Hd.2) A5
    ((Cl g (by simp)).trans lA.own) (dU lA.row fun y hy=>Cl y (by
      have:y=pg:=by simpa [Value.ownBlock] using hy
      simp[this])) zb (by omega)
    (lA.ahead.keep fun y hy=>Cl y (by simp[hy])) (lA.behind.keep fun y hy=>Cl y (by simp[hy])) lA.one
    (fun W' s' f'' ej rS=>lA.put W' s' f'' ej fun y hy=>(rS y hy).trans (Cl y (by simp[hy])))
    (fun y hy=>Nat.lt_of_lt_of_le (ir y (by simp[hy])).1 (Nat.le_trans al.size (Nat.le_trans hY.size (Nat.le_trans nh.size TV.size))))
    (bq.below (below_drewN (Below.refl _ _) m)) hC.sound (jH _ hC.kinds (by have:=hC.size;omega)) (by have:=hC.size;omega)
    (by
      refine List.nodup_cons.2 ⟨fun h=> ?_,List.nodup_cons.2 ⟨fun h=> ?_,List.nodup_append.2 ⟨c1,List.nodup_append.2 ⟨td,c2,fun d1 Fi d2 eT e=>Vp d1 Fi (by rw[e];simp[eT])⟩,fun d1 Fi d2 eT e=> ?_⟩⟩⟩
      . rcases List.mem_cons.1 h with h | h
        . exact a1 (by simp[h])
        . rcases List.mem_append.1 h with h | h
          . exact a1 (by simp[h])
          . rcases List.mem_append.1 h with h | h
            . exact Vp _ h (by simp)
            . exact a1 (List.mem_cons_of_mem _ (List.mem_cons_of_mem _ (List.mem_append_right _ h)))
      . rcases List.mem_append.1 h with h | h
        . exact a3 (by simp[h])
        . rcases List.mem_append.1 h with h | h
          . exact Vp _ h (by simp)
          . exact a3 (List.mem_cons_of_mem _ (List.mem_append_right _ h))
      . rcases List.mem_append.1 eT with h | h
        . exact Vp d2 h (by rw[<- e];simp[Fi])
        . exact c3 d1 Fi d2 h e)
    (fun y hy=>hI.perm.mem_iff.2 (by
      rcases hy with h | h | h | h | h <;> simp[h]))
   refine pr.mono ?_
   rintro e Z' ⟨rfl,fp',SZ,eV,M6,M7⟩
   have b7:Below w.heap.size w Y:=af (af hb al) hY
   have eK:Below w.heap.size w (Z1.drewN m):=below_drewN (af (gX b7 nh (fun y hy=>be y (by
    have:y=gl:=by simpa using hy
    rw[this]
    exact IO))) TV) m
   refine⟨T,g0,rfl,xP (gX eK M7 be) (fun y hy=> ?_) eV SZ hS.sound hS.kinds cJ⟩
   rcases M6 y hy with h | h | h
   . exact be y h
   . rcases Vo y h with h | h
     . rw[h]
       exact be gl IO
     . omega
   . exact Nat.le_trans eK.size h
theorem jW {p:Prop}(h:p):Hid p:=h
def Oe (q k z id:Int)(bf:Bool)(t r:Tree):Prop:=∀sl fp w,(ag t).In w sl fp->Calls prog 59 #[.agg (aC (ag t) sl),J Jq q,J Jq k,J Jq z,.bool bf,J Jq id] w (uD r fp w)
theorem FT (q k z id:Int)(bf:Bool)(b:Box)(k':Int)(ts rs:List Tree)(hs:(Tree.split b k' ts).sound=true)(hk:(Tree.split b k' ts).kinds)(hz:(Tree.split b k' ts).size<=100)(gh:rs.length=ts.length)(hlen:∀j,(gQ k' (rs.take j)).length<=1000)(NA:∀r∈rs,(ag r).ks.length<=1000)(To:∀(j:Nat) t r,ts[j]?=I t->rs[j]?=I r->Oe q k z id bf t r):Oe q k z id bf (.split b k' ts) (.split b k' (gQ k' rs)):=by
 intro sl fp w ab
 unfold Tree.sound at hs
 simp only[Bool.and_eq_true,decide_eq_true_eq] at hs
 have h2:=hs.1.1
 have gd:=aI ts
 have Kb:1+sizes ts<=100:=hz
 have fo:=ab
 obtain⟨cs,fs,o1,o2,cf⟩:=ab
 have lc:(nodesOf ts).length=ts.length:=ax ts
 obtain⟨gk,cap,rfl⟩:∃gk cap,sl=Jj (I ⟨gk,0,O⟩) ts.length cap:=by
  rcases o1.2 with ⟨_,e0⟩ | ⟨g,cap,cur,e,_⟩
  . omega
  . exact⟨g,cap,by rw[e,lc]⟩
 rw[lc] at o1
 have hK:∀(i:Nat) t,ts[i]?=I t->∃sa sn sc f,(∀y∈f,y∈fp)/\(ag t).In w (Jj sa sn sc) f/\kG w gk (i*5) (ag t) (Jj sa sn sc):=fun i t hi=>by
  obtain⟨sl2,f2,g1,g2,g3⟩:=o2.get i (ag t) (dS ts i t hi)
  have vQ:=(List.getElem?_eq_some_iff.1 hi).1
  have hcell:∀o,o < 5->w.cell? ⟨gk,i*5+o,O⟩=(fQ (ag t) sl2)[o]?:=fun o ho=>by
   rw[World.ownsRow.cellAt o1 (i*5+o) (by omega),g3 o ho]
  obtain⟨ad,c,av⟩:=g1.sl
  subst av
  exact⟨ad,_,c,f2,fun y hy=>by rw[cf];exact List.mem_append_right _ (g2 y hy),g1,⟨hcell 0 (by omega),hcell 1 (by omega),hcell 2 (by omega),hcell 3 (by omega),hcell 4 (by omega)⟩⟩
 obtain⟨L,hL⟩:∃L,ts.length=L:=⟨_,rfl⟩
 rw[hL] at h2 gd gh o1 ⊢
 have hL1:L<=100:=by omega
 obtain⟨wl,Rf⟩:∃W0,(w.alloc (JZ #[J Jq k',J Jq b.w,J Jq b.h,J Jq 0,Jj (I ⟨gk,0,O⟩) L cap] 53)).alloc (JZ #[J Jq 0,J Jq 0,J Jq 0,J Jq 0,Jj O 0 0] 53)=W0:=⟨_,rfl⟩
 have HB:Hid (Below w.heap.size w wl/\wl.heap.size=w.heap.size+2/\wl.heap[w.heap.size+1]?=I (JZ #[J Jq 0,J Jq 0,J Jq 0,J Jq 0,Jj O 0 0] 53 (0,0))/\wl.heap[w.heap.size]?=I (JZ #[J Jq k',J Jq b.w,J Jq b.h,J Jq 0,Jj (I ⟨gk,0,O⟩) L cap] 53 (0,0))):=by
  rw[<- Rf]
  obtain⟨O1,rk⟩:∃o,Obj.cells #[J Jq k',J Jq b.w,J Jq b.h,J Jq 0,Jj (I ⟨gk,0,O⟩) L cap] 53=o:=⟨_,rfl⟩
  obtain⟨O2,nB⟩:∃o,Obj.cells #[J Jq 0,J Jq 0,J Jq 0,J Jq 0,Jj O 0 0] 53=o:=⟨_,rfl⟩
  have s1:(w.alloc O1).heap.size=w.heap.size+1:=by simp
  show Below _ _ _/\_/\_/\_
  rw[rk,nB]
  refine⟨((Below.refl _ _).alloc (Nat.le_refl _) O1).alloc (by omega) O2,by simp,?_,?_⟩
  . have:=heap_alloc_new (w.alloc O1) O2
    rw[s1] at this
    rw[this]
  . exact (Below.heap_alloc _ _ _ (by omega)).trans (heap_alloc_new _ _)
 have HE:=zh Rf
 have pw:Hid (∀(j:Nat) t,ts[j]?=I t->∃sa sn sc f,gk < wl.heap.size/\(∀y∈f,OkB fp w y)/\(ag t).In wl (Jj sa sn sc) f/\kG wl gk (j*5) (ag t) (Jj sa sn sc)):=fun j t hj=>by
  obtain⟨sa,sn,sc,f,h1,h3,h4⟩:=hK j t hj
  have hgk:gk < w.heap.size:=World.block_lt_of_cell? w _ h4.q0
  have hc:∀o,wl.cell? ⟨gk,o,O⟩=w.cell? ⟨gk,o,O⟩:=fun o=>World.cell?_of_block (w':=wl) (w:=w) (a:=⟨gk,o,O⟩) (HB.out.1.block gk hgk)
  refine⟨sa,sn,sc,f,by have:=HB.out.2.1;omega,fun y hy=>⟨.inl (h1 y hy),?_⟩,h3.below HB.out.1,⟨(hc _).trans h4.q0,(hc _).trans h4.q1,(hc _).trans h4.q2,(hc _).trans h4.q3,(hc _).trans h4.q4⟩⟩
  have:=h3.lt y hy
  omega
 have se:Hid (Made k' b.w b.h (OkB fp w) wl (nodesOf (gQ k' (rs.take 0))) (wl.alloc (JZ #[J Jq k',J Jq b.w,J Jq b.h,J Jq 0,Jj O 0 0] 53))):=⟨O,0,0,heap_alloc_new _ _,⟨[],kV.nil _ _,fun y hy=>by cases hy⟩,(Below.refl _ _).alloc (Nat.le_refl _) _⟩
 have NB:=zh hk.1
 have kl:(k'==1)=false:=by
  have:=hk.1
  have:k'≠1:=by omega
  simpa using this
 have xT:Hid ((∀j,(gQ k' (rs.take j)).length<=1000)/\∀r∈rs,(ag r).ks.length<=1000):=⟨hlen,NA⟩
 have tQ:=zh gh
 have HL:=zh hL
 have eJ:=zh To
 have lv:Hid (∀wr sa sn sc f v0 v1 v2 v3 v4,Below w.heap.size w wr->(Node.mk k' b.w b.h 0 (nodesOf (gQ k' rs))).In wr (Jj sa sn sc) f->w.heap.size+1 < wr.heap.size->(∀y∈f,OkB fp w y)->uD (.split b k' (gQ k' rs)) fp w (Jz (.agg #[J Jq k',J Jq b.w,J Jq b.h,J Jq 0,Jj sa sn sc])) (fB wr (w.heap.size+1) v0 v1 v2 v3 v4)):=fun wr sa sn sc f v0 v1 v2 v3 v4 hb hi am bN=>
  ⟨sa,sn,sc,f,rfl,hi.keep fun y hy=>fD _ _ _ _ _ _ _ y (bN y hy).2,fun y hy=>(bN y hy).1,bC hb _ (by omega) _ _ _ _ _⟩
 show Calls prog 59 #[.agg #[J Jq k',J Jq b.w,J Jq b.h,J Jq 0,Jj (I ⟨gk,0,O⟩) L cap],J Jq q,J Jq k,J Jq z,.bool bf,J Jq id] w _
 have p0:wl.cell? ⟨w.heap.size,0,O⟩=I (J Jq k'):=ae HB.out.2.2.2 0
 have p1:wl.cell? ⟨w.heap.size,1,O⟩=I (J Jq b.w):=ae HB.out.2.2.2 1
 have p2:wl.cell? ⟨w.heap.size,2,O⟩=I (J Jq b.h):=ae HB.out.2.2.2 2
 have p3:wl.cell? ⟨w.heap.size,3,O⟩=I (J Jq 0):=ae HB.out.2.2.2 3
 have p4:wl.cell? ⟨w.heap.size,4,O⟩=I (Jj (I ⟨gk,0,O⟩) L cap):=ae HB.out.2.2.2 4
 clear hs hk hz gh hlen NA To gd Kb fo o1 o2 cf lc hK hL Rf
 go_enter func59,ntmps59
 go_upto_region 1 with fail
 rw[HE.out]
 go_wp2_with fail
 go_loopw [16] (fun v wx=>∃j:Nat,j<=L/\v=J Jq j/\Hid (Made k' b.w b.h (OkB fp w) wl (nodesOf (gQ k' (rs.take j))) wx)) (fun v _=>L-(intOf v).toNat)
 case atStart=>exact⟨0,Nat.zero_le _,rfl,se⟩
 case round=>
  obtain⟨j,hj,rfl,HM⟩:=hrel
  clear p0 p1 p2 p3 p4 se
  obtain⟨ma,mn,mc,ef,⟨fm,bS,oo⟩,da⟩:=HM.out
  have ft:wr.heap[w.heap.size]?=I (JZ #[J Jq k',J Jq b.w,J Jq b.h,J Jq 0,Jj (I ⟨gk,0,O⟩) L cap] 53 (0,0)):=(da.block w.heap.size (by have:=HB.out.2.1;omega)).trans HB.out.2.2.2
  have b0:wr.cell? ⟨w.heap.size,0,O⟩=I (J Jq k'):=ae ft 0
  have b4:wr.cell? ⟨w.heap.size,4,O⟩=I (Jj (I ⟨gk,0,O⟩) L cap):=ae ft 4
  have hml:=lt_of_block ef
  by_cases pZ:j < L
  . obtain⟨t,ht⟩:∃t,ts[j]?=I t:=⟨_,List.getElem?_eq_getElem (by rw[HL.out];exact pZ)⟩
    obtain⟨r,hr⟩:∃r,rs[j]?=I r:=⟨_,List.getElem?_eq_getElem (by rw[tQ.out];exact pZ)⟩
    obtain⟨sa,sn,sc,f,eO,RB,ab,lR⟩:=pw.out j t ht
    have kO:=ab.below da
    have l5:∀o,wr.cell? ⟨gk,o,O⟩=wl.cell? ⟨gk,o,O⟩:=fun o=>World.cell?_of_block (w':=wr) (w:=wl) (a:=⟨gk,o,O⟩) (da.block gk eO)
    have c0:=(l5 _).trans lR.q0
    have c1:=(l5 _).trans lR.q1
    have c2:=(l5 _).trans lR.q2
    have c3:=(l5 _).trans lR.q3
    have c4:=(l5 _).trans lR.q4
    have m4:wr.cell? ⟨wl.heap.size,4,O⟩=I (Jj ma mn mc):=ae ef 4
    have HJ:Hid (∀X na nn' nc f',Below wr.heap.size wr X->(ag r).In X (Jj na nn' nc) f'->(∀y∈f',y∈f\/wr.heap.size<=y)->Calls prog 85 #[Jj ma mn mc,J Jq k',.agg (aC (ag r) (Jj na nn' nc))] X fun e Y=>∃ra rn rc,e=Jz (Jj ra rn rc)/\(∀y,y<=wl.heap.size->Y.heap[y]?=wr.heap[y]?)/\Y.frozen? ⟨wl.heap.size,4,O⟩=false/\Made k' b.w b.h (OkB fp w) wl (nodesOf (gQ k' (rs.take (j+1)))) (Y.setCell ⟨wl.heap.size,4,O⟩ (Jj ra rn rc))):=fun X na nn' nc f' hX KV qq=>by
     have od:=(hX.block wl.heap.size hml).trans ef
     have lc:(nodesOf (gQ k' (rs.take j))).length<=1000:=by rw[ax];exact xT.out.1 j
     refine (yw k' (ag r) na nn' nc f' (wl.heap.size+1) (Jj ma mn mc) _ fm X (bS.below hX) KV (fun g hg bE=> ?_) (by have:=hX.size;omega) lc (xT.out.2 r (List.mem_of_getElem? hr))).mono ?_
     . have h1:=bS.lt g hg
       rcases qq g bE with h2 | h2
       . have:=ab.lt g h2
         omega
       . omega
     . rintro e Y ⟨ra,rn,rc,rfl,⟨gs,Rr,h1⟩,h2⟩
       have Tr:=HB.out.2.1
       have Cv:∀y∈fm++gs,y≠wl.heap.size/\OkB fp w y:=fun y hy=>by
        rcases List.mem_append.1 hy with h | h
        . exact oo y h
        . rcases qq y (Rr y h) with h4 | h4
          . have:=ab.lt y h4
            exact⟨by omega,RB y h4⟩
          . exact⟨by omega,o8 (n:=wl.heap.size) (by omega) y (by have:=da.size;omega)⟩
       have E1:=(h2.block wl.heap.size (by omega)).trans od
       refine⟨ra,rn,rc,rfl,fun y hy=>(h2.block y (by omega)).trans (hX.block y (by omega)),ai E1 4,ra,rn,rc,?_,?_,?_⟩
       . exact heap_setCell_same Y wl.heap.size 4 _ _ _ E1
       . rw[zI k' rs j r hr,eP,<- jL k' NB.out]
         obtain⟨cs,o1,o2,o3⟩:=h1
         refine⟨fm++gs,⟨cs,dE o1 fun y hy=>heap_setCell_other _ _ _ _ ?_,o2.keep fun y hy=>heap_setCell_other _ _ _ _ ?_,o3⟩,Cv⟩
         . have:=(World.ownsRow.lt o1 y (by simpa using hy)).1
           show y≠wl.heap.size
           omega
         . exact (Cv y hy).1
       . have bj:Below wl.heap.size wl Y:=⟨h2.os.trans (hX.os.trans da.os),h2.tape.trans (hX.tape.trans da.tape),h2.output.trans (hX.output.trans da.output),Nat.le_trans da.size (Nat.le_trans hX.size h2.size),fun y hy=>(h2.block y (by omega)).trans ((hX.block y (by have:=da.size;omega)).trans (da.block y hy))⟩
         exact below_grown bj (grownBy_set _ _ _ _) (Nat.le_refl _)
    have TD:Hid (∀X0,Below wr.heap.size wr X0->Calls prog 59 #[.agg (aC (ag t) (Jj sa sn sc)),J Jq q,J Jq k,J Jq z,.bool bf,J Jq id] X0 fun e X=>∃(nr:Node),∃na nn' nc,e=Jz (.agg #[J Jq nr.k,J Jq nr.w,J Jq nr.h,J Jq nr.i,Jj na nn' nc])/\Below wr.heap.size wr X/\∀X',Below X.heap.size X X'->Calls prog 85 #[Jj ma mn mc,J Jq k',.agg #[J Jq nr.k,J Jq nr.w,J Jq nr.h,J Jq nr.i,Jj na nn' nc]] X' fun e Y=>∃ra rn rc,e=Jz (Jj ra rn rc)/\(∀y,y<=wl.heap.size->Y.heap[y]?=wr.heap[y]?)/\Y.frozen? ⟨wl.heap.size,4,O⟩=false/\Made k' b.w b.h (OkB fp w) wl (nodesOf (gQ k' (rs.take (j+1)))) (Y.setCell ⟨wl.heap.size,4,O⟩ (Jj ra rn rc))):=fun X0 hbm=>by
     refine (eJ.out j t r ht hr (Jj sa sn sc) f X0 (kO.below hbm)).mono ?_
     rintro e X ⟨na,nn',nc,f',rfl,h1,h2,h3⟩
     refine⟨ag r,na,nn',nc,rfl,af hbm h3,fun X' sM=> ?_⟩
     have cK:Below wr.heap.size wr X':=af (af hbm h3) sM
     refine HJ.out X' na nn' nc f' cK (h1.below sM) (fun y hy=> ?_)
     rcases h2 y hy with h | h
     . exact .inl h
     . exact .inr (Nat.le_trans hbm.size h)
    have XH:Hid (∀X:World,(∀y,y<=wl.heap.size->X.heap[y]?=wr.heap[y]?)->X.cell? ⟨w.heap.size,0,O⟩=I (J Jq k')/\X.cell? ⟨w.heap.size,4,O⟩=I (Jj (I ⟨gk,0,O⟩) L cap)/\X.cell? ⟨wl.heap.size,4,O⟩=I (Jj ma mn mc)/\X.cell? ⟨gk,j*5,O⟩=I (J Jq (ag t).k)/\X.cell? ⟨gk,j*5+1,O⟩=I (J Jq (ag t).w)/\X.cell? ⟨gk,j*5+2,O⟩=I (J Jq (ag t).h)/\X.cell? ⟨gk,j*5+3,O⟩=I (J Jq (ag t).i)/\X.cell? ⟨gk,j*5+4,O⟩=I (Jj sa sn sc)):=fun X hX=>by
     have h1:=(hX w.heap.size (by have:=HB.out.2.1;omega)).trans ft
     have h2:=(hX wl.heap.size (Nat.le_refl _)).trans ef
     have hc:∀o,X.cell? ⟨gk,o,O⟩=wr.cell? ⟨gk,o,O⟩:=fun o=>World.cell?_of_block (w':=X) (w:=wr) (a:=⟨gk,o,O⟩) (hX gk (by omega))
     exact⟨ae h1 0,ae h1 4,ae h2 4,(hc _).trans c0,(hc _).trans c1,(hc _).trans c2,(hc _).trans c3,(hc _).trans c4⟩
    have HWl:Hid (∀X,Below wr.heap.size wr X->∀y,y<=wl.heap.size->X.heap[y]?=wr.heap[y]?):=fun X hX y hy=>hX.block y (by omega)
    obtain⟨nn,aR⟩:∃nn,ag t=nn:=⟨_,rfl⟩
    rw[aR] at c0 c1 c2 c3 TD XH
    unfold aC at TD
    clear ab lR kO l5 ef bS oo da HM ft aR HJ ht hr eO hml eJ pw lv RB
    go_wp2_with fail
    go_region_with (first
     | (go_at_call 59;refine (TD.out _ (by first | exact Below.refl _ _ | exact (Below.refl _ _).drew)).mono ?_;rintro e X ⟨nr,na,nn',nc,rfl,cK,ZL⟩;have HJj:=jW ZL;obtain⟨x0,x4,xm,xk0,xk1,xk2,xk3,xk4⟩:=XH.out X (HWl.out X cK);clear ZL cK)
     | (go_at_call 85;refine (HJj.out _ (by first | exact Below.refl _ _ | exact (Below.refl _ _).drew)).mono ?_;rintro e Y ⟨ra,rn,rc,rfl,ZM,yf,ie⟩;have gx:=jW ie;obtain⟨y0,y4,ym,yk0,yk1,yk2,yk3,yk4⟩:=XH.out Y ZM;clear ie ZM))
    all_goals (
     clear y0 y4 yk0 yk1 yk2 yk3 yk4
     go_wp2_with fail
     go_roundw
     case rel=>exact⟨j+1,by omega,by go_num,gx⟩
     case measure=>simp[intOf];omega)
  . have oe:j=L:=by omega
    subst oe
    have Tv:rs.take j=rs:=List.take_of_length_le (by rw[tQ.out];exact Nat.le_refl _)
    rw[Tv] at bS
    have ab:=bS.in_ k' b.w b.h 0
    have bp:wr.heap[w.heap.size+1]?=I (JZ #[J Jq 0,J Jq 0,J Jq 0,J Jq 0,Jj O 0 0] 53 (0,0)):=(da.block (w.heap.size+1) (by have:=HB.out.2.1;omega)).trans HB.out.2.2.1
    have HF:Hid (∀v0 v1 v2 v3 v4,uD (.split b k' (gQ k' rs)) fp w (Jz (.agg #[J Jq k',J Jq b.w,J Jq b.h,J Jq 0,Jj ma mn mc])) (fB wr (w.heap.size+1) v0 v1 v2 v3 v4)):=fun v0 v1 v2 v3 v4=>lv.out wr ma mn mc _ v0 v1 v2 v3 v4 (af HB.out.1 da) ab (by have:=HB.out.2.1;have:=da.size;omega) (fun y h=>by
     rcases List.mem_append.1 h with h | h
     . exact o8 (n:=wl.heap.size) (by have:=HB.out.2.1;omega) y (by have:=(bS.lt y (by simpa using h)).1;omega)
     . exact (oo y h).2)
    have n0:wr.cell? ⟨wl.heap.size,0,O⟩=I (J Jq k'):=ae ef 0
    have n1:wr.cell? ⟨wl.heap.size,1,O⟩=I (J Jq b.w):=ae ef 1
    have n2:wr.cell? ⟨wl.heap.size,2,O⟩=I (J Jq b.h):=ae ef 2
    have n3:wr.cell? ⟨wl.heap.size,3,O⟩=I (J Jq 0):=ae ef 3
    have n4:wr.cell? ⟨wl.heap.size,4,O⟩=I (Jj ma mn mc):=ae ef 4
    have r0:wr.cell? ⟨w.heap.size+1,0,O⟩=I (J Jq 0):=ae bp 0
    have r1:wr.cell? ⟨w.heap.size+1,1,O⟩=I (J Jq 0):=ae bp 1
    have r2:wr.cell? ⟨w.heap.size+1,2,O⟩=I (J Jq 0):=ae bp 2
    have r3:wr.cell? ⟨w.heap.size+1,3,O⟩=I (J Jq 0):=ae bp 3
    have r4:wr.cell? ⟨w.heap.size+1,4,O⟩=I (Jj O 0 0):=ae bp 4
    have f0:=ai bp 0
    have f1:=ai bp 1
    have f2:=ai bp 2
    have f3:=ai bp 3
    have f4:=ai bp 4
    clear ef bS oo da ab bp HM ft pw HB xT eJ lv tQ Tv hml
    go_wp2
    exact bodyPost_ret (v:=.agg #[J Jq k',J Jq b.w,J Jq b.h,J Jq 0,Jj ma mn mc]) (by simp[results,results59,go_sem,r0,r1,r2,r3,r4]) rfl (HF.out _ _ _ _ _)
theorem MI {q k n id:Int}{bf:Bool}{bl:Box}(hk:k=2\/k=3)(hC:Ei q k n id bf bl)(pd:(Tree.leaf bl q).sound=true)(hn:1<=n/\n<=bl.ext k-2)(w:World):
 Calls prog 62 #[J Jq k,.agg #[J Jq 1,J Jq (bl.str k (-n-1)).w,J Jq (bl.str k (-n-1)).h,J Jq q,Jj O 0 0],.agg #[J Jq 1,J Jq (bl.with k n).w,J Jq (bl.with k n).h,J Jq id,Jj O 0 0],.bool bf] w (uD (yZ q k n id bf bl) [] w):=by
 have hB:=hC.beside
 have ar:=(Tree.leaf bl q).aF pd
 change (1<=bl.w/\bl.w<=1000)/\(1<=bl.h/\bl.h<=1000) at ar
 have aE:=hB.node
 obtain⟨A,hA⟩:∃A,bl.str k (-n-1)=A:=⟨_,rfl⟩
 obtain⟨B,Z7⟩:∃B,bl.with k n=B:=⟨_,rfl⟩
 have ey:((0<=A.w/\A.w<=1000)/\(0<=A.h/\A.h<=1000))/\((0<=B.w/\B.w<=1000)/\(0<=B.h/\B.h<=1000))/\(k=2->B.h=A.h)/\(k=3->B.w=A.w):=by
  rw[<- hA,<- Z7]
  rcases hk with rfl | rfl
  . unfold Box.ext at hn
    simp only[if_true] at hn
    simp[Box.with,Box.str,Box.ext]
    omega
  . unfold Box.ext at hn
    simp at hn
    simp[Box.with,Box.str,Box.ext]
    omega
 unfold yZ
 rw[hA,Z7] at aE ⊢
 have Vy:(Node.mk 1 A.w A.h q []).In w (Jj O 0 0) []:=⟨[],[],World.ownsRow_nil _ _ _ _,⟨rfl,rfl⟩,rfl⟩
 have Vz:(Node.mk 1 B.w B.h id []).In w (Jj O 0 0) []:=⟨[],[],World.ownsRow_nil _ _ _ _,⟨rfl,rfl⟩,rfl⟩
 have key:∀(N:Node),N=ag (eF k bf (.leaf A q) (.leaf B id))->∀e w',rU N ([]++[]) w e w'->uD (eF k bf (.leaf A q) (.leaf B id)) [] w e w':=by
  rintro N rfl e w' ⟨ta,tn,tc,fp',h1,h2,h4,h3⟩
  exact⟨ta,tn,tc,fp',h1,h2,h4,h3⟩
 have key2:∀(k0 x y x' y':Int) (ks:List Node),x=x'->y=y'->Node.mk k0 x y 0 ks=Node.mk k0 x' y' 0 ks:=by
  rintro k0 x y x' y' ks rfl rfl
  rfl
 rcases hk with hk | hk
 . subst hk
   have hh:=ey.2.2.1 rfl
   cases bf with
   | false=>
     refine (xI (.mk 1 A.w A.h q []) (.mk 1 B.w B.h id []) O 0 0 O 0 0 [] [] w Vy Vz (by simp[Node.ks]) (by simp[Node.ks]) ey.1 ey.2.1).mono (key _ ?_)
     rw[aE]
     rfl
   | true=>
     refine (Cc (.mk 1 A.w A.h q []) (.mk 1 B.w B.h id []) O 0 0 O 0 0 [] [] w Vy Vz (by simp[Node.ks]) (by simp[Node.ks]) ey.1 ey.2.1).mono (key _ ?_)
     rw[aE]
     exact key2 2 _ _ _ _ _ (by show B.w+A.w+1=A.w+B.w+1;omega) hh
 . subst hk
   have hh:=ey.2.2.2 rfl
   cases bf with
   | false=>
     refine (xJ (.mk 1 A.w A.h q []) (.mk 1 B.w B.h id []) O 0 0 O 0 0 [] [] w Vy Vz (by simp[Node.ks]) (by simp[Node.ks]) ey.1 ey.2.1).mono (key _ ?_)
     rw[aE]
     rfl
   | true=>
     refine (Ce (.mk 1 A.w A.h q []) (.mk 1 B.w B.h id []) O 0 0 O 0 0 [] [] w Vy Vz (by simp[Node.ks]) (by simp[Node.ks]) ey.1 ey.2.1).mono (key _ ?_)
     rw[aE]
     exact key2 3 _ _ _ _ _ hh (by show B.h+A.h+1=A.h+B.h+1;omega)
theorem BF (w:World)(o1 o2:Obj):Below w.heap.size w ((w.alloc o1).alloc o2)/\((w.alloc o1).alloc o2).heap.size=w.heap.size+2/\((w.alloc o1).alloc o2).heap[w.heap.size+1]?=I o2/\((w.alloc o1).alloc o2).heap[w.heap.size]?=I o1:=by
 have s1:(w.alloc o1).heap.size=w.heap.size+1:=by simp
 refine⟨((Below.refl _ _).alloc (Nat.le_refl _) o1).alloc (by omega) o2,by simp,?_,?_⟩
 . have:=heap_alloc_new (w.alloc o1) o2
   rw[s1] at this
   rw[this]
 . exact (Below.heap_alloc _ _ _ (by omega)).trans (heap_alloc_new _ _)
theorem Jm (q:Int)(c:Box->Tree)(bl:Box)(hc:(c bl).size<=3){t t':Tree}(h:Oz q c bl t t'):t'.size<=t.size+2:=by
 induction h with
 | keep t _=>omega
 | here=>show _<=1+2;omega
 | deep b k ts i s s' hi hS nj ih=>
   have h2:=tX k s'
   have h3:sizes ts=sizes (ts.take i)+(s.size+sizes (ts.drop (i+1))):=by
    conv=>lhs;rw[uC hi]
    rw[dw]
    rfl
   show 1+sizes (ts.take i++(iw k s'++ts.drop (i+1)))<=1+sizes ts+2
   rw[dw,dw]
   omega
theorem Jl (q k z id:Int)(bf:Bool)(bl:Box)(p:Int)(hp:p≠q):Oe q k z id bf (.leaf bl p) (.leaf bl p):=by
 intro sl fp w ab
 obtain⟨ad,c,av⟩:=ab.sl
 subst av
 change Calls prog 59 #[.agg #[J Jq 1,J Jq bl.w,J Jq bl.h,J Jq p,Jj ad 0 c],J Jq q,J Jq k,J Jq z,.bool bf,J Jq id] w _
 have hpb:(p != q)=true:=by simpa using hp
 obtain⟨W,hW⟩:∃W,(w.alloc (JZ #[J Jq 1,J Jq bl.w,J Jq bl.h,J Jq p,Jj ad 0 c] 53)).alloc (JZ #[J Jq 0,J Jq 0,J Jq 0,J Jq 0,Jj O 0 0] 53)=W:=⟨_,rfl⟩
 have HE:=zh hW
 obtain⟨ap,fi,bp,hblk⟩:=BF w (JZ #[J Jq 1,J Jq bl.w,J Jq bl.h,J Jq p,Jj ad 0 c] 53) (JZ #[J Jq 0,J Jq 0,J Jq 0,J Jq 0,Jj O 0 0] 53)
 rw[hW] at ap fi bp hblk
 have HF:Hid (∀v0 v1 v2 v3 v4,uD (.leaf bl p) fp w (Jz (.agg #[J Jq 1,J Jq bl.w,J Jq bl.h,J Jq p,Jj ad 0 c])) (fB W (w.heap.size+1) v0 v1 v2 v3 v4)):=fun v0 v1 v2 v3 v4=>by
  have hb:Below w.heap.size w (fB W (w.heap.size+1) v0 v1 v2 v3 v4):=bC ap _ (by omega) _ _ _ _ _
  exact⟨ad,0,c,fp,rfl,ab.below hb,fun y hy=>.inl hy,hb⟩
 have m0:W.cell? ⟨w.heap.size,0,O⟩=I (J Jq 1):=ae hblk 0
 have m1:W.cell? ⟨w.heap.size,1,O⟩=I (J Jq bl.w):=ae hblk 1
 have m2:W.cell? ⟨w.heap.size,2,O⟩=I (J Jq bl.h):=ae hblk 2
 have m3:W.cell? ⟨w.heap.size,3,O⟩=I (J Jq p):=ae hblk 3
 have m4:W.cell? ⟨w.heap.size,4,O⟩=I (Jj ad 0 c):=ae hblk 4
 have r0:W.cell? ⟨w.heap.size+1,0,O⟩=I (J Jq 0):=ae bp 0
 have r1:W.cell? ⟨w.heap.size+1,1,O⟩=I (J Jq 0):=ae bp 1
 have r2:W.cell? ⟨w.heap.size+1,2,O⟩=I (J Jq 0):=ae bp 2
 have r3:W.cell? ⟨w.heap.size+1,3,O⟩=I (J Jq 0):=ae bp 3
 have r4:W.cell? ⟨w.heap.size+1,4,O⟩=I (Jj O 0 0):=ae bp 4
 have f0:=ai bp 0
 have f1:=ai bp 1
 have f2:=ai bp 2
 have f3:=ai bp 3
 have f4:=ai bp 4
 clear ab hW ap fi bp hblk
 go_enter func59,ntmps59
 go_upto_region 1 with fail
 rw[HE.out]
 go_wp2
 exact bodyPost_ret (v:=.agg #[J Jq 1,J Jq bl.w,J Jq bl.h,J Jq p,Jj ad 0 c]) (by simp[results,results59,go_sem,r0,r1,r2,r3,r4]) rfl (HF.out _ _ _ _ _)
theorem OO (v:Value)(l:List aj)(k z id:Int)(bf:Bool)(w:World)(h:ay w v l){t t1:Tree}{n:Int}(hF:aT l=I t)(hU:wU l t t1 k z n id bf):Calls prog 19 #[v,J Jq k,J Jq z,.bool bf,J Jq id] w (dZ 0 (cZ (eF k bf t1 (.leaf (dh t k n) id))) w):=by
 have HR:=zh (dQ v l w h hF)
 have HC:Hid (∀W,Calls prog 36 #[J Jq k] W fun e w'=>e=Jz (.bool true)/\W=w'):=fun W=>(decide_eq_true hU.kind) ▸ fE k W
 have ko:=(iM (by rw[hF];rfl:(aT l).isSome=true)).1
 have HJ:Hid (∀X,Below w.heap.size w X->Calls prog 37 #[v,J Jq id] X fun e w'=>e=Jz (J Jq 0)/\Below X.heap.size X w'):=fun X hX=>hU.join ▸ iY v l id X (h.below hX) (by omega)
 have hl:=hU.lay
 have hz:=lay_size hl
 have ar:=t.aF hl.sound
 have tO:=df t.box k ar
 have ke:=df t.box (aA k) ar
 have ck:=hU.low
 have bN:=hU.one.ok
 have ey:=hU.num
 have rI:=bT t k hl.sound
 have im:=hU.room
 obtain⟨r,kj⟩:∃r,t.room k=r:=⟨_,rfl⟩
 obtain⟨E,hE⟩:∃r,t.box.ext k=r:=⟨_,rfl⟩
 obtain⟨ak,vE⟩:∃r,aA k=r:=⟨_,rfl⟩
 obtain⟨A,hA⟩:∃r,t.box.ext ak=r:=⟨_,rfl⟩
 obtain⟨wt,Rx⟩:∃r,gZ z E=r:=⟨_,rfl⟩
 have xp:dh t k n=((⟨0,0,0,0⟩:Box).str k n).str ak A:=by unfold dh;rw[vE,hA]
 rw[hE] at tO ey
 rw[vE,hA] at ke
 rw[Rx,kj] at ey
 rw[kj] at rI im
 have BW:Hid (∀W,Calls prog 39 #[J Jq z,J Jq E] W fun e w'=>e=Jz (J Jq wt)/\W=w'):=fun W=>Rx ▸ uo z E W (by omega)
 have Kd:Hid (∀W,Calls prog 45 #[J Jq k] W fun e w'=>e=Jz (J Jq ak)/\W=w'):=fun W=>vE ▸ pU k W
 have iS : Hid (∀ T g fp W, t.At W 0 (.iface T (JJ (I ⟨g, 0, O⟩))) fp → ∃ Fr, (∀ X, (method 286 T (JJ (I ⟨g, 0, O⟩)) "mullion/layout.room").run prog X = .ok (Fr, JJ (I ⟨g, 0, O⟩)) X) ∧ (∀ a c X, (callFunc Fr #[a, c]).run prog X = .ok (.enter Fr #[a, c]) X) ∧ Calls prog Fr #[JJ (I ⟨g, 0, O⟩), J Jq k] W fun e w' => e = Jz (J Jq r) ∧ W = w') := by
  intro T g fp W hA
  obtain⟨T',gi,Fr,hP⟩:=hA.Ea hl.sound (by omega)
  have hv:=hP.val
  cases hv
  exact⟨Fr,hP.mR,hP.fR,kj ▸ hP.cR k W (Below.refl _ _)⟩
 have ff : Hid (∀ T g fp W, t.At W 0 (.iface T (JJ (I ⟨g, 0, O⟩))) fp → (∀ X, (method 286 T (JJ (I ⟨g, 0, O⟩)) "mullion/layout.extent").run prog X = .ok (38, JJ (I ⟨g, 0, O⟩)) X) ∧ (∀ X, (nilAhead 286 T (JJ (I ⟨g, 0, O⟩)) "mullion/layout.extent").run prog X = .ok (I false) X) ∧ (∀ X, Below W.heap.size W X → Calls prog 38 #[JJ (I ⟨g, 0, O⟩), J Jq k] X fun e w' => e = Jz (J Jq E) ∧ X = w') ∧ (∀ X, Below W.heap.size W X → Calls prog 38 #[JJ (I ⟨g, 0, O⟩), J Jq ak] X fun e w' => e = Jz (J Jq A) ∧ X = w')) := by
  intro T g fp W bq
  refine⟨?_,?_,fun X hX=>hE ▸ (iH bq k X hX).2,fun X hX=>hA ▸ (iH bq ak X hX).2⟩
  . obtain⟨g',hv,_,_⟩:=bq.own
    rcases hv with hv | hv
    . cases hv;exact nz _
    . cases hv;exact nC _
  . obtain⟨g',hv,_,_⟩:=bq.own
    rcases hv with hv | hv
    . cases hv;exact Qr _
    . cases hv;exact Qs _
 have HX : Hid (∀ T g fp W, t.At W 0 (.iface T (JJ (I ⟨g, 0, O⟩))) fp → fp.Nodup → ∃ Fx, (∀ X, (method 286 T (JJ (I ⟨g, 0, O⟩)) "mullion/layout.stretch").run prog X = .ok (Fx, JJ (I ⟨g, 0, O⟩)) X) ∧ (∀ a c d X, (callFunc Fx #[a, c, d]).run prog X = .ok (.enter Fx #[a, c, d]) X) ∧ Calls prog Fx #[JJ (I ⟨g, 0, O⟩), J Jq k, J Jq (-n - 1)] W fun e w' => e = Jz (.tuple #[]) ∧ t1.At w' 0 (.iface T (JJ (I ⟨g, 0, O⟩))) fp ∧ But fp W w') := by
  intro T g fp W bq aE
  obtain⟨T',gi,Fx,hX⟩:=t.stretches 0 _ fp W bq aE
  have hv:=hX.val
  cases hv
  exact⟨Fx,hX.mX,hX.fX,hX.cX W k (-n-1) t1 bq hU.one⟩
 have bA:Hid (∀T g fp w5,t1.At w5 0 (.iface T (JJ (I ⟨g,0,O⟩))) fp->fp.Nodup->(∀q∈fp,w.heap.size<=q)->Below w.heap.size w w5->Calls prog 43 #[J Jq k,Jj (I ⟨w5.heap.size+1,0,O⟩) 2 2] ((w5.alloc (.cells (wV (((⟨0,0,0,0⟩:Box).str k n).str ak A) id) 49)).alloc (.cells (if bf then #[aZ w5.heap.size,.iface T (JJ (I ⟨g,0,O⟩))] else #[.iface T (JJ (I ⟨g,0,O⟩)),aZ w5.heap.size]) 70)) fun e w'=>e=Jz (JJ (I ⟨w5.heap.size+1+1,0,O⟩))/\Calls prog 15 #[dA (w5.heap.size+1+1)] w' fun e w''=>∃u,e=Jz u/\az w'' w.heap.size u (cZ (eF k bf t1 (.leaf (dh t k n) id)))/\Below w.heap.size w w''):=fun T g fp w5 e1 e2 e3 e4=>by
  have:=MK hU e1 e2 e3 e4
  rw[xp] at this
  rw[xp]
  exact this
 have Tg:dh t k n=⟨0,0,(dh t k n).w,(dh t k n).h⟩:=by rw[nK t k n hU.kind];split <;> rfl
 rw[xp] at Tg
 have K7:Hid (∀T1 T2 g1 g2 W,Calls prog 44 #[.iface T1 (JJ (I ⟨g1,0,O⟩)),.iface T2 (JJ (I ⟨g2,0,O⟩)),.bool bf] W fun e w'=>e=Jz (Jj (I ⟨W.heap.size,0,O⟩) 2 2)/\w'=W.alloc (.cells (if bf then #[.iface T2 (JJ (I ⟨g2,0,O⟩)),.iface T1 (JJ (I ⟨g1,0,O⟩))] else #[.iface T1 (JJ (I ⟨g1,0,O⟩)),.iface T2 (JJ (I ⟨g2,0,O⟩))]) 70)):=fun T1 T2 g1 g2 W=>qO T1 T2 g1 g2 bf W
 obtain⟨LT,ki⟩:∃x,cZ (eF k bf t1 (.leaf (dh t k n) id))=x:=⟨_,rfl⟩
 rw[ki] at bA ⊢
 have zz:=zh ey.symm
 have kr:IntKind.i64.wrap (r-1)=r-1:=by rw[IntKind.wrap_i64];omega
 have rj:IntKind.i64.wrap (-n)= -n:=by rw[IntKind.wrap_i64];omega
 have FS:IntKind.i64.wrap (-n-1)= -n-1:=by rw[IntKind.wrap_i64];omega
 have gh:¬r < 2:=by omega
 have Ke:(-1000000<=n/\n<=1000000)/\(-1000000<=A/\A<=1000000):=by omega
 have Ti:Hid (∀W:World,Calls prog 41 #[JJ (I ⟨W.heap.size,0,O⟩),J Jq k,J Jq n] (W.alloc (JZ #[J Jq 0,J Jq 0,J Jq 0,J Jq 0] 47)) fun e w'=>e=Jz (.tuple #[])/\bP w' W.heap.size ((⟨0,0,0,0⟩:Box).str k n)/\(W.alloc (JZ #[J Jq 0,J Jq 0,J Jq 0,J Jq 0] 47)).grownBy w' (I W.heap.size)):=fun W=>(iZ W.heap.size ⟨0,0,0,0⟩ k n _ (bP.new W _) (by decide) (by decide) Ke.1).mono fun e w' h=>⟨h.1,h.2.1,h.2.2.1⟩
 have Nf:Hid (∀W g m,bP W g ((⟨0,0,0,0⟩:Box).str k n)->Calls prog 41 #[JJ (I ⟨g,0,O⟩),J Jq ak,J Jq A] (W.drewN m) fun e w'=>e=Jz (.tuple #[])/\bP w' g (((⟨0,0,0,0⟩:Box).str k n).str ak A)/\W.grownBy w' (I g)):=fun W g m hB=>(iZ g _ ak A (W.drewN m) ⟨hB.x,hB.y,hB.w,hB.h,hB.free⟩ (by unfold Box.str;split <;> constructor <;> simp <;> omega) (by unfold Box.str;split <;> constructor <;> simp <;> omega) Ke.2).mono fun e w' h=>⟨h.1,h.2.1,⟨h.2.2.1.os,h.2.2.1.tape,h.2.2.1.output,h.2.2.1.size,h.2.2.1.block⟩⟩
 obtain⟨Fb,Y5⟩:∃x,((⟨0,0,0,0⟩:Box).str k n).str ak A=x:=⟨_,rfl⟩
 obtain⟨fw,Q6⟩:∃x,Fb.w=x:=⟨_,rfl⟩
 obtain⟨fh,Q9⟩:∃x,Fb.h=x:=⟨_,rfl⟩
 rw[Y5,Q6,Q9] at Tg
 subst Tg
 rw[Y5] at bA Nf
 clear h hF hU ko hl hz ar tO ke ck bN ey rI im kj hE vE hA Rx xp ki Ke
 go_enter func19,ntmps19
 go_wp2_with fail
 refine HR.out.mono ?_
 rintro e w1 ⟨T,g,fp,rfl,bq,aE,be,hb⟩
 have HB:=zh hb
 have j5:=zh bq
 have tj:Hid fp.Nodup:=aE
 have UZ:=zh be
 clear bq aE be hb HR
 go_wp2_with fail
 refine (HC.out _).mono ?_
 rintro e w2 ⟨rfl,rfl⟩
 go_wp2_with fail
 refine (HJ.out _ HB.out).mono ?_
 rintro e w2 ⟨rfl,al⟩
 have aD:=zh (af HB.out al)
 have Hv:=zh (j5.out.below al)
 obtain⟨Fr,m1,m2,hc⟩:=iS.out T g fp w2 Hv.out
 have sR:=zh hc
 obtain⟨m3,m4,hx1,Y6⟩:=ff.out T g fp w2 Hv.out
 have AI:=zh hx1
 have iu:=zh Y6
 clear al hc hx1 Y6 HC HJ j5 iS ff HB
 go_wp2_with fail
 refine sR.out.mono ?_
 rintro e w3 ⟨rfl,rfl⟩
 go_wp2_with fail
 refine (AI.out _ (Below.refl _ _)).mono ?_
 rintro e w3 ⟨rfl,rfl⟩
 go_wp2_with fail
 refine (BW.out _).mono ?_
 rintro e w3 ⟨rfl,rfl⟩
 go_wp2_with fail
 rw[zz.out]
 refine (Ti.out w2).mono ?_
 rintro e w4 ⟨rfl,Da,Y7⟩
 have Ng:Below w2.heap.size w2 w4:=below_grown ((Below.refl _ _).alloc (Nat.le_refl _) _) Y7 (Nat.le_refl _)
 have gr:=zh Ng
 have Tj:Hid (∀m,Calls prog 38 #[JJ (I ⟨g,0,O⟩),J Jq ak] (w4.drewN m) fun e w'=>e=Jz (J Jq A)/\w4.drewN m=w'):=fun m=>iu.out _ (below_drewN Ng m)
 have kp:Hid (∀m,Calls prog 41 #[JJ (I ⟨w2.heap.size,0,O⟩),J Jq ak,J Jq A] (w4.drewN m) fun e w'=>e=Jz (.tuple #[])/\bP w' w2.heap.size ⟨0,0,fw,fh⟩/\w4.grownBy w' (I w2.heap.size)):=fun m=>Nf.out w4 w2.heap.size m Da
 clear Da Y7 Ng AI sR BW Ti Nf iu zz m1 m2
 go_wp2_with fail
 refine bQ 9 _ (by rfl) (by rfl) (by kernel_rfl) (by kernel_rfl) (by kernel_rfl) ?_
 simp only[List.take_succ_cons,List.take_zero]
 repeat (quiet_step ((first | (go_at_call 45;exact Calls.quiet_of_same ((Kd.out _).mono fun e w' h=>⟨h.1,h.2.symm⟩)) | (go_at_call 38;exact Calls.quiet_of_same ((Tj.out _).mono fun e w' h=>⟨h.1,h.2.symm⟩)))))
 refine wpQuiet_nil ?_
 intro m7 K hK
 go_simp
 go_at_call 41
 refine (kp.out m7).mono ?_
 rintro e w5 ⟨rfl,Ni,Ry⟩
 refine hK _ _ ?_
 clear hK
 clear K
 have Nm:Below w2.heap.size w2 w5:=below_grown gr.out Ry (Nat.le_refl _)
 have fY:=zh Nm
 have Wy:=zh (Hv.out.below Nm)
 have e8:=zh Ni
 obtain⟨Fx,m1,m2,xr⟩:=HX.out T g fp w5 Wy.out tj.out
 have Te:=zh xr
 have Y8:=zh Hv.out.lt
 clear Ni Ry Nm xr kp Tj gr Kd m3 m4 HX
 go_wp2_with fail
 refine Te.out.mono ?_
 rintro e w6 ⟨rfl,Tk,Nn⟩
 have eA:w6.heap[w2.heap.size]?=w5.heap[w2.heap.size]?:=Nn.block _ e8.out.lt fun h=>by have:=Y8.out _ h;omega
 have hc:∀o,w6.cell? ⟨w2.heap.size,o,O⟩=w5.cell? ⟨w2.heap.size,o,O⟩:=fun o=>by unfold World.cell?;rw[eA]
 have q0:=(hc 0).trans e8.out.x
 have q1:=(hc 1).trans e8.out.y
 have q2:=(hc 2).trans e8.out.w
 have q3:=(hc 3).trans e8.out.h
 have Nt:=zh (bA.out T g fp w6 Tk tj.out UZ.out (gX (af aD.out fY.out) Nn UZ.out))
 clear hc eA Tk Nn Te bA Y8 e8
 cases bf
 all_goals (
  simp only[Bool.false_eq_true,if_false,if_true] at Nt K7
  go_wp2_with fail
  refine (K7.out _ _ _ _ _).mono ?_
  rintro e w7 ⟨rfl,rfl⟩
  go_wp2_with fail
  refine Nt.out.mono ?_
  rintro e w8 ⟨rfl,hL⟩
  have HL:=zh hL
  clear hL Nt q0 q1 q2 q3
  go_wp2_with fail
  refine HL.out.mono ?_
  rintro e w9 ⟨u,rfl,hu,ez⟩
  have HU:=zh hu
  have pC:=zh ez
  clear hu ez HL
  go_wp2
  go_ret2
  exact⟨u,rfl,HU.out,pC.out⟩)
theorem LH (t:Tree):(cZ t).length=t.size:=by
 unfold cZ
 rw[Tree.eu,Tree.iI]
theorem KG (l:List aj)(q:Int):∃er r,(r:List aj).length<=63/\(∀v X,ay X v l->Calls prog 20 #[v,J Jq q] X (dZ er r X))/\(∀v X,ay X v l->Calls prog 28 #[v,J Jq q] X (dZ er r X)):=by
 cases hF:aT l with
 | none=>exact⟨40,[],by simp,fun v X h=>LJ v l q X h hF,fun v X h=>JE v l q X h hF⟩
 | some t=>
   have hl:=aV hF
   have hid:t.idl=aH l:=by rw[lK t 0 hl.kinds,hl.tell]
   have hz:=lay_size hl
   have hi:=jr hF
   have hsi:=nH t hl.kinds hl.sound
   cases hp:t.path q with
   | none=>
     have AE:q ∉ aH l:=by rw[<- hid];exact (dR t q).1 hp
     exact⟨42,[],by simp,fun v X h=>LK v l q X h hF hp,fun v X h=>xy v l q X h hF 42 [] (.inl ⟨AE,rfl,rfl⟩)⟩
   | some ps=>
     have bE:q∈aH l:=by
      rw[<- hid]
      refine Classical.byContradiction fun hx=> ?_
      rw[(dR t q).2 hx] at hp
      cases hp
     cases t with
     | leaf b p=>
       have e:ps=[]:=by
        unfold Tree.path at hp
        split at hp
        . cases hp
          rfl
        . cases hp
       subst e
       exact⟨46,[],by simp,fun v X h=>LM v l q X h hF hp,fun v X h=>xy v l q X h hF 46 [] (.inr (.inl ⟨bE,by rw[<- hid];rfl,rfl,rfl⟩))⟩
     | split b k ts=>
       have a7:ps≠[]:=by
        intro e
        subst e
        have ZN:=hp
        unfold Tree.path at ZN
        obtain⟨i',s,ps',e,_⟩:=gG q ts 0 _ ZN
        cases e
       obtain⟨t',hC⟩:=close_any q ps _ hl.sound hl.kinds (by omega) (by rw[hid];exact hi.2.2.2.1) hp a7
       have cJ:=hC.size
       have hlen:(aH l).length≠1:=by
        have h2:2<=ts.length:=by
         have hs:=hl.sound
         unfold Tree.sound at hs
         simp only[Bool.and_eq_true,decide_eq_true_eq] at hs
         exact hs.1.1
        have h3:=aI ts
        have h4:(Tree.split b k ts).size=1+sizes ts:=rfl
        rw[hi.1] at hsi
        omega
       exact⟨0,cZ t',by rw[LH];omega,fun v X h=>OL v l q X h hF hp hC,fun v X h=>xy v l q X h hF 0 _ (.inr (.inr ⟨bE,hlen,rfl,t',rfl,hC.sound,hC.kinds,by omega,hC.shut,b,k,ts,rfl⟩))⟩
def EJ (mv er:Int)(r:List aj)(X:World)(e:Ending)(w':World):Prop:=∃q,e=Jz (.tuple #[q,J Jq mv,J Jq er])/\az w' X.heap.size q r/\Below X.heap.size X w'
theorem rZ (v:Value)(q k n er:Int)(w:World)(h:Calls prog 48 #[v,J Jq q,J Jq k] w (tZ er w))(h0:er≠0):Calls prog 22 #[v,J Jq q,J Jq k,J Jq n] w (EJ 0 er [] w):=by
 have HN:=zh h
 have E6:(er != 0)=true:=by simpa using h0
 clear h h0
 go_enter func22,ntmps22
 go_wp2_with fail
 refine HN.out.mono ?_
 rintro e w1 ⟨rfl,hb⟩
 have HB:Hid (∀o,Below w.heap.size w (w1.alloc o)):=fun o=>af hb ((Below.refl _ _).alloc (Nat.le_refl _) o)
 clear hb HN
 go_wp2
 exact bodyPost_ret (v:=.tuple #[Jj O 0 0,J Jq 0,J Jq er]) (by simp[results,results22,go_sem]) rfl ⟨_,rfl,World.ownsRow_nil _ _ _ _,HB.out _⟩
theorem Nl (v:Value)(q k n:Int)(w:World){t:Tree}{qs:List Nat}{a:Nat}{b:Box}{ts rs:List Tree}{c:Nat}{got:Int}(h:Calls prog 48 #[v,J Jq q,J Jq k] w (qK k t qs a w))(hs:t.sound=true)(hk:t.kinds)(hz:t.size<=200)(aL:t.cO qs=I (.split b k ts))(hP:JG k b ts a n rs c got)(hn: -9223372036854775808<=n/\n<=9223372036854775807):Calls prog 22 #[v,J Jq q,J Jq k,J Jq n] w (EJ (jv n got) 0 (cZ (t.putAt qs (.split b k rs))) w):=by
 have HN:Hid (Calls prog 48 #[v,J Jq q,J Jq k] w fun e w'=>∃T g gg,e=Jz (.tuple #[.iface T (JJ (I ⟨g,0,O⟩)),.agg #[JJ (I ⟨gg,0,O⟩),J Jq a],J Jq 0])/\∀X,Below w'.heap.size w' X->Calls prog 49 #[.agg #[JJ (I ⟨gg,0,O⟩),J Jq a],J Jq n] X fun e w3=>e=Jz (J Jq (jv n got))/\Calls prog 15 #[.iface T (JJ (I ⟨g,0,O⟩))] w3 fun e w4=>∃u,e=Jz u/\az w4 w.heap.size u (cZ (t.putAt qs (.split b k rs)))/\Below w.heap.size w w4):=h.mono fun e w' h=>by
  obtain⟨T,g,fp,st,j,gg,b',ts',f',w1,he,hA,aE,be,hN,ly,hb⟩:=h
  have ej:=hN.sub
  rw[aL] at ej
  cases ej
  exact⟨T,g,gg,he,xA hA aE be hN ly hb hs hk hz hP hn⟩
 obtain⟨mv,Rw⟩:∃m,jv n got=m:=⟨_,rfl⟩
 obtain⟨LT,ki⟩:∃m,cZ (t.putAt qs (.split b k rs))=m:=⟨_,rfl⟩
 rw[Rw,ki] at HN ⊢
 clear h hs hk hz aL hP hn Rw ki
 go_enter func22,ntmps22
 go_wp2_with fail
 refine HN.out.mono ?_
 rintro e w1 ⟨T,g,gg,rfl,hp⟩
 have HP:Hid (∀o,Calls prog 49 #[.agg #[JJ (I ⟨gg,0,O⟩),J Jq a],J Jq n] (w1.alloc o) fun e w3=>e=Jz (J Jq mv)/\Calls prog 15 #[.iface T (JJ (I ⟨g,0,O⟩))] w3 fun e w4=>∃u,e=Jz u/\az w4 w.heap.size u LT/\Below w.heap.size w w4):=fun o=>hp _ ((Below.refl _ _).alloc (Nat.le_refl _) o)
 clear hp HN
 go_wp2_with fail
 refine (HP.out _).mono ?_
 rintro e w3 ⟨rfl,hl⟩
 have HL:=zh hl
 clear hl HP
 go_wp2_with fail
 refine HL.out.mono ?_
 rintro e w4 ⟨u,rfl,hu,cv⟩
 have HU:Hid (az w4 w.heap.size u LT/\Below w.heap.size w w4):=⟨hu,cv⟩
 clear hu cv HL
 go_wp2
 exact bodyPost_ret (v:=.tuple #[u,J Jq mv,J Jq 0]) (by simp[results,results22,go_sem]) rfl ⟨u,rfl,HU.out.1,HU.out.2⟩
def lJ (k:Int)(us:List Tree):List Nat->Int
 | []=> -1
 | j::js=>match us[j]? with
   | some t=>if 0 < t.room k then (j:Int) else lJ k us js
   | none=> -1
theorem zA (j:Nat):(List.range (j+1)).reverse=j::(List.range j).reverse:=by
 rw[List.range_succ,List.reverse_append]
 rfl
theorem Nh (k wd ht i0:Int)(us:List Tree)(c:Nat)(sl:Value)(fp:List Nat)(w:World)(ab:(Node.mk k wd ht i0 (nodesOf us)).In w sl fp)(hR:∀t∈us,lL t)(hl:us.length<=900)(hc:c < us.length):Calls prog 97 #[.agg #[J Jq k,J Jq wd,J Jq ht,J Jq i0,sl],J Jq c,.bool false] w fun e w'=>e=Jz (J Jq (lJ k us (List.range' (c+1) (us.length-1-c))))/\Below w.heap.size w w':=by
 obtain⟨ad,cap,av⟩:=ab.sl
 change sl=Jj ad (nodesOf us).length cap at av
 rw[ax] at av
 obtain⟨m,hm⟩:∃m,us.length=m:=⟨_,rfl⟩
 obtain⟨W,hW⟩:∃W,w.alloc (JZ #[J Jq k,J Jq wd,J Jq ht,J Jq i0,sl] 53)=W:=⟨_,rfl⟩
 have cN:W.heap[w.heap.size]?=I (JZ #[J Jq k,J Jq wd,J Jq ht,J Jq i0,sl] 53 (0,0)):=by rw[<- hW];exact heap_alloc_new _ _
 have mj:Below w.heap.size w W:=by rw[<- hW];exact (Below.refl _ _).alloc (Nat.le_refl _) _
 have kt:Hid (∀X,Below W.heap.size W X->X.heap[w.heap.size]?=I (JZ #[J Jq k,J Jq wd,J Jq ht,J Jq i0,sl] 53 (0,0))):=fun X hX=>(hX.block _ (lt_of_block cN)).trans cN
 have HB:Hid (∀X,Below W.heap.size W X->Below w.heap.size w X):=fun X hX=>af mj hX
 have HI:=zh (ab.below mj)
 have HR:=zh hR
 have HM:=zh hm
 have HW:=zh hW
 rw[hm] at av hl hc
 subst av
 rw[hm]
 obtain⟨Z,tL⟩:∃z,lJ k us (List.range' (c+1) (m-1-c))=z:=⟨_,rfl⟩
 have FA:=zh tL
 rw[tL]
 clear ab hR hm cN mj hW tL
 go_enter func97,ntmps97
 go_wp2
 rw[HW.out]
 go_loopw [8] (fun v wr=>∃i:Nat,c+1<=i/\i<=m/\v=J Jq i/\Hid (lJ k us (List.range' i (m-i))=Z)/\Hid (Below W.heap.size W wr)) (fun v _=>m-(intOf v).toNat)
 case atStart=>exact⟨c+1,Nat.le_refl _,by omega,by go_num,by rw[show m-(c+1)=m-1-c by omega];exact FA,Below.refl _ _⟩
 case round=>
  obtain⟨i,hi1,hi,rfl,G4,bB⟩:=hrel
  have km:=kt.out wr bB.out
  have b0:wr.cell? ⟨w.heap.size,0,O⟩=I (J Jq k):=ae km 0
  have b4:wr.cell? ⟨w.heap.size,4,O⟩=I (Jj ad m cap):=ae km 4
  clear km
  by_cases am:i < m
  . obtain⟨j,rfl⟩:∃j,i=j:=⟨i,rfl⟩
    have Er:i < m:=am
    obtain⟨t,ht⟩:∃t,us[i]?=I t:=⟨_,List.getElem?_eq_getElem (by rw[HM.out];exact Er)⟩
    obtain⟨g,cap',e1,e2,e3⟩:=(HI.out.below bB.out).kids (by intro e;have h:=ax us;rw[e,HM.out] at h;simp at h;omega)
    rw[ax,HM.out] at e1
    cases e1
    obtain⟨sl',f',e4,q0,q1,q2,q3,q4⟩:=e3 i (ag t) (dS us i t ht)
    obtain⟨ad',c',cq⟩:=e4.sl
    have lx:Hid (∀X,Below wr.heap.size wr X->Calls prog 60 #[.agg (aC (ag t) sl'),J Jq k] X fun e w'=>e=Jz (J Jq (t.room k))/\Below wr.heap.size wr w'):=fun X hX=>(HR.out t (List.mem_of_getElem? ht) sl' f' X k (e4.below hX)).mono fun e w' h=>⟨h.1,af hX h.2⟩
    subst cq
    have Ck:=G4.out
    rw[show m-i=(m-(i+1))+1 by omega,List.range'_succ] at Ck
    simp only[lJ,ht] at Ck
    obtain⟨R,pT⟩:∃x,t.room k=x:=⟨_,rfl⟩
    rw[pT] at lx Ck
    have Hb:=zh Ck
    obtain⟨nn,aR⟩:∃x,ag t=x:=⟨_,rfl⟩
    rw[aR] at lx q0 q1 q2 q3 q4
    unfold aC at lx
    clear e2 e3 e4 ht pT aR Ck G4
    go_wp2_with fail
    go_region_with (go_at_call 60;refine (lx.out _ (Below.refl _ _).drew).mono ?_;rintro e w1 ⟨rfl,bj⟩)
    all_goals (
     have cY:=zh (af bB.out bj)
     clear bj lx
     by_cases Ev:0 < R
     . have HD:Hid ((i:Int)=Z):=by have h:=Hb.out;rw[if_pos Ev] at h;exact h
       clear Hb
       go_wp2
       go_ret
       exact⟨by rw[<- HD.out];rfl,HB.out _ cY.out⟩
     . have Wn:Hid (lJ k us (List.range' (i+1) (m-(i+1)))=Z):=by have h:=Hb.out;rw[if_neg Ev] at h;exact h
       clear Hb
       go_wp2
       go_roundw
       case rel=>exact⟨i+1,by omega,by omega,by go_num,Wn,cY⟩
       case measure=>simp[intOf];omega)
  . have bE:i=m:=by omega
    subst bE
    have HD:Hid (-1=Z):=by have h:=G4.out;rw[Nat.sub_self] at h;exact h
    clear G4
    go_wp2
    go_ret
    exact⟨by rw[<- HD.out];rfl,HB.out _ bB.out⟩
theorem Ib (k wd ht i0:Int)(us:List Tree)(c:Nat)(sl:Value)(fp:List Nat)(w:World)(ab:(Node.mk k wd ht i0 (nodesOf us)).In w sl fp)(hR:∀t∈us,lL t)(hl:us.length<=900)(hc:c < us.length):Calls prog 97 #[.agg #[J Jq k,J Jq wd,J Jq ht,J Jq i0,sl],J Jq c,.bool true] w fun e w'=>e=Jz (J Jq (lJ k us (List.range (c+1)).reverse))/\Below w.heap.size w w':=by
 obtain⟨ad,cap,av⟩:=ab.sl
 change sl=Jj ad (nodesOf us).length cap at av
 rw[ax] at av
 obtain⟨m,hm⟩:∃m,us.length=m:=⟨_,rfl⟩
 obtain⟨W,hW⟩:∃W,w.alloc (JZ #[J Jq k,J Jq wd,J Jq ht,J Jq i0,sl] 53)=W:=⟨_,rfl⟩
 have cN:W.heap[w.heap.size]?=I (JZ #[J Jq k,J Jq wd,J Jq ht,J Jq i0,sl] 53 (0,0)):=by rw[<- hW];exact heap_alloc_new _ _
 have mj:Below w.heap.size w W:=by rw[<- hW];exact (Below.refl _ _).alloc (Nat.le_refl _) _
 have kt:Hid (∀X,Below W.heap.size W X->X.heap[w.heap.size]?=I (JZ #[J Jq k,J Jq wd,J Jq ht,J Jq i0,sl] 53 (0,0))):=fun X hX=>(hX.block _ (lt_of_block cN)).trans cN
 have HB:Hid (∀X,Below W.heap.size W X->Below w.heap.size w X):=fun X hX=>af mj hX
 have HI:=zh (ab.below mj)
 have HR:=zh hR
 have HM:=zh hm
 have HW:=zh hW
 rw[hm] at av hl hc
 subst av
 obtain⟨Z,tL⟩:∃z,lJ k us (List.range (c+1)).reverse=z:=⟨_,rfl⟩
 have FA:=zh tL
 rw[tL]
 clear ab hR hm cN mj hW tL
 go_enter func97,ntmps97
 go_wp2
 rw[HW.out]
 go_loopw [7] (fun v wr=>∃i:Nat,i<=c+1/\v=J Jq ((i:Int)-1)/\Hid (lJ k us (List.range i).reverse=Z)/\Hid (Below W.heap.size W wr)) (fun v _=>(intOf v+1).toNat)
 case atStart=>exact⟨c+1,Nat.le_refl _,by simp,FA,Below.refl _ _⟩
 case round=>
  obtain⟨i,hi,rfl,G4,bB⟩:=hrel
  have km:=kt.out wr bB.out
  have b0:wr.cell? ⟨w.heap.size,0,O⟩=I (J Jq k):=ae km 0
  have b4:wr.cell? ⟨w.heap.size,4,O⟩=I (Jj ad m cap):=ae km 4
  clear km
  by_cases am:0 < i
  . obtain⟨j,rfl⟩:∃j,i=j+1:=⟨i-1,by omega⟩
    have Er:j < m:=by omega
    have rN:((j+1:Nat):Int)-1=(j:Int):=by omega
    rw[rN]
    clear rN
    obtain⟨t,ht⟩:∃t,us[j]?=I t:=⟨_,List.getElem?_eq_getElem (by rw[HM.out];exact Er)⟩
    obtain⟨g,cap',e1,e2,e3⟩:=(HI.out.below bB.out).kids (by intro e;have h:=ax us;rw[e,HM.out] at h;simp at h;omega)
    rw[ax,HM.out] at e1
    cases e1
    obtain⟨sl',f',e4,q0,q1,q2,q3,q4⟩:=e3 j (ag t) (dS us j t ht)
    obtain⟨ad',c',cq⟩:=e4.sl
    have lx:Hid (∀X,Below wr.heap.size wr X->Calls prog 60 #[.agg (aC (ag t) sl'),J Jq k] X fun e w'=>e=Jz (J Jq (t.room k))/\Below wr.heap.size wr w'):=fun X hX=>(HR.out t (List.mem_of_getElem? ht) sl' f' X k (e4.below hX)).mono fun e w' h=>⟨h.1,af hX h.2⟩
    subst cq
    have Ck:=G4.out
    rw[zA] at Ck
    simp only[lJ,ht] at Ck
    obtain⟨R,pT⟩:∃x,t.room k=x:=⟨_,rfl⟩
    rw[pT] at lx Ck
    have Hb:=zh Ck
    obtain⟨nn,aR⟩:∃x,ag t=x:=⟨_,rfl⟩
    rw[aR] at lx q0 q1 q2 q3 q4
    unfold aC at lx
    clear e2 e3 e4 ht pT aR Ck G4
    go_wp2_with fail
    go_region_with (go_at_call 60;refine (lx.out _ (Below.refl _ _).drew).mono ?_;rintro e w1 ⟨rfl,bj⟩)
    all_goals (
     have cY:=zh (af bB.out bj)
     clear bj lx
     by_cases Ev:0 < R
     . have HD:Hid ((j:Int)=Z):=by have h:=Hb.out;rw[if_pos Ev] at h;exact h
       clear Hb
       go_wp2
       go_ret
       exact⟨by rw[<- HD.out];rfl,HB.out _ cY.out⟩
     . have Wn:Hid (lJ k us (List.range j).reverse=Z):=by have h:=Hb.out;rw[if_neg Ev] at h;exact h
       clear Hb
       go_wp2
       go_roundw
       case rel=>exact⟨j,by omega,by go_num,Wn,cY⟩
       case measure=>simp[intOf])
  . have bE:i=0:=by omega
    subst bE
    have HD:=zh G4.out
    clear G4
    go_wp2
    go_ret
    exact⟨by rw[<- HD.out];rfl,HB.out _ bB.out⟩
theorem DZ (k:Int)(us:List Tree):∀(js:List Nat),(∀i∈js,∃t,us[i]?=I t/\t.room k=0)->lJ k us js= -1
 | [],h=>rfl
 | j::js,h=>by
   obtain⟨t,h1,h2⟩:=h j List.mem_cons_self
   simp only[lJ,h1,h2]
   rw[if_neg (by decide)]
   exact DZ k us js fun i hi=>h i (List.mem_cons_of_mem _ hi)
theorem zX (k:Int)(us:List Tree)(j:Nat)(t:Tree)(js:List Nat)(ht:us[j]?=I t)(hr:0 < t.room k):∀(pre:List Nat),(∀i∈pre,∃t,us[i]?=I t/\t.room k=0)->lJ k us (pre++j::js)=j
 | [],h=>by
   show lJ k us (j::js)=j
   simp only[lJ,ht]
   rw[if_pos hr]
 | i::pre,h=>by
   obtain⟨t',h1,h2⟩:=h i List.mem_cons_self
   show lJ k us (i::(pre++j::js))=j
   simp only[lJ,h1,h2]
   rw[if_neg (by decide)]
   exact zX k us j t js ht hr pre fun i hi=>h i (List.mem_cons_of_mem _ hi)
structure Fit (k:Int)(us:List Tree):Prop where
 sound:∃b,au us b k=true
 kinds:bi us
 sizes:sizes us<=900
theorem Fit.qm {k:Int}{us:List Tree}(h:Fit k us):∀t∈us,lL t:=by
 obtain⟨b,hb⟩:=h.sound
 exact tK us b k h.kinds hb (by have:=h.sizes;omega)
inductive Giv (k:Int)(c:Nat)(full:List Nat):Int->List Tree->List Tree->Int->Prop
 | done (n:Int) (us:List Tree):Fit k us->(n<=0\/lJ k us full= -1)->Giv k c full n us us 0
 | step (n d:Int) (us rs:List Tree) (j:Nat) (t t' s s':Tree) (got:Int):Fit k us->0 < n->lJ k us full=j->us[j]?=I t->d=min n (t.room k)->0 < d->d<=1000->Str t k (-d) t'->(us.set j t')[c]?=I s->Str s k d s'->Giv k c full (n-d) ((us.set j t').set c s') rs got->Giv k c full n us rs (d+got)
theorem Bj:∀(us:List Tree) (b:Box) (k j:Int) (i:Nat) (t:Tree),us[i]?=I t->au us b k=true->t.room j<=bg us j
 | [],b,k,j,i,t,h,hs=>by simp at h
 | a::us,b,k,j,0,t,h,hs=>by
   cases h
   unfold au at hs
   simp only[Bool.and_eq_true] at hs
   have h1:=(jb us b k j hs.2).1
   show a.room j<=a.room j+bg us j
   omega
 | a::us,b,k,j,i+1,t,h,hs=>by
   unfold au at hs
   simp only[Bool.and_eq_true] at hs
   have h1:=Bj us b k j i t (by simpa using h) hs.2
   have h2:=bT a j hs.1.1
   show t.room j<=a.room j+bg us j
   omega
theorem D5:∀(us:List Tree) (b:Box) (k j:Int) (i c:Nat) (t s:Tree),us[i]?=I t->us[c]?=I s->i≠c->au us b k=true->t.room j+s.room j<=bg us j
 | [],b,k,j,i,c,t,s,h,_,_,hs=>by simp at h
 | a::us,b,k,j,0,0,t,s,h,h',a7,hs=>absurd rfl a7
 | a::us,b,k,j,0,c+1,t,s,h,h',a7,hs=>by
   cases h
   unfold au at hs
   simp only[Bool.and_eq_true] at hs
   have h1:=Bj us b k j c s (by simpa using h') hs.2
   show a.room j+s.room j<=a.room j+bg us j
   omega
 | a::us,b,k,j,i+1,0,t,s,h,h',a7,hs=>by
   cases h'
   unfold au at hs
   simp only[Bool.and_eq_true] at hs
   have h1:=Bj us b k j i t (by simpa using h) hs.2
   show t.room j+a.room j<=a.room j+bg us j
   omega
 | a::us,b,k,j,i+1,c+1,t,s,h,h',a7,hs=>by
   unfold au at hs
   simp only[Bool.and_eq_true] at hs
   have h1:=D5 us b k j i c t s (by simpa using h) (by simpa using h') (by omega) hs.2
   have h2:=bT a j hs.1.1
   show t.room j+s.room j<=a.room j+bg us j
   omega
theorem set_self (us:List Tree)(i:Nat)(t:Tree)(h:us[i]?=I t):us.set i t=us:=by
 apply List.ext_getElem?
 intro q
 by_cases e:i=q
 . subst e
   rw[List.getElem?_set_self (List.getElem?_eq_some_iff.1 h).1,h]
 . rw[List.getElem?_set_ne e]
theorem zY:∀c:Nat,(List.range c).reverse.Nodup
 | 0=>List.nodup_nil
 | c+1=>by
   rw[zA]
   refine List.nodup_cons.2 ⟨fun h=> ?_,zY c⟩
   rw[List.mem_reverse,List.mem_range] at h
   omega
def L9 (k:Int)(us:List Tree)(c:Nat)(n n':Int):Prop:=n'=n\/(n'<=n/\∃s,us[c]?=I s/\bg us k-s.room k<=n')
theorem Bl (b:Box)(k:Int)(hk:k=2\/k=3)(c:Nat)(full:List Nat)(aE:full.Nodup):∀(js pre:List Nat) (n n':Int) (us:List Tree),full=pre++js->(n'<=0\/∀i∈pre,∃t,us[i]?=I t/\t.room k=0)->0<=n->0<=n'->L9 k us c n n'->c < us.length->(∀j∈full,j < us.length/\j≠c)->au us b k=true->bi us->sizes us<=900->aN us k<=1000->
 ∃rs got,Me k c js n us rs got/\I9 us b k 0 rs/\0<=got/\got<=n/\Giv k c full n' us rs got
 | [],pre,n,n',us,hf,hp,hn,eV,hE,hc,hj,hs,dj,hz,he=>by
   refine⟨us,0,.nil n us,⟨rfl,rfl,by omega,by omega,rfl,hs,dj,rfl⟩,Int.le_refl _,hn,.done n' us ⟨⟨b,hs⟩,dj,hz⟩ ?_⟩
   rcases hp with h | h
   . exact .inl h
   . rw[hf,List.append_nil]
     exact .inr (DZ k us pre h)
 | j::js,pre,n,n',us,hf,hp,hn,eV,hE,hc,hj,hs,dj,hz,he=>by
   have Er:j∈full:=by rw[hf];simp
   obtain⟨pZ,Yc⟩:=hj j Er
   obtain⟨t,ht⟩:∃t,us[j]?=I t:=⟨_,List.getElem?_eq_getElem pZ⟩
   have ar:=aO us b k j t ht hs
   simp only[Bool.and_eq_true,decide_eq_true_eq] at ar
   have eB:=bF us j t ht dj
   have cg:=bI us j t ht
   have hex:=BA us b k j t ht hs
   have LI:=bT t k ar.1
   have gh:=room_le t k hk eB ar.1
   have hsid:=df t.box k (t.aF ar.1)
   obtain⟨d,hd⟩:∃d,d=min n (t.room k):=⟨_,rfl⟩
   have Ks:d=min n' (t.room k):=by
    rcases hE with h | ⟨h,s,h1,h2⟩
    . rw[h];exact hd
    . have:=D5 us b k k j c t s ht h1 Yc hs
      omega
   obtain⟨t',h1,g1⟩:=tu t k (-d) hk ar.1 eB (by omega) (by omega) (by omega)
   have cF:=tC t t' b k (-d) hk g1 us j ht hs dj
   have sj:c < (us.set j t').length:=by rw[List.length_set];exact hc
   obtain⟨s,A4⟩:∃s,(us.set j t')[c]?=I s:=⟨_,List.getElem?_eq_getElem sj⟩
   have Uz:us[c]?=I s:=by rw[List.getElem?_set_ne Yc] at A4;exact A4
   have pp:=aO _ b k c s A4 cF.sound
   simp only[Bool.and_eq_true,decide_eq_true_eq] at pp
   have Yd:=bF _ c s A4 cF.kinds
   have qT:=bI _ c s A4
   have Ye:=BA _ b k c s A4 cF.sound
   have hrm2:=bT s k pp.1
   rw[cF.sizes] at qT
   rw[cF.ext] at Ye
   obtain⟨s',h2,g2⟩:=tu s k d hk pp.1 Yd (by omega) (by omega) (by omega)
   have UA:=tC s s' b k d hk g2 (us.set j t') c A4 cF.sound cF.kinds
   have zv:I9 us b k 0 ((us.set j t').set c s'):=by
    have:=cF.trans UA
    rwa [show -d+d=0 by omega] at this
   have Va:∀i∈pre,i≠j:=fun i hi e=>by
    have h:=aE
    rw[hf,List.nodup_append] at h
    exact h.2.2 i hi j List.mem_cons_self e
   have uv:∀i,i≠j->i≠c->((us.set j t').set c s')[i]?=us[i]?:=fun i hi rA=>by
    rw[List.getElem?_set_ne (Ne.symm rA),List.getElem?_set_ne (Ne.symm hi)]
   have UB:((us.set j t').set c s')[j]?=I t':=by
    rw[List.getElem?_set_ne (Ne.symm Yc),List.getElem?_set_self pZ]
   have UC:((us.set j t').set c s')[c]?=I s':=List.getElem?_set_self sj
   have hE2:L9 k ((us.set j t').set c s') c (n-d) (n'-d):=by
    rcases hE with h | ⟨h,s0,e1,e2⟩
    . exact .inl (by rw[h])
    . rw[Uz] at e1
      cases e1
      refine .inr ⟨by omega,s',UC,?_⟩
      rw[zv.qm,g2.room]
      omega
   have j1:n'-d<=0\/∀i∈pre++[j],∃t,((us.set j t').set c s')[i]?=I t/\t.room k=0:=by
    by_cases h0:n'-d<=0
    . exact .inl h0
    . refine .inr fun i hi=> ?_
      rcases List.mem_append.1 hi with hi | hi
      . rcases hp with h | h
        . omega
        . obtain⟨u,e1,e2⟩:=h i hi
          refine⟨u,?_,e2⟩
          rw[uv i (Va i hi) (hj i (by rw[hf];exact List.mem_append_left _ hi)).2]
          exact e1
      . have:i=j:=by simpa using hi
        subst this
        refine⟨t',UB,?_⟩
        rw[g1.room]
        omega
   obtain⟨rs,got,h3,h4,h5,h6,h7⟩:=Bl b k hk c full aE js (pre++[j]) (n-d) (n'-d) ((us.set j t').set c s') (by rw[hf];simp) j1 (by omega) (by omega) hE2 (by rw[zv.len];exact hc) (fun i hi=>by rw[zv.len];exact hj i hi) zv.sound zv.kinds (by rw[zv.sizes];exact hz) (by rw[zv.ext];omega)
   have UD:I9 us b k 0 rs:=by
    have:=zv.trans h4
    rwa [Int.zero_add] at this
   refine⟨rs,d+got,.cons j js n d us rs t t' s s' got ht ar.1 eB (by omega) hd (by omega) (by omega) g1.size h1 A4 g2.size h2 h3,UD,by omega,by omega,?_⟩
   by_cases h0:d=0
   . subst h0
     have et:t'=t:=oh _ t (Nat.le_refl _) k t' (by simpa using h1)
     have es:s'=s:=oh _ s (Nat.le_refl _) k s' h2
     subst et
     subst es
     rw[set_self us j _ ht,set_self us c _ Uz,Int.sub_zero] at h7
     rw[Int.zero_add]
     exact h7
   . refine .step n' d us rs j t t' s s' got ⟨⟨b,hs⟩,dj,hz⟩ (by omega) ?_ ht Ks (by omega) (by omega) h1 A4 h2 h7
     rw[hf]
     refine zX k us j t js ht (by omega) pre ?_
     rcases hp with h | h
     . omega
     . exact h
structure PL (k:Int)(ts:List Tree)(n:Int)(rs:List Tree)(c:Nat)(got:Int):Prop where
 draw:(0<=n->Giv k c (List.range' (c+1) (ts.length-1-c)) (min n 1000) ts rs got)/\(n < 0->Giv k (c+1) (List.range (c+1)).reverse (-(max n (-1000))) ts rs got)
theorem xR (b:Box)(k:Int)(ts:List Tree)(a:Nat)(n:Int)(hs:(Tree.split b k ts).sound=true)(hk:(Tree.split b k ts).kinds)(hz:(Tree.split b k ts).size<=900)(ha:a < ts.length):∃rs c got,JG k b ts a n rs c got/\PL k ts n rs c got/\kF rs=kF ts:=by
 unfold Tree.sound at hs
 simp only[Bool.and_eq_true,decide_eq_true_eq] at hs
 change 1+sizes ts<=900 at hz
 have h2:=hs.1.1
 have gd:=aI ts
 have ar:(1<=b.w/\b.w<=1000)/\(1<=b.h/\b.h<=1000):=by
  have:=hs.1.2
  simp only[aG,Bool.and_eq_true,decide_eq_true_eq] at this
  exact this
 have hx:=df b k ar
 have gh:=(Bf ts b k k hk.1 hk.1 hk.2 hs.2.1).1
 obtain⟨c,hc⟩:∃c,c=min a (ts.length-2):=⟨_,rfl⟩
 have sj:c+1 < ts.length:=by omega
 have Lz:∀rs,I9 ts b k 0 rs->Oa b k ts rs:=fun rs h=>⟨h.len,fun _=>h.sound,by rw[h.ext];omega,fun _=>h.kinds,h.sizes⟩
 by_cases hn:0<=n
 . have hE:L9 k ts c n (min n 1000):=by
    obtain⟨s,A4⟩:∃s,ts[c]?=I s:=⟨_,List.getElem?_eq_getElem (by omega)⟩
    have pp:=aO ts b k c s A4 hs.2.1
    simp only[Bool.and_eq_true] at pp
    have h4:=bT s k pp.1
    by_cases h5:n<=1000
    . exact .inl (by omega)
    . exact .inr ⟨by omega,s,A4,by omega⟩
   obtain⟨rs,got,h1,h3,h4,h5,h6⟩:=Bl b k hk.1 c (List.range' (c+1) (ts.length-1-c)) List.nodup_range' (List.range' (c+1) (ts.length-1-c)) [] n (min n 1000) ts rfl (.inr fun i hi=>by cases hi) hn (by omega) hE (by omega) (fun j hj=>by
    rw[List.mem_range'_1] at hj
    omega) hs.2.1 hk.2 (by omega) (by omega)
   have hl:=Bo (b:=b) h1
   rw[List.length_range'] at hl
   exact⟨rs,c,got,⟨h2,by omega,ha,hc,⟨fun _=>h1,fun e=>absurd e (by omega)⟩,by omega,Lz rs h3⟩,⟨fun _=>h6,fun e=>absurd e (by omega)⟩,h3.ids⟩
 . obtain⟨rs,got,h1,h3,h4,h5,h6⟩:=Bl b k hk.1 (c+1) (List.range (c+1)).reverse (zY (c+1)) (List.range (c+1)).reverse [] (-(max n (-1000))) (-(max n (-1000))) ts rfl (.inr fun i hi=>by cases hi) (by omega) (by omega) (.inl rfl) sj (fun j hj=>by
    rw[List.mem_reverse,List.mem_range] at hj
    omega) hs.2.1 hk.2 (by omega) (by omega)
   have hl:=Bo (b:=b) h1
   rw[List.length_reverse,List.length_range] at hl
   exact⟨rs,c,got,⟨h2,by omega,ha,hc,⟨fun e=>absurd e hn,fun _=>h1⟩,by omega,Lz rs h3⟩,⟨fun e=>absurd e hn,fun _=>h6⟩,h3.ids⟩
structure vF (w:World)(k wd ht:Int)(sl:Value)(g L cap:Nat)(fp:List Nat)(rs:List Tree)(c:Nat)(full:List Nat)(n got:Int)(wr:World)(us:List Tree):Prop where
 giv:Giv k c full n us rs got
 kids:bK g L cap fp us wr
 mid:Mid w k wd ht k wd ht 0 sl (Jj (I ⟨g,0,O⟩) L cap) wr
def Qo (w:World)(k:Int)(g L cap i:Nat)(wr:World)(nn:Node)(sl:Value):Prop:=∀X,Below wr.heap.size wr X->(∀o,X.frozen? ⟨g,o,O⟩=false)/\kG X g (i*5) nn sl/\X.cell? ⟨w.heap.size+1+1,4,O⟩=I (Jj (I ⟨g,0,O⟩) L cap)/\X.cell? ⟨w.heap.size,0,O⟩=I (J Jq k)
def PD (w:World)(k:Int)(g L cap i:Nat)(d:Int)(P:World->Prop)(wr:World):Prop:=∃nn sa sn sc,Qo w k g L cap i wr nn (Jj sa sn sc)/\∀X,Below wr.heap.size wr X->Calls prog 63 #[.agg (aC nn (Jj sa sn sc)),J Jq k,J Jq d] X fun e w'=>∃nr ta tn tc,e=Jz (.agg (aC nr (Jj ta tn tc)))/\Below wr.heap.size wr w'/\P (gq w' g (i*5) nr (Jj ta tn tc))
theorem Ji {w:World}{k wd ht:Int}{sl:Value}{g L cap i:Nat}{fp:List Nat}{us:List Tree}{wr:World}{nn:Node}{sn:Value}(hK:bK g L cap fp us wr)(hM:Mid w k wd ht k wd ht 0 sl (Jj (I ⟨g,0,O⟩) L cap) wr)(hk:kG wr g (i*5) nn sn):Qo w k g L cap i wr nn sn:=fun X hX=>by
 have A6:∀o,wr.frozen? ⟨g,o,O⟩=false:=fun o=>by
  obtain⟨cs,fs,h1,_⟩:=hK.row
  exact World.ownsRow.frozenAt h1 o
 have h:=oG (w:=w) (L:=L) (cap:=cap) hK.lt (lt_of_block hM.new) A6 hk (ae hM.new 4) X hX
 exact⟨h.1,h.2.1,h.2.2,ae (hM.below' hX).par 0⟩
theorem Jk {w:World}{k wd ht:Int}{sl:Value}{g L cap i:Nat}{fp:List Nat}{us:List Tree}{wr:World}{t t':Tree}{d:Int}(hK:bK g L cap fp us wr)(hM:Mid w k wd ht k wd ht 0 sl (Jj (I ⟨g,0,O⟩) L cap) wr)(hg:w.heap.size+2 < g)(pj:us[i]?=I t)(cg:Str t k d t')(P:World->Prop)(hP:∀W,bK g L cap fp (us.set i t') W->Mid w k wd ht k wd ht 0 sl (Jj (I ⟨g,0,O⟩) L cap) W->P W):PD w k g L cap i d P wr:=by
 obtain⟨sa,sn,sc,h1,h2,h3⟩:=Ae hK hM hg pj (pR t) cg
 refine⟨ag t,sa,sn,sc,Ji hK hM h1,fun X hX=>(h3 X hX).mono ?_⟩
 rintro e w' ⟨ta,tn,tc,he,hb,hk,hm⟩
 exact⟨ag t',ta,tn,tc,he,hb,hP _ hk hm⟩
theorem BB {w:World}{k wd ht:Int}{sl:Value}{g L cap:Nat}{fp:List Nat}{rs:List Tree}{c:Nat}{full:List Nat}{n got:Int}{wr:World}{us:List Tree}(hg:w.heap.size+2 < g)(h:vF w k wd ht sl g L cap fp rs c full n got wr us)(hn:0 < n):
 (lJ k us full= -1/\us=rs/\got=0)\/∃(j:Nat) (d r got':Int),lJ k us full=j/\j < L/\d=min n r/\0 < d/\d<=1000/\got=d+got'/\(∃nn sa sn sc,Qo w k g L cap j wr nn (Jj sa sn sc)/\∀X,Below wr.heap.size wr X->Calls prog 60 #[.agg (aC nn (Jj sa sn sc)),J Jq k] X fun e w'=>e=Jz (J Jq r)/\Below wr.heap.size wr w')/\
   ∀X,Below wr.heap.size wr X->PD w k g L cap j (-d) (PD w k g L cap c d fun W=>∃us2,vF w k wd ht sl g L cap fp rs c full (n-d) got' W us2) X:=by
 obtain⟨hG,hK,hM⟩:=h
 cases hG with
 | done _ _ hf hd=>
   rcases hd with hd | hd
   . omega
   . exact .inl ⟨hd,rfl,rfl⟩
 | step _ d _ _ j t t' s s' got' hf h0 Kc ht hd VI Fi cg hs qT iv=>
   obtain⟨sa,sn,sc,f,e1,e2,e3⟩:=hK.one j t ht
   refine .inr ⟨j,d,t.room k,got',Kc,?_,hd,VI,Fi,rfl,⟨ag t,sa,sn,sc,Ji hK hM e2,fun X hX=>(hf.qm t (List.mem_of_getElem? ht) _ f X k (e1.below hX)).mono fun e w' h2=>⟨h2.1,af hX h2.2⟩⟩,fun X hX=> ?_⟩
   . rw[<- hK.len]
     exact (List.getElem?_eq_some_iff.1 ht).1
   . refine Jk (hK.below hX) (hM.below' hX) hg ht cg _ fun W VJ ie=> ?_
     refine Jk VJ ie hg hs qT _ fun W3 hK3 hM3=>⟨_,iv,hK3,hM3⟩
theorem FP {w:World}{k wd ht:Int}{sl:Value}{g L cap:Nat}{fp:List Nat}{rs:List Tree}{c:Nat}{full:List Nat}{n got:Int}{wr:World}{us:List Tree}(h:vF w k wd ht sl g L cap fp rs c full n got wr us)(hn:¬ 0 < n):us=rs/\got=0:=by
 obtain⟨hG,hK,hM⟩:=h
 cases hG with
 | done _ _ hf hd=>exact⟨rfl,rfl⟩
 | step _ d _ _ j t t' s s' got' hf h0=>omega
theorem FQ {w:World}{k wd ht:Int}{sl:Value}{g L cap:Nat}{fp:List Nat}{rs:List Tree}{c:Nat}{full:List Nat}{n got:Int}{wr:World}{us:List Tree}(h:vF w k wd ht sl g L cap fp rs c full n got wr us):Fit k us:=by
 obtain⟨hG,hK,hM⟩:=h
 cases hG with
 | done _ _ hf hd=>exact hf
 | step _ d _ _ j t t' s s' got' hf h0=>exact hf
def yQ (b:Box)(k:Int)(rs:List Tree)(mv:Int)(fp:List Nat)(w:World)(e:Ending)(w':World):Prop:=∃sa sn sc fp',e=Jz (.tuple #[.agg (aC (ag (.split b k rs)) (Jj sa sn sc)),J Jq mv])/\(ag (.split b k rs)).In w' (Jj sa sn sc) fp'/\(∀q∈fp',q∈fp\/w.heap.size<=q)/\Below w.heap.size w w'
theorem ny {w:World}{b:Box}{k:Int}{sl:Value}{g L cap:Nat}{fp:List Nat}{rs:List Tree}{wr:World}(mv:Int)(hK:bK g L cap fp rs wr)(hM:Mid w k b.w b.h k b.w b.h 0 sl (Jj (I ⟨g,0,O⟩) L cap) wr)(hg:w.heap.size+2 < g)(am:∀q∈fp,q < w.heap.size)(v0 v1 v2 v3 v4:Value):
 yQ b k rs mv fp w (Jz (.tuple #[.agg #[J Jq k,J Jq b.w,J Jq b.h,J Jq 0,Jj (I ⟨g,0,O⟩) L cap],J Jq mv])) (fB wr (w.heap.size+1) v0 v1 v2 v3 v4):=by
 obtain⟨sa,sn,sc,fp',he,h1,h2,h3⟩:=ru (t':=.split b k rs) hK hM hg am rfl v0 v1 v2 v3 v4
 refine⟨sa,sn,sc,fp',?_,h1,h2,h3⟩
 have:=(Value.agg.injEq _ _).mp ((Ending.returned.injEq _ _).mp he)
 rw[this]
theorem kU (q:Int):∀(ts:List Tree) (k:Nat) (qs:List Nat),fH ts q k=I qs->∃i t ps,qs=(k+i)::ps/\ts[i]?=I t/\t.path q=I ps/\∀(a:Nat) u,a < i->ts[a]?=I u->u.path q=O
 | [],k,qs,h=>by unfold fH at h;cases h
 | t::ts,k,qs,h=>by
   unfold fH at h
   cases hp:t.path q with
   | some ps=>
     rw[hp] at h
     cases h
     exact⟨0,t,ps,rfl,rfl,hp,fun a u ha=>absurd ha (Nat.not_lt_zero _)⟩
   | none=>
     rw[hp] at h
     obtain⟨i,t',ps,e,h1,h2,h3⟩:=kU q ts (k+1) qs h
     refine⟨i+1,t',ps,by rw[e,show k+1+i=k+(i+1) by omega],by simpa using h1,h2,fun a u ha hu=> ?_⟩
     cases a with
     | zero=>simp at hu;subst hu;exact hp
     | succ a=>exact h3 a u (by omega) (by simpa using hu)
theorem oO (t:Tree)(hk:t.kinds):(ag t).ids=t.idl:=(jo t 0 hk).trans (lK t 0 hk).symm
theorem uK (t:Tree)(hk:t.kinds)(hs:t.sound=true):(ag t).ids≠[]:=fun e=>by
 have:=nH t hk hs
 rw[e] at this
 simp at this
structure BX (k:Int)(ts:List Tree)(m:Int)(rs:List Tree)(c:Nat)(got:Int):Prop where
 lo: -1000<=m
 hi:m<=1000
 on:0<=m->Giv k c (List.range' (c+1) (ts.length-1-c)) m ts rs got
 back:m < 0->Giv k (c+1) (List.range (c+1)).reverse (-m) ts rs got
def Bq (set:Bool)(n k:Int)(ts:List Tree)(a:Nat)(s:Tree):Int:=if set=true then (if min a (ts.length-2)=a then n-s.box.ext k else -(n-s.box.ext k)) else n
inductive Pu (set:Bool)(n k:Int):Tree->List Nat->Tree->Int->Bool->Prop
 | leaf (b:Box) (p:Int):Pu set n k (.leaf b p) [] (.leaf b p) 0 false
 | deep (b:Box) (k':Int) (ts:List Tree) (i:Nat) (ps:List Nat) (s s':Tree) (mv:Int):ts[i]?=I s->Pu set n k s ps s' mv true->Pu set n k (.split b k' ts) (i::ps) (.split b k' (ts.set i s')) mv true
 | none (b:Box) (k':Int) (ts:List Tree) (i:Nat) (ps:List Nat) (s:Tree):ts[i]?=I s->Pu set n k s ps s 0 false->k'≠k->Pu set n k (.split b k' ts) (i::ps) (.split b k' ts) 0 false
 | here (b:Box) (ts:List Tree) (i:Nat) (ps:List Nat) (s:Tree) (rs:List Tree) (c:Nat) (got:Int):ts[i]?=I s->Pu set n k s ps s 0 false->c=min i (ts.length-2)->BX k ts (Bq set n k ts i s) rs c got->Pu set n k (.split b k ts) (i::ps) (.split b k rs) (jv (Bq set n k ts i s) got) true
def PuA (t':Tree)(mv:Int)(ok:Bool)(fp:List Nat)(w:World)(e:Ending)(w':World):Prop:=∃sa sn sc fp',e=Jz (.tuple #[.agg (aC (ag t') (Jj sa sn sc)),J Jq mv,.bool ok])/\(ag t').In w' (Jj sa sn sc) fp'/\(∀q∈fp',q∈fp\/w.heap.size<=q)/\Below w.heap.size w w'
def lm (set:Bool)(n k q:Int)(t t':Tree)(mv:Int)(ok:Bool):Prop:=∀sl fp w,(ag t).In w sl fp->Calls prog 65 #[.agg (aC (ag t) sl),J Jq q,J Jq k,J Jq n,.bool set] w (PuA t' mv ok fp w)
theorem AA (set:Bool)(n k:Int):∀(ps:List Nat) (t:Tree) (q:Int),t.path q=I ps->iT k t ps=O->Pu set n k t ps t 0 false
 | [],.leaf b p,q,hp,hn=>.leaf b p
 | i::ps,.leaf b p,q,hp,hn=>by
   unfold Tree.path at hp
   split at hp
   . cases hp
   . cases hp
 | qs,.split b k' ts,q,hp,hn=>by
   unfold Tree.path at hp
   obtain⟨i,s,ps,e,h1,h2,h3⟩:=kU q ts 0 qs hp
   rw[Nat.zero_add] at e
   subst e
   cases hs:iT k s ps with
   | some r=>simp only[iT,h1,hs] at hn;cases hn
   | none=>
     simp only[iT,h1,hs] at hn
     split at hn
     . cases hn
     . rename_i e
       exact .none b k' ts i ps s h1 (AA set n k ps s q h2 hs) e
 termination_by ps=>ps.length
theorem AB (set:Bool)(n k:Int):∀(ps:List Nat) (t:Tree) (q:Int) (qs:List Nat) (a:Nat) (b:Box) (ts:List Tree) (s:Tree) (rs:List Tree) (c:Nat) (got:Int),t.path q=I ps->iT k t ps=I (qs,a)->t.cO qs=I (.split b k ts)->ts[a]?=I s->c=min a (ts.length-2)->BX k ts (Bq set n k ts a s) rs c got->Pu set n k t ps (t.putAt qs (.split b k rs)) (jv (Bq set n k ts a s) got) true
 | [],t,q,qs,a,b,ts,s,rs,c,got,hp,hn,aL,ha,hc,hM=>by simp[iT] at hn
 | i::ps,.leaf b' p,q,qs,a,b,ts,s,rs,c,got,hp,hn,aL,ha,hc,hM=>by simp[iT] at hn
 | i::ps,.split b' k' us,q,qs,a,b,ts,s,rs,c,got,hp,hn,aL,ha,hc,hM=>by
   unfold Tree.path at hp
   obtain⟨i',u,ps',e,h1,h2,h3⟩:=kU q us 0 _ hp
   rw[Nat.zero_add] at e
   injection e with e1 e2
   subst e1
   subst e2
   cases hs:iT k u ps with
   | some r=>
     obtain⟨qs',a'⟩:=r
     simp only[iT,h1,hs] at hn
     cases hn
     simp only[Tree.cO,h1] at aL
     have:=AB set n k ps u q _ _ b ts s rs c got h2 hs aL ha hc hM
     have l6:(Tree.split b' k' us).putAt (i::qs') (.split b k rs)=.split b' k' (us.set i (u.putAt qs' (.split b k rs))):=by simp[Tree.putAt,h1]
     rw[l6]
     exact .deep b' k' us i ps u _ _ h1 this
   | none=>
     simp only[iT,h1,hs] at hn
     split at hn
     . rename_i e
       subst e
       cases hn
       simp only[Tree.cO,Option.some.injEq,Tree.split.injEq] at aL
       obtain⟨rfl,_,rfl⟩:=aL
       rw[h1] at ha
       have C7:u=s:=Option.some.inj ha
       subst C7
       show Pu set n k' (.split b' k' us) (i::ps) (.split b' k' rs) _ true
       exact .here b' us i ps u rs c got h1 (AA set n k' ps u q h2 hs) hc hM
     . cases hn
theorem bK.copy {W w6:World}{fp:List Nat}{ts:List Tree}{cs:List Value}{fs:List Nat}(lk:fs ⊆ fp)(am:∀q∈fp,q < W.heap.size)(hN:aY W (nodesOf ts) cs fs)(hg:W.grownBy w6 O){v:Value}(hr:w6.ownsRow W.heap.size 53 5 v ts.length cs)(h0:0 < ts.length)(mb:Nat)(hm:mb < W.heap.size)(hmf:mb ∉ fs):
 ∃g cap,v=Jj (I ⟨g,0,O⟩) ts.length cap/\W.heap.size<=g/\bK g ts.length cap fp ts (w6.setCell ⟨mb,4,O⟩ v):=by
 rcases hr.2 with ⟨_,h1⟩ | ⟨g,cap,cur,rfl,hb,V6,r⟩
 . omega
 . refine⟨g,cap,rfl,hb,⟨⟨cs,fs,?_,?_,fun q hq=>.inl (lk hq)⟩,fun q hq=> ?_,rfl⟩⟩
   . refine dE (W:=w6) ⟨hr.1,.inr ⟨g,cap,cur,rfl,Nat.zero_le _,V6,r⟩⟩ fun q hq=> ?_
     have:q=g:=by simpa [Value.ownBlock,eq_comm] using hq
     exact Below.heap_setCell _ _ _ _ (by show q≠mb;omega)
   . refine hN.keep fun q hq=> ?_
     have Dd:=am q (lk hq)
     exact (Below.heap_setCell _ _ _ _ (by show q≠mb;intro e;exact hmf (e ▸ hq))).trans (hg.block q Dd (by simp))
   . have:=am q hq
     omega
theorem bK.put {g L cap:Nat}{fp:List Nat}{us:List Tree}{wr:World}(h:bK g L cap fp us wr)(i:Nat)(t t':Tree)(ht:us[i]?=I t)(sl':Value)(f':List Nat)(hn:(ag t').In wr sl' f')(hf:∀q∈f',q∈fp\/g < q):bK g L cap fp (us.set i t') (gq wr g (i*5) (ag t') sl'):=by
 obtain⟨cs,fs,h1,h2,h3⟩:=h.row
 obtain⟨sl,f,e1,e2,e3⟩:=aY.one h2 i (ag t) (dS us i t ht)
 have a7:∀q,q∈fp\/g < q->q≠g:=fun q hq=>by
  rcases hq with h5 | h5
  . have:=h.old q h5
    omega
  . omega
 have eA:∀q∈fs,(gq wr g (i*5) (ag t') sl').heap[q]?=wr.heap[q]?:=fun q hq=>dO _ _ _ _ _ q (a7 q (h3 q hq))
 obtain⟨fp',k1,k2⟩:=e3 _ (ag t') sl' f' eA (hn.keep fun q hq=>dO _ _ _ _ _ q (a7 q (hf q hq)))
 refine⟨⟨_,fp',uf h1 (i*5) (ag t') sl',?_,fun q hq=> ?_⟩,h.old,by rw[List.length_set];exact h.len⟩
 . rw[nP]
   exact k1
 . rcases k2 q hq with h6 | h6
   . exact h3 q h6
   . exact hf q h6
theorem rO {W:World}{k wd ht i:Int}{ts:List Tree}{g L cap:Nat}{fp:List Nat}(hn:(Node.mk k wd ht i (nodesOf ts)).In W (Jj (I ⟨g,0,O⟩) L cap) fp)(hL:ts.length=L)(j:Nat)(t:Tree)(dr:ts[j]?=I t):∃sa sn sc f,(∀q∈f,q∈fp)/\∀X,Below W.heap.size W X->(ag t).In X (Jj sa sn sc) f/\kG X g (j*5) (ag t) (Jj sa sn sc):=by
 obtain⟨cs,fs,h1,h2,rfl⟩:=hn
 rw[ax,hL] at h1
 have pZ:j < L:=by rw[<- hL];exact (List.getElem?_eq_some_iff.1 dr).1
 obtain⟨sl2,f2,g1,g2,g3⟩:=h2.get j (ag t) (dS ts j t dr)
 have hcell:∀o,o < 5->W.cell? ⟨g,j*5+o,O⟩=(fQ (ag t) sl2)[o]?:=fun o ho=>by
  rw[World.ownsRow.cellAt h1 (j*5+o) (by omega),g3 o ho]
 obtain⟨ad,c,av⟩:=g1.sl
 subst av
 have hg:g < W.heap.size:=iD h1 g (by simp[Value.ownBlock])
 refine⟨ad,_,c,f2,fun q hq=>List.mem_append_right _ (g2 q hq),fun X hX=>⟨g1.below hX,?_⟩⟩
 have hc:∀o,X.cell? ⟨g,o,O⟩=W.cell? ⟨g,o,O⟩:=fun o=>hX.cell (p:=⟨g,o,O⟩) hg
 exact⟨(hc _).trans (hcell 0 (by omega)),(hc _).trans (hcell 1 (by omega)),(hc _).trans (hcell 2 (by omega)),(hc _).trans (hcell 3 (by omega)),(hc _).trans (hcell 4 (by omega))⟩
theorem OD {w X:World}{b:Box}{k' mv:Int}{ts:List Tree}{g L cap:Nat}{fp:List Nat}{ok:Bool}(ab:(ag (.split b k' ts)).In w (Jj (I ⟨g,0,O⟩) L cap) fp)(hB:Below w.heap.size w X)(v0 v1 v2 v3 v4:Value):PuA (.split b k' ts) mv ok fp w (Jz (.tuple #[.agg #[J Jq k',J Jq b.w,J Jq b.h,J Jq 0,Jj (I ⟨g,0,O⟩) L cap],J Jq mv,.bool ok])) (fB X (w.heap.size+1) v0 v1 v2 v3 v4):=by
 have h5:=bC hB (w.heap.size+1) (by omega) v0 v1 v2 v3 v4
 exact⟨_,_,_,fp,rfl,ab.below h5,fun q hq=>.inl hq,h5⟩
theorem Aj {w X:World}{nn:Node}{t':Tree}{mv:Int}{sa:Option Addr}{sn sc:Nat}{fp fp':List Nat}{ok:Bool}(aR:ag t'=nn)(ab:(ag t').In X (Jj sa sn sc) fp')(hf:∀q∈fp',q∈fp\/w.heap.size+2<=q)(am:∀q∈fp,q < w.heap.size)(hB:Below w.heap.size w X)(v0 v1 v2 v3 v4:Value):PuA t' mv ok fp w (Jz (.tuple #[.agg #[J Jq nn.k,J Jq nn.w,J Jq nn.h,J Jq nn.i,Jj sa sn sc],J Jq mv,.bool ok])) (fB X (w.heap.size+1) v0 v1 v2 v3 v4):=by
 subst aR
 refine⟨sa,sn,sc,fp',rfl,ab.keep fun q hq=>fD _ _ _ _ _ _ _ q ?_,fun q hq=> ?_,bC hB (w.heap.size+1) (by omega) v0 v1 v2 v3 v4⟩
 . rcases hf q hq with h | h
   . have:=am q h
     omega
   . omega
 . rcases hf q hq with h | h
   . exact .inl h
   . exact .inr (by omega)
theorem OE {w:World}{b:Box}{k':Int}{ts:List Tree}{i:Nat}{s s':Tree}{mv:Int}{fp fk:List Nat}{W w6:World}{g L cap kb:Nat}{ka:Value}
 (hK:bK g L cap (fp++fk) ts (w6.setCell ⟨kb,4,O⟩ (Jj (I ⟨g,0,O⟩) L cap))) (hi:ts[i]?=I s) (ab:(ag s').In W ka fk) (cf:∀q∈fp,q < w.heap.size) (rK:∀q∈fk,q∈fp\/w.heap.size+2<=q) (hg:w.heap.size+2<=g) (pr:W.grownBy w6 O) (pt:w.heap.size+2<=kb) (hkf:kb ∉ fk) (hB:Below w.heap.size w W) (v0 v1 v2 v3 v4:Value):
 PuA (.split b k' (ts.set i s')) mv true fp w (Jz (.tuple #[.agg #[J Jq k',J Jq b.w,J Jq b.h,J Jq 0,Jj (I ⟨g,0,O⟩) L cap],J Jq mv,.bool true])) (fB (gq (w6.setCell ⟨kb,4,O⟩ (Jj (I ⟨g,0,O⟩) L cap)) g (i*5) (ag s') ka) (w.heap.size+1) v0 v1 v2 v3 v4):=by
 have ux:(ag s').In (w6.setCell ⟨kb,4,O⟩ (Jj (I ⟨g,0,O⟩) L cap)) ka fk:=ab.keep fun q hq=>(Below.heap_setCell _ _ _ _ (by show q≠kb;intro e;exact hkf (e ▸ hq))).trans (pr.block q (ab.lt q hq) (by simp))
 have VJ:=hK.put i s s' hi ka fk ux fun q hq=>.inl (List.mem_append_right _ hq)
 obtain⟨fp',h1,h2⟩:=(VJ.keep (X:=fB (gq (w6.setCell ⟨kb,4,O⟩ (Jj (I ⟨g,0,O⟩) L cap)) g (i*5) (ag s') ka) (w.heap.size+1) v0 v1 v2 v3 v4) fun q hq=>fD _ _ _ _ _ _ _ q (by
  rcases hq with h | h
  . rcases List.mem_append.1 h with h | h
    . have:=cf q h
      omega
    . rcases rK q h with h | h
      . have:=cf q h
        omega
      . omega
  . omega)).node k' b.w b.h 0
 have hB6:Below w.heap.size w w6:=⟨pr.os.trans hB.os,pr.tape.trans hB.tape,pr.output.trans hB.output,Nat.le_trans hB.size pr.size,fun q hq=>(pr.block q (Nat.lt_of_lt_of_le hq hB.size) (by simp)).trans (hB.block q hq)⟩
 refine⟨I ⟨g,0,O⟩,L,cap,fp',rfl,h1,fun q hq=> ?_,bC (lT (below_grown hB6 (grownBy_set _ _ _ _) (by omega)) g _ (by omega) _ _) _ (by omega) _ _ _ _ _⟩
 rcases h2 q hq with h | h
 . rcases List.mem_append.1 h with h | h
   . exact .inl h
   . rcases rK q h with h | h
     . exact .inl h
     . exact .inr (by omega)
 . exact .inr (by omega)
end Go.Proofs.YtejlincnnonhaaaGreat
