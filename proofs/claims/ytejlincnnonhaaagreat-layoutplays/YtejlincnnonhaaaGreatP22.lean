import Derived.Test.YtejlincnnonhaaaGreatP21
namespace Go.Proofs.YtejlincnnonhaaaGreat
open Go.RowKit Go.Proofs.Tryz
open Value renaming int->J,slice->Jj,pointer->JJ
open IntKind renaming i64->Jq
open Option renaming none->O,some->I
open Ending renaming returned->Jz
open Obj renaming cells->JZ
set_option linter.unusedVariables false
set_option maxRecDepth 100000
set_option maxHeartbeats 16000000
theorem wJ:∀(l:List OpV) (i:Nat) (o:OpV),l[i]?=I o->∀j,j < 8->(oD l)[i*8+j]?=o.vals[j]?
 | [],i,o,h,j,hj=>by simp at h
 | a::l,0,o,h,j,hj=>by
   have e:a=o:=by simpa using h
   subst e
   show (a.vals.toList++oD l)[0*8+j]?=_
   rw[Nat.zero_mul,Nat.zero_add,List.getElem?_append_left (by show j < 8;exact hj)]
   simp
 | a::l,i+1,o,h,j,hj=>by
   show (a.vals.toList++oD l)[(i+1)*8+j]?=_
   rw[List.getElem?_append_right (by show 8<=(i+1)*8+j;omega)]
   have:=wJ l i o (by simpa using h) j hj
   rw[show (i+1)*8+j-a.vals.toList.length=i*8+j by show (i+1)*8+j-8=_;omega]
   exact this
structure QD (X:World)(g b:Nat)(o:OpV):Prop where
 c0:X.cell? ⟨g,b,O⟩=I (J Jq o.k)
 c1:X.cell? ⟨g,b+1,O⟩=I (J Jq o.pane)
 c2:X.cell? ⟨g,b+2,O⟩=I (J Jq o.kind)
 c3:X.cell? ⟨g,b+3,O⟩=I (J Jq o.size)
 c4:X.cell? ⟨g,b+4,O⟩=I (.bool o.bf)
 c5:X.cell? ⟨g,b+5,O⟩=I (J Jq o.id)
 c6:X.cell? ⟨g,b+6,O⟩=I (J Jq o.a)
 c7:X.cell? ⟨g,b+7,O⟩=I (J Jq o.b)
theorem MF.row {w:World}{v:Value}{l:List OpV}(h:MF w v l):∃ad cap,v=Jj ad l.length cap/\∀(i:Nat) (o:OpV),l[i]?=I o->∃g off,ad=I ⟨g,off,O⟩/\∀X,Below w.heap.size w X->QD X g (off+i*8) o:=by
 obtain⟨ad,cap,rfl,_,h2⟩:=h
 refine⟨ad,cap,rfl,fun i o hi=> ?_⟩
 rcases h2 with rfl | ⟨g,off,rfl,h3⟩
 . simp at hi
 . refine⟨g,off,rfl,fun X hX=> ?_⟩
   have hc:∀j u,j < 8->o.vals[j]?=I u->X.cell? ⟨g,off+i*8+j,O⟩=I u:=fun j u hj hu=>by
    have h5:=h3 (i*8+j) u ((wJ l i o hi j hj).trans hu)
    rw[<- Nat.add_assoc] at h5
    exact (hX.cell (p:=⟨g,off+i*8+j,O⟩) (World.block_lt_of_cell? w _ h5)).trans h5
   exact⟨hc 0 _ (by decide) rfl,hc 1 _ (by decide) rfl,hc 2 _ (by decide) rfl,hc 3 _ (by decide) rfl,hc 4 _ (by decide) rfl,hc 5 _ (by decide) rfl,hc 6 _ (by decide) rfl,hc 7 _ (by decide) rfl⟩
def Hand (w:World)(p q:Value)(X:World):Prop:=∃L:List aj,L.length<=200/\ay X p L/\ay X q L/\Below w.heap.size w X
theorem Hand.below {w:World}{p q:Value}{X Y:World}(h:Hand w p q X)(hb:Below X.heap.size X Y):Hand w p q Y:=by
 obtain⟨L,h1,h2,h3,h4⟩:=h
 exact⟨L,h1,h2.below hb,h3.below hb,af h4 hb⟩
def Turn (w:World)(p q:Value)(o:OpV)(X:World):Prop:=Calls prog 9 #[p,.agg o.vals] X fun e Y=>∃a er,e=Jz (.tuple #[a,J Jq er])/\Below w.heap.size w Y/\Calls prog 10 #[q,.agg o.vals] Y fun e Z=>∃b,e=Jz (.tuple #[b,J Jq er])/\Calls prog 8 #[a,b] Z fun e U=>e=Jz (.bool true)/\Calls prog 8 #[p,q] U fun e V=>e=Jz (.bool true)/\Hand w p q V/\Hand w a b V
theorem MZ {w:World}{p q:Value}{X:World}(h:Hand w p q X)(o:OpV)(ho:o.Ok):Turn w p q o X:=by
 obtain⟨L,h1,h2,h3,h4⟩:=h
 obtain⟨er,r,g1,g2,g3⟩:=Gf L o ho
 refine (g2 p X h2).mono ?_
 rintro e Y ⟨a,rfl,ha,bj⟩
 refine⟨a,er,rfl,af h4 bj,(g3 q Y (h3.below bj)).mono ?_⟩
 rintro e Z ⟨b,rfl,hb,al⟩
 have YH:=ha.cellsIn.below al
 have hs:=Ak a b r r Z YH hb.cellsIn (by omega)
 rw[decide_eq_true rfl] at hs
 refine⟨b,rfl,hs.mono ?_⟩
 rintro e U ⟨rfl,aM⟩
 have YI:=((h2.below bj).below al).below aM
 have YJ:=((h3.below bj).below al).below aM
 have i7:=Ak p q L L U YI YJ (by omega)
 rw[decide_eq_true rfl] at i7
 refine⟨rfl,i7.mono ?_⟩
 rintro e V ⟨rfl,cv⟩
 have hV:Below w.heap.size w V:=af (af (af (af h4 bj) al) aM) cv
 exact⟨rfl,⟨L,h1,YI.below cv,YJ.below cv,hV⟩,⟨r,g1,(YH.below aM).below cv,(hb.cellsIn.below aM).below cv,hV⟩⟩
theorem Hz (a b:Int)(v:Value)(ops:List OpV)(w:World)(hv:MF w v ops)(bN:∀o∈ops,o.Ok)(hlen:ops.length<=140737488351232):Calls prog 3 #[J Jq a,J Jq b,v] w fun x w'=>x=Jz (.bool true)/\Below w.heap.size w w':=by
 obtain⟨ad,cap,rfl,br⟩:=hv.row
 have pw:=dL br
 have uL:=dL bN
 obtain⟨n,hn⟩:∃n,ops.length=n:=⟨_,rfl⟩
 have HN:=dL hn
 rw[hn] at hlen ⊢
 obtain⟨er,vB⟩:∃x,fO a b 1=x:=⟨_,rfl⟩
 have kx:Hid (Calls prog 5 #[J Jq a,J Jq b,J Jq 1] w fun e w'=>∃u,e=Jz (.tuple #[u,J Jq er])/\Calls prog 6 #[J Jq a,J Jq b,J Jq 1] w' fun e w2=>∃q,e=Jz (.tuple #[q,J Jq er])/\Calls prog 7 #[] w2 fun e w3=>e=Jz (.bool true)/\Calls prog 8 #[u,q] w3 fun e w4=>e=Jz (.bool true)/\Hand w u q w4):=by
  rw[<- vB]
  refine (new_any a b 1 w).mono ?_
  rintro e w1 ⟨u,rfl,hu,bj⟩
  refine⟨u,rfl,(Et a b 1 w1).mono ?_⟩
  rintro e w2 ⟨q,rfl,hq,al⟩
  refine⟨q,rfl,(zt w2).mono ?_⟩
  rintro e w3 ⟨rfl,aM⟩
  have hl:=Eu a b 1
  have YK:=(hu.cellsIn.below al).below aM
  have U1:=hq.cellsIn.below aM
  have hs:=Ak u q _ _ w3 YK U1 (by omega)
  rw[decide_eq_true rfl] at hs
  refine⟨rfl,hs.mono ?_⟩
  rintro e w4 ⟨rfl,cv⟩
  exact⟨rfl,_,by omega,YK.below cv,U1.below cv,af (af (af bj al) aM) cv⟩
 clear br bN hn hv vB
 go_enter func3,ntmps3
 go_wp2_with fail
 refine kx.out.mono ?_
 rintro e w1 ⟨u,rfl,h1⟩
 have H1:=dL h1
 clear h1 kx
 go_wp2_with fail
 refine H1.out.mono ?_
 rintro e w2 ⟨q,rfl,h2⟩
 have H2:=dL h2
 clear h2 H1
 go_wp2_with fail
 refine H2.out.mono ?_
 rintro e w3 ⟨rfl,h3⟩
 have H3:=dL h3
 clear h3 H2
 go_wp2_with fail
 refine H3.out.mono ?_
 rintro e w4 ⟨rfl,h4⟩
 have H4:=dL h4
 clear h4 H3
 go_wp2_with fail
 go_loopw [7,9,11] (fun vl vr vi wr=>∃i:Nat,i<=n/\vi=J Jq i/\Hid (Hand w vl vr wr)) (fun _ _ vi _=>n-(intOf vi).toNat)
 case atStart=>exact⟨0,Nat.zero_le _,rfl,H4⟩
 case round=>
  obtain⟨i,hi,rfl,HH⟩:=hrel
  clear H4
  by_cases am:i < n
  . obtain⟨o,ho⟩:∃o,ops[i]?=I o:=⟨_,List.getElem?_eq_getElem (by rw[HN.out];exact am)⟩
    obtain⟨g,off,G2,hcell⟩:=pw.out i o ho
    subst G2
    have HT:=dL (MZ HH.out o (uL.out o (List.mem_of_getElem? ho)))
    have SO:=dL hcell
    have hB:Below w.heap.size w wr:=by
     obtain⟨L,_,_,_,h⟩:=HH.out
     exact h
    obtain⟨k,pane,kind,size,bf,id,oa,ob⟩:=o
    obtain⟨c0,c1,c2,c3,c4,c5,c6,c7⟩:=hcell wr hB
    unfold Turn OpV.vals at HT
    dsimp only at HT c0 c1 c2 c3 c4 c5 c6 c7
    clear hcell hB ho HH
    go_wp2_with fail
    refine HT.out.mono ?_
    rintro e Y ⟨p',er',rfl,b7,h1⟩
    have H1:=dL h1
    obtain⟨d0,d1,d2,d3,d4,d5,d6,d7⟩:=SO.out Y b7
    dsimp only at d0 d1 d2 d3 d4 d5 d6 d7
    clear h1 HT b7 c0 c1 c2 c3 c4 c5 c6 c7
    go_wp2_with fail
    refine H1.out.mono ?_
    rintro e Z ⟨q',rfl,h2⟩
    have H2:=dL h2
    clear h2 H1 d0 d1 d2 d3 d4 d5 d6 d7
    go_wp2_with fail
    refine H2.out.mono ?_
    rintro e U ⟨rfl,h3⟩
    have H3:=dL h3
    clear h3 H2
    go_wp2_with fail
    refine H3.out.mono ?_
    rintro e V ⟨rfl,h4,h5⟩
    have H4:=dL h4
    have H5:=dL h5
    clear h4 h5 H3
    by_cases he:er'=0
    . subst he
      go_wp2_with fail
      go_roundw
      case rel=>exact⟨i+1,by omega,by go_num,H5⟩
      case measure=>simp[intOf];omega
    . have Ri:(er'==0)=false:=by simpa using he
      go_wp2_with fail
      go_roundw
      case rel=>exact⟨i+1,by omega,by go_num,H4⟩
      case measure=>simp[intOf];omega
  . have HF:Hid (Below w.heap.size w wr):=by
     obtain⟨L,_,_,_,h⟩:=HH.out
     exact h
    have bE:i=n:=by omega
    subst bE
    clear HH pw uL
    go_wp2
    go_ret
    exact⟨rfl,HF.out⟩
end Go.Proofs.YtejlincnnonhaaaGreat
