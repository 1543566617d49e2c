import Derived.Test.YtejlincnnonhaaaGreatP3
import Derived.Maps.AppendAt
import Derived.OwnWalk
import Derived.Laws.StructEq
import Derived.Deep.RegionHeld3
import Derived.BigQuiet
import Derived.Lib.SlicesCompact
import Derived.Lib.RowBridge
import Derived.Test.YtejlincnnonhaaaGreatShelf
import Derived.Sort.OwnSorted
import Derived.Sort.Grow
import Derived.Lib.OwnBridge
namespace Go.Proofs.YtejlincnnonhaaaGreat
open Go.RowKit Go.Proofs.Tryz
open Value renaming int->J,slice->Jj,pointer->JJ
open IntKind renaming i64->Jq
open Option renaming none->O,some->I
open Ending renaming returned->Jz
open Obj renaming cells->JZ
set_option linter.unusedVariables false
set_option maxRecDepth 100000
set_option maxHeartbeats 16000000
def JX (w:World)(c:aj)(R:Value->Value->World->World->Prop)(e:Ending)(w':World):Prop:=
 ∃g sl v' X w2,e=Jz (.tuple #[dA g,v'])/\Below w.heap.size w X/\R sl v' X w2/\Below X.heap.size X w2/\w2.heap.size<=g/\aX w' g c.box c.kind sl/\Below w2.heap.size w2 w'
theorem Az (w:World)(c:aj)(kd:Int)(X:World)(hX:(w.alloc (JZ #[J Jq c.depth,J Jq kd,J Jq c.x,J Jq c.y,J Jq c.w,J Jq c.h,J Jq c.p] 41)).alloc (JZ #[J Jq c.x,J Jq c.y,J Jq c.w,J Jq c.h] 47)=X):
 Below w.heap.size w X/\∀w2,Below X.heap.size X w2->w2.cell? ⟨w.heap.size,1,O⟩=I (J Jq kd)/\w2.cell? ⟨w.heap.size+1,0,O⟩=I (J Jq c.x)/\w2.cell? ⟨w.heap.size+1,1,O⟩=I (J Jq c.y)/\w2.cell? ⟨w.heap.size+1,2,O⟩=I (J Jq c.w)/\w2.cell? ⟨w.heap.size+1,3,O⟩=I (J Jq c.h)/\w.heap.size+1+1<=w2.heap.size:=by
 subst hX
 refine⟨((Below.refl _ _).alloc (Nat.le_refl _) _).alloc (by simp) _,fun w2 hb=> ?_⟩
 have h1:=heap_alloc_new w (JZ #[J Jq c.depth,J Jq kd,J Jq c.x,J Jq c.y,J Jq c.w,J Jq c.h,J Jq c.p] 41)
 obtain⟨W1,AK⟩:∃W1,w.alloc (JZ #[J Jq c.depth,J Jq kd,J Jq c.x,J Jq c.y,J Jq c.w,J Jq c.h,J Jq c.p] 41)=W1:=⟨_,rfl⟩
 have r7:W1.heap.size=w.heap.size+1:=by rw[<- AK];simp
 rw[AK] at h1 hb
 have h2:=heap_alloc_new W1 (JZ #[J Jq c.x,J Jq c.y,J Jq c.w,J Jq c.h] 47)
 have h3:(W1.alloc (JZ #[J Jq c.x,J Jq c.y,J Jq c.w,J Jq c.h] 47)).heap[w.heap.size]?=_:=((((Below.refl W1.heap.size W1).alloc (Nat.le_refl _) _).block w.heap.size (by omega))).trans h1
 have i7:(W1.alloc (JZ #[J Jq c.x,J Jq c.y,J Jq c.w,J Jq c.h] 47)).heap.size=w.heap.size+1+1:=by rw[<- r7];simp
 rw[r7] at h2
 have g1:=(hb.block w.heap.size (by omega)).trans h3
 have g2:=(hb.block (w.heap.size+1) (by omega)).trans h2
 refine⟨ae g1 1,ae g2 0,ae g2 1,ae g2 2,ae g2 3,?_⟩
 have:=hb.size
 omega
theorem take_split (v:Value)(c:aj)(l:List aj)(W0 w:World)(hW:Below W0.heap.size W0 w)(R:Value->Value->World->World->Prop)(h:ay W0 v (c::l))(hk:c.kind=2\/c.kind=3)(hd:0<=c.depth/\c.depth<=1000)
 (HA:∀X v1,Below w.heap.size w X->ay W0 v1 l->Calls prog 87 #[v1,J Jq (c.depth+1)] X fun e w'=>∃sa sn sc v',e=Jz (.tuple #[Jj sa sn sc,v'])/\R (Jj sa sn sc) v' X w'/\Below X.heap.size X w'):
 Calls prog 69 #[v,J Jq c.depth] w fun e w'=>JX w c R e w':=by
 obtain⟨b,off,cap,rfl,cG,dp,iv⟩:=h.cons
 obtain⟨q0,q1,q2,q3,q4,q5,q6⟩:=lQ.of (fun j u hu=>(hW.cell (p:=⟨b,off+j,O⟩) (World.block_lt_of_cell? W0 _ (dp j u hu))).trans (dp j u hu))
 obtain⟨n,hn⟩:∃n,l.length+1=n:=⟨_,rfl⟩
 have Hn:=zh hn
 have Wd:Hid (∀X v1,Below w.heap.size w X->(∀ad,(l=[]\/ad=I ⟨b,off+7,O⟩)->v1=Jj ad l.length (cap-1)->Calls prog 87 #[v1,J Jq (c.depth+1)] X fun e w'=>∃sa sn sc v',e=Jz (.tuple #[Jj sa sn sc,v'])/\R (Jj sa sn sc) v' X w'/\Below X.heap.size X w')):=fun X v1 hX ad G2 hv=>HA X v1 hX (hv ▸ iv ad G2)
 have YQ:Hid (∀X ad cap',l.length=0->Below w.heap.size w X->Calls prog 87 #[Jj ad 0 cap',J Jq (c.depth+1)] X fun e w'=>∃sa sn sc v',e=Jz (.tuple #[Jj sa sn sc,v'])/\R (Jj sa sn sc) v' X w'/\Below X.heap.size X w'):=fun X ad cap' hl hX=>HA X _ hX (ay.empty _ _ _ _ hl)
 clear h dp iv HA hW
 rw[hn] at cG ⊢
 have du:0 < n:=by omega
 have mU:((n:Int)==0)=false:=by simp;omega
 have fe:(1:Int)<=(n:Int):=by omega
 have rl:(n:Int)<=(cap:Int):=by omega
 have Wl:1<=n:=du
 have hdw:IntKind.i64.wrap (c.depth+1)=c.depth+1:=by rw[IntKind.wrap_i64];omega
 obtain⟨kd,io⟩:∃k,c.kind=k:=⟨_,rfl⟩
 have U5:=zh io
 rw[io] at hk q1
 have k1:(kd==1)=false:=by rcases hk with rfl | rfl <;> rfl
 have k23:(kd==2)=true\/(kd==2)=false/\(kd==3)=true:=by rcases hk with rfl | rfl <;> simp
 clear hn io hk hd
 by_cases mx:cap=1
 . subst mx
   have Wm:n=1:=by omega
   subst Wm
   have HE:Hid (l.length=0):=by have:=Hn.out;show l.length=0;omega
   clear cG du mU fe rl Wl
   rcases k23 with k2 | ⟨k2,k3⟩
   . go_enter func69,ntmps69
     go_wp2_with fail
     obtain⟨X,hX⟩:∃X,(w.alloc (JZ #[J Jq c.depth,J Jq kd,J Jq c.x,J Jq c.y,J Jq c.w,J Jq c.h,J Jq c.p] 41)).alloc (JZ #[J Jq c.x,J Jq c.y,J Jq c.w,J Jq c.h] 47)=X:=⟨_,rfl⟩
     have pB:=Az w c kd X hX
     rw[hX]
     refine (YQ.out X _ _ HE.out pB.1).mono ?_
     rintro e w2 ⟨sa,sn,sc,v',rfl,hR,al⟩
     have M4:=zh hR
     obtain⟨y1,y2,y3,y4,y5,y6⟩:=pB.2 w2 al
     have Dm:=zh pB.1
     have aD:=zh al
     clear hR al pB hX
     go_wp2
     all_goals go_ret2
     all_goals refine⟨w2.heap.size,Jj sa sn sc,v',X,w2,rfl,Dm.out,M4.out,aD.out,Nat.le_refl _,?_,(Below.refl _ _).alloc (Nat.le_refl _) _⟩
     all_goals rw[U5.out]
     all_goals exact jR _ _ rfl _ _
   . go_enter func69,ntmps69
     go_wp2_with fail
     obtain⟨X,hX⟩:∃X,(w.alloc (JZ #[J Jq c.depth,J Jq kd,J Jq c.x,J Jq c.y,J Jq c.w,J Jq c.h,J Jq c.p] 41)).alloc (JZ #[J Jq c.x,J Jq c.y,J Jq c.w,J Jq c.h] 47)=X:=⟨_,rfl⟩
     have pB:=Az w c kd X hX
     rw[hX]
     refine (YQ.out X _ _ HE.out pB.1).mono ?_
     rintro e w2 ⟨sa,sn,sc,v',rfl,hR,al⟩
     have M4:=zh hR
     obtain⟨y1,y2,y3,y4,y5,y6⟩:=pB.2 w2 al
     have Dm:=zh pB.1
     have aD:=zh al
     clear hR al pB hX
     go_wp2
     all_goals go_ret2
     all_goals refine⟨w2.heap.size,Jj sa sn sc,v',X,w2,rfl,Dm.out,M4.out,aD.out,Nat.le_refl _,?_,(Below.refl _ _).alloc (Nat.le_refl _) _⟩
     all_goals rw[U5.out]
     all_goals exact jR _ _ rfl _ _
 . have my:(cap==1)=false:=by simpa using mx
   have HE:Hid (n-1=l.length):=by have:=Hn.out;show n-1=l.length;omega
   rcases k23 with k2 | ⟨k2,k3⟩
   . go_enter func69,ntmps69
     go_wp2_with fail
     obtain⟨X,hX⟩:∃X,(w.alloc (JZ #[J Jq c.depth,J Jq kd,J Jq c.x,J Jq c.y,J Jq c.w,J Jq c.h,J Jq c.p] 41)).alloc (JZ #[J Jq c.x,J Jq c.y,J Jq c.w,J Jq c.h] 47)=X:=⟨_,rfl⟩
     have pB:=Az w c kd X hX
     rw[hX]
     refine (Wd.out X _ pB.1 (I ⟨b,off+7,O⟩) (.inr rfl) (by rw[HE.out])).mono ?_
     rintro e w2 ⟨sa,sn,sc,v',rfl,hR,al⟩
     have M4:=zh hR
     obtain⟨y1,y2,y3,y4,y5,y6⟩:=pB.2 w2 al
     have Dm:=zh pB.1
     have aD:=zh al
     clear hR al pB hX
     go_wp2
     all_goals go_ret2
     all_goals refine⟨w2.heap.size,Jj sa sn sc,v',X,w2,rfl,Dm.out,M4.out,aD.out,Nat.le_refl _,?_,(Below.refl _ _).alloc (Nat.le_refl _) _⟩
     all_goals rw[U5.out]
     all_goals exact jR _ _ rfl _ _
   . go_enter func69,ntmps69
     go_wp2_with fail
     obtain⟨X,hX⟩:∃X,(w.alloc (JZ #[J Jq c.depth,J Jq kd,J Jq c.x,J Jq c.y,J Jq c.w,J Jq c.h,J Jq c.p] 41)).alloc (JZ #[J Jq c.x,J Jq c.y,J Jq c.w,J Jq c.h] 47)=X:=⟨_,rfl⟩
     have pB:=Az w c kd X hX
     rw[hX]
     refine (Wd.out X _ pB.1 (I ⟨b,off+7,O⟩) (.inr rfl) (by rw[HE.out])).mono ?_
     rintro e w2 ⟨sa,sn,sc,v',rfl,hR,al⟩
     have M4:=zh hR
     obtain⟨y1,y2,y3,y4,y5,y6⟩:=pB.2 w2 al
     have Dm:=zh pB.1
     have aD:=zh al
     clear hR al pB hX
     go_wp2
     all_goals go_ret2
     all_goals refine⟨w2.heap.size,Jj sa sn sc,v',X,w2,rfl,Dm.out,M4.out,aD.out,Nat.le_refl _,?_,(Below.refl _ _).alloc (Nat.le_refl _) _⟩
     all_goals rw[U5.out]
     all_goals exact jR _ _ rfl _ _
def wu (W0:World)(r:List aj)(v:Value)(d:Int)(X:World)(e:Ending)(w':World):Prop:=
 (jO r d=O/\e=Jz (.tuple #[eH,v])/\Below X.heap.size X w')\/
 (∃t r' T g fp v',jO r d=I (t,r')/\e=Jz (.tuple #[.iface T (JJ (I ⟨g,0,O⟩)),v'])/\t.At w' 0 (.iface T (JJ (I ⟨g,0,O⟩))) fp/\fp.Nodup/\(∀q∈fp,X.heap.size<=q)/\ay W0 v' r'/\Below X.heap.size X w')
structure vI (W0:World)(l:List aj)(d:Int)(w:World)(sl v:Value)(ts:List Tree)(r:List aj)(wr:World):Prop where
 row:∃vs fs,wr.ownsRow 0 70 1 sl vs.length vs/\aB wr 0 ts vs fs/\(sl.ownBlock.toList++fs).Nodup/\∀q∈sl.ownBlock.toList++fs,w.heap.size<=q
 eq:di l d=(ts++(di r d).1,(di r d).2)
 rest:ay W0 v r
 below:Below w.heap.size w wr
 len:ts.length+r.length<=l.length
theorem aB.snoc {W:World}{B:Nat}{t:Tree}{v:Value}{f:List Nat}(h2:t.At W B v f):∀{ts:List Tree} {vs:List Value} {fs:List Nat},aB W B ts vs fs->aB W B (ts++[t]) (vs++[v]) (fs++f)
 | [],vs,fs,h=>by
   obtain⟨rfl,rfl⟩:=h
   exact⟨v,[],f,[],rfl,h2,⟨rfl,rfl⟩,by simp⟩
 | a::ts,vs,fs,h=>by
   obtain⟨v1,vs',f1,f',rfl,h3,h4,rfl⟩:=h
   exact⟨v1,vs'++[v],f1,f'++f,rfl,h3,aB.snoc h2 h4,by simp⟩
theorem vI.none {W0:World}{l:List aj}{d:Int}{w:World}{sl v:Value}{ts:List Tree}{r:List aj}{wr w':World}(h:vI W0 l d w sl v ts r wr)(hn:jO r d=O)(hb:Below wr.heap.size wr w'):vI W0 l d w sl v ts r w'/\di l d=(ts,r):=by
 obtain⟨vs,fs,h1,h2,h3,h4⟩:=h.row
 refine⟨⟨⟨vs,fs,own_below h1 hb,h2.below hb,h3,h4⟩,h.eq,h.rest,af h.below hb,h.len⟩,?_⟩
 rw[h.eq,iC r d,hn]
 simp
theorem vI.next {W0:World}{l:List aj}{d:Int}{w:World}{sl v:Value}{ts:List Tree}{r:List aj}{wr:World}(h:vI W0 l d w sl v ts r wr){t:Tree}{r':List aj}{pv:Value}{fp:List Nat}{v':Value}{w2:World}(ht:jO r d=I (t,r'))(bq:t.At w2 0 pv fp)(aE:fp.Nodup)(cf:∀q∈fp,wr.heap.size<=q)(hc:ay W0 v' r')(hb:Below wr.heap.size wr w2):
 ∃vs,w2.ownsRow 0 70 1 sl vs.length vs/\vs.length<=l.length/\∀o sl' w3,w3.ownsRow 0 70 1 sl' (vs.length+1) (vs++[pv])->(w2.alloc o).grownBy w3 sl.ownBlock->(sl'.ownBlock=sl.ownBlock\/sl'.ownBlock=I (w2.alloc o).heap.size)->vI W0 l d w sl' v' (ts++[t]) r' w3:=by
 obtain⟨vs,fs,h1,h2,h3,h4⟩:=h.row
 have dk:=h2.length
 have hlen:=h.len
 refine⟨vs,own_below h1 hb,by omega,fun o sl' w3 k1 k2 k3=> ?_⟩
 have hsz:(w2.alloc o).heap.size=w2.heap.size+1:=by simp
 have J0:∀q,q < w2.heap.size->q ∉ sl.ownBlock.toList->w3.heap[q]?=w2.heap[q]?:=fun q hq hn=>(k2.block q (by omega) (by intro e;exact hn (by rw[<- e];simp))).trans (((Below.refl w2.heap.size w2).alloc (Nat.le_refl _) o).block q hq)
 have ck:=oZ h1
 obtain⟨n1,n2,n3⟩:=List.nodup_append.1 h3
 have AW:=h2.below hb
 have Vx:=h.below.size
 have hwb:=hb.size
 refine⟨⟨vs++[pv],fs++fp,by simpa using k1,aB.snoc (bq.keep fun q hq=>J0 q (bq.lt q hq) fun e=> ?_) (AW.keep fun q hq=>J0 q (AW.lt q hq) fun e=> ?_),?_,?_⟩,?_,?_,?_,?_⟩
 . have:=ck q e;have:=cf q hq;omega
 . exact n3 q e q hq rfl
 . have hd:(fs++fp).Nodup:=by
    refine List.nodup_append.2 ⟨n2,aE,fun a ha b cC e=> ?_⟩
    have:=h2.lt a ha
    have:=cf b cC
    omega
   refine List.nodup_append.2 ⟨?_,hd,fun a ha b cC e=> ?_⟩
   . cases sl'.ownBlock <;> simp
   . subst e
     rcases k3 with k3 | k3
     . rw[k3] at ha
       rcases List.mem_append.1 cC with cC | cC
       . exact n3 a ha a cC rfl
       . have:=ck a ha;have:=cf a cC;omega
     . rw[k3] at ha
       simp at ha
       rcases List.mem_append.1 cC with cC | cC
       . have:=AW.lt a cC;omega
       . have:=bq.lt a cC;omega
 . intro q hq
   rcases List.mem_append.1 hq with hq | hq
   . rcases k3 with k3 | k3
     . rw[k3] at hq
       exact h4 q (List.mem_append_left _ hq)
     . rw[k3] at hq
       simp at hq
       omega
   . rcases List.mem_append.1 hq with hq | hq
     . exact h4 q (List.mem_append_right _ hq)
     . have:=cf q hq;omega
 . rw[h.eq,iC r d,ht]
   simp
 . exact hc
 . refine⟨k2.os.trans (hb.os.trans h.below.os),k2.tape.trans (hb.tape.trans h.below.tape),k2.output.trans (hb.output.trans h.below.output),by have:=k2.size;omega,fun q hq=> ?_⟩
   refine (J0 q (by omega) fun e=> ?_).trans ((hb.block q (by omega)).trans (h.below.block q hq))
   have:=h4 q (List.mem_append_left _ e)
   omega
 . have:=kH r d t r' ht
   rw[List.length_append]
   simp
   omega
theorem kN:(prog.info? 70).map (fun i=>(i.zero,i.size,i.bytes))=I (I .nilIface,1,16):=by kernel_rfl
theorem rW {ops:Array Oper}{rest:List Oper}{o:Oper}{a:Act}{Q:Exit->Act->World->Prop}(w:World)(e9:o.guard=O)(s x:Operand)
 (ho:o.op=.call { callee:=.builtin .append,args:=#[s,x],argTypes:=#[85,85] })
 (v:Value) (vs:List Value) (T:TypeId) (g:Nat) (hs:a.eval s=v) (bm:w.ownsRow 0 70 1 v vs.length vs) (hx:a.eval x=Jj (I ⟨w.heap.size,0,O⟩) 1 1) (hlen:vs.length<=16777216)
 (h:∀v' w',w'.ownsRow 0 70 1 v' (vs.length+1) (vs++[.iface T (JJ (I ⟨g,0,O⟩))])->(w.alloc (JZ #[.iface T (JJ (I ⟨g,0,O⟩))] 70)).grownBy w' v.ownBlock->(v'.ownBlock=v.ownBlock\/v'.ownBlock=I (w.alloc (JZ #[.iface T (JJ (I ⟨g,0,O⟩))] 70)).heap.size)->wpList prog ops Q rest (a.put o.dst v') w'):wpList prog ops Q (o::rest) a (w.alloc (JZ #[.iface T (JJ (I ⟨g,0,O⟩))] 70)):=by
 obtain⟨i0,hi,eh,db,cJ⟩:=bH kN
 refine wpList_append_own_at _ e9 s x 85 ho 0 70 i0 .nilIface 1 16 underlying85 hi eh db cJ rfl (by decide) v vs.length vs hs (World.ownsRow.alloc bm _) ⟨w.heap.size,0,O⟩ 1 1 [.iface T (JJ (I ⟨g,0,O⟩))] hx rfl ?_ ?_ ?_ ?_ (Nat.zero_le _) ?_
 . intro j u hu
   rw[show (⟨w.heap.size,0,O⟩:Addr).add j=⟨w.heap.size,j,O⟩ by unfold Addr.add;split <;> simp_all,dW]
   simpa using hu
 . intro u hu
   simp only[List.mem_cons,List.not_mem_nil,or_false] at hu
   subst hu
   rfl
 . unfold maxLen;omega
 . omega
 . intro v' w' h2 h3 _ h5
   exact h v' w' h2 h3 h5
mutual
theorem bT:∀(t:Tree) (d:Int),t.sound=true->0<=t.room d/\t.room d<=1000*(t.size:Int)
 | .leaf b p,d,hs=>by
   have:=(Tree.leaf b p).aF hs
   show 0<=b.ext d-1/\b.ext d-1<=1000*((1:Nat):Int)
   change (1<=b.w/\b.w<=1000)/\(1<=b.h/\b.h<=1000) at this
   unfold Box.ext
   split <;> omega
 | .split b k ts,d,hs=>by
   unfold Tree.sound at hs
   simp only[Bool.and_eq_true,decide_eq_true_eq] at hs
   have h:=jb ts b k d hs.2.1
   show 0<=(if d=k then bg ts d else aP ts d)/\(if d=k then bg ts d else aP ts d)<=1000*((1+sizes ts:Nat):Int)
   split <;> omega
theorem jb:∀(ts:List Tree) (b:Box) (k d:Int),au ts b k=true->(0<=bg ts d/\bg ts d<=1000*(sizes ts:Int))/\(0<=aP ts d/\aP ts d<=1000)
 | [],b,k,d,hs=>by
   show ((0:Int)<=0/\(0:Int)<=1000*((0:Nat):Int))/\((0:Int)<=1000/\(1000:Int)<=1000)
   omega
 | t::ts,b,k,d,hs=>by
   unfold au at hs
   simp only[Bool.and_eq_true] at hs
   have h1:=bT t d hs.1.1
   have h2:=jb ts b k d hs.2
   show (0<=t.room d+bg ts d/\t.room d+bg ts d<=1000*((t.size+sizes ts:Nat):Int))/\(0<=min (t.room d) (aP ts d)/\min (t.room d) (aP ts d)<=1000)
   omega
end
theorem oH:∀(ts:List Tree) (d:Int) (i:Nat) (t:Tree),ts[i]?=I t->bg (ts.take (i+1)) d=bg (ts.take i) d+t.room d
 | [],d,i,t,h=>by simp at h
 | a::ts,d,0,t,h=>by
   simp at h
   subst h
   show a.room d+0=0+a.room d
   omega
 | a::ts,d,i+1,t,h=>by
   show a.room d+bg (ts.take (i+1)) d=a.room d+bg (ts.take i) d+t.room d
   rw[oH ts d i t (by simpa using h)]
   omega
theorem lX:∀(ts:List Tree) (d:Int) (i:Nat) (t:Tree),ts[i]?=I t->aP (ts.take (i+1)) d=min (aP (ts.take i) d) (t.room d)
 | [],d,i,t,h=>by simp at h
 | a::ts,d,0,t,h=>by
   simp at h
   subst h
   show min (a.room d) 1000=min 1000 (a.room d)
   omega
 | a::ts,d,i+1,t,h=>by
   show min (a.room d) (aP (ts.take (i+1)) d)=min (min (a.room d) (aP (ts.take i) d)) (t.room d)
   rw[lX ts d i t (by simpa using h)]
   omega
theorem jK (ts:List Tree)(b:Box)(k:Int)(h:au ts b k=true):∀(i:Nat),au (ts.take i) b k=true:=by
 induction ts with
 | nil=>intro i;simp[au]
 | cons t ts ih=>
   intro i
   cases i with
   | zero=>rfl
   | succ i=>
     unfold au at h
     simp only[Bool.and_eq_true] at h
     show au (t::ts.take i) b k=true
     unfold au
     simp only[Bool.and_eq_true]
     exact⟨h.1,ih h.2 i⟩
theorem nD (ts:List Tree):∀(i:Nat),sizes (ts.take i)<=sizes ts:=by
 induction ts with
 | nil=>intro i;simp[sizes]
 | cons t ts ih=>
   intro i
   cases i with
   | zero=>exact Nat.zero_le _
   | succ i=>
     have:=ih i
     show t.size+sizes (ts.take i)<=t.size+sizes ts
     omega
theorem P9 (g : Nat) (W : World) : (method 286 45 (JJ (I ⟨g, 0, O⟩)) "mullion/layout.room").run prog W = .ok (137, JJ (I ⟨g, 0, O⟩)) W := by kernel_rfl
theorem Qa (g : Nat) (W : World) : (method 286 83 (JJ (I ⟨g, 0, O⟩)) "mullion/layout.room").run prog W = .ok (145, JJ (I ⟨g, 0, O⟩)) W := by kernel_rfl
theorem QN (a c:Value)(W:World):(callFunc 137 #[a,c]).run prog W=.ok (.enter 137 #[a,c]) W:=by kernel_rfl
theorem QO (a c:Value)(W:World):(callFunc 145 #[a,c]).run prog W=.ok (.enter 145 #[a,c]) W:=by kernel_rfl
structure Qb (w:World)(v:Value)(t:Tree)(T:TypeId)(gi:Nat)(Fr:FuncId):Prop where
 val:v=.iface T (JJ (I ⟨gi,0,O⟩))
 mR : ∀ W, (method 286 T (JJ (I ⟨gi, 0, O⟩)) "mullion/layout.room").run prog W = .ok (Fr, JJ (I ⟨gi, 0, O⟩)) W
 fR:∀a c W,(callFunc Fr #[a,c]).run prog W=.ok (.enter Fr #[a,c]) W
 cR:∀d X,Below w.heap.size w X->Calls prog Fr #[JJ (I ⟨gi,0,O⟩),J Jq d] X fun e w'=>e=Jz (J Jq (t.room d))/\X=w'
def Qc (w:World)(vs:List Value)(ts:List Tree):Prop:=∀(i:Nat) (t:Tree),ts[i]?=I t->∃v T gi Fr,vs[i]?=I v/\Qb w v t T gi Fr
theorem Ir (g:Nat)(b:Box)(p d:Int)(w:World)(h:bD w g b p)(hs:(Tree.leaf b p).sound=true):Calls prog 137 #[JJ (I ⟨g,0,O⟩),J Jq d] w fun e w'=>e=Jz (J Jq (b.ext d-1))/\w=w':=by
 have HE:=zh (dC g b d w h.box)
 have hb:=bT (.leaf b p) d hs
 change 0<=b.ext d-1/\b.ext d-1<=1000*((1:Nat):Int) at hb
 obtain⟨x,hx⟩:∃x,b.ext d=x:=⟨_,rfl⟩
 rw[hx] at HE hb ⊢
 have hw:IntKind.i64.wrap (x-1)=x-1:=by rw[IntKind.wrap_i64];omega
 clear h hs hx hb
 go_enter func137,ntmps137
 go_wp2_with (go_at_call 38;refine HE.out.mono ?_;rintro e w1 ⟨rfl,rfl⟩)
 go_ret
 exact⟨rfl,rfl⟩
theorem EY (g:Nat)(b:Box)(k:Int)(pg n cap:Nat)(vs:List Value)(ts:List Tree)(d:Int)(w:World)(hS:aX w g b k (Jj (I ⟨pg,0,O⟩) n cap))(hn:ts.length=n)(hR:∀(i:Nat) u,vs[i]?=I u->w.cell? ⟨pg,i,O⟩=I u)(hT:Qc w vs ts)(hs:au ts b k=true)(hz:sizes ts<=1000):Calls prog 145 #[JJ (I ⟨g,0,O⟩),J Jq d] w fun e w'=>e=Jz (J Jq (if d=k then bg ts d else aP ts d))/\w=w':=by
 have q4:w.cell? ⟨g,4,O⟩=I (J Jq k):=ae hS 4
 have q5:w.cell? ⟨g,5,O⟩=I (Jj (I ⟨pg,0,O⟩) n cap):=ae hS 5
 have HR:=zh hR
 have HT:=zh hT
 have HN:=zh hn
 have Sc:=zh hs
 have HZ:=zh hz
 have du:n<=1000:=by have:=aI ts;omega
 obtain⟨Z,tL⟩:∃z,(if d=k then bg ts d else aP ts d)=z:=⟨_,rfl⟩
 have FA:=zh tL
 rw[tL]
 clear hS hn hR hT hs hz tL
 go_enter func145,ntmps145
 go_wp2
 go_loopw [5,6,15] (fun va vl v wr=>∃i:Nat,i<=n/\va=J Jq (bg (ts.take i) d)/\vl=J Jq (aP (ts.take i) d)/\v=J Jq i/\w=wr) (fun _ _ v _=>n-(intOf v).toNat)
 case atStart=>exact⟨0,Nat.zero_le _,rfl,rfl,rfl,rfl⟩
 case round=>
  obtain⟨i,hi,rfl,rfl,rfl,rfl⟩:=hrel
  by_cases am:i < n
  . obtain⟨t,ht⟩:∃t,ts[i]?=I t:=⟨_,List.getElem?_eq_getElem (by rw[HN.out];exact am)⟩
    obtain⟨pv,T,gi,Fr,qd,HP⟩:=HT.out i t ht
    have ri:=HR.out i _ qd
    have de:=HP.val
    subst de
    have m1:=HP.mR
    have m2:=HP.fR
    have sR:Hid (Calls prog Fr #[JJ (I ⟨gi,0,O⟩),J Jq d] w fun e w'=>e=Jz (J Jq (t.room d))/\w=w'):=HP.cR d w (Below.refl _ _)
    have h1:=oH ts d i t ht
    have h2:=lX ts d i t ht
    have h3:=(jb (ts.take i) b k d (jK ts b k Sc.out i)).1
    have h4:=(jb (ts.take (i+1)) b k d (jK ts b k Sc.out (i+1))).1
    have h5:=nD ts i
    have h6:=nD ts (i+1)
    have h7:=HZ.out
    obtain⟨A,hA⟩:∃x,bg (ts.take i) d=x:=⟨_,rfl⟩
    obtain⟨B,hB⟩:∃x,aP (ts.take i) d=x:=⟨_,rfl⟩
    obtain⟨R,pT⟩:∃x,t.room d=x:=⟨_,rfl⟩
    rw[hA,pT] at h1
    rw[hB,pT] at h2
    rw[h1] at h4
    rw[hA] at h3
    rw[pT] at sR
    rw[hA,hB]
    have hw:IntKind.i64.wrap (A+R)=A+R:=by rw[IntKind.wrap_i64];omega
    have H1:=zh h1
    have H2:=zh h2
    clear HP qd ht h1 h2 h3 h4 h5 h6 h7 hA hB pT
    go_wp2_with fail
    refine sR.out.mono ?_
    rintro e w1 ⟨rfl,rfl⟩
    go_wp2
    go_roundw
    case rel=>exact⟨i+1,by omega,by rw[H1.out],by rw[H2.out];try (congr 1;split <;> omega),by go_num,trivial⟩
    case measure=>simp[intOf];omega
  . have bE:i=n:=by omega
    subst bE
    rw[List.take_of_length_le (by rw[HN.out];exact Nat.le_refl _)]
    obtain⟨A,hA⟩:∃x,bg ts d=x:=⟨_,rfl⟩
    obtain⟨B,hB⟩:∃x,aP ts d=x:=⟨_,rfl⟩
    rw[hA,hB]
    have FG:Hid (d=k->A=Z):=fun e=>by rw[<- FA.out,if_pos e,hA]
    have sT:Hid (¬d=k->B=Z):=fun e=>by rw[<- FA.out,if_neg e,hB]
    clear hA hB
    by_cases Ay:d=k
    . have LR:(d==k)=true:=by simpa using Ay
      have HD:=zh (FG.out Ay)
      clear Ay FG sT
      go_wp2
      go_ret
      exact⟨by rw[<- HD.out];rfl,rfl⟩
    . have LR:(d==k)=false:=by simpa using Ay
      have HD:=zh (sT.out Ay)
      clear Ay FG sT
      go_wp2
      go_ret
      exact⟨by rw[<- HD.out];rfl,rfl⟩
mutual
theorem Tree.At.Ea:∀{t:Tree} {w:World} {B:Nat} {v:Value} {fp:List Nat},t.At w B v fp->t.sound=true->t.size<=1000->∃T gi Fr,Qb w v t T gi Fr
 | .leaf b p,w,B,v,fp,h,hs,hz=>by
   obtain⟨g,rfl,h2,rfl⟩:=h
   exact⟨_,g,_,{ val:=rfl,mR:=P9 g,fR:=QN,cR:=fun d X hX=>Ir g b p d X (h2.below hX) hs }⟩
 | .split b k ts,w,B,v,fp,h,hs,hz=>by
   obtain⟨g,sl,vs,fs,rfl,h2,h3,h4,rfl⟩:=h
   have dk:=h4.length
   have ej:=hs
   unfold Tree.sound at ej
   simp only[Bool.and_eq_true,decide_eq_true_eq] at ej
   unfold Tree.size at hz
   obtain⟨pg,cap,av,bX⟩:=jV h2 h3 (by intro e;rw[e] at dk;have:=ej.1.1;simp at dk;omega)
   subst av
   refine⟨_,g,_,{ val:=rfl,mR:=Qa g,fR:=QO,cR:=fun d X hX=> ?_ }⟩
   exact EY g b k pg vs.length cap vs ts d X (h2.below hX) dk.symm (fun i u hu=>(hX.cell (p:=⟨pg,i,O⟩) (World.block_lt_of_cell? w _ (bX.row i u hu))).trans (bX.row i u hu)) (aB.qm (h4.below hX) ej.2.1 (by omega)) ej.2.1 (by omega)
theorem aB.qm:∀{ts:List Tree} {w:World} {B:Nat} {vs:List Value} {fp:List Nat} {b:Box} {k:Int},aB w B ts vs fp->au ts b k=true->sizes ts<=1000->Qc w vs ts
 | [],w,B,vs,fp,b,k,h,hs,hz=>by
   intro i t hi
   simp at hi
 | t::ts,w,B,vs,fp,b,k,h,hs,hz=>by
   obtain⟨v,vs',f,f',rfl,h2,h3,rfl⟩:=h
   unfold au at hs
   simp only[Bool.and_eq_true] at hs
   unfold sizes at hz
   have h4:=Tree.At.Ea h2 hs.1.1 (by omega)
   have h5:=aB.qm h3 hs.2 (by omega)
   intro i t' hi
   cases i with
   | zero=>
     simp at hi
     subst hi
     obtain⟨T,gi,Fr,hp⟩:=h4
     exact⟨v,T,gi,Fr,rfl,hp⟩
   | succ i=>exact h5 i t' (by simpa using hi)
end
mutual
def Tree.kinds:Tree->Prop
 | .leaf _ _=>True
 | .split _ k ts=>(k=2\/k=3)/\bi ts
def bi:List Tree->Prop
 | []=>True
 | t::ts=>t.kinds/\bi ts
end
mutual
def Tree.idl:Tree->List Int
 | .leaf _ p=>[p]
 | .split _ _ ts=>kF ts
def kF:List Tree->List Int
 | []=>[]
 | t::ts=>t.idl++kF ts
end
def Md (a b:aj):Bool:=(a.depth==b.depth)&&((a.kind==b.kind)&&((a.x==b.x)&&((a.y==b.y)&&((a.w==b.w)&&((a.h==b.h)&&(a.p==b.p))))))
theorem kQ (a b:aj):Md a b=true↔a=b:=by
 constructor
 . intro h
   unfold Md at h
   simp only[Bool.and_eq_true,beq_iff_eq] at h
   obtain⟨h1,h2,h3,h4,h5,h6,h7⟩:=h
   cases a;cases b
   simp_all
 . rintro rfl
   unfold Md
   simp
theorem lG {P : Program} {w : World} (d : Nat) (xs ys : Array Value) {nm : String} {t : TypeId} {o : Nat} {em : Bool} {tag pk : String} {bo : Nat} (fs : List Field) (a b : Value) (r : Bool) (hn : nm ≠ "_") (ha : (part t xs o).run P w = .ok a w) (hb : (part t ys o).run P w = .ok b w)
 (he:(Op.equalIn d t a b).run P w=.ok r w) (s:Bool) (hs:(Op.eqFields d xs ys fs).run P w=.ok s w):(Op.eqFields d xs ys (⟨nm,t,o,em,tag,pk,bo⟩::fs)).run P w=.ok (r&&s) w:=by
 unfold Op.eqFields
 rw[if_pos hn]
 simp only[Sem.run_bind,ha,hb,he,Result.andThen_ok]
 cases r
 . rfl
 . exact hs
theorem dN {P:Program}{w:World}(t:TypeId)(cs:Array Value)(o:Nat)(v:Value)(h:(isAgg t).run P w=.ok false w)(hv:cs[o]?=I v):(part t cs o).run P w=.ok v w:=by
 unfold part
 simp[Sem.run_bind,h,hv]
theorem PH (a b:aj)(w:World):(Op.equalIn 10000 41 (.agg a.vals) (.agg b.vals)).run prog w=.ok (Md a b) w:=by
 have hu:prog.underlying 41=I (.struct (prog.fieldsOf 41)):=by kernel_rfl
 have hp:prog.stoodInHeld 41=false:=by kernel_rfl
 have hl : (prog.fieldsOf 41).toList = [⟨"Depth", 3, 0, false, "", "", 0⟩, ⟨"Kind", 3, 1, false, "", "", 8⟩, ⟨"X", 3, 2, false, "", "", 16⟩, ⟨"Y", 3, 3, false, "", "", 24⟩, ⟨"W", 3, 4, false, "", "", 32⟩, ⟨"H", 3, 5, false, "", "", 40⟩, ⟨"Pane", 3, 6, false, "", "", 48⟩] := by kernel_rfl
 obtain⟨d,hd⟩:∃d,(10000:Nat)=d+1+1:=⟨9998,rfl⟩
 rw[hd,run_equalIn_struct w (d+1) 41 _ _ hu hp,hl]
 have u3:=underlying3
 have a3:=isAgg3
 have hz:Md a b=((a.depth==b.depth)&&((a.kind==b.kind)&&((a.x==b.x)&&((a.y==b.y)&&((a.w==b.w)&&((a.h==b.h)&&((a.p==b.p)&&true))))))):=by rw[Bool.and_true];rfl
 rw[hz]
 have x0:a.vals[0]?=I (J Jq a.depth):=rfl
 have x1:a.vals[1]?=I (J Jq a.kind):=rfl
 have x2:a.vals[2]?=I (J Jq a.x):=rfl
 have x3:a.vals[3]?=I (J Jq a.y):=rfl
 have x4:a.vals[4]?=I (J Jq a.w):=rfl
 have x5:a.vals[5]?=I (J Jq a.h):=rfl
 have x6:a.vals[6]?=I (J Jq a.p):=rfl
 have y0:b.vals[0]?=I (J Jq b.depth):=rfl
 have y1:b.vals[1]?=I (J Jq b.kind):=rfl
 have y2:b.vals[2]?=I (J Jq b.x):=rfl
 have y3:b.vals[3]?=I (J Jq b.y):=rfl
 have y4:b.vals[4]?=I (J Jq b.w):=rfl
 have y5:b.vals[5]?=I (J Jq b.h):=rfl
 have y6:b.vals[6]?=I (J Jq b.p):=rfl
 obtain⟨xs,hx⟩:∃x,a.vals=x:=⟨_,rfl⟩
 obtain⟨ys,hy⟩:∃x,b.vals=x:=⟨_,rfl⟩
 rw[hx] at x0 x1 x2 x3 x4 x5 x6 ⊢
 rw[hy] at y0 y1 y2 y3 y4 y5 y6 ⊢
 clear hx hy hz
 refine lG (d+1) xs ys _ _ _ _ (by decide) (dN 3 xs 0 _ (a3 w) x0) (dN 3 ys 0 _ (a3 w) y0) (run_equalIn_int w d 3 .i64 .i64 _ _ u3) _ ?_
 refine lG (d+1) xs ys _ _ _ _ (by decide) (dN 3 xs 1 _ (a3 w) x1) (dN 3 ys 1 _ (a3 w) y1) (run_equalIn_int w d 3 .i64 .i64 _ _ u3) _ ?_
 refine lG (d+1) xs ys _ _ _ _ (by decide) (dN 3 xs 2 _ (a3 w) x2) (dN 3 ys 2 _ (a3 w) y2) (run_equalIn_int w d 3 .i64 .i64 _ _ u3) _ ?_
 refine lG (d+1) xs ys _ _ _ _ (by decide) (dN 3 xs 3 _ (a3 w) x3) (dN 3 ys 3 _ (a3 w) y3) (run_equalIn_int w d 3 .i64 .i64 _ _ u3) _ ?_
 refine lG (d+1) xs ys _ _ _ _ (by decide) (dN 3 xs 4 _ (a3 w) x4) (dN 3 ys 4 _ (a3 w) y4) (run_equalIn_int w d 3 .i64 .i64 _ _ u3) _ ?_
 refine lG (d+1) xs ys _ _ _ _ (by decide) (dN 3 xs 5 _ (a3 w) x5) (dN 3 ys 5 _ (a3 w) y5) (run_equalIn_int w d 3 .i64 .i64 _ _ u3) _ ?_
 refine lG (d+1) xs ys _ _ _ _ (by decide) (dN 3 xs 6 _ (a3 w) x6) (dN 3 ys 6 _ (a3 w) y6) (run_equalIn_int w d 3 .i64 .i64 _ _ u3) true ?_
 rfl
theorem EZ (l:List aj):∀(i:Nat) (c:aj) (j:Nat) (u:Value),l[i]?=I c->c.vals[j]?=I u->(bz l)[i*7+j]?=I u:=by
 induction l with
 | nil=>intro i c j u h;simp at h
 | cons a l ih=>
   intro i c j u h hu
   have hj:j < 7:=(Array.getElem?_eq_some_iff.1 hu).1
   have hc:bz (a::l)=a.vals.toList++bz l:=rfl
   cases i with
   | zero=>
     simp at h
     subst h
     rw[hc,List.getElem?_append_left (by show 0*7+j < 7;omega)]
     simpa using hu
   | succ i=>
     rw[hc,List.getElem?_append_right (by show 7<=(i+1)*7+j;omega)]
     show (bz l)[(i+1)*7+j-7]?=_
     rw[show (i+1)*7+j-7=i*7+j by omega]
     exact ih i c j u (by simpa using h) hu
def gW (w:World)(b off:Nat)(l:List aj):Prop:=∀(i:Nat) (c:aj),l[i]?=I c->lQ w b (off+i*7) c
theorem ay.seen {w:World}{v:Value}{l:List aj}(h:ay w v l)(hl:l≠[]):∃b off cap,v=Jj (I ⟨b,off,O⟩) l.length cap/\l.length<=cap/\gW w b off l:=by
 obtain⟨ad,cap,h1,h2,h3⟩:=h.shape
 rcases h3 with h3 | ⟨b,off,rfl,h4⟩
 . exact absurd h3 hl
 . exact⟨b,off,cap,h1,h2,fun i c hi=>lQ.of fun j u hu=>by
    have:=h4 (i*7+j) u (EZ l i c j u hi hu)
    rw[show off+i*7+j=off+(i*7+j) by omega]
    exact this⟩
theorem gW.below {w w':World}{b off:Nat}{l:List aj}(h:gW w b off l)(hb:Below w.heap.size w w'):gW w' b off l:=by
 intro i c hi
 have k:=h i c hi
 have lt:b < w.heap.size:=World.block_lt_of_cell? w _ k.q0
 have go:∀o,w'.cell? ⟨b,o,O⟩=w.cell? ⟨b,o,O⟩:=fun o=>hb.cell (p:=⟨b,o,O⟩) lt
 exact⟨(go _).trans k.q0,(go _).trans k.q1,(go _).trans k.q2,(go _).trans k.q3,(go _).trans k.q4,(go _).trans k.q5,(go _).trans k.q6⟩
theorem az.cellsIn {w:World}{B:Nat}{v:Value}{l:List aj}(h:az w B v l):ay w v l:=by
 rcases h.2 with ⟨rfl,h0⟩ | ⟨g,cap,cur,rfl,hb,hg,h1,h2,h3,h4⟩
 . have:l=[]:=List.length_eq_zero_iff.1 h0
   subst this
   exact⟨O,0,rfl,Nat.le_refl _,.inl rfl⟩
 . refine⟨I ⟨g,0,O⟩,cap,rfl,h1,.inr ⟨g,0,rfl,fun j u hu=> ?_⟩⟩
   rw[Nat.zero_add,ae hg]
   rw[<- h4] at hu
   have hj:j < l.length*7:=by
    have:=(List.getElem?_eq_some_iff.1 hu).1
    simp at this
    omega
   rw[List.getElem?_take_of_lt hj] at hu
   simpa using hu
theorem lS {a b:List aj}{i:Nat}{c d:aj}(h:a.take i=b.take i)(ha:a[i]?=I c)(hb:b[i]?=I d)(e:c=d):a.take (i+1)=b.take (i+1):=by
 rw[List.take_add_one,List.take_add_one,h,ha,hb,e]
theorem vV {a b:List aj}{i:Nat}{c d:aj}(ha:a[i]?=I c)(hb:b[i]?=I d)(e:c≠d):a≠b:=by
 rintro rfl
 rw[ha] at hb
 cases hb
 exact e rfl
theorem Iu (b1 o1 c1 b2 o2 c2 n:Nat)(l1 l2:List aj)(w:World)(h1:gW w b1 o1 l1)(h2:gW w b2 o2 l2)(du:l1.length=n)(fe:l2.length=n)(hn:n<=1000000):
 Calls prog 70 #[Jj (I ⟨b1,o1,O⟩) n c1,Jj (I ⟨b2,o2,O⟩) n c2] w fun e w'=>e=Jz (.bool (decide (l1=l2)))/\Below w.heap.size w w':=by
 have H1:=zh h1
 have H2:=zh h2
 have kx:=zh du
 have ij:=zh fe
 obtain⟨rr,kj⟩:∃r,decide (l1=l2)=r:=⟨_,rfl⟩
 rw[kj]
 have HR:=zh kj
 clear h1 h2 du fe kj
 go_enter func70,ntmps70
 go_wp2
 go_loopw [13] (fun v wr=>∃i:Nat,i<=n/\v=J Jq i/\Hid (l1.take i=l2.take i)/\Hid (Below w.heap.size w wr)) (fun v _=>n-(intOf v).toNat)
 case atStart=>exact⟨0,Nat.zero_le _,rfl,by simp[Hid],Below.refl _ _⟩
 case round=>
  obtain⟨i,hi,rfl,HT,HB⟩:=hrel
  by_cases am:i < n
  . obtain⟨x,hx⟩:∃x,l1[i]?=I x:=⟨_,List.getElem?_eq_getElem (by rw[kx.out];exact am)⟩
    obtain⟨y,hy⟩:∃y,l2[i]?=I y:=⟨_,List.getElem?_eq_getElem (by rw[ij.out];exact am)⟩
    obtain⟨q0,q1,q2,q3,q4,q5,q6⟩:=(H1.out.below HB.out) i x hx
    obtain⟨p0,p1,p2,p3,p4,p5,p6⟩:=(H2.out.below HB.out) i y hy
    obtain⟨r,hr⟩:∃r,Md x y=r:=⟨_,rfl⟩
    have SA:∀W:World,(Op.equalIn 10000 41 (.agg #[J Jq x.depth,J Jq x.kind,J Jq x.x,J Jq x.y,J Jq x.w,J Jq x.h,J Jq x.p]) (.agg #[J Jq y.depth,J Jq y.kind,J Jq y.x,J Jq y.y,J Jq y.w,J Jq y.h,J Jq y.p])).run prog W=.ok r W:=fun W=>by
     have:=PH x y W
     rw[hr] at this
     exact this
    have HE:=zh hr
    have HX:=zh hx
    have HY:=zh hy
    clear hr hx hy
    cases r
    . have HF:Hid (rr=false):=HR.out.symm.trans (decide_eq_false (vV HX.out HY.out fun e=>by rw[(kQ x y).2 e] at HE;cases HE.out))
      go_wp2
      go_quiet (fail)
      go_wp2
      go_ret
      exact⟨by rw[HF.out];rfl,below_drewN HB.out _⟩
    . go_wp2
      go_quiet (fail)
      go_wp2
      go_roundw
      case rel=>exact⟨i+1,by omega,by go_num,lS HT.out HX.out HY.out ((kQ x y).1 HE.out),below_drewN HB.out _⟩
      case measure=>simp[intOf];omega
  . have HF:Hid (rr=true):=HR.out.symm.trans (decide_eq_true (by
     have h:=HT.out
     rwa [List.take_of_length_le (by rw[kx.out];omega),List.take_of_length_le (by rw[ij.out];omega)] at h))
    go_wp2
    go_ret
    exact⟨by rw[HF.out];rfl,HB.out⟩
theorem ay.length {w:World}{v:Value}{l:List aj}(h:ay w v l):∃ad cap,v=Jj ad l.length cap:=by
 obtain⟨ad,cap,h1,_⟩:=h.shape
 exact⟨ad,cap,h1⟩
theorem Iw (a1 a2:Option Addr)(n1 c1 n2 c2:Nat)(w:World)(hn:n1≠n2):
 Calls prog 70 #[Jj a1 n1 c1,Jj a2 n2 c2] w fun e w'=>e=Jz (.bool false)/\w=w':=by
 have h:((n1:Int) != n2)=true:=by simp;omega
 clear hn
 go_enter func70,ntmps70
 go_wp2
 go_ret
 exact⟨rfl,rfl⟩
theorem Iy (a1 a2:Option Addr)(c1 c2:Nat)(w:World):
 Calls prog 70 #[Jj a1 0 c1,Jj a2 0 c2] w fun e w'=>e=Jz (.bool true)/\w=w':=by
 go_enter func70,ntmps70
 go_wp2
 go_loopw [13] (fun v wr=>v=J Jq 0/\w=wr) (fun _ _=>0)
 case atStart=>exact⟨rfl,rfl⟩
 case round=>
  obtain⟨rfl,rfl⟩:=hrel
  go_wp2
  go_ret
  exact⟨rfl,rfl⟩
theorem KU (v1 v2:Value)(l1 l2:List aj)(w:World)(h1:ay w v1 l1)(h2:ay w v2 l2)(hn:l1.length<=1000000):
 Calls prog 70 #[v1,v2] w fun e w'=>e=Jz (.bool (decide (l1=l2)))/\Below w.heap.size w w':=by
 by_cases hl:l1.length=l2.length
 . by_cases h0:l1=[]
   . subst h0
     have SB:l2=[]:=List.length_eq_zero_iff.1 hl.symm
     subst SB
     obtain⟨a1,c1,rfl⟩:=h1.nil
     obtain⟨a2,c2,rfl⟩:=h2.nil
     exact (Iy a1 a2 c1 c2 w).mono fun e w' h=>⟨by rw[h.1];simp,h.2 ▸ Below.refl _ _⟩
   . have SC:l2≠[]:=by rintro rfl;exact h0 (List.length_eq_zero_iff.1 hl)
     obtain⟨b1,o1,c1,rfl,_,k1⟩:=h1.seen h0
     obtain⟨b2,o2,c2,rfl,_,k2⟩:=h2.seen SC
     rw[<- hl]
     exact Iu b1 o1 c1 b2 o2 c2 l1.length l1 l2 w k1 k2 rfl hl.symm hn
 . obtain⟨a1,c1,rfl⟩:=h1.length
   obtain⟨a2,c2,rfl⟩:=h2.length
   refine (Iw a1 a2 _ c1 _ c2 w hl).mono fun e w' h=>⟨?_,h.2 ▸ Below.refl _ _⟩
   rw[h.1,decide_eq_false]
   intro e
   exact hl (congrArg _ e)
theorem NR (b1 o1 c1 b2 o2 c2 n:Nat)(l1 l2:List aj)(w:World)(h1:gW w b1 o1 l1)(h2:gW w b2 o2 l2)(du:l1.length=n)(fe:l2.length=n)(hn:n<=1000000):
 Calls prog 8 #[Jj (I ⟨b1,o1,O⟩) n c1,Jj (I ⟨b2,o2,O⟩) n c2] w fun e w'=>e=Jz (.bool (decide (l1=l2)))/\Below w.heap.size w w':=by
 have H1:=zh h1
 have H2:=zh h2
 have kx:=zh du
 have ij:=zh fe
 obtain⟨rr,kj⟩:∃r,decide (l1=l2)=r:=⟨_,rfl⟩
 rw[kj]
 have HR:=zh kj
 clear h1 h2 du fe kj
 go_enter func8,ntmps8
 go_wp2
 go_loopw [5] (fun v wr=>∃i:Nat,i<=n/\v=J Jq i/\Hid (l1.take i=l2.take i)/\Hid (Below w.heap.size w wr)) (fun v _=>n-(intOf v).toNat)
 case atStart=>exact⟨0,Nat.zero_le _,rfl,by simp[Hid],Below.refl _ _⟩
 case round=>
  obtain⟨i,hi,rfl,HT,HB⟩:=hrel
  by_cases am:i < n
  . obtain⟨x,hx⟩:∃x,l1[i]?=I x:=⟨_,List.getElem?_eq_getElem (by rw[kx.out];exact am)⟩
    obtain⟨y,hy⟩:∃y,l2[i]?=I y:=⟨_,List.getElem?_eq_getElem (by rw[ij.out];exact am)⟩
    obtain⟨q0,q1,q2,q3,q4,q5,q6⟩:=(H1.out.below HB.out) i x hx
    obtain⟨p0,p1,p2,p3,p4,p5,p6⟩:=(H2.out.below HB.out) i y hy
    obtain⟨r,hr⟩:∃r,Md x y=r:=⟨_,rfl⟩
    have SA:∀W:World,(Op.equalIn 10000 41 (.agg #[J Jq x.depth,J Jq x.kind,J Jq x.x,J Jq x.y,J Jq x.w,J Jq x.h,J Jq x.p]) (.agg #[J Jq y.depth,J Jq y.kind,J Jq y.x,J Jq y.y,J Jq y.w,J Jq y.h,J Jq y.p])).run prog W=.ok r W:=fun W=>by
     have:=PH x y W
     rw[hr] at this
     exact this
    have HE:=zh hr
    have HX:=zh hx
    have HY:=zh hy
    clear hr hx hy
    cases r
    . have HF:Hid (rr=false):=HR.out.symm.trans (decide_eq_false (vV HX.out HY.out fun e=>by rw[(kQ x y).2 e] at HE;cases HE.out))
      go_wp2
      go_quiet (fail)
      go_wp2
      go_ret
      exact⟨by rw[HF.out];rfl,below_drewN HB.out _⟩
    . go_wp2
      go_quiet (fail)
      go_wp2
      go_roundw
      case rel=>exact⟨i+1,by omega,by go_num,lS HT.out HX.out HY.out ((kQ x y).1 HE.out),below_drewN HB.out _⟩
      case measure=>simp[intOf];omega
  . have HF:Hid (rr=true):=HR.out.symm.trans (decide_eq_true (by
     have h:=HT.out
     rwa [List.take_of_length_le (by rw[kx.out];omega),List.take_of_length_le (by rw[ij.out];omega)] at h))
    go_wp2
    go_ret
    exact⟨by rw[HF.out];rfl,HB.out⟩
theorem F5 (a1 a2:Option Addr)(n1 c1 n2 c2:Nat)(w:World)(hn:n1≠n2):
 Calls prog 8 #[Jj a1 n1 c1,Jj a2 n2 c2] w fun e w'=>e=Jz (.bool false)/\w=w':=by
 have h:((n1:Int) != n2)=true:=by simp;omega
 clear hn
 go_enter func8,ntmps8
 go_wp2
 go_ret
 exact⟨rfl,rfl⟩
theorem FZ (a1 a2:Option Addr)(c1 c2:Nat)(w:World):
 Calls prog 8 #[Jj a1 0 c1,Jj a2 0 c2] w fun e w'=>e=Jz (.bool true)/\w=w':=by
 go_enter func8,ntmps8
 go_wp2
 go_loopw [5] (fun v wr=>v=J Jq 0/\w=wr) (fun _ _=>0)
 case atStart=>exact⟨rfl,rfl⟩
 case round=>
  obtain⟨rfl,rfl⟩:=hrel
  go_wp2
  go_ret
  exact⟨rfl,rfl⟩
theorem Ak (v1 v2:Value)(l1 l2:List aj)(w:World)(h1:ay w v1 l1)(h2:ay w v2 l2)(hn:l1.length<=1000000):
 Calls prog 8 #[v1,v2] w fun e w'=>e=Jz (.bool (decide (l1=l2)))/\Below w.heap.size w w':=by
 by_cases hl:l1.length=l2.length
 . by_cases h0:l1=[]
   . subst h0
     have SB:l2=[]:=List.length_eq_zero_iff.1 hl.symm
     subst SB
     obtain⟨a1,c1,rfl⟩:=h1.nil
     obtain⟨a2,c2,rfl⟩:=h2.nil
     exact (FZ a1 a2 c1 c2 w).mono fun e w' h=>⟨by rw[h.1];simp,h.2 ▸ Below.refl _ _⟩
   . have SC:l2≠[]:=by rintro rfl;exact h0 (List.length_eq_zero_iff.1 hl)
     obtain⟨b1,o1,c1,rfl,_,k1⟩:=h1.seen h0
     obtain⟨b2,o2,c2,rfl,_,k2⟩:=h2.seen SC
     rw[<- hl]
     exact NR b1 o1 c1 b2 o2 c2 l1.length l1 l2 w k1 k2 rfl hl.symm hn
 . obtain⟨a1,c1,rfl⟩:=h1.length
   obtain⟨a2,c2,rfl⟩:=h2.length
   refine (F5 a1 a2 _ c1 _ c2 w hl).mono fun e w' h=>⟨?_,h.2 ▸ Below.refl _ _⟩
   rw[h.1,decide_eq_false]
   intro e
   exact hl (congrArg _ e)
def pF (zs:List Int):List Int:=zs.mergeSort fun x y=>decide (x<=y)
theorem pG (zs:List Int):(pF zs).length=zs.length:=List.length_mergeSort zs
theorem zU (zs:List Int):(pF zs).Perm zs:=List.mergeSort_perm zs _
theorem vw (zs:List Int):(pF zs).Pairwise (·<=·):=by
 have h:=List.pairwise_mergeSort (le:=fun x y:Int=>decide (x<=y)) (fun a b c h1 h2=>by simp at*;omega) (fun a b=>by simp;omega) zs
 exact h.imp fun h=>by simpa using h
theorem DJ {zs:List Int}(h:(Go.Lib.compact zs).length=zs.length):∀j,j < zs.length->Go.Lib.keeps zs.toArray j=true:=by
 unfold Go.Lib.compact Go.Lib.compactUpTo at h
 rw[List.length_map] at h
 have h2:((List.range zs.length).filter (Go.Lib.keeps zs.toArray)).length=(List.range zs.length).length:=by rw[h];simp
 intro j hj
 exact List.length_filter_eq_length_iff.1 h2 j (List.mem_range.2 hj)
theorem Fv {zs:List Int}(h:zs.Pairwise (· < ·)):∀j,j < zs.length->Go.Lib.keeps zs.toArray j=true:=by
 intro j hj
 cases j with
 | zero=>exact Go.Lib.keeps_lt_one _ 0 (by omega)
 | succ j=>
   refine Go.Lib.keeps_pos ?_
   have:=(List.pairwise_iff_getElem.1 h) j (j+1) (by omega) hj (by omega)
   rw[getElem!_pos zs.toArray (j+1) (by simpa using hj),Nat.add_sub_cancel,getElem!_pos zs.toArray j (by simp;omega)]
   simp only[List.getElem_toArray]
   omega
theorem Fz {zs:List Int}(hs:zs.Pairwise (·<=·))(h:∀j,j < zs.length->Go.Lib.keeps zs.toArray j=true):zs.Pairwise (· < ·):=by
 rw[List.pairwise_iff_getElem] at hs ⊢
 intro i j hi hj rN
 obtain⟨k,rfl⟩:∃k,j=k+1:=⟨j-1,by omega⟩
 have hk:=h (k+1) hj
 unfold Go.Lib.keeps at hk
 rw[decide_eq_true_eq] at hk
 rcases hk with hk | hk
 . omega
 . rw[getElem!_pos zs.toArray (k+1) (by simpa using hj),Nat.add_sub_cancel,getElem!_pos zs.toArray k (by simp;omega)] at hk
   simp only[List.getElem_toArray] at hk
   have h1:=hs k (k+1) (by omega) hj (by omega)
   by_cases e:i=k
   . subst e;omega
   . have:=hs i k hi (by omega) (by omega)
     omega
theorem A8 (zs:List Int):decide ((Go.Lib.compact (pF zs)).length=(pF zs).length)=decide zs.Nodup:=by
 rw[decide_eq_decide]
 constructor
 . intro h
   have:=Fz (vw zs) (DJ h)
   have hn:(pF zs).Nodup:=this.imp fun h=>by omega
   exact (zU zs).nodup_iff.1 hn
 . intro h
   have hn:(pF zs).Nodup:=(zU zs).nodup_iff.2 h
   have hl:(pF zs).Pairwise (· < ·):=by
    have h1:=vw zs
    have h2:(pF zs).Pairwise (·≠·):=hn
    exact (List.Pairwise.and h1 h2).imp fun h=>by omega
   rw[Go.Lib.compact_all _ (Fv hl)]
def aH (l:List aj):List Int:=(l.filter fun c=>decide (c.kind=1)).map fun c=>c.p
def dD (w:World)(B:Nat)(v:Value)(zs:List Int):Prop:=w.ownsRow B 3 1 v zs.length (zs.map (Value.int .i64))
theorem dD.below {w w':World}{B:Nat}{v:Value}{zs:List Int}(h:dD w B v zs)(hb:Below w.heap.size w w'):dD w' B v zs:=own_below h hb
theorem dD.grown {w w':World}{B:Nat}{v:Value}{zs:List Int}{o:Obj}(hg:(w.alloc o).grownBy w' v.ownBlock)(hv:dD w B v zs)(W:World)(hb:Below B W w)(hB:B<=w.heap.size):Below B W w':=by
 have am:=World.ownsRow.lt hv
 have h1:Below B W (w.alloc o):=hb.alloc hB o
 refine⟨hg.os.trans h1.os,hg.tape.trans h1.tape,hg.output.trans h1.output,Nat.le_trans h1.size hg.size,fun k hk=> ?_⟩
 refine (hg.block k ?_ ?_).trans (h1.block k hk)
 . have:(w.alloc o).heap.size=w.heap.size+1:=by simp
   omega
 . intro e
   have:=(am k e.symm).1
   omega
theorem KT:(prog.info? 3).map (fun i=>(i.zero,i.size,i.bytes))=I (I (J Jq 0),1,8):=by kernel_rfl
theorem mD {ops:Array Oper}{rest:List Oper}{o:Oper}{a:Act}{Q:Exit->Act->World->Prop}(w:World)(e9:o.guard=O)(s x:Operand)
 (ho:o.op=.call { callee:=.builtin .append,args:=#[s,x],argTypes:=#[96,96] })
 (B:Nat) (v:Value) (zs:List Int) (p:Int) (hs:a.eval s=v) (bm:dD w B v zs) (hx:a.eval x=Jj (I ⟨w.heap.size,0,O⟩) 1 1) (hlen:zs.length<=16777216) (hB:B<=w.heap.size)
 (h:∀v' w',dD w' B v' (zs++[p])->(w.alloc (JZ #[J Jq p] 3)).grownBy w' v.ownBlock->wpList prog ops Q rest (a.put o.dst v') w'):wpList prog ops Q (o::rest) a (w.alloc (JZ #[J Jq p] 3)):=by
 obtain⟨i0,hi,eh,db,cJ⟩:=bH KT
 refine wpList_append_own_at _ e9 s x 96 ho B 3 i0 (J Jq 0) 1 8 underlying96 hi eh db cJ rfl (by decide) v zs.length (zs.map (Value.int .i64)) hs (World.ownsRow.alloc bm _) ⟨w.heap.size,0,O⟩ 1 1 [J Jq p] hx rfl ?_ ?_ ?_ ?_ ?_ ?_
 . intro j u hu
   rw[show (⟨w.heap.size,0,O⟩:Addr).add j=⟨w.heap.size,j,O⟩ by unfold Addr.add;split <;> simp_all,dW]
   simpa using hu
 . intro u hu
   simp only[List.mem_cons,List.not_mem_nil,or_false] at hu
   subst hu
   rfl
 . unfold maxLen;omega
 . omega
 . have:(w.alloc (JZ #[J Jq p] 3)).heap.size=w.heap.size+1:=by simp
   omega
 . intro v' w' h2 h3 _ _
   refine h v' w' ?_ h3
   unfold dD
   rw[List.map_append,List.length_append]
   simpa using h2
theorem Iq (l:List aj)(i:Nat)(c:aj)(h:l[i]?=I c):aH (l.take (i+1))=aH (l.take i)++(if c.kind=1 then [c.p] else []):=by
 unfold aH
 rw[List.take_add_one,h,List.filter_append,List.map_append]
 congr 1
 by_cases hk:c.kind=1 <;> simp[hk]
theorem pz (l:List aj):(aH l).length<=l.length:=by
 unfold aH
 rw[List.length_map]
 exact List.length_filter_le _ _
theorem Dl (b off cap n:Nat)(l:List aj)(w:World)(h:gW w b off l)(hn:l.length=n)(du:n<=1000000):
 Calls prog 51 #[Jj (I ⟨b,off,O⟩) n cap] w fun e w'=>∃u,e=Jz u/\dD w' w.heap.size u (aH l)/\Below w.heap.size w w':=by
 have H1:=zh h
 have HN:=zh hn
 clear h hn
 go_enter func51,ntmps51
 go_wp2
 go_loopw [3,8] (fun u v wr=>∃i:Nat,i<=n/\v=J Jq i/\Hid (dD wr w.heap.size u (aH (l.take i)))/\Hid (Below w.heap.size w wr)) (fun _ v _=>n-(intOf v).toNat)
 case atStart=>exact⟨0,Nat.zero_le _,rfl,World.ownsRow_nil _ _ _ _,Below.refl _ _⟩
 case round=>
  obtain⟨i,hi,rfl,HO,HB⟩:=hrel
  by_cases am:i < n
  . obtain⟨x,hx⟩:∃x,l[i]?=I x:=⟨_,List.getElem?_eq_getElem (by rw[HN.out];exact am)⟩
    obtain⟨q0,q1,q2,q3,q4,q5,q6⟩:=(H1.out.below HB.out) i x hx
    have HT:=zh (Iq l i x hx)
    clear hx
    have HL:Hid ((aH (l.take i)).length<=16777216):=by
     have:=pz (l.take i)
     rw[List.length_take,HN.out] at this
     show _<=_
     omega
    have hsz:=HB.out.size
    have HA:Hid (∀o,Below wr.heap.size wr (wr.alloc o)):=fun o=>(Below.refl _ _).alloc (Nat.le_refl _) o
    by_cases hk:x.kind=1
    . go_wp2_with (refine mD _ rfl (.tmp 15) (.tmp 18) rfl w.heap.size _ _ x.p (by simp[Act.eval]) (HO.out.below ?x1) (by simp[Act.eval]) HL.out ?x2 ?x3)
      case x1=>exact HA.out _
      case x2=>exact Nat.le_trans hsz (HA.out _).size
      case x3=>
       intro v' w' h1 h2
       have WB:Hid (dD w' w.heap.size v' (aH (l.take (i+1)))):=by
        rw[HT.out,if_pos hk]
        exact h1
       have HB':Hid (Below w.heap.size w w'):=dD.grown h2 (HO.out.below (HA.out _)) w (HB.out.alloc hsz _) (Nat.le_trans hsz (HA.out _).size)
       clear h1 h2
       go_wp2
       go_roundw
       case rel=>exact⟨i+1,by omega,by go_num,WB,HB'⟩
       case measure=>simp[intOf];omega
    . go_wp2
      go_roundw
      case rel=>exact⟨i+1,by omega,by go_num,by rw[HT.out,if_neg hk,List.append_nil];exact HO.out.below (HA.out _),HB.out.alloc hsz _⟩
      case measure=>simp[intOf];omega
  . go_wp2
    go_ret
    have h:dD wr w.heap.size u3 (aH l):=by
     have h:=HO.out
     rwa [List.take_of_length_le (by rw[HN.out];omega)] at h
    exact⟨_,rfl,h,HB.out⟩
theorem Dn (a:Option Addr)(cap:Nat)(w:World):
 Calls prog 51 #[Jj a 0 cap] w fun e w'=>e=Jz (Jj O 0 0)/\w=w':=by
 go_enter func51,ntmps51
 go_wp2
 go_loopw [3,8] (fun u v wr=>u=Jj O 0 0/\v=J Jq 0/\w=wr) (fun _ _ _=>0)
 case atStart=>exact⟨rfl,rfl,rfl⟩
 case round=>
  obtain⟨rfl,rfl,rfl⟩:=hrel
  go_wp2
  go_ret
  exact⟨rfl,rfl⟩
theorem nZ (v:Value)(l:List aj)(w:World)(h:ay w v l)(hn:l.length<=1000000):
 Calls prog 51 #[v] w fun e w'=>∃u,e=Jz u/\dD w' w.heap.size u (aH l)/\Below w.heap.size w w':=by
 by_cases h0:l=[]
 . subst h0
   obtain⟨a,c,rfl⟩:=h.nil
   exact (Dn a c w).mono fun e w' h=>⟨_,h.1,World.ownsRow_nil _ _ _ _,h.2 ▸ Below.refl _ _⟩
 . obtain⟨b,off,cap,rfl,_,k⟩:=h.seen h0
   exact Dl b off cap l.length l w k rfl hn
def I8 (zs:List Int):Bool:=decide (zs.length<=32)&&decide zs.Nodup
theorem NP (a:Option Addr)(c:Nat)(w:World):Calls prog 71 #[Jj a 0 c] w fun e w'=>e=Jz (.bool true)/\w=w':=by
 have H1:Hid (∀W,Calls prog 88 #[Jj a 0 c] W fun e w'=>e=Jz (.tuple #[])/\w'=W):=fun W=>slices_Sort_int_none a c W
 have H2:Hid (∀W,Calls prog 89 #[Jj a 0 c] W fun e w'=>e=Jz (Jj a 0 c)/\w'=W):=fun W=>slices_Compact_int_empty a c W
 go_enter func71,ntmps71
 go_wp2_with (first | (go_at_call 88;refine (H1.out _).mono ?_;rintro e w1 ⟨rfl,h⟩;subst h) | (go_at_call 89;refine (H2.out _).mono ?_;rintro e w1 ⟨rfl,h⟩;subst h))
 go_ret
 exact⟨rfl,rfl⟩
theorem NQ (g cap n:Nat)(zs:List Int)(B:Nat)(w0 w:World)(h:w.ownsRow B 3 1 (Jj (I ⟨g,0,O⟩) n cap) n (zs.map (Value.int .i64)))(hn:zs.length=n)(hw:Below B w0 w)(kq:n<=1000000):Calls prog 71 #[Jj (I ⟨g,0,O⟩) n cap] w fun e w'=>e=Jz (.bool (I8 zs))/\Below B w0 w':=by
 obtain⟨g',cap',e,Tl,sY,TE,tf,hlen,hH⟩:=Go.Lib.holds_of_ownsRow h (by intro e;cases e)
 cases e
 have H1:Hid (Calls prog 88 #[Jj (I ⟨g,0,O⟩) n cap] w fun e w'=>e=Jz (.tuple #[])/\Below B w0 w'/\
  Calls prog 89 #[Jj (I ⟨g,0,O⟩) n cap] w' fun e w''=>e=Jz (Jj (I ⟨g,0,O⟩) (Go.Lib.compact (pF zs)).length cap)/\Below B w0 w''):=by
  have h1:=slices_Sort_int g 0 cap zs w hH sY (by omega)
  rw[hn] at h1
  refine h1.mono ?_
  rintro e w1 ⟨rfl,q,os,rfl⟩
  have hsz:(pF zs).length=n:=(pG zs).trans hn
  have pr:w.grownBy (Go.Sort.grow (Go.Sort.putRow (Value.int .i64) (Go.Sort.ahead w q) g 0 (pF zs).toArray) os) (I g):=by
   refine⟨rfl,rfl,rfl,by simp,fun k hk a7=> ?_⟩
   rw[Go.Sort.heap_grow_old _ _ (by simpa using hk)]
   have:g≠k:=fun e=>a7 (by rw[e])
   simp[Go.Sort.putRow,Go.Sort.mapBlock,Go.Sort.ahead,Array.getElem?_modify,this]
  have TF:Below B w0 (Go.Sort.grow (Go.Sort.putRow (Value.int .i64) (Go.Sort.ahead w q) g 0 (pF zs).toArray) os):=hw.grown pr (by omega) (fun j hj=>by cases hj;exact Tl)
  refine⟨rfl,TF,?_⟩
  have hH2:Go.Sort.Holds (Value.int .i64) (Go.Sort.grow (Go.Sort.putRow (Value.int .i64) (Go.Sort.ahead w q) g 0 (pF zs).toArray) os) g 0 (pF zs).toArray:=
   Go.Sort.holds_grow (Value.int .i64) _ os g 0 _ (by simpa [Go.Sort.putRow,Go.Sort.mapBlock,Go.Sort.ahead] using sY) (Go.Sort.holds_putRow (Value.int .i64) _ g 0 _ _ (Go.Sort.holds_ahead (Value.int .i64) w q g 0 _ hH) (by simp[pG]))
  have h2:=slices_Compact_int g 0 cap (pF zs) _ hH2 (by omega) (by omega)
  rw[hsz] at h2
  refine h2.mono ?_
  rintro e w2 ⟨rfl,q2,rfl⟩
  exact⟨rfl,Go.Lib.below_putRow TF Tl⟩
 obtain⟨m,hm⟩:∃m,(Go.Lib.compact (pF zs)).length=m:=⟨_,rfl⟩
 obtain⟨r,hr⟩:∃r,I8 zs=r:=⟨_,rfl⟩
 have HR:Hid (r=(decide (n<=32)&&decide (m=n))):=by
  show r=_
  rw[<- hr,<- hm]
  unfold I8
  rw[hn,<- A8,pG,hn]
 rw[hr]
 rw[hm] at H1
 clear h hw sY TE tf hlen hH hr hm hn Tl
 by_cases sr:n<=32
 . have hi:((n:Int)<=32):=by omega
   have tA:Hid (r=decide (m=n)):=by
    show r=_
    rw[HR.out]
    simp[sr]
   have Vf:((m:Int)==n)=decide (m=n):=by
    by_cases e:m=n
    . simp[e]
    . simp[e]
      omega
   clear HR sr
   obtain⟨s,hs⟩:∃s,decide (m=n)=s:=⟨_,rfl⟩
   rw[hs] at tA Vf
   clear hs
   go_enter func71,ntmps71
   go_wp2_with (first | (go_at_call 88;refine H1.out.mono ?_;rintro e w1 ⟨rfl,bj,hc⟩;have HC:Hid (Calls prog 89 #[Jj (I ⟨g,0,O⟩) n cap] w1 _):=hc;clear hc bj) | (go_at_call 89;refine HC.out.mono ?_;rintro e w2 ⟨rfl,al⟩))
   go_ret
   exact⟨by rw[tA.out];rfl,al⟩
 . have hi:¬((n:Int)<=32):=by omega
   have tA:Hid (r=false):=by
    show r=_
    rw[HR.out]
    simp[sr]
   clear HR sr
   go_enter func71,ntmps71
   go_wp2_with (go_at_call 88;refine H1.out.mono ?_;rintro e w1 ⟨rfl,bj,hc⟩;clear hc)
   go_ret
   exact⟨by rw[tA.out];rfl,bj⟩
def lenOf:Value->Nat
 | Jj _ n _=>n
 | _=>0
theorem ay.lenOf {w:World}{v:Value}{l:List aj}(h:ay w v l):Go.Proofs.YtejlincnnonhaaaGreat.lenOf v=l.length:=by
 obtain⟨ad,cap,e,_⟩:=h.shape
 subst e
 rfl
theorem iO {w:World}{B:Nat}{t:TypeId}{v:Value}{n:Nat}{vs:List Value}(h:w.ownsRow B t 1 v n vs):∃sa sn sc,v=Jj sa sn sc:=by
 rcases h.2 with ⟨h0,_⟩ | ⟨g,cap,cur,e,_⟩
 . exact⟨_,_,_,h0⟩
 . exact⟨_,_,_,e⟩
def OJ (W0:World)(l:List aj)(d:Int)(w:World)(e:Ending)(w':World):Prop:=∃sa sn sc v',e=Jz (.tuple #[Jj sa sn sc,v'])/\vI W0 l d w (Jj sa sn sc) v' (di l d).1 (di l d).2 w'
theorem EE (l:List aj)(v:Value)(d:Int)(W0 w:World)(hv:ay W0 v l)(hl:l.length<=1000)
 (HT:∀r v' X,r.length<=l.length->Below w.heap.size w X->ay W0 v' r->Calls prog 69 #[v',J Jq d] X (wu W0 r v' d X)):
 Calls prog 87 #[v,J Jq d] w (OJ W0 l d w):=by
 have H:=zh HT
 have H0:Hid (vI W0 l d w (Jj O 0 0) v [] l w):=⟨⟨[],[],World.ownsRow_nil _ _ _ _,⟨rfl,rfl⟩,by simp[Value.ownBlock],by simp[Value.ownBlock]⟩,by simp,hv,Below.refl _ _,by simp⟩
 clear HT hv
 go_enter func87,ntmps87
 go_wp2_with fail
 go_loopw [0,6] (fun v sl wr=>∃(r:List aj) (ts:List Tree) (sa:Option Addr) (sn sc:Nat),sl=Jj sa sn sc/\Hid (vI W0 l d w (Jj sa sn sc) v ts r wr)) (fun v _ _=>lenOf v)
 case atStart=>exact⟨l,[],O,0,0,rfl,H0⟩
 case round=>
  obtain⟨r,ts,sa,sn,sc,rfl,HA⟩:=hrel
  have hlen:=HA.out.len
  have HC:Hid (Calls prog 69 #[u0,J Jq d] wr (wu W0 r u0 d wr)):=H.out r u0 wr (by omega) HA.out.below HA.out.rest
  have j9:=HA.out.rest.lenOf
  have Hlo:=zh j9
  clear hlen j9 H0
  go_wp2_with fail
  refine HC.out.mono ?_
  rintro e w2 (⟨hn,rfl,hb⟩ | ⟨t,r',T,g,fp,v',ht,rfl,bq,aE,cf,hc,hb⟩)
  . obtain⟨k1,k2⟩:=HA.out.none hn hb
    have HK:Hid (vI W0 l d w (Jj sa sn sc) u0 (di l d).1 (di l d).2 w2):=by rw[k2];exact k1
    clear k1 k2 hn hb
    unfold eH
    go_wp2
    go_ret2
    exact⟨_,_,_,_,rfl,HK.out⟩
  . obtain⟨vs,k1,k2,k3⟩:=HA.out.next ht bq aE cf hc hb
    have k9:=kH r d t r' ht
    have HO:=zh k1
    have HK:=k3 (JZ #[.iface T (JJ (I ⟨g,0,O⟩))] 70)
    have lr:=zh HK
    have xl:vs.length<=16777216:=by omega
    have Hsh:=zh k9
    clear k1 k2 k3 HK ht bq aE cf hc hb k9
    go_wp2_with (at_builtin;refine rW w2 rfl (.tmp 19) (.tmp 21) rfl (Jj sa sn sc) vs T g rfl HO.out rfl xl ?_;intro sl' w3 a1 a2 a3;have HN:Hid (vI W0 l d w sl' v' (ts++[t]) r' w3):=lr.out sl' w3 a1 a2 a3;have av:=iO a1;clear a1 a2 a3)
    obtain⟨sa',sn',sc',rfl⟩:=av
    go_roundw
    case rel=>exact⟨r',ts++[t],sa',sn',sc',rfl,HN⟩
    case measure=>
     rw[HN.out.rest.lenOf,Hlo.out]
     exact Hsh.out
theorem take_any:∀(m:Nat) (l:List aj) (v:Value) (d:Int) (W0 w:World),l.length<=m->(0<=d/\d+l.length<=1000)->Below W0.heap.size W0 w->ay W0 v l->Calls prog 69 #[v,J Jq d] w (wu W0 l v d w)
 | m,[],v,d,W0,w,hm,hd,hW,hv=>by
   exact (CS v [] d w (hv.below hW) (.inl rfl)).mono fun e w' h=>.inl ⟨iy d,h.1,h.2 ▸ Below.refl _ _⟩
 | 0,c::l,v,d,W0,w,hm,hd,hW,hv=>by
   simp at hm
 | m+1,c::l,v,d,W0,w,hm,hd,hW,hv=>by
   have hF:=jG c l d
   rw[List.length_cons] at hm hd
   by_cases mB:c.depth=d
   . rw[if_pos mB] at hF
     subst mB
     by_cases h1:c.kind=1
     . rw[if_pos h1] at hF
       refine (J7 v c l W0 w hW hv h1).mono fun e w' h=> ?_
       obtain⟨g,v',e1,e2,e3,e4,e5⟩:=h
       exact .inr ⟨_,_,_,g,[g],v',hF,e1,⟨g,rfl,e3,rfl⟩,by simp,by simpa using e2,e4,e5⟩
     . rw[if_neg h1] at hF
       by_cases Fy:c.kind=2\/c.kind=3
       . rw[if_pos Fy] at hF
         refine (take_split v c l W0 w hW (fun sl v' X w2=>vI W0 l (c.depth+1) X sl v' (di l (c.depth+1)).1 (di l (c.depth+1)).2 w2) hv Fy (by omega) ?_).mono ?_
         . intro X v1 hX S5
           refine (EE l v1 (c.depth+1) W0 X S5 (by omega) ?_).mono ?_
           . intro r v' X' hr sM il
             exact take_any m r v' (c.depth+1) W0 X' (by omega) (by omega) (af hW (af hX sM)) il
           . rintro e w' ⟨sa,sn,sc,v',e1,e2⟩
             exact⟨sa,sn,sc,v',e1,e2,e2.below⟩
         . rintro e w' ⟨g,sl,v',X,w2,e1,e2,e3,e4,e5,e6,e7⟩
           obtain⟨vs,fs,k1,k2,k3,k4⟩:=e3.row
           have hXs:=e2.size
           have h2s:=e4.size
           refine .inr ⟨_,_,_,g,g::(sl.ownBlock.toList++fs),v',hF,e1,⟨g,sl,vs,fs,rfl,e6,own_below k1 e7,k2.below e7,rfl⟩,?_,?_,e3.rest,af e2 (af e4 e7)⟩
           . refine List.nodup_cons.2 ⟨fun hm=> ?_,k3⟩
             rcases List.mem_append.1 hm with hm | hm
             . have:=oZ k1 g hm;omega
             . have:=k2.lt g hm;omega
           . intro q hq
             rcases List.mem_cons.1 hq with rfl | hq
             . omega
             . have:=k4 q hq;omega
       . rw[if_neg Fy] at hF
         exact (Ie v c l w (hv.below hW) ⟨h1,fun e=>Fy (.inl e),fun e=>Fy (.inr e)⟩).mono fun e w' h=>.inl ⟨hF,h.1,h.2⟩
   . rw[if_neg mB] at hF
     exact (CS v (c::l) d w (hv.below hW) (.inr ⟨c,l,rfl,mB⟩)).mono fun e w' h=>.inl ⟨hF,h.1,h.2 ▸ Below.refl _ _⟩
theorem G7:∀(m:Nat) (l:List aj) (d:Int),l.length<=m->l.length<=200->(∀t r,jO l d=I (t,r)->t.fine/\t.size+r.length=l.length)/\(Af (di l d).1/\sizes (di l d).1+(di l d).2.length=l.length/\(di l d).1.length+(di l d).2.length<=l.length):=by
 intro m
 induction m with
 | zero=>
   intro l d hm _
   have:l=[]:=List.length_eq_zero_iff.1 (by omega)
   subst this
   refine⟨fun t r h=> ?_,?_⟩
   . rw[iy] at h;cases h
   . rw[iC,iy]
     exact⟨trivial,rfl,Nat.le_refl _⟩
 | succ m ih=>
   intro l d hm VP
   have one:∀t r,jO l d=I (t,r)->t.fine/\t.size+r.length=l.length:=by
    intro t r h
    cases l with
    | nil=>rw[iy] at h;cases h
    | cons c l=>
      rw[List.length_cons] at hm VP
      obtain⟨_,k1,k2,k3⟩:=ih l (d+1) (by omega) (by omega)
      rw[jG] at h
      split at h
      . split at h
        . cases h
          exact⟨trivial,by show 1+_=_;rw[List.length_cons];omega⟩
        . split at h
          . rename_i Fy
            cases h
            refine⟨⟨Fy,by omega,k1⟩,?_⟩
            show 1+sizes _+_=_
            rw[List.length_cons]
            omega
          . cases h
      . cases h
   refine⟨one,?_⟩
   rw[iC]
   cases h:jO l d with
   | none=>exact⟨trivial,by show 0+l.length=l.length;omega,by show 0+l.length<=l.length;omega⟩
   | some p=>
     obtain⟨t,r⟩:=p
     have hr:=kH l d t r h
     obtain⟨a1,a2⟩:=one t r h
     obtain⟨_,k1,k2,k3⟩:=ih r d (by omega) (by omega)
     refine⟨⟨a1,k1⟩,?_,?_⟩
     . show t.size+sizes _+(di r d).2.length=l.length
       omega
     . show (di r d).1.length+1+(di r d).2.length<=l.length
       omega
def aT (l:List aj):Option Tree:=
 if 63 < l.length then O else
 match jO l 0 with
 | none=>O
 | some (t,_)=>if t.sound=true/\(t.moved 0 0).tell 0=l/\I8 (aH l)=true then I (t.moved 0 0) else O
def kW (l:List aj)(w:World)(e:Ending)(w':World):Prop:=
 (aT l=O/\e=Jz eH/\Below w.heap.size w w')\/
 (∃t T g fp,aT l=I t/\e=Jz (.iface T (JJ (I ⟨g,0,O⟩)))/\t.At w' 0 (.iface T (JJ (I ⟨g,0,O⟩))) fp/\fp.Nodup/\(∀q∈fp,w.heap.size<=q)/\Below w.heap.size w w')
theorem IZ {l:List aj}(h:63 < l.length):aT l=O:=by unfold aT;rw[if_pos h]
theorem uA {l:List aj}(h:jO l 0=O):aT l=O:=by
 unfold aT
 split
 . rfl
 . rw[h]
theorem uz {l:List aj}{t:Tree}{r:List aj}(h0:¬ 63 < l.length)(h:jO l 0=I (t,r)):aT l=if t.sound=true/\(t.moved 0 0).tell 0=l/\I8 (aH l)=true then I (t.moved 0 0) else O:=by
 unfold aT
 rw[if_neg h0,h]
theorem L6 (v:Value)(l:List aj)(w:World)(h:ay w v l)(hl:63 < l.length):Calls prog 35 #[v] w (kW l w):=by
 obtain⟨ad,cap,rfl⟩:=h.length
 have HF:Hid (kW l w (Jz eH) w):=.inl ⟨IZ hl,rfl,Below.refl _ _⟩
 obtain⟨n,hn⟩:∃n,l.length=n:=⟨_,rfl⟩
 rw[hn] at hl ⊢
 have hi:(63:Int) < n:=by omega
 clear hn h hl
 go_enter func35,ntmps35
 go_wp2
 go_ret
 exact HF.out
theorem Pv (u:Value)(zs:List Int)(w0 w:World)(B:Nat)(h:dD w B u zs)(hw:Below B w0 w)(hn:zs.length<=1000000):Calls prog 71 #[u] w fun e w'=>e=Jz (.bool (I8 zs))/\Below B w0 w':=by
 rcases h.2 with ⟨rfl,h0⟩ | ⟨g,cap,cur,rfl,hb,r⟩
 . have:zs=[]:=List.length_eq_zero_iff.1 h0
   subst this
   exact (NP O 0 w).mono fun e w' h=>⟨h.1,h.2 ▸ hw⟩
 . exact NQ g cap zs.length zs B w0 w h rfl hw hn
structure Behind (l:List aj)(v:Value)(t:Tree)(T:TypeId)(g:Nat)(fp:List Nat)(w w1:World)(Fs:FuncId):Prop where
 mS : ∀ W, (method 286 T (JJ (I ⟨g, 0, O⟩)) "mullion/layout.sound").run prog W = .ok (Fs, JJ (I ⟨g, 0, O⟩)) W
 fS:∀a W,(callFunc Fs #[a]).run prog W=.ok (.enter Fs #[a]) W
 cS:Calls prog Fs #[JJ (I ⟨g,0,O⟩)] w1 fun e w2=>e=Jz (.bool t.sound)/\Below w1.heap.size w1 w2
 cL:∀w2,Below w1.heap.size w1 w2->t.sound=true->Calls prog 15 #[.iface T (JJ (I ⟨g,0,O⟩))] w2 fun e w3=>∃u,e=Jz u/\Below w.heap.size w w3/\
  Calls prog 70 #[u,v] w3 fun e w4=>e=Jz (.bool (decide ((t.moved 0 0).tell 0=l)))/\Below w.heap.size w w4/\
  Calls prog 51 #[v] w4 fun e w5=>∃z,e=Jz z/\Below w.heap.size w w5/\
  Calls prog 71 #[z] w5 fun e w6=>e=Jz (.bool (I8 (aH l)))/\Below w.heap.size w w6/\(t.moved 0 0).At w6 0 (.iface T (JJ (I ⟨g,0,O⟩))) fp
theorem behind (l:List aj)(v:Value)(t:Tree)(T:TypeId)(g:Nat)(fp:List Nat)(w w1:World)(hv:ay w v l)(hl:¬ 63 < l.length)(r:List aj)(hF:jO l 0=I (t,r))(bq:t.At w1 0 (.iface T (JJ (I ⟨g,0,O⟩))) fp)(aE:fp.Nodup)(be:∀q∈fp,w.heap.size<=q)(hb:Below w.heap.size w w1):∃Fs,Behind l v t T g fp w w1 Fs:=by
 obtain⟨qb,hsz⟩:=(G7 l.length l 0 (Nat.le_refl _) (by omega)).1 t r hF
 obtain⟨T',gi,Fs,Fa,hp⟩:=bq.JS qb
 have e:=hp.val
 cases e
 refine⟨Fs,hp.mS,hp.fS,hp.cS w1 (Below.refl _ _),fun w2 h2 hs=> ?_⟩
 have G0:=bq.below h2
 refine (xG t 0 _ fp w2 G0 aE hs qb (by omega)).mono ?_
 rintro e w3 ⟨u,rfl,hu,XY,dT⟩
 have al:Below w.heap.size w w2:=af hb h2
 have aM:Below w.heap.size w w3:=⟨dT.os.trans al.os,dT.tape.trans al.tape,dT.output.trans al.output,Nat.le_trans al.size dT.size,fun q hq=>(dT.block q (by have:=al.size;omega) (fun e=>by have:=be q e;omega)).trans (al.block q hq)⟩
 refine⟨u,rfl,aM,?_⟩
 refine (KU u v _ l w3 hu.cellsIn (hv.below aM) (by rw[Tree.eu,Tree.iI];omega)).mono ?_
 rintro e w4 ⟨rfl,h4⟩
 have cv:=af aM h4
 refine⟨rfl,cv,?_⟩
 refine (nZ v l w4 (hv.below cv) (by omega)).mono ?_
 rintro e w5 ⟨z,rfl,hz,h5⟩
 refine⟨z,rfl,af cv h5,?_⟩
 refine (Pv z _ w4 w5 w4.heap.size hz h5 (by have:=pz l;omega)).mono ?_
 rintro e w6 ⟨rfl,h6⟩
 exact⟨rfl,af cv h6,(XY.below h4).below h6⟩
theorem read_short (v:Value)(l:List aj)(w:World)(h:ay w v l)(hl:¬ 63 < l.length):Calls prog 35 #[v] w (kW l w):=by
 have HT:Hid (Calls prog 69 #[v,J Jq 0] w (wu w l v 0 w)):=take_any l.length l v 0 w w (Nat.le_refl _) (by omega) (Below.refl _ _) h
 have HV:=zh h
 have HL:=zh hl
 obtain⟨ad,cap,ud⟩:=h.length
 obtain⟨n,hn⟩:∃n,l.length=n:=⟨_,rfl⟩
 rw[hn] at ud
 have hi:¬((63:Int) < n):=by omega
 subst ud
 clear hn h hl
 go_enter func35,ntmps35
 go_wp2_with fail
 refine HT.out.mono ?_
 rintro e w1 (⟨hF,rfl,hb⟩ | ⟨t,r,T,g,fp,v',hF,rfl,bq,aE,be,hc,hb⟩)
 . have HG:Hid (kW l w (Jz eH) w1):=.inl ⟨uA hF,rfl,hb⟩
   clear hF hb
   unfold eH at HG ⊢
   go_wp2
   go_ret
   exact HG.out
 . have Uu:Hid (aT l=_):=uz HL.out hF
   obtain⟨Fs,sT⟩:=behind l _ t T g fp w w1 HV.out HL.out r hF bq aE be hb
   have HP:=zh sT
   have m1:=sT.mS
   have m2:=sT.fS
   have Z9:Hid (fp.Nodup/\(∀q∈fp,w.heap.size<=q)):=⟨aE,be⟩
   have cY:=zh hb
   clear hF bq aE be hc hb sT
   go_wp2_with fail
   refine HP.out.cS.mono ?_
   rintro e w2 ⟨rfl,al⟩
   have XZ:=zh (HP.out.cL w2 al)
   have aD:=zh (af cY.out al)
   obtain⟨sd,ar⟩:∃s,t.sound=s:=⟨_,rfl⟩
   rw[ar] at Uu XZ
   rw[ar]
   clear HP al cY ar m1 m2
   cases sd
   . have HG:Hid (kW l w (Jz eH) w2):=.inl ⟨by rw[Uu.out];simp,rfl,aD.out⟩
     unfold eH at HG
     go_wp2
     go_ret
     exact HG.out
   . have X7:Hid (Calls prog 15 _ w2 _):=XZ.out rfl
     clear XZ
     go_wp2_with fail
     refine X7.out.mono ?_
     rintro e w3 ⟨u,rfl,aM,GF⟩
     have HC3:=zh GF
     clear aM GF
     go_wp2_with fail
     refine HC3.out.mono ?_
     rintro e w4 ⟨rfl,cv,te⟩
     have gr:=zh cv
     have Pt:=zh te
     obtain⟨q,hq⟩:∃q,decide ((t.moved 0 0).tell 0=l)=q:=⟨_,rfl⟩
     rw[hq]
     have HQ:=zh hq
     clear cv te hq
     cases q
     . have HG:Hid (kW l w (Jz eH) w4):=.inl ⟨by rw[Uu.out,if_neg (fun h=>(of_decide_eq_false HQ.out) h.2.1)],rfl,gr.out⟩
       unfold eH at HG
       go_wp2
       go_ret
       exact HG.out
     . go_wp2_with fail
       refine Pt.out.mono ?_
       rintro e w5 ⟨z,rfl,cd,hc5⟩
       have fN:=zh hc5
       clear cd hc5
       go_wp2_with fail
       refine fN.out.mono ?_
       rintro e w6 ⟨rfl,eM,Pw⟩
       obtain⟨f,hf⟩:∃f,I8 (aH l)=f:=⟨_,rfl⟩
       rw[hf]
       cases f
       . have HG:Hid (kW l w (Jz eH) w6):=.inl ⟨by rw[Uu.out,hf];simp,rfl,eM⟩
         unfold eH at HG
         clear eM Pw hf
         go_wp2
         go_ret
         exact HG.out
       . have HG:Hid (kW l w (Jz (.iface T (JJ (I ⟨g,0,O⟩)))) w6):=.inr ⟨t.moved 0 0,T,g,fp,by rw[Uu.out,hf,if_pos (by simp[of_decide_eq_true HQ.out])],rfl,Pw,Z9.out.1,Z9.out.2,eM⟩
         clear eM Pw hf
         go_wp2
         go_ret
         exact HG.out
theorem pO (v:Value)(l:List aj)(w:World)(h:ay w v l):Calls prog 35 #[v] w (kW l w):=by
 by_cases hl:63 < l.length
 . exact L6 v l w h hl
 . exact read_short v l w h hl
def pM (l:List aj):Int:=if (aT l).isNone then 40 else 0
theorem check_any (v:Value)(l:List aj)(w:World)(h:ay w v l):Calls prog 17 #[v] w fun e w'=>e=Jz (J Jq (pM l))/\Below w.heap.size w w':=by
 have HR:=zh (pO v l w h)
 clear h
 go_enter func17,ntmps17
 go_wp2_with fail
 refine HR.out.mono ?_
 rintro e w1 (⟨hF,rfl,hb⟩ | ⟨t,T,g,fp,hF,rfl,bq,aE,be,hb⟩)
 . have HE:Hid (pM l=40):=by show pM l=40;unfold pM;rw[hF];rfl
   unfold eH
   clear hF
   go_wp2
   go_ret
   exact⟨by rw[HE.out];rfl,hb⟩
 . have HE:Hid (pM l=0):=by show pM l=0;unfold pM;rw[hF];rfl
   clear hF bq aE be
   go_wp2
   go_ret
   exact⟨by rw[HE.out];rfl,hb⟩
inductive Node where
 | mk (k w h i:Int) (ks:List Node)
def Node.k:Node->Int | .mk k _ _ _ _=>k
def Node.w:Node->Int | .mk _ w _ _ _=>w
def Node.h:Node->Int | .mk _ _ h _ _=>h
def Node.i:Node->Int | .mk _ _ _ i _=>i
def Node.ks:Node->List Node | .mk _ _ _ _ ks=>ks
def Node.ext (n:Node)(d:Int):Int:=if d=2 then n.w else n.h
mutual
def ag:Tree->Node
 | .leaf b p=>.mk 1 b.w b.h p []
 | .split b k ts=>.mk k b.w b.h 0 (nodesOf ts)
def nodesOf:List Tree->List Node
 | []=>[]
 | t::ts=>ag t::nodesOf ts
end
mutual
def kP:Nat->aj->List aj->Node × List aj
 | 0,c,r=>(.mk c.kind c.w c.h c.p [],r)
 | n+1,c,r=>(.mk c.kind c.w c.h c.p (dn n c.depth r).1,(dn n c.depth r).2)
def dn:Nat->Int->List aj->List Node × List aj
 | 0,_,r=>([],r)
 | n+1,d,r=>match r with
   | []=>([],[])
   | c::r=>if d < c.depth then ((kP n c r).1::(dn n d (kP n c r).2).1,(dn n d (kP n c r).2).2) else ([],c::r)
end
mutual
def Node.ok:Node->Bool
 | .mk k w h i ks=>((decide (1<=w)&&decide (1<=h))&&(decide (1<=k)&&decide (k<=3)))&&
   (if k=1 then (decide (ks.length=0)&&idB i) else ((decide (2<=ks.length)&&decide (i=0))&&(gU ks k w h&&decide (JD ks k=if k=2 then w else h))))
def gU:List Node->Int->Int->Int->Bool
 | [],_,_,_=>true
 | n::r,k,w,h=>(((!decide (n.k=k))&&(decide (n.w<=w)&&decide (n.h<=h)))&&(n.ok&&(if k=2 then decide (n.h=h) else decide (n.w=w))))&&gU r k w h
def JD:List Node->Int->Int
 | [],_=> -1
 | n::r,k=>n.ext k+1+JD r k
end
mutual
def Node.ids:Node->List Int
 | .mk k _ _ i ks=>if k=1 then [i] else gV ks
def gV:List Node->List Int
 | []=>[]
 | n::r=>n.ids++gV r
end
def jY:Int->List aj->Bool
 | _,[]=>true
 | p,c::r=>(decide (1<=c.depth)&&decide (c.depth<=p+1))&&jY c.depth r
def Low (d:Int)(r:List aj):Prop:=r=[]\/∃c r',r=c::r'/\c.depth<=d
theorem BN (t:Tree)(d:Int):∃c r,t.tell d=c::r/\c.depth=d:=by
 cases t with
 | leaf b p=>exact⟨_,_,rfl,rfl⟩
 | split b k ts=>exact⟨_,_,rfl,rfl⟩
theorem xk (ts:List Tree)(d:Int)(r:List aj)(h:Low d r):Low d (bJ ts d++r):=by
 cases ts with
 | nil=>exact h
 | cons t ts=>
   obtain⟨c,r',h1,h2⟩:=BN t d
   refine .inr ⟨c,r'++bJ ts d++r,?_,by omega⟩
   show (t.tell d++bJ ts d)++r=_
   rw[h1]
   simp
theorem Low.mono {d e:Int}{r:List aj}(h:Low d r)(hd:d<=e):Low e r:=by
 rcases h with h | ⟨c,r',h1,h2⟩
 . exact .inl h
 . exact .inr ⟨c,r',h1,by omega⟩
theorem xq (n:Nat)(d:Int)(r:List aj)(h:Low d r):dn n d r=([],r):=by
 cases n with
 | zero=>rfl
 | succ n=>
   rcases h with rfl | ⟨c,r',rfl,h2⟩
   . rfl
   . unfold dn
     simp only[]
     rw[if_neg (by omega)]
mutual
theorem BO:∀(t:Tree) (d:Int) (m:Nat) (r:List aj) (c:aj) (l:List aj),2*t.size<=m->Low d r->t.tell d++r=c::l->kP m c l=(ag t,r)
 | .leaf b p,d,m,r,c,l,hm,hl,he=>by
   have Ri:(⟨d,1,b.x,b.y,b.w,b.h,p⟩:aj)::r=c::l:=he
   cases Ri
   cases m with
   | zero=>rfl
   | succ n=>
     unfold kP
     rw[xq n d r hl]
     rfl
 | .split b k ts,d,m,r,c,l,hm,hl,he=>by
   have Ri:(⟨d,k,b.x,b.y,b.w,b.h,0⟩:aj)::(bJ ts (d+1)++r)=c::l:=he
   cases Ri
   unfold Tree.size at hm
   obtain⟨n,rfl⟩:∃n,m=n+1:=⟨m-1,by omega⟩
   unfold kP
   rw[uI ts d n r (by omega) hl]
   rfl
theorem uI:∀(ts:List Tree) (d:Int) (m:Nat) (r:List aj),2*sizes ts+1<=m->Low d r->dn m d (bJ ts (d+1)++r)=(nodesOf ts,r)
 | [],d,m,r,hm,hl=>xq m d r hl
 | t::ts,d,m,r,hm,hl=>by
   obtain⟨n,rfl⟩:∃n,m=n+1:=⟨m-1,by omega⟩
   unfold sizes at hm
   have hp:=t.kK
   obtain⟨c,l,h1,h2⟩:=BN t (d+1)
   have ck:Low (d+1) (bJ ts (d+1)++r):=xk ts (d+1) r (hl.mono (by omega))
   have hg:=BO t (d+1) n (bJ ts (d+1)++r) c (l++(bJ ts (d+1)++r)) (by omega) ck (by rw[h1];rfl)
   have ih:=uI ts d n r (by omega) hl
   show dn (n+1) d ((t.tell (d+1)++bJ ts (d+1))++r)=_
   rw[List.append_assoc,h1]
   show dn (n+1) d (c::(l++(bJ ts (d+1)++r)))=_
   unfold dn
   simp only[]
   rw[if_pos (by omega),hg]
   simp only[]
   rw[ih]
   rfl
end
mutual
theorem BP:∀(t:Tree) (d:Int) (r:List aj),t.kinds->Low d r->jO (t.tell d++r) d=I (t,r)
 | .leaf b p,d,r,hk,hl=>by
   show jO ((⟨d,1,b.x,b.y,b.w,b.h,p⟩:aj)::r) d=_
   rw[jG,if_pos rfl,if_pos rfl]
   rfl
 | .split b k ts,d,r,hk,hl=>by
   show jO ((⟨d,k,b.x,b.y,b.w,b.h,0⟩:aj)::(bJ ts (d+1)++r)) d=_
   rw[jG,if_pos rfl,if_neg (by show ¬k=1;rcases hk.1 with h | h <;> omega),if_pos hk.1,uJ ts (d+1) r hk.2 (hl.mono (by omega)) (by
    rcases hl with rfl | ⟨c,r',rfl,h2⟩
    . exact .inl rfl
    . exact .inr ⟨c,r',rfl,by omega⟩)]
   rfl
theorem uJ:∀(ts:List Tree) (d:Int) (r:List aj),bi ts->Low d r->(r=[]\/∃c r',r=c::r'/\c.depth≠d)->di (bJ ts d++r) d=(ts,r)
 | [],d,r,hk,hl,hr=>by
   show di r d=_
   rw[iC]
   rcases hr with rfl | ⟨c,r',rfl,h⟩
   . rw[iy]
   . rw[jG,if_neg h]
 | t::ts,d,r,hk,hl,hr=>by
   show di ((t.tell d++bJ ts d)++r) d=_
   rw[List.append_assoc,iC,BP t d (bJ ts d++r) hk.1 (xk ts d r hl)]
   simp only[]
   rw[uJ ts d r hk.2 hl hr]
end
mutual
theorem Hq:∀(t:Tree) (d p:Int) (r:List aj),1<=d->d<=p+1->(∀q,d<=q->jY q r=true)->jY p (t.tell d++r)=true
 | .leaf b q,d,p,r,h1,h2,hr=>by
   show ((decide (1<=d)&&decide (d<=p+1))&&jY d r)=true
   rw[hr d (by omega)]
   simp[h1,h2]
 | .split b k ts,d,p,r,h1,h2,hr=>by
   show ((decide (1<=d)&&decide (d<=p+1))&&jY d (bJ ts (d+1)++r))=true
   rw[nM ts (d+1) d r (by omega) (by omega) (fun q hq=>hr q (by omega))]
   simp[h1,h2]
theorem nM:∀(ts:List Tree) (d p:Int) (r:List aj),1<=d->d<=p+1->(∀q,d<=q+1->jY q r=true)->jY p (bJ ts d++r)=true
 | [],d,p,r,h1,h2,hr=>hr p h2
 | t::ts,d,p,r,h1,h2,hr=>by
   show jY p ((t.tell d++bJ ts d)++r)=true
   rw[List.append_assoc]
   exact Hq t d p _ h1 h2 (fun q hq=>nM ts d q r h1 (by omega) hr)
end
mutual
theorem jo:∀(t:Tree) (d:Int),t.kinds->(ag t).ids=aH (t.tell d)
 | .leaf b p,d,hk=>by
   show (if (1:Int)=1 then [p] else gV [])=_
   rw[if_pos rfl]
   rfl
 | .split b k ts,d,hk=>by
   have h1:¬k=1:=by rcases hk.1 with h | h <;> omega
   show (if k=1 then [0] else gV (nodesOf ts))=aH ((⟨d,k,b.x,b.y,b.w,b.h,0⟩:aj)::bJ ts (d+1))
   rw[if_neg h1,xu ts (d+1) hk.2]
   unfold aH
   rw[List.filter_cons_of_neg (by simpa using h1)]
theorem xu:∀(ts:List Tree) (d:Int),bi ts->gV (nodesOf ts)=aH (bJ ts d)
 | [],d,hk=>rfl
 | t::ts,d,hk=>by
   show (ag t).ids++gV (nodesOf ts)=aH (t.tell d++bJ ts d)
   rw[jo t d hk.1,xu ts d hk.2]
   unfold aH
   rw[List.filter_append,List.map_append]
end
mutual
theorem nH:∀(t:Tree),t.kinds->t.sound=true->t.size+1<=2*(ag t).ids.length
 | .leaf b p,hk,hs=>by
   show 1+1<=2*(if (1:Int)=1 then [p] else gV []).length
   rw[if_pos rfl]
   exact Nat.le_refl _
 | .split b k ts,hk,hs=>by
   have h1:¬k=1:=by rcases hk.1 with h | h <;> omega
   unfold Tree.sound at hs
   simp only[Bool.and_eq_true,decide_eq_true_eq] at hs
   have:=BQ ts b k hk.2 hs.2.1
   have h2:=hs.1.1
   show 1+sizes ts+1<=2*(if k=1 then [0] else gV (nodesOf ts)).length
   rw[if_neg h1]
   omega
theorem BQ:∀(ts:List Tree) (b:Box) (k:Int),bi ts->au ts b k=true->sizes ts+ts.length<=2*(gV (nodesOf ts)).length
 | [],b,k,hk,hs=>Nat.le_refl _
 | t::ts,b,k,hk,hs=>by
   unfold au at hs
   simp only[Bool.and_eq_true] at hs
   have h1:=nH t hk.1 hs.1.1
   have h2:=BQ ts b k hk.2 hs.2
   show t.size+sizes ts+(ts.length+1)<=2*((ag t).ids++gV (nodesOf ts)).length
   rw[List.length_append]
   omega
end
theorem bV (t:Tree):(ag t).w=t.box.w:=by cases t <;> rfl
theorem bW (t:Tree):(ag t).h=t.box.h:=by cases t <;> rfl
theorem zk (t:Tree)(k:Int):(ag t).ext k=t.box.ext k:=by
 unfold Node.ext Box.ext
 rw[bV,bW]
theorem ax:∀(ts:List Tree),(nodesOf ts).length=ts.length
 | []=>rfl
 | t::ts=>by
   show (nodesOf ts).length+1=ts.length+1
   rw[ax ts]
theorem xw:∀(ts:List Tree) (k:Int),JD (nodesOf ts) k=aN ts k
 | [],k=>rfl
 | t::ts,k=>by
   show (ag t).ext k+1+JD (nodesOf ts) k=t.box.ext k+1+aN ts k
   rw[zk,xw ts k]
theorem zl (ts:List Tree)(b:Box)(k:Int)(h:au ts b k=true): -1<=aN ts k:=by
 induction ts with
 | nil=>exact Int.le_refl _
 | cons t ts ih=>
   have hs:=vT (t::ts) b k 0 t rfl h
   unfold au at h
   simp only[Bool.and_eq_true] at h
   have:=ih h.2
   show -1<=t.box.ext k+1+aN ts k
   omega
theorem Hr (ts:List Tree)(b:Box)(k:Int)(h:au ts b k=true):∀t∈ts,t.box.ext k<=aN ts k:=by
 induction ts with
 | nil=>intro t ht;cases ht
 | cons a ts ih=>
   intro t ht
   have ha:=vT (a::ts) b k 0 a rfl h
   have hp:=zl (a::ts) b k h
   unfold au at h
   simp only[Bool.and_eq_true] at h
   have j1:=zl ts b k h.2
   show t.box.ext k<=a.box.ext k+1+aN ts k
   rcases List.mem_cons.1 ht with rfl | ht
   . omega
   . have:=ih h.2 t ht
     omega
theorem xx (t:Tree)(k:Int)(hk:k=2\/k=3)(h:t.bY k=false):¬(ag t).k=k:=by
 cases t with
 | leaf b p=>
   show ¬(1:Int)=k
   rcases hk with h | h <;> omega
 | split b j ts=>
   show ¬j=k
   exact of_decide_eq_false h
theorem fE (k:Int)(w:World):Calls prog 36 #[J Jq k] w fun e w'=>e=Jz (.bool (decide (k=2\/k=3)))/\w=w':=by
 by_cases h2:k=2
 . subst h2
   go_enter func36,ntmps36
   go_wp2
   go_ret
   exact⟨rfl,rfl⟩
 . have k2:(k==2)=false:=by simpa using h2
   obtain⟨r,hr⟩:∃r,(k==3)=r:=⟨_,rfl⟩
   have HR:Hid (decide (k=2\/k=3)=r):=by
    show _=_
    rw[<- hr]
    simp[h2]
    cases h:(k==3) <;> simp_all
   clear h2
   go_enter func36,ntmps36
   go_wp2
   go_ret
   exact⟨by rw[HR.out];rfl,rfl⟩
def dM (s:Int):Int:=(s-1) / 2
theorem Gq (s:Int)(w:World)(hs:1<=s/\s<=1000000):Calls prog 73 #[J Jq s] w fun e w'=>e=Jz (J Jq (dM s))/\w=w':=by
 have hw:IntKind.i64.wrap (s-1)=s-1:=by rw[IntKind.wrap_i64];omega
 have hq:(s-1).tdiv 2=dM s:=by unfold dM;rw[Int.tdiv_eq_ediv_of_nonneg (by omega)]
 have rj:IntKind.i64.wrap (dM s)=dM s:=by rw[IntKind.wrap_i64];unfold dM;omega
 go_enter func73,ntmps73
 go_wp2
 go_ret
 exact⟨rfl,rfl⟩
def gZ (z s:Int):Int:=if z < 1 then dM s else z
theorem uo (z s:Int)(w:World)(hs:1<=s/\s<=1000000):Calls prog 39 #[J Jq z,J Jq s] w fun e w'=>e=Jz (J Jq (gZ z s))/\w=w':=by
 have HH:Hid (∀W,Calls prog 73 #[J Jq s] W fun e w'=>e=Jz (J Jq (dM s))/\W=w'):=fun W=>Gq s W hs
 unfold gZ
 by_cases hz:z < 1
 . rw[if_pos hz]
   clear hs
   go_enter func39,ntmps39
   go_wp2_with (go_at_call 73;refine (HH.out _).mono ?_;rintro e w1 ⟨rfl,rfl⟩)
   go_ret
   exact⟨rfl,rfl⟩
 . rw[if_neg hz]
   clear hs
   go_enter func39,ntmps39
   go_wp2
   go_ret
   exact⟨rfl,rfl⟩
theorem Dw (g:Nat)(b:Box)(p:Int)(w:World)(h:bD w g b p):Calls prog 140 #[JJ (I ⟨g,0,O⟩),J Jq p] w fun e w'=>e=Jz (.tuple #[Jj O 0 0,JJ (I ⟨g,0,O⟩)])/\w=w':=by
 have q4:w.cell? ⟨g,4,O⟩=I (J Jq p):=ae h 4
 clear h
 go_enter func140,ntmps140
 go_wp2
 all_goals go_ret2
 all_goals exact⟨rfl,rfl⟩
theorem l7 (g:Nat)(b:Box)(p k n:Int)(w:World)(h:bD w g b p)(h1: -1000000<=b.w/\b.w<=1000000)(h2: -1000000<=b.h/\b.h<=1000000)(h3: -1000000<=n/\n<=1000000):
 Calls prog 41 #[JJ (I ⟨g,0,O⟩),J Jq k,J Jq n] w fun e w'=>e=Jz (.tuple #[])/\bD w' g (b.str k n) p/\w.grownBy w' (I g):=by
 obtain⟨q0,q1,q2,q3,qf⟩:=h.box
 have f2:=qf 2 (by decide)
 have f3:=qf 3 (by decide)
 have HL:=zh h
 have w1:IntKind.i64.wrap (b.w+n)=b.w+n:=by rw[IntKind.wrap_i64];omega
 have w2:IntKind.i64.wrap (b.h+n)=b.h+n:=by rw[IntKind.wrap_i64];omega
 clear qf h h1 h2 h3
 by_cases hk:k=2
 . subst hk
   go_enter func41,ntmps41
   go_wp2
   exact⟨rfl,.tuple #[],(by simp[results,results41,go_sem]),rfl,HL.out.set 2 (J Jq (b.w+n)) (b':=b.str 2 n) rfl,grownBy_set _ _ _ _⟩
 . have dt:(k==2)=false:=by simpa using hk
   have cg:b.str k n={ b with h:=b.h+n }:=if_neg hk
   rw[cg]
   go_enter func41,ntmps41
   go_wp2
   exact⟨rfl,.tuple #[],(by simp[results,results41,go_sem]),rfl,HL.out.set 3 (J Jq (b.h+n)) (b':={ b with h:=b.h+n }) rfl,grownBy_set _ _ _ _⟩
def jF (l:List aj)(id:Int):Int:=if idB id=false\/(aH l).contains id=true then 43 else if (aH l).length=32 then 45 else 0
theorem Dx (u:Value)(zs:List Int)(x:Int)(B:Nat)(w:World)(h:dD w B u zs)(hn:zs.length<=1000000):Calls prog 72 #[u,J Jq x] w fun e w'=>e=Jz (.bool (zs.contains x))/\w=w':=by
 rcases h.2 with ⟨rfl,h0⟩ | ⟨g,cap,cur,rfl,hb,hg,h1,h2,h3,h4⟩
 . have:zs=[]:=List.length_eq_zero_iff.1 h0
   subst this
   exact (slices_Contains_int_empty O 0 x w).mono fun e w' h=>⟨by rw[h.1];rfl,h.2.symm⟩
 . have hc:∀j,j < zs.length->w.cell? ⟨g,0+j,O⟩=I (J Jq (zs.getD j 0)):=by
    intro j hj
    rw[Nat.zero_add,ae hg]
    have:(cur.toList.take (zs.length*1))[j]?=(zs.map (Value.int .i64))[j]?:=by rw[h4]
    rw[List.getElem?_take_of_lt (by omega)] at this
    rw[<- Array.getElem?_toList,this]
    simp[List.getD,hj]
   refine (slices_Contains_int g 0 zs.length cap zs x w (Nat.le_refl _) (by omega) hc).mono fun e w' h=> ?_
   rw[List.take_of_length_le (Nat.le_refl _)] at h
   exact⟨h.1,h.2.symm⟩
theorem CO (l:List aj)(id:Int)(a c:Bool)(n:Nat)(ha:idB id=a)(hc:(aH l).contains id=c)(hn:(aH l).length=n):jF l id=if a=false\/c=true then 43 else if n=32 then 45 else 0:=by
 unfold jF
 rw[ha,hc,hn]
theorem iY (v:Value)(l:List aj)(id:Int)(w:World)(h:ay w v l)(hl:l.length<=1000):Calls prog 37 #[v,J Jq id] w fun e w'=>e=Jz (J Jq (jF l id))/\Below w.heap.size w w':=by
 have HP:Hid (Calls prog 51 #[v] w fun e w'=>∃ad n cap,e=Jz (Jj ad n cap)/\(aH l).length=n/\Below w.heap.size w w'/\Calls prog 72 #[Jj ad n cap,J Jq id] w' fun e w2=>e=Jz (.bool ((aH l).contains id))/\w'=w2):=by
  refine (nZ v l w h (by omega)).mono ?_
  rintro e w1 ⟨u,rfl,hu,hb⟩
  have hc:=Dx u _ id _ w1 hu (by have:=pz l;omega)
  rcases hu.2 with ⟨rfl,h0⟩ | ⟨g,cap,cur,rfl,_⟩
  . exact⟨O,0,0,rfl,h0,hb,hc⟩
  . exact⟨_,_,_,rfl,rfl,hb,hc⟩
 have HI:=zh (vW id)
 obtain⟨a,ha⟩:∃a,idB id=a:=⟨_,rfl⟩
 obtain⟨c,hc⟩:∃c,(aH l).contains id=c:=⟨_,rfl⟩
 have HE:Hid (∀n,(aH l).length=n->jF l id=if a=false\/c=true then 43 else if n=32 then 45 else 0):=fun n=>CO l id a c n ha hc
 obtain⟨r,hr⟩:∃r,jF l id=r:=⟨_,rfl⟩
 rw[ha] at HI
 rw[hc] at HP
 rw[hr] at HE ⊢
 clear ha hc hr h
 go_enter func37,ntmps37
 go_wp2_with fail
 refine HP.out.mono ?_
 rintro e w1 ⟨ad,n,cap,rfl,hn,hb,Ru⟩
 have HB:=zh hb
 have HC:=zh Ru
 have sE:Hid _:=HE.out n hn
 clear hb Ru hn HE
 cases a
 . have HR:Hid (r=43):=by show r=43;have h:=sE.out;simpa using h
   go_wp2_with (go_at_call 14;refine (HI.out _).mono ?_;rintro e w2 ⟨rfl,rfl⟩)
   go_ret
   exact⟨by rw[HR.out];rfl,HB.out⟩
 . cases c
   . by_cases sr:n=32
     . have HR:Hid (r=45):=by show r=45;have h:=sE.out;simpa [sr] using h
       have hi:((n:Int)==32)=true:=by simp;omega
       clear sE sr
       go_wp2_with (first | (go_at_call 14;refine (HI.out _).mono ?_;rintro e w2 ⟨rfl,rfl⟩) | (go_at_call 72;refine HC.out.mono ?_;rintro e w2 ⟨rfl,rfl⟩))
       go_ret
       exact⟨by rw[HR.out];rfl,HB.out⟩
     . have HR:Hid (r=0):=by show r=0;have h:=sE.out;simpa [sr] using h
       have hi:((n:Int)==32)=false:=by simp;omega
       clear sE sr
       go_wp2_with (first | (go_at_call 14;refine (HI.out _).mono ?_;rintro e w2 ⟨rfl,rfl⟩) | (go_at_call 72;refine HC.out.mono ?_;rintro e w2 ⟨rfl,rfl⟩))
       go_ret
       exact⟨by rw[HR.out];rfl,HB.out⟩
   . have HR:Hid (r=43):=by show r=43;have h:=sE.out;simpa using h
     clear sE
     go_wp2_with (first | (go_at_call 14;refine (HI.out _).mono ?_;rintro e w2 ⟨rfl,rfl⟩) | (go_at_call 72;refine HC.out.mono ?_;rintro e w2 ⟨rfl,rfl⟩))
     go_ret
     exact⟨by rw[HR.out];rfl,HB.out⟩
theorem qO (T1 T2:TypeId)(g1 g2:Nat)(bf:Bool)(w:World):Calls prog 44 #[.iface T1 (JJ (I ⟨g1,0,O⟩)),.iface T2 (JJ (I ⟨g2,0,O⟩)),.bool bf] w fun e w'=>e=Jz (Jj (I ⟨w.heap.size,0,O⟩) 2 2)/\w'=w.alloc (.cells (if bf then #[.iface T2 (JJ (I ⟨g2,0,O⟩)),.iface T1 (JJ (I ⟨g1,0,O⟩))] else #[.iface T1 (JJ (I ⟨g1,0,O⟩)),.iface T2 (JJ (I ⟨g2,0,O⟩))]) 70):=by
 cases bf
 . go_enter func44,ntmps44
   go_wp2
   go_ret
   exact⟨rfl,rfl⟩
 . go_enter func44,ntmps44
   go_wp2
   go_ret
   exact⟨rfl,rfl⟩
theorem oW (root p:Value)(ad:Option Addr)(cap:Nat)(w:World):Calls prog 42 #[root,Jj ad 0 cap,p] w fun e w'=>e=Jz p/\w=w':=by
 go_enter func42,ntmps42
 go_wp2
 go_ret
 exact⟨rfl,rfl⟩
def Box.with (b:Box)(k n:Int):Box:=b.str k (n-b.ext k)
theorem Gs (g:Nat)(b:Box)(k n:Int)(w:World)(h:bP w g b)(h1:0<=b.w/\b.w<=1000)(h2:0<=b.h/\b.h<=1000)(h3: -1000<=n/\n<=1000):
 Calls prog 40 #[JJ (I ⟨g,0,O⟩),J Jq k,J Jq n] w fun e w'=>e=Jz (.agg #[J Jq (b.with k n).x,J Jq (b.with k n).y,J Jq (b.with k n).w,J Jq (b.with k n).h])/\Below w.heap.size w w':=by
 obtain⟨q0,q1,q2,q3,qf⟩:=h
 have HB:Hid (bP w g b):=⟨q0,q1,q2,q3,qf⟩
 have am:=HB.out.lt
 obtain⟨e,he⟩:∃e,b.ext k=e:=⟨_,rfl⟩
 have V2:0<=e/\e<=1000:=by rw[<- he];unfold Box.ext;split <;> omega
 have hw:IntKind.i64.wrap (n-e)=n-e:=by rw[IntKind.wrap_i64];omega
 have HE:Hid (∀X,Below w.heap.size w X->Calls prog 38 #[JJ (I ⟨g,0,O⟩),J Jq k] X fun e' w'=>e'=Jz (J Jq e)/\X=w'):=fun X hX=>he ▸ dC g b k X (HB.out.below hX)
 have HS:Hid (∀X,bP X (w.heap.size+1) b->Calls prog 41 #[JJ (I ⟨w.heap.size+1,0,O⟩),J Jq k,J Jq (n-e)] X fun e' w'=>e'=Jz (.tuple #[])/\bP w' (w.heap.size+1) (b.str k (n-e))/\X.grownBy w' (I (w.heap.size+1))/\(∀o,4<=o->w'.cell? ⟨w.heap.size+1,o,O⟩=X.cell? ⟨w.heap.size+1,o,O⟩)):=fun X h=>iZ _ _ k (n-e) X h (by omega) (by omega) (by omega)
 obtain⟨b',cC⟩:∃b',b.str k (n-e)=b':=⟨_,rfl⟩
 have hd:b.with k n=b':=by unfold Box.with;rw[he,cC]
 rw[hd]
 rw[cC] at HS
 clear he qf V2 h1 h2 h3 hd cC
 go_enter func40,ntmps40
 go_wp2_with fail
 have HX:Hid (∀o o',Below w.heap.size w ((w.alloc o).alloc o')):=fun o o'=>((Below.refl _ _).alloc (Nat.le_refl _) _).alloc (by simp) _
 have HZ:Hid (∀o,bP ((w.alloc (JZ #[J Jq 0,J Jq 0,J Jq 0,J Jq 0] 47)).alloc o) w.heap.size ⟨0,0,0,0⟩):=fun o=>(bP.new w 47).below ((Below.refl _ _).alloc (Nat.le_refl _) o)
 have HY:Hid (∀o,bP ((w.alloc o).alloc (JZ #[J Jq b.x,J Jq b.y,J Jq b.w,J Jq b.h] 47)) (w.heap.size+1) b):=fun o=>by
  have hs:(w.alloc o).heap.size=w.heap.size+1:=by simp
  have hn:=heap_alloc_new (w.alloc o) (JZ #[J Jq b.x,J Jq b.y,J Jq b.w,J Jq b.h] 47)
  rw[hs] at hn
  exact⟨ae hn 0,ae hn 1,ae hn 2,ae hn 3,fun o _=>ai hn o⟩
 refine (HE.out _ (HX.out _ _)).mono ?_
 rintro e' w1 ⟨rfl,rfl⟩
 clear q0 q1 q2 q3
 go_wp2_with fail
 refine (HS.out _ (HY.out _)).mono ?_
 rintro e' w2 ⟨rfl,al,eO,_⟩
 obtain⟨z0,z1,z2,z3,zf⟩:=(HZ.out _).grown eO (by omega)
 obtain⟨r0,r1,r2,r3,_⟩:=al
 have f0:=zf 0 (by decide)
 have f1:=zf 1 (by decide)
 have f2:=zf 2 (by decide)
 have f3:=zf 3 (by decide)
 have aD:Hid (Below w.heap.size w w2):=below_grown (HX.out _ _) eO (by omega)
 clear zf eO HZ HY HX HE HS
 go_wp2
 refine bodyPost_ret (v:=.agg #[J Jq b'.x,J Jq b'.y,J Jq b'.w,J Jq b'.h]) (by simp[results,results40,go_sem,z0,z1,z2,z3]) rfl ?_
 exact⟨rfl,below_grown (below_grown (below_grown (below_grown aD.out (grownBy_set _ _ _ _) (Nat.le_refl _)) (grownBy_set _ _ _ _) (Nat.le_refl _)) (grownBy_set _ _ _ _) (Nat.le_refl _)) (grownBy_set _ _ _ _) (Nat.le_refl _)⟩
theorem kX {ops:Array Oper}{rest:List Oper}{o:Oper}{a:Act}{Q:Exit->Act->World->Prop}(w:World)(e9:o.guard=O)(s x:Operand)
 (ho:o.op=.call { callee:=.builtin .append,args:=#[s,x],argTypes:=#[85,85] })
 (B:Nat) (v:Value) (vs:List Value) (T:TypeId) (g:Nat) (hs:a.eval s=v) (bm:w.ownsRow B 70 1 v vs.length vs) (hx:a.eval x=Jj (I ⟨w.heap.size,0,O⟩) 1 1) (hlen:vs.length<=16777216) (hB:B<=w.heap.size)
 (h:∀v' w',w'.ownsRow B 70 1 v' (vs.length+1) (vs++[.iface T (JJ (I ⟨g,0,O⟩))])->(w.alloc (JZ #[.iface T (JJ (I ⟨g,0,O⟩))] 70)).grownBy w' v.ownBlock->wpList prog ops Q rest (a.put o.dst v') w'):wpList prog ops Q (o::rest) a (w.alloc (JZ #[.iface T (JJ (I ⟨g,0,O⟩))] 70)):=by
 obtain⟨i0,hi,eh,db,cJ⟩:=bH kN
 refine wpList_append_own_at _ e9 s x 85 ho B 70 i0 .nilIface 1 16 underlying85 hi eh db cJ rfl (by decide) v vs.length vs hs (World.ownsRow.alloc bm _) ⟨w.heap.size,0,O⟩ 1 1 [.iface T (JJ (I ⟨g,0,O⟩))] hx rfl ?_ ?_ ?_ ?_ ?_ ?_
 . intro j u hu
   rw[show (⟨w.heap.size,0,O⟩:Addr).add j=⟨w.heap.size,j,O⟩ by unfold Addr.add;split <;> simp_all,dW]
   simpa using hu
 . intro u hu
   simp only[List.mem_cons,List.not_mem_nil,or_false] at hu
   subst hu
   rfl
 . unfold maxLen;omega
 . omega
 . have:(w.alloc (JZ #[.iface T (JJ (I ⟨g,0,O⟩))] 70)).heap.size=w.heap.size+1:=by simp
   omega
 . intro v' w' h2 h3 _ h5
   exact h v' w' h2 h3
theorem aX.Jr {W:World}{g:Nat}{b:Box}{k:Int}{sl:Value}(h:aX W g b k sl)(sl':Value):aX (W.setCell ⟨g,5,O⟩ sl') g b k sl':=by
 have am:g < W.heap.size:=lt_of_block h
 have h':W.heap[g]=.cells (splitV b k sl) 91 (0,0):=by unfold aX at h;simpa [Array.getElem?_eq_getElem am] using h
 show (W.heap.modify g _)[g]?=_
 rw[Array.getElem?_eq_getElem (by simpa using am),Array.getElem_modify_self,h']
 rfl
structure gz (w:World)(k:Int)(vs:List Value)(sl:Value)(wr:World):Prop where
 own:aX wr w.heap.size ⟨0,0,0,0⟩ k sl
 row:wr.ownsRow (w.heap.size+1) 70 1 sl vs.length vs
 below:Below w.heap.size w wr
theorem gz.start (w:World)(k:Int):gz w k [] (Jj O 0 0) (w.alloc (JZ #[J Jq 0,J Jq 0,J Jq 0,J Jq 0,J Jq k,Jj O 0 0] 91)):=
 ⟨heap_alloc_new _ _,World.ownsRow_nil _ _ _ _,(Below.refl _ _).alloc (Nat.le_refl _) _⟩
theorem gz.lt {w:World}{k:Int}{vs:List Value}{sl:Value}{wr:World}(h:gz w k vs sl wr):w.heap.size < wr.heap.size:=lt_of_block h.own
theorem gz.next {w:World}{k:Int}{vs:List Value}{sl:Value}{wr:World}(h:gz w k vs sl wr){o:Obj}{sl' u:Value}{w':World}(h1:w'.ownsRow (w.heap.size+1) 70 1 sl' (vs.length+1) (vs++[u]))(h2:(wr.alloc o).grownBy w' sl.ownBlock):
 aX w' w.heap.size ⟨0,0,0,0⟩ k sl/\gz w k (vs++[u]) sl' (w'.setCell ⟨w.heap.size,5,O⟩ sl'):=by
 have am:=h.lt
 have hsz:(wr.alloc o).heap.size=wr.heap.size+1:=by simp
 have a7:∀q,sl.ownBlock=I q->w.heap.size+1<=q:=fun q hq=>(World.ownsRow.lt h.row q hq).1
 have hs:aX w' w.heap.size ⟨0,0,0,0⟩ k sl:=by
  refine (h2.block w.heap.size (by omega) fun e=> ?_).trans ((((Below.refl wr.heap.size wr).alloc (Nat.le_refl _) o).block _ am).trans h.own)
  have:=a7 _ e.symm
  omega
 refine⟨hs,hs.Jr sl',?_,?_⟩
 . have hk:∀q∈sl'.ownBlock.toList,(w'.setCell ⟨w.heap.size,5,O⟩ sl').heap[q]?=w'.heap[q]?:=fun q hq=>by
    refine Below.heap_setCell _ _ _ _ fun e=> ?_
    have:=(World.ownsRow.lt h1 q (by simpa using hq)).1
    have e':q=w.heap.size:=by simpa using e
    omega
   have:=dU h1 hk
   simpa using this
 . have hb:Below w.heap.size w w':=by
    have h0:Below w.heap.size w (wr.alloc o):=h.below.alloc h.below.size o
    refine⟨h2.os.trans h0.os,h2.tape.trans h0.tape,h2.output.trans h0.output,Nat.le_trans h0.size h2.size,fun q hq=>(h2.block q (by have:=h0.size;omega) fun e=> ?_).trans (h0.block q hq)⟩
    have:=a7 _ e.symm
    omega
   exact below_grown hb (grownBy_set _ _ _ _) (Nat.le_refl _)
theorem Js (k:Int)(hk:k=2\/k=3)(pg n cap:Nat)(vs:List Value)(fs:List Nat)(t0:Tree)(tr:List Tree)(w:World)(hR:∀(i:Nat) u,vs[i]?=I u->w.cell? ⟨pg,i,O⟩=I u)(hP:aB w 0 (t0::tr) vs fs)(qb:Af (t0::tr))(hs:yX (t0::tr))(AE:∀t∈t0::tr,t.bY k=false)(hn:(t0::tr).length=n):
 Calls prog 43 #[J Jq k,Jj (I ⟨pg,0,O⟩) n cap] w fun e w'=>∃sl,e=Jz (JJ (I ⟨w.heap.size,0,O⟩))/\aX w' w.heap.size (bZ (t0::tr) k) k sl/\w'.ownsRow (w.heap.size+1) 70 1 sl vs.length vs/\Below w.heap.size w w':=by
 have dk:=hP.length
 rw[hn] at dk
 have HS:=zh (hP.Jt qb)
 have HR:=zh hR
 have HV:=zh dk
 have HN:=zh hn
 have HK:=zh AE
 have fe:n<=200:=by have:=hs.1;omega
 have Sk:=zh (gz.start w k)
 have HA:Hid (∀sl wr,gz w k vs sl wr->Calls prog 75 #[JJ (I ⟨w.heap.size,0,O⟩)] wr fun e w'=>e=Jz (.agg #[J Jq 0,J Jq 0,J Jq (bZ (t0::tr) k).w,J Jq (bZ (t0::tr) k).h])/\gz w k vs sl w'):=by
  intro sl wr h
  refine (tH w.heap.size ⟨0,0,0,0⟩ k hk sl vs fs t0 tr 0 wr h.own ⟨h.row.1,?_⟩ (hP.below h.below) hs).mono fun e w' h2=>⟨h2.1,h.own.below h2.2,own_below h.row h2.2,af h.below h2.2⟩
  rcases h.row.2 with h0 | ⟨g,cap,cur,e,_,r⟩
  . exact .inl h0
  . exact .inr ⟨g,cap,cur,e,Nat.zero_le _,r⟩
 obtain⟨bw,nF⟩:∃x,(bZ (t0::tr) k).w=x:=⟨_,rfl⟩
 obtain⟨bh,Mf⟩:∃x,(bZ (t0::tr) k).h=x:=⟨_,rfl⟩
 have HE:Hid (bZ (t0::tr) k=⟨0,0,bw,bh⟩):=by
  show _=_
  rw[<- nF,<- Mf]
  unfold bZ
  by_cases h2:k=2 <;> simp[h2]
 rw[nF,Mf] at HA
 rw[HE.out]
 clear hR hP qb hs AE hn dk hk nF Mf
 go_enter func43,ntmps43
 go_wp2
 go_loopw [14] (fun v wr=>∃i:Nat,i<=n/\v=J Jq i/\∃sl,Hid (gz w k (vs.take i) sl wr)) (fun v _=>n-(intOf v).toNat)
 case atStart=>exact⟨0,Nat.zero_le _,rfl,_,Sk⟩
 case round=>
  obtain⟨i,hi,rfl,sl,HJ⟩:=hrel
  clear Sk
  by_cases am:i < n
  . obtain⟨t,ht⟩:∃t,(t0::tr)[i]?=I t:=⟨_,List.getElem?_eq_getElem (by rw[HN.out];exact am)⟩
    obtain⟨pv,T,gi,Fs,Fa,qd,HP⟩:=HS.out i t ht
    have de:=HP.val
    subst de
    have ri:=(HJ.out.below.cell (p:=⟨pg,i,O⟩) (World.block_lt_of_cell? w _ (HR.out i _ qd))).trans (HR.out i _ qd)
    have m1:=HP.mA
    have m2:=HP.fA
    have sX:=HP.cA k wr HJ.out.below
    rw[HK.out t (List.mem_of_getElem? ht)] at sX
    have iu:=zh sX
    have HT:Hid (vs.take (i+1)=vs.take i++[.iface T (JJ (I ⟨gi,0,O⟩))]):=by
     show _=_
     rw[List.take_add_one,qd]
     rfl
    have HL:Hid ((vs.take i).length=i):=by
     show _=_
     rw[List.length_take,HV.out]
     omega
    have r5:wr.cell? ⟨w.heap.size,5,O⟩=I sl:=ae HJ.out.own 5
    obtain⟨sa,sn,sc,av⟩:=iO HJ.out.row
    subst av
    have HW:=zh HJ.out.lt
    clear HP qd ht sX
    go_wp2_with fail
    refine iu.out.mono ?_
    rintro e w1 ⟨rfl,rfl⟩
    go_wp2_with (at_builtin;refine kX wr rfl (.tmp 39) (.tmp 41) rfl (w.heap.size+1) (Jj sa sn sc) (vs.take i) T gi rfl HJ.out.row rfl (by rw[HL.out];omega) HW.out ?_;intro sl' w3 a1 a2;have av:=iO a1;have hj:=HJ.out.next a1 a2;have c5:w3.cell? ⟨w.heap.size,5,O⟩=I (Jj sa sn sc):=ae hj.1 5;have f5:w3.frozen? ⟨w.heap.size,5,O⟩=false:=ai hj.1 5;have nL:Hid (gz w k (vs.take i++[.iface T (JJ (I ⟨gi,0,O⟩))]) sl' (w3.setCell ⟨w.heap.size,5,O⟩ sl')):=hj.2;clear a1 a2 hj;obtain⟨sa',sn',sc',cq⟩:=av;subst cq)
    go_roundw
    case rel=>exact⟨i+1,by omega,by go_num,_,by rw[HT.out];exact nL⟩
    case measure=>simp[intOf];omega
  . have bE:i=n:=by omega
    subst bE
    have ix:Hid (gz w k vs sl wr):=by
     have h:=HJ.out
     rwa [List.take_of_length_le (by rw[HV.out];exact Nat.le_refl _)] at h
    have ii:=zh (HA.out sl wr ix.out)
    clear HJ HA
    go_wp2_with fail
    refine ii.out.mono ?_
    rintro e w5 ⟨rfl,hj⟩
    have qe:=zh hj
    obtain⟨q0,q1,q2,q3,qf⟩:=hj.own.box
    have f0:=qf 0 (by decide)
    have f1:=qf 1 (by decide)
    have f2:=qf 2 (by decide)
    have f3:=qf 3 (by decide)
    clear hj qf ii
    go_wp2
    go_ret
    refine⟨sl,rfl,(((qe.out.own.set 0 (J Jq 0) (b':=⟨0,0,0,0⟩) rfl).set 1 (J Jq 0) (b':=⟨0,0,0,0⟩) rfl).set 2 (J Jq bw) (b':=⟨0,0,bw,0⟩) rfl).set 3 (J Jq bh) (b':=⟨0,0,bw,bh⟩) rfl,?_,below_grown (below_grown (below_grown (below_grown qe.out.below (grownBy_set _ _ _ _) (Nat.le_refl _)) (grownBy_set _ _ _ _) (Nat.le_refl _)) (grownBy_set _ _ _ _) (Nat.le_refl _)) (grownBy_set _ _ _ _) (Nat.le_refl _)⟩
    refine dU qe.out.row fun q hq=> ?_
    have a7:q≠w.heap.size:=fun e=>by
     have:=(World.ownsRow.lt qe.out.row q (by simpa using hq)).1
     omega
    exact ((Below.heap_setCell _ _ _ _ a7).trans (Below.heap_setCell _ _ _ _ a7)).trans ((Below.heap_setCell _ _ _ _ a7).trans (Below.heap_setCell _ _ _ _ a7))
def oneCell (x y p:Int):aj:=⟨0,1,0,0,x,y,p⟩
theorem pI {x y p:Int}(h:fO x y p=0):(aG x=true/\aG y=true)/\idB p=true:=by
 unfold fO at h
 cases h1:aG x <;> cases h2:aG y <;> cases h3:idB p <;> simp_all
theorem yE (x y p:Int)(h:fO x y p=0):aT [oneCell x y p]=I (.leaf ⟨0,0,x,y⟩ p):=by
 obtain⟨⟨hx,hy⟩,hp⟩:=pI h
 have ht:jO [oneCell x y p] 0=I (.leaf ⟨0,0,x,y⟩ p,[]):=by
  rw[jG]
  rfl
 rw[uz (by simp) ht,if_pos ⟨by unfold Tree.sound;simp[hx,hy,hp],rfl,rfl⟩]
 rfl
theorem J4 (x y p:Int)(h:fO x y p=0):pM [oneCell x y p]=0:=by
 unfold pM
 rw[yE x y p h]
 rfl
theorem check_nil:pM []=40:=by
 unfold pM
 rw[uA (iy 0)]
 rfl
theorem LU (x y p id:Int)(hi:idB id=true)(a7:id≠p):jF [oneCell x y p] id=0:=by
 have h1:aH [oneCell x y p]=[p]:=rfl
 unfold jF
 rw[h1,hi]
 simp[a7]
theorem Qe (g : Nat) (W : World) : (method 286 45 (JJ (I ⟨g, 0, O⟩)) "mullion/layout.way").run prog W = .ok (140, JJ (I ⟨g, 0, O⟩)) W := by kernel_rfl
theorem QA (a c:Value)(W:World):(callFunc 140 #[a,c]).run prog W=.ok (.enter 140 #[a,c]) W:=by kernel_rfl
def qZ (x y p id:Int):Tree:=.split ⟨0,0,x,y⟩ 2 [.leaf ⟨0,0,x-dM x-1,y⟩ p,.leaf ⟨0,0,dM x,y⟩ id]
def qg (x y p id:Int):List aj:=[⟨0,2,0,0,x,y,0⟩,⟨1,1,0,0,x-dM x-1,y,p⟩,⟨1,1,x-dM x,0,dM x,y,id⟩]
theorem ik {n:Int}(h:aG n=true):1<=n/\n<=1000:=by
 unfold aG at h
 simpa using h
theorem jB {n:Int}(h1:1<=n)(h2:n<=1000):aG n=true:=by
 unfold aG
 simp[h1,h2]
theorem LV (x y p id:Int)(h:fO x y p=0)(h3:3<=x)(hi:idB id=true):(qZ x y p id).sound=true:=by
 obtain⟨⟨hx,hy⟩,hp⟩:=pI h
 have pQ:=ik hx
 have ha:aG (dM x)=true:=jB (by unfold dM;omega) (by unfold dM;omega)
 have hb:aG (x-dM x-1)=true:=jB (by unfold dM;omega) (by unfold dM;omega)
 unfold qZ
 simp[Tree.sound,au,Tree.bY,Tree.box,aN,Box.ext,aA,hx,hy,hp,hi,ha,hb]
 omega
theorem NY (x y p id:Int):((qZ x y p id).moved 0 0).tell 0=qg x y p id:=by
 unfold qZ qg
 simp[Tree.moved,aS,Tree.tell,bJ,Tree.box,Box.ext]
theorem IM (x y p id:Int):bZ [.leaf ⟨0,0,x-dM x-1,y⟩ p,.leaf ⟨0,0,dM x,y⟩ id] 2=⟨0,0,x,y⟩:=by
 unfold bZ
 simp[aN,Tree.box,Box.ext]
 omega
theorem NZ (x y p id:Int)(h:fO x y p=0)(h3:3<=x)(hi:idB id=true)(g1 g2:Nat)(w:World)(h1:bD w g1 ⟨0,0,x-dM x-1,y⟩ p)(h2:bD w g2 ⟨0,0,dM x,y⟩ id)(a7:g1≠g2):
 Calls prog 43 #[J Jq 2,Jj (I ⟨w.heap.size,0,O⟩) 2 2] (w.alloc (JZ #[aZ g1,aZ g2] 70)) fun e w'=>e=Jz (JJ (I ⟨w.heap.size+1,0,O⟩))/\
  Calls prog 15 #[dA (w.heap.size+1)] w' fun e w2=>∃u,e=Jz u/\az w2 w.heap.size u (qg x y p id)/\But [g1,g2] w w2:=by
 have hsz:(w.alloc (JZ #[aZ g1,aZ g2] 70)).heap.size=w.heap.size+1:=by simp
 have hb0:Below w.heap.size w (w.alloc (JZ #[aZ g1,aZ g2] 70)):=(Below.refl _ _).alloc (Nat.le_refl _) _
 obtain⟨⟨hx,hy⟩,hp⟩:=pI h
 have pQ:=ik hx
 have to:=ik hy
 have hP:aB (w.alloc (JZ #[aZ g1,aZ g2] 70)) 0 [.leaf ⟨0,0,x-dM x-1,y⟩ p,.leaf ⟨0,0,dM x,y⟩ id] [aZ g1,aZ g2] [g1,g2]:=
  ⟨aZ g1,[aZ g2],[g1],[g2],rfl,⟨g1,rfl,h1.below hb0,rfl⟩,⟨aZ g2,[],[g2],[],rfl,⟨g2,rfl,h2.below hb0,rfl⟩,⟨rfl,rfl⟩,rfl⟩,rfl⟩
 have ye:=lt_of_block h1
 have uE:=lt_of_block h2
 have hj:=Js 2 (.inl rfl) w.heap.size 2 2 [aZ g1,aZ g2] [g1,g2] (.leaf ⟨0,0,x-dM x-1,y⟩ p) [.leaf ⟨0,0,dM x,y⟩ id] _ (fun i u hu=>by
  rw[dW]
  simpa using hu) hP ⟨trivial,trivial,trivial⟩ ⟨by simp,by
   intro t ht
   simp only[List.mem_cons,List.not_mem_nil,or_false] at ht
   unfold dM at ht
   rcases ht with rfl | rfl
   . exact⟨⟨by show 1<=x-(x-1) / 2-1;omega,by show x-(x-1) / 2-1<=1000;omega⟩,to⟩
   . exact⟨⟨by show 1<=(x-1) / 2;omega,by show (x-1) / 2<=1000;omega⟩,to⟩⟩ (by
   intro t ht
   simp only[List.mem_cons,List.not_mem_nil,or_false] at ht
   rcases ht with rfl | rfl <;> rfl) rfl
 rw[IM] at hj
 refine hj.mono ?_
 rintro e w' ⟨sl,rfl,e1,e2,e3⟩
 rw[hsz] at e1 e2 e3 ⊢
 refine⟨rfl,?_⟩
 have e3':Below (w.heap.size+1) (w.alloc (JZ #[aZ g1,aZ g2] 70)) w':=e3
 have bq:(qZ x y p id).At w' 0 (dA (w.heap.size+1)) ((w.heap.size+1)::(sl.ownBlock.toList++[g1,g2])):=by
  refine⟨w.heap.size+1,sl,[aZ g1,aZ g2],[g1,g2],rfl,e1,⟨e2.1,?_⟩,?_,rfl⟩
  . rcases e2.2 with h0 | ⟨g,cap,cur,e,_,r⟩
    . exact .inl h0
    . exact .inr ⟨g,cap,cur,e,Nat.zero_le _,r⟩
  . refine hP.keep fun q hq=>e3'.block q ?_
    simp only[List.mem_cons,List.not_mem_nil,or_false] at hq
    rcases hq with rfl | rfl <;> omega
 have aE:((w.heap.size+1)::(sl.ownBlock.toList++[g1,g2])).Nodup:=by
  have av:∀q∈sl.ownBlock.toList,w.heap.size+1+1<=q:=fun q hq=>(World.ownsRow.lt e2 q (by simpa using hq)).1
  refine List.nodup_cons.2 ⟨fun hm=> ?_,List.nodup_append.2 ⟨by cases sl.ownBlock <;> simp,by simp[a7],fun a ha b hb e=> ?_⟩⟩
  . rcases List.mem_append.1 hm with hm | hm
    . have:=av _ hm;omega
    . simp only[List.mem_cons,List.not_mem_nil,or_false] at hm
      rcases hm with hm | hm <;> omega
  . subst e
    have:=av _ ha
    simp only[List.mem_cons,List.not_mem_nil,or_false] at hb
    rcases hb with hb | hb <;> omega
 refine (xG (qZ x y p id) 0 _ _ w' bq aE (LV x y p id h h3 hi) ⟨.inl rfl,by simp,trivial,trivial,trivial⟩ (by unfold qZ;simp[Tree.size,sizes])).mono ?_
 rintro e w2 ⟨u,rfl,k1,k2,k3⟩
 rw[NY] at k1
 have AD:=e3'.size
 refine⟨u,rfl,k1.lower (by omega),⟨k3.os.trans (e3'.os.trans hb0.os),k3.tape.trans (e3'.tape.trans hb0.tape),k3.output.trans (e3'.output.trans hb0.output),Nat.le_trans (Nat.le_trans hb0.size e3'.size) k3.size,fun q hq hn=> ?_⟩⟩
 refine (k3.block q (by omega) fun hm=> ?_).trans ((e3'.block q (by omega)).trans (hb0.block q hq))
 rcases List.mem_cons.1 hm with hm | hm
 . omega
 . rcases List.mem_append.1 hm with hm | hm
   . have:=(World.ownsRow.lt e2 q (by simpa using hm)).1
     omega
   . exact hn hm
theorem J5 (v:Value)(x y p id:Int)(w:World)(hv:ay w v [oneCell x y p])(h:fO x y p=0)(h3:3<=x)(hi:idB id=true)(a7:id≠p):
 Calls prog 18 #[v,J Jq p,J Jq 2,J Jq 0,.bool false,J Jq id] w fun e w'=>∃u,e=Jz (.tuple #[u,J Jq 0])/\az w' w.heap.size u (qg x y p id)/\Below w.heap.size w w':=by
 have HR:Hid (Calls prog 35 #[v] w fun e w1=>∃g,e=Jz (aZ g)/\w.heap.size<=g/\bD w1 g ⟨0,0,x,y⟩ p/\Below w.heap.size w w1):=by
  refine (pO v _ w hv).mono ?_
  rintro e w1 (⟨hF,_⟩ | ⟨t,T,g,fp,hF,rfl,bq,aE,be,hb⟩)
  . rw[yE x y p h] at hF
    cases hF
  . rw[yE x y p h] at hF
    cases hF
    obtain⟨g',e1,e2,e3⟩:=bq
    cases e1
    subst e3
    exact⟨g,rfl,be g (by simp),e2,hb⟩
 have HC:Hid (∀W,Calls prog 36 #[J Jq 2] W fun e w'=>e=Jz (.bool true)/\W=w'):=fun W=>fE 2 W
 have HM:Hid (∀W,Below w.heap.size w W->Calls prog 37 #[v,J Jq id] W fun e w'=>e=Jz (J Jq 0)/\Below W.heap.size W w'):=fun W hW=>LU x y p id hi a7 ▸ iY v _ id W (hv.below hW) (by simp)
 obtain⟨⟨hx,hy⟩,hp⟩:=pI h
 have pQ:=ik hx
 have to:=ik hy
 have HW:Hid (∀W,Calls prog 39 #[J Jq 0,J Jq x] W fun e w'=>e=Jz (J Jq (dM x))/\W=w'):=fun W=>uo 0 x W (by omega)
 have XJ:1<=dM x/\dM x<=x-2:=by unfold dM;omega
 have HJ:Hid (∀g1 g2 W,bD W g1 ⟨0,0,x-dM x-1,y⟩ p->bD W g2 ⟨0,0,dM x,y⟩ id->g1≠g2->_):=fun g1 g2 W a b c=>NZ x y p id h h3 hi g1 g2 W a b c
 obtain⟨n,hn⟩:∃n,dM x=n:=⟨_,rfl⟩
 rw[hn] at HW XJ HJ
 have w1e:IntKind.i64.wrap (x-2)=x-2:=by rw[IntKind.wrap_i64];omega
 have w2e:IntKind.i64.wrap (-n)= -n:=by rw[IntKind.wrap_i64];omega
 have w3e:IntKind.i64.wrap (-n-1)= -n-1:=by rw[IntKind.wrap_i64];omega
 have hmin:min n (x-2)=n:=by omega
 have hx3:¬(x < 3):=by omega
 have HH:Hid ((1<=n/\n<=x-2)/\(1<=x/\x<=1000)/\(1<=y/\y<=1000)):=⟨XJ,pQ,to⟩
 have xl:=hv.length
 obtain⟨ad,cap,rfl⟩:=xl
 obtain⟨l1,ye⟩:∃l,qg x y p id=l:=⟨_,rfl⟩
 rw[ye] at HJ ⊢
 clear hn pQ to hx hy hp hi a7 h h3 hv XJ ye
 have ZQ:=zh Qe
 have ZR:=zh QA
 go_enter func18,ntmps18
 go_wp2_with fail
 refine HR.out.mono ?_
 rintro e w1 ⟨g,rfl,hg,hL,hb⟩
 have HL:=zh hL
 have HB:=zh hb
 have HG:=zh hg
 have m1:=ZQ.out g
 have m2:=ZR.out
 have Cg:Hid (Calls prog 140 #[JJ (I ⟨g,0,O⟩),J Jq p] w1 fun e w'=>e=Jz (.tuple #[Jj O 0 0,JJ (I ⟨g,0,O⟩)])/\w1=w'):=Dw g _ p w1 hL
 clear hL hb hg HR ZQ ZR
 unfold aZ
 go_wp2_with (go_at_call 36;refine (HC.out _).mono ?_;rintro e w2 ⟨rfl,rfl⟩)
 refine Cg.out.mono ?_
 rintro e w2 ⟨rfl,rfl⟩
 clear m1 m2 Cg
 go_wp2_with fail
 refine (HM.out w1 HB.out).mono ?_
 rintro e w2 ⟨rfl,al⟩
 have oy:=zh (HL.out.below al)
 have aD:=zh (af HB.out al)
 have sE:Hid (Calls prog 38 #[JJ (I ⟨g,0,O⟩),J Jq 2] w2 fun e w'=>e=Jz (J Jq x)/\w2=w'):=dC g ⟨0,0,x,y⟩ 2 w2 oy.out.box
 have Gr:Hid (Calls prog 40 #[JJ (I ⟨g,0,O⟩),J Jq 2,J Jq n] w2 fun e w'=>e=Jz (.agg #[J Jq 0,J Jq 0,J Jq n,J Jq y])/\Below w2.heap.size w2 w'):=by
  have hh:=HH.out
  have hb:=Gs g ⟨0,0,x,y⟩ 2 n w2 oy.out.box ⟨by show 0<=x;omega,by show x<=1000;omega⟩ ⟨by show 0<=y;omega,by show y<=1000;omega⟩ (by omega)
  have he:(⟨0,0,x,y⟩:Box).with 2 n=⟨0,0,n,y⟩:=by
   unfold Box.with Box.str Box.ext
   simp
   omega
  rw[he] at hb
  exact hb
 clear al HL HB HM
 go_wp2_with (first | (go_at_call 38;refine sE.out.mono ?_;rintro e w3 ⟨rfl,rfl⟩) | (go_at_call 39;refine (HW.out _).mono ?_;rintro e w3 ⟨rfl,rfl⟩))
 refine Gr.out.mono ?_
 rintro e w3 ⟨rfl,aM⟩
 have Mx:Hid (∀o,bD (w3.alloc o) g ⟨0,0,x,y⟩ p):=fun o=>(oy.out.below aM).below ((Below.refl _ _).alloc (Nat.le_refl _) o)
 have tM:Hid (bD (w3.alloc (JZ #[J Jq 0,J Jq 0,J Jq n,J Jq y,J Jq id] 49)) w3.heap.size ⟨0,0,n,y⟩ id):=heap_alloc_new _ _
 have cQ:Hid (∀o,Below w.heap.size w (w3.alloc o)):=fun o=>(af aD.out aM).alloc (af aD.out aM).size o
 have ZS:=zh (lt_of_block (oy.out.below aM))
 have fg:Hid (w.heap.size<=w3.heap.size):=(af aD.out aM).size
 have kp:Hid (∀o,Calls prog 41 #[JJ (I ⟨g,0,O⟩),J Jq 2,J Jq (-n-1)] (w3.alloc o) fun e w'=>e=Jz (.tuple #[])/\bD w' g ⟨0,0,x-n-1,y⟩ p/\(w3.alloc o).grownBy w' (I g)):=fun o=>by
  have hh:=HH.out
  have he:(⟨0,0,x,y⟩:Box).str 2 (-n-1)=⟨0,0,x-n-1,y⟩:=by
   unfold Box.str
   simp
   omega
  have:=l7 g ⟨0,0,x,y⟩ p 2 (-n-1) (w3.alloc o) (Mx.out o) ⟨by show _<=x;omega,by show x<=_;omega⟩ ⟨by show _<=y;omega,by show y<=_;omega⟩ (by omega)
  rw[he] at this
  exact this
 clear aM oy aD sE Gr Mx HW HC
 go_wp2_with fail
 refine (kp.out _).mono ?_
 rintro e w5 ⟨rfl,XK,Ry⟩
 have K2:Hid (bD w5 w3.heap.size ⟨0,0,n,y⟩ id):=by
  refine (Ry.block w3.heap.size (by simp) ?_).trans tM.out
  have:=ZS.out
  simp
  omega
 have fY:Hid (Below w.heap.size w w5):=below_grown (cQ.out _) Ry HG.out
 have HL5:=zh XK
 have qe:Hid (Calls prog 43 _ _ _):=HJ.out g w3.heap.size w5 XK K2.out (by have:=ZS.out;omega)
 have ZT:Hid (Calls prog 44 #[.iface 45 (JJ (I ⟨g,0,O⟩)),.iface 45 (JJ (I ⟨w3.heap.size,0,O⟩)),.bool false] w5 fun e w'=>e=Jz (Jj (I ⟨w5.heap.size,0,O⟩) 2 2)/\w'=w5.alloc (JZ #[aZ g,aZ w3.heap.size] 70)):=qO _ _ g w3.heap.size false w5
 clear XK Ry kp tM cQ HJ K2 HL5
 go_wp2_with (go_at_call 44;refine ZT.out.mono ?_;rintro e w6 ⟨rfl,h6⟩;subst h6)
 refine qe.out.mono ?_
 rintro e w7 ⟨rfl,ZU⟩
 have XL:=zh ZU
 have Iv:Hid (Calls prog 42 #[.iface 45 (JJ (I ⟨g,0,O⟩)),Jj O 0 0,dA (w5.heap.size+1)] w7 fun e w'=>e=Jz (dA (w5.heap.size+1))/\w7=w'):=oW _ _ O 0 w7
 unfold dA at XL Iv
 clear ZU qe ZT
 go_wp2_with (go_at_call 42;refine Iv.out.mono ?_;rintro e w8 ⟨rfl,rfl⟩)
 refine XL.out.mono ?_
 rintro e w9 ⟨u,rfl,hu,dT⟩
 have HU:=zh hu
 have HBt:=zh dT
 clear hu dT XL Iv
 go_wp2
 go_ret2
 have hB:=fY.out
 have ly:=HBt.out
 have UR:=HG.out
 have h3s:=fg.out
 refine⟨u,rfl,HU.out.lower fY.out.size,⟨ly.os.trans hB.os,ly.tape.trans hB.tape,ly.output.trans hB.output,Nat.le_trans hB.size ly.size,fun q hq=>(ly.block q (by have:=hB.size;omega) fun hm=> ?_).trans (hB.block q hq)⟩⟩
 simp only[List.mem_cons,List.not_mem_nil,or_false] at hm
 rcases hm with hm | hm <;> omega
mutual
theorem AU:∀(t:Tree),t.kinds->t.sound=true->(ag t).ok=true
 | .leaf b p,hk,hs=>by
   unfold Tree.sound at hs
   simp only[Bool.and_eq_true] at hs
   have h1:=ik hs.1.1
   have h2:=ik hs.1.2
   show (((decide (1<=b.w)&&decide (1<=b.h))&&(decide ((1:Int)<=1)&&decide ((1:Int)<=3)))&&(if (1:Int)=1 then (decide (([]:List Node).length=0)&&idB p) else _))=true
   rw[if_pos rfl,hs.2]
   simp[h1.1,h2.1]
 | .split b k ts,hk,hs=>by
   unfold Tree.sound at hs
   simp only[Bool.and_eq_true,decide_eq_true_eq] at hs
   obtain⟨⟨h2,hw,hh⟩,c8,ju⟩:=hs
   have h1:=ik hw
   have h3:=ik hh
   have kl:¬k=1:=by rcases hk.1 with h | h <;> omega
   have om:∀t∈ts,t.box.ext k<=b.ext k:=fun t ht=>ju ▸ Hr ts b k c8 t ht
   have ho:=uX ts b k hk.1 hk.2 c8 om
   show (((decide (1<=b.w)&&decide (1<=b.h))&&(decide (1<=k)&&decide (k<=3)))&&(if k=1 then _ else ((decide (2<=(nodesOf ts).length)&&decide ((0:Int)=0))&&(gU (nodesOf ts) k b.w b.h&&decide (JD (nodesOf ts) k=if k=2 then b.w else b.h)))))=true
   rw[if_neg kl,ho,ax,xw,ju]
   have dt:1<=k/\k<=3:=by rcases hk.1 with h | h <;> omega
   have he:b.ext k=if k=2 then b.w else b.h:=rfl
   rw[he]
   simp[h1.1,h3.1,dt,h2]
theorem uX:∀(ts:List Tree) (b:Box) (k:Int),(k=2\/k=3)->bi ts->au ts b k=true->(∀t∈ts,t.box.ext k<=b.ext k)->gU (nodesOf ts) k b.w b.h=true
 | [],b,k,hk,dj,hs,om=>rfl
 | t::ts,b,k,hk,dj,hs,om=>by
   unfold au at hs
   simp only[Bool.and_eq_true,decide_eq_true_eq,Bool.not_eq_true'] at hs
   obtain⟨⟨h1,h2,h3⟩,h4⟩:=hs
   have i1:=AU t dj.1 h1
   have i2:=uX ts b k hk dj.2 h4 (fun t ht=>om t (List.mem_cons_of_mem _ ht))
   have i3:=xx t k hk h2
   have i4:=om t List.mem_cons_self
   show ((((!decide ((ag t).k=k))&&(decide ((ag t).w<=b.w)&&decide ((ag t).h<=b.h)))&&((ag t).ok&&(if k=2 then decide ((ag t).h=b.h) else decide ((ag t).w=b.w))))&&gU (nodesOf ts) k b.w b.h)=true
   rw[i1,i2,bV,bW]
   rcases hk with rfl | rfl
   . have i5:t.box.h=b.h:=h3
     have i6:t.box.w<=b.w:=i4
     simp[i3,i5,i6]
   . have i5:t.box.w=b.w:=h3
     have i6:t.box.h<=b.h:=i4
     simp[i3,i5,i6]
end
mutual
theorem Lm:∀(n:Node),n.ok=true->n.w<=1000->n.h<=1000->∃t,n=ag t/\t.sound=true/\t.kinds/\t.box=⟨0,0,n.w,n.h⟩
 | .mk k w h i ks,ho,hw,hh=>by
   unfold Node.ok at ho
   simp only[Bool.and_eq_true,decide_eq_true_eq] at ho
   obtain⟨⟨⟨h1,h2⟩,h3,h4⟩,h5⟩:=ho
   change w<=1000 at hw
   change h<=1000 at hh
   have sw:=jB h1 hw
   have sh:=jB h2 hh
   by_cases hk:k=1
   . rw[if_pos hk] at h5
     simp only[Bool.and_eq_true,decide_eq_true_eq] at h5
     have:ks=[]:=List.length_eq_zero_iff.1 h5.1
     subst this hk
     refine⟨.leaf ⟨0,0,w,h⟩ i,rfl,?_,trivial,rfl⟩
     unfold Tree.sound
     simp[sw,sh,h5.2]
   . rw[if_neg hk] at h5
     simp only[Bool.and_eq_true,decide_eq_true_eq] at h5
     obtain⟨⟨h6,h7⟩,h8,h9⟩:=h5
     have dt:k=2\/k=3:=by omega
     obtain⟨ts,e1,e2,e3⟩:=DF ks k w h dt hw hh h8
     subst e1 h7
     rw[ax] at h6
     rw[xw] at h9
     refine⟨.split ⟨0,0,w,h⟩ k ts,rfl,?_,⟨dt,e3⟩,rfl⟩
     unfold Tree.sound
     rw[e2,sw,sh,h9]
     have he:(⟨0,0,w,h⟩:Box).ext k=if k=2 then w else h:=rfl
     rw[he]
     simp[h6]
theorem DF:∀(ks:List Node) (k w h:Int),(k=2\/k=3)->w<=1000->h<=1000->gU ks k w h=true->∃ts,ks=nodesOf ts/\au ts ⟨0,0,w,h⟩ k=true/\bi ts
 | [],k,w,h,hk,hw,hh,ho=>⟨[],rfl,rfl,trivial⟩
 | n::r,k,w,h,hk,hw,hh,ho=>by
   unfold gU at ho
   simp only[Bool.and_eq_true,decide_eq_true_eq,Bool.not_eq_true',decide_eq_false_iff_not] at ho
   obtain⟨⟨⟨h1,h2,h3⟩,h4,h5⟩,h6⟩:=ho
   obtain⟨t,e1,e2,e3,e4⟩:=Lm n h4 (by omega) (by omega)
   obtain⟨ts,f1,f2,f3⟩:=DF r k w h hk hw hh h6
   refine⟨t::ts,by rw[e1,f1];rfl,?_,⟨e3,f3⟩⟩
   unfold au
   have wj:t.bY k=false:=by
    cases t with
    | leaf b p=>rfl
    | split b j us=>
      subst e1
      exact decide_eq_false h1
   have yW:t.box.ext (aA k)=(⟨0,0,w,h⟩:Box).ext (aA k):=by
    rw[e4]
    rcases hk with rfl | rfl
    . rw[if_pos rfl] at h5
      exact of_decide_eq_true h5
    . rw[if_neg (by decide)] at h5
      exact of_decide_eq_true h5
   rw[e2,wj,yW,f2]
   simp
end
mutual
def qA:Node->Int->Int->Int->List aj
 | .mk k w h i ks,d,x,y=>⟨d,k,x,y,w,h,i⟩::eG ks k (d+1) x y
def eG:List Node->Int->Int->Int->Int->List aj
 | [],_,_,_,_=>[]
 | n::r,k,d,x,y=>qA n d x y++(if k=2 then eG r k d (x+(n.ext k+1)) y else eG r k d x (y+(n.ext k+1)))
end
mutual
theorem rV:∀(t:Tree) (d x y:Int),qA (ag t) d x y=(t.moved x y).tell d
 | .leaf b p,d,x,y=>rfl
 | .split b k ts,d,x,y=>by
   show (⟨d,k,x,y,b.w,b.h,0⟩:aj)::eG (nodesOf ts) k (d+1) x y=⟨d,k,x,y,b.w,b.h,0⟩::bJ (aS ts k x y) (d+1)
   rw[qW ts k (d+1) x y]
theorem qW:∀(ts:List Tree) (k d x y:Int),eG (nodesOf ts) k d x y=bJ (aS ts k x y) d
 | [],k,d,x,y=>rfl
 | t::ts,k,d,x,y=>by
   show qA (ag t) d x y++(if k=2 then eG (nodesOf ts) k d (x+((ag t).ext k+1)) y else eG (nodesOf ts) k d x (y+((ag t).ext k+1)))=(t.moved x y).tell d++bJ (if k=2 then aS ts k (x+(t.box.ext k+1)) y else aS ts k x (y+(t.box.ext k+1))) d
   rw[rV t d x y,zk]
   by_cases hk:k=2
   . rw[if_pos hk,if_pos hk,qW ts]
   . rw[if_neg hk,if_neg hk,qW ts]
end
mutual
theorem oq:∀(t:Tree) (x y a b:Int),(t.moved a b).moved x y=t.moved x y
 | .leaf b p,x,y,_,_=>rfl
 | .split b k ts,x,y,a,c=>by
   show Tree.split { b with x:=x,y:=y } k (aS (aS ts k a c) k x y)=.split { b with x:=x,y:=y } k (aS ts k x y)
   rw[l9 ts]
theorem l9:∀(ts:List Tree) (k x y a c:Int),aS (aS ts k a c) k x y=aS ts k x y
 | [],k,x,y,a,c=>rfl
 | t::ts,k,x,y,a,c=>by
   show aS (t.moved a c::(if k=2 then aS ts k (a+(t.box.ext k+1)) c else aS ts k a (c+(t.box.ext k+1)))) k x y=t.moved x y::(if k=2 then aS ts k (x+(t.box.ext k+1)) y else aS ts k x (y+(t.box.ext k+1)))
   by_cases hk:k=2
   . rw[if_pos hk,if_pos hk]
     show (t.moved a c).moved x y::(if k=2 then aS _ k (x+((t.moved a c).box.ext k+1)) y else _)=_
     rw[if_pos hk,oq t,Tree.sQ,l9 ts]
   . rw[if_neg hk,if_neg hk]
     show (t.moved a c).moved x y::(if k=2 then _ else aS _ k x (y+((t.moved a c).box.ext k+1)))=_
     rw[if_neg hk,oq t,Tree.sQ,l9 ts]
end
mutual
theorem qX:∀(t:Tree) (x y:Int),t.kinds->(t.moved x y).kinds
 | .leaf b p,x,y,h=>trivial
 | .split b k ts,x,y,h=>⟨h.1,mf ts k x y h.2⟩
theorem mf:∀(ts:List Tree) (k x y:Int),bi ts->bi (aS ts k x y)
 | [],k,x,y,h=>trivial
 | t::ts,k,x,y,h=>by
   refine⟨qX t x y h.1,?_⟩
   split
   . exact mf ts k _ _ h.2
   . exact mf ts k _ _ h.2
end
mutual
theorem uy:∀(t:Tree) (x y:Int),ag (t.moved x y)=ag t
 | .leaf b p,x,y=>rfl
 | .split b k ts,x,y=>by
   show Node.mk k b.w b.h 0 (nodesOf (aS ts k x y))=.mk k b.w b.h 0 (nodesOf ts)
   rw[qY ts]
theorem qY:∀(ts:List Tree) (k x y:Int),nodesOf (aS ts k x y)=nodesOf ts
 | [],k,x,y=>rfl
 | t::ts,k,x,y=>by
   show ag (t.moved x y)::nodesOf (if k=2 then aS ts k (x+(t.box.ext k+1)) y else aS ts k x (y+(t.box.ext k+1)))=ag t::nodesOf ts
   rw[uy t]
   split
   . rw[qY ts]
   . rw[qY ts]
end
theorem DI (t:Tree)(x y k:Int):(t.moved x y).bY k=t.bY k:=by cases t <;> rfl
theorem lH:∀(ts:List Tree) (k x y:Int),(aS ts k x y).length=ts.length
 | [],k,x,y=>rfl
 | t::ts,k,x,y=>by
   show (if k=2 then aS ts k (x+(t.box.ext k+1)) y else aS ts k x (y+(t.box.ext k+1))).length+1=ts.length+1
   split
   . rw[lH ts]
   . rw[lH ts]
theorem pJ:∀(ts:List Tree) (k x y:Int),aN (aS ts k x y) k=aN ts k
 | [],k,x,y=>rfl
 | t::ts,k,x,y=>by
   show (t.moved x y).box.ext k+1+aN (if k=2 then aS ts k (x+(t.box.ext k+1)) y else aS ts k x (y+(t.box.ext k+1))) k=t.box.ext k+1+aN ts k
   rw[Tree.sQ]
   split
   . rw[pJ ts]
   . rw[pJ ts]
mutual
theorem uY:∀(t:Tree) (x y:Int),(t.moved x y).sound=t.sound
 | .leaf b p,x,y=>rfl
 | .split b k ts,x,y=>by
   show ((decide (2<=(aS ts k x y).length)&&(aG b.w&&aG b.h))&&(au (aS ts k x y) { b with x:=x,y:=y } k&&decide (aN (aS ts k x y) k=b.ext k)))=((decide (2<=ts.length)&&(aG b.w&&aG b.h))&&(au ts b k&&decide (aN ts k=b.ext k)))
   rw[lH,pJ,mg ts k x y b { b with x:=x,y:=y } fun _=>rfl]
theorem mg:∀(ts:List Tree) (k x y:Int) (b b':Box),(∀d,b'.ext d=b.ext d)->au (aS ts k x y) b' k=au ts b k
 | [],k,x,y,b,b',h=>rfl
 | t::ts,k,x,y,b,b',h=>by
   show (((t.moved x y).sound&&(!(t.moved x y).bY k&&decide ((t.moved x y).box.ext (aA k)=b'.ext (aA k))))&&au (if k=2 then aS ts k (x+(t.box.ext k+1)) y else aS ts k x (y+(t.box.ext k+1))) b' k)=((t.sound&&(!t.bY k&&decide (t.box.ext (aA k)=b.ext (aA k))))&&au ts b k)
   rw[uY t,DI,Tree.sQ,h]
   split
   . rw[mg ts k _ _ b b' h]
   . rw[mg ts k _ _ b b' h]
end
theorem yB (t:Tree)(x y:Int)(hk:t.kinds)(h:t.sound=true):(t.moved x y).sound=true:=(uY t x y).trans h
theorem Fj:∀(m:Nat) (l:List aj) (d:Int),l.length<=m->(∀t r,jO l d=I (t,r)->t.kinds)/\bi (di l d).1:=by
 intro m
 induction m with
 | zero=>
   intro l d hm
   have:l=[]:=List.length_eq_zero_iff.1 (by omega)
   subst this
   refine⟨fun t r h=> ?_,?_⟩
   . rw[iy] at h;cases h
   . rw[iC,iy]
     trivial
 | succ m ih=>
   intro l d hm
   have one:∀t r,jO l d=I (t,r)->t.kinds:=by
    intro t r h
    cases l with
    | nil=>rw[iy] at h;cases h
    | cons c l=>
      rw[List.length_cons] at hm
      obtain⟨_,k1⟩:=ih l (d+1) (by omega)
      rw[jG] at h
      split at h
      . split at h
        . cases h
          trivial
        . split at h
          . rename_i Fy
            cases h
            exact⟨Fy,k1⟩
          . cases h
      . cases h
   refine⟨one,?_⟩
   rw[iC]
   cases h:jO l d with
   | none=>trivial
   | some p=>
     obtain⟨t,r⟩:=p
     have hr:=kH l d t r h
     exact⟨one t r h,(ih r d (by omega)).2⟩
structure rC (l:List aj)(t:Tree):Prop where
 kinds:t.kinds
 sound:t.sound=true
 moved:t.moved 0 0=t
 tell:t.tell 0=l
 few:I8 (aH l)=true
theorem aV {l:List aj}{t:Tree}(h:aT l=I t):rC l t:=by
 unfold aT at h
 split at h
 . cases h
 . split at h
   . cases h
   . rename_i t' r ht
     split at h
     . rename_i hc
       cases h
       have hk:=(Fj l.length l 0 (Nat.le_refl _)).1 t' r ht
       exact⟨qX t' 0 0 hk,yB t' 0 0 hk hc.1,oq t' 0 0 0 0,hc.2.1,hc.2.2⟩
     . cases h
theorem Ar {zs:List Int}(h:I8 zs=true):zs.length<=32/\zs.Nodup:=by
 unfold I8 at h
 simpa using h
theorem rC.size {l:List aj}{t:Tree}(h:rC l t):l.length<=63:=by
 have h1:=nH t h.kinds h.sound
 rw[jo t 0 h.kinds,h.tell] at h1
 have h2:=(Ar h.few).1
 have h3:=Tree.eu t 0
 rw[h.tell] at h3
 omega
theorem Lp {l:List aj}{t:Tree}(h:rC l t):aT l=I t:=by
 have ht:jO l 0=I (t,[]):=by
  have:=BP t 0 [] h.kinds (.inl rfl)
  rwa [List.append_nil,h.tell] at this
 rw[uz (by have:=h.size;omega) ht,if_pos ⟨h.sound,by rw[h.moved,h.tell],h.few⟩,h.moved]
theorem rC.grow {l:List aj}{t:Tree}(h:rC l t){c:aj}{r:List aj}(hl:l=c::r):kP 200 c r=(ag t,[]):=by
 have h3:=Tree.eu t 0
 rw[h.tell] at h3
 have h4:=h.size
 exact BO t 0 200 [] c r (by omega) (.inl rfl) (by rw[List.append_nil,h.tell,hl])
theorem rC.steps {l:List aj}{t:Tree}(h:rC l t){c:aj}{r:List aj}(hl:l=c::r):c.depth=0/\c.w<=1000/\c.h<=1000/\jY 0 r=true:=by
 have hs:=t.aF h.sound
 have ht:=h.tell
 cases t with
 | leaf b p=>
   rw[hl] at ht
   cases ht
   exact⟨rfl,hs.1.2,hs.2.2,rfl⟩
 | split b k ts=>
   rw[hl] at ht
   cases ht
   refine⟨rfl,hs.1.2,hs.2.2,?_⟩
   have:=nM ts 1 0 [] (by omega) (by omega) (fun q _=>rfl)
   rwa [List.append_nil] at this
def sg (n:Int):Int:=if n < 0 then -1 else 1
structure Ag (t:Tree)(j n:Int):Prop where
 dir:j=2\/j=3
 sound:t.sound=true
 kinds:t.kinds
 size:t.size<=900
 low: -1000<=n
 high:n<=1000
mutual
inductive Str:Tree->Int->Int->Tree->Prop
 | leaf (b:Box) (p j n:Int):Ag (.leaf b p) j n->Str (.leaf b p) j n (.leaf (b.str j n) p)
 | across (b:Box) (k:Int) (ts:List Tree) (j n:Int) (rs:List Tree):Ag (.split b k ts) j n->j≠k->rs.length=ts.length->(∀(i:Nat) (t r:Tree),ts[i]?=I t->rs[i]?=I r->Str t j n r)->Str (.split b k ts) j n (.split (b.str j n) k rs)
 | along (b:Box) (k:Int) (ts:List Tree) (n:Int) (m:Nat) (rs:List Tree):Ag (.split b k ts) k n->BD k m ts 0 n rs->Str (.split b k ts) k n (.split (b.str k n) k rs)
inductive BD:Int->Nat->List Tree->Nat->Int->List Tree->Prop
 | done (k:Int) (ts:List Tree) (i:Nat):i < ts.length->BD k 0 ts i 0 ts
 | skip (k:Int) (m:Nat) (ts:List Tree) (i:Nat) (n:Int) (rs:List Tree) (t:Tree):n < 0-> -1000<=n->ts[i]?=I t->t.sound=true->t.kinds->t.size<=900->t.room k=0->BD k m ts ((i+1) % ts.length) n rs->BD k (m+1) ts i n rs
 | give (k:Int) (m:Nat) (ts:List Tree) (i:Nat) (n:Int) (rs:List Tree) (t t':Tree):n≠0->(-1000<=n/\n<=1000)->ts[i]?=I t->t.sound=true->t.kinds->t.size<=900->(n < 0->0 < t.room k)->t'.size=t.size->Str t k (sg n) t'->BD k m (ts.set i t') ((i+1) % ts.length) (n-sg n) rs->BD k (m+1) ts i n rs
end
theorem Str.ok {t:Tree}{j n:Int}{t':Tree}(h:Str t j n t'):Ag t j n:=by
 cases h with
 | leaf b p j n h=>exact h
 | across b k ts j n rs h=>exact h
 | along b k ts n m rs h=>exact h
theorem Box.qJ (b:Box)(j n:Int):(b.str j n).ext j=b.ext j+n:=by
 unfold Box.str Box.ext
 split <;> simp
theorem Box.pK (b:Box)(j n q:Int)(hj:j=2\/j=3)(hq:q=2\/q=3)(h:q≠j):(b.str j n).ext q=b.ext q:=by
 rcases hj with rfl | rfl <;> rcases hq with rfl | rfl <;> first | rfl | exact absurd rfl h
theorem Box.oh (b:Box)(j:Int):b.str j 0=b:=by
 unfold Box.str
 split <;> simp
theorem sS (k:Int)(hk:k=2\/k=3):(aA k=2\/aA k=3)/\aA k≠k:=by rcases hk with rfl | rfl <;> decide
theorem yC (j k:Int)(hj:j=2\/j=3)(hk:k=2\/k=3)(h:j≠k):j=aA k:=by rcases hj with rfl | rfl <;> rcases hk with rfl | rfl <;> first | rfl | exact absurd rfl h
theorem df (b:Box)(q:Int)(h:(1<=b.w/\b.w<=1000)/\(1<=b.h/\b.h<=1000)):1<=b.ext q/\b.ext q<=1000:=by
 unfold Box.ext
 split
 . exact h.1
 . exact h.2
theorem yD (b:Box)(j n:Int)(hj:j=2\/j=3)(h:(1<=b.w/\b.w<=1000)/\(1<=b.h/\b.h<=1000))(h1:1<=b.ext j+n)(h2:b.ext j+n<=1000):(aG (b.str j n).w&&aG (b.str j n).h)=true:=by
 rcases hj with rfl | rfl
 . change 1<=b.w+n at h1
   change b.w+n<=1000 at h2
   show (aG (b.w+n)&&aG b.h)=true
   simp only[aG,Bool.and_eq_true,decide_eq_true_eq]
   omega
 . change 1<=b.h+n at h1
   change b.h+n<=1000 at h2
   show (aG b.w&&aG (b.h+n))=true
   simp only[aG,Bool.and_eq_true,decide_eq_true_eq]
   omega
mutual
theorem room_le:∀(t:Tree) (j:Int),(j=2\/j=3)->t.kinds->t.sound=true->t.room j<=t.box.ext j-1
 | .leaf b p,j,hj,hk,hs=>Int.le_refl _
 | .split b k ts,j,hj,hk,hs=>by
   unfold Tree.sound at hs
   simp only[Bool.and_eq_true,decide_eq_true_eq] at hs
   have h:=Bf ts b k j hj hk.1 hk.2 hs.2.1
   show (if j=k then bg ts j else aP ts j)<=b.ext j-1
   have h2:=hs.1.1
   have h3:=hs.2.2
   split
   . rename_i e
     subst e
     have:=h.1
     omega
   . rename_i e
     have:=yC j k hj hk.1 e
     exact h.2 this (by intro h4;rw[h4] at h2;simp at h2)
theorem Bf:∀(ts:List Tree) (b:Box) (k j:Int),(j=2\/j=3)->(k=2\/k=3)->bi ts->au ts b k=true->bg ts j<=aN ts j+1-2*(ts.length:Int)/\(j=aA k->ts≠[]->aP ts j<=b.ext j-1)
 | [],b,k,j,hj,J0,hk,hs=>by
   refine⟨?_,fun _ h=>absurd rfl h⟩
   show (0:Int)<= -1+1-2*((0:Nat):Int)
   omega
 | t::ts,b,k,j,hj,J0,hk,hs=>by
   unfold au at hs
   simp only[Bool.and_eq_true,decide_eq_true_eq] at hs
   have h1:=room_le t j hj hk.1 hs.1.1
   have h2:=(Bf ts b k j hj J0 hk.2 hs.2).1
   refine⟨?_,fun e _=> ?_⟩
   . show t.room j+bg ts j<=t.box.ext j+1+aN ts j+1-2*((ts.length+1:Nat):Int)
     omega
   . show min (t.room j) (aP ts j)<=b.ext j-1
     have h3:=hs.1.2.2
     rw[<- e] at h3
     omega
end
structure Grew (t:Tree)(j n:Int)(t':Tree):Prop where
 sound:t'.sound=true
 kinds:t'.kinds
 size:t'.size=t.size
 box:t'.box=t.box.str j n
 kind:∀q,t'.bY q=t.bY q
 room:t'.room j=t.room j+n
 other:∀q,(q=2\/q=3)->q≠j->t'.room q=t.room q
 ids:t'.idl=t.idl
structure I9 (ts:List Tree)(b:Box)(k s:Int)(rs:List Tree):Prop where
 len:rs.length=ts.length
 sizes:sizes rs=sizes ts
 ext:aN rs k=aN ts k+s
 qm:bg rs k=bg ts k+s
 least:aP rs (aA k)=aP ts (aA k)
 sound:au rs b k=true
 kinds:bi rs
 ids:kF rs=kF ts
theorem tC (t t':Tree)(b:Box)(k s:Int)(hk:k=2\/k=3)(G:Grew t k s t'):∀(ts:List Tree) (i:Nat),ts[i]?=I t->au ts b k=true->bi ts->I9 ts b k s (ts.set i t')
 | [],i,h,_,_=>by simp at h
 | a::ts,0,h,hs,dj=>by
   simp at h
   subst h
   unfold au at hs
   simp only[Bool.and_eq_true,decide_eq_true_eq] at hs
   have ha:=sS k hk
   refine⟨by simp,?_,?_,?_,?_,?_,⟨G.kinds,dj.2⟩,?_⟩
   . show t'.size+Go.Proofs.YtejlincnnonhaaaGreat.sizes ts=a.size+Go.Proofs.YtejlincnnonhaaaGreat.sizes ts
     rw[G.size]
   . show t'.box.ext k+1+aN ts k=a.box.ext k+1+aN ts k+s
     rw[G.box,Box.qJ]
     omega
   . show t'.room k+bg ts k=a.room k+bg ts k+s
     rw[G.room]
     omega
   . show min (t'.room (aA k)) (aP ts (aA k))=min (a.room (aA k)) (aP ts (aA k))
     rw[G.other _ ha.1 ha.2]
   . show au (t'::ts) b k=true
     unfold au
     simp only[Bool.and_eq_true,decide_eq_true_eq]
     refine⟨⟨G.sound,?_,?_⟩,hs.2⟩
     . rw[G.kind]
       exact hs.1.2.1
     . rw[G.box,Box.pK _ _ _ _ hk ha.1 ha.2]
       exact hs.1.2.2
   . show t'.idl++kF ts=a.idl++kF ts
     rw[G.ids]
 | a::ts,i+1,h,hs,dj=>by
   unfold au at hs
   simp only[Bool.and_eq_true,decide_eq_true_eq] at hs
   have ih:=tC t t' b k s hk G ts i (by simpa using h) hs.2 dj.2
   refine⟨by simp,?_,?_,?_,?_,?_,⟨dj.1,ih.kinds⟩,?_⟩
   . show a.size+Go.Proofs.YtejlincnnonhaaaGreat.sizes (ts.set i t')=a.size+Go.Proofs.YtejlincnnonhaaaGreat.sizes ts
     rw[ih.sizes]
   . show a.box.ext k+1+aN (ts.set i t') k=a.box.ext k+1+aN ts k+s
     rw[ih.ext]
     omega
   . show a.room k+bg (ts.set i t') k=a.room k+bg ts k+s
     rw[ih.qm]
     omega
   . show min (a.room (aA k)) (aP (ts.set i t') (aA k))=min (a.room (aA k)) (aP ts (aA k))
     rw[ih.least]
   . show au (a::ts.set i t') b k=true
     unfold au
     simp only[Bool.and_eq_true,decide_eq_true_eq]
     exact⟨hs.1,ih.sound⟩
   . show a.idl++kF (ts.set i t')=a.idl++kF ts
     rw[ih.ids]
theorem I9.trans {ts rs us:List Tree}{b:Box}{k s s':Int}(h:I9 ts b k s rs)(h':I9 rs b k s' us):I9 ts b k (s+s') us:=
 ⟨h'.len.trans h.len,h'.sizes.trans h.sizes,by rw[h'.ext,h.ext];omega,by rw[h'.qm,h.qm];omega,h'.least.trans h.least,h'.sound,h'.kinds,h'.ids.trans h.ids⟩
def Can (t:Tree):Prop:=∀j n,(j=2\/j=3)->t.sound=true->t.kinds->t.size<=900->0<=t.room j+n->t.box.ext j+n<=1000->∃t',Str t j n t'/\Grew t j n t'
theorem bF:∀(ts:List Tree) (i:Nat) (t:Tree),ts[i]?=I t->bi ts->t.kinds
 | [],i,t,h,_=>by simp at h
 | a::ts,0,t,h,hk=>by simp at h;subst h;exact hk.1
 | a::ts,i+1,t,h,hk=>bF ts i t (by simpa using h) hk.2
theorem bI:∀(ts:List Tree) (i:Nat) (t:Tree),ts[i]?=I t->t.size<=sizes ts
 | [],i,t,h=>by simp at h
 | a::ts,0,t,h=>by
   simp at h
   subst h
   show a.size<=a.size+sizes ts
   omega
 | a::ts,i+1,t,h=>by
   have:=bI ts i t (by simpa using h)
   show t.size<=a.size+sizes ts
   omega
theorem BA:∀(ts:List Tree) (b:Box) (k:Int) (i:Nat) (t:Tree),ts[i]?=I t->au ts b k=true->t.box.ext k<=aN ts k/\ -1<=aN ts k
 | [],b,k,i,t,h,hs=>by simp at h
 | a::ts,b,k,i,t,h,hs=>by
   unfold au at hs
   simp only[Bool.and_eq_true,decide_eq_true_eq] at hs
   have h1:=df a.box k (a.aF hs.1.1)
   have h2:∀ts:List Tree,au ts b k=true-> -1<=aN ts k:=by
    intro ts
    induction ts with
    | nil=>intro _;exact Int.le_refl _
    | cons c cs ih=>
      intro hc
      unfold au at hc
      simp only[Bool.and_eq_true,decide_eq_true_eq] at hc
      have h3:=df c.box k (c.aF hc.1.1)
      have h4:=ih hc.2
      show -1<=c.box.ext k+1+aN cs k
      omega
   have h5:=h2 ts hs.2
   show t.box.ext k<=a.box.ext k+1+aN ts k/\ -1<=a.box.ext k+1+aN ts k
   cases i with
   | zero=>
     simp at h
     subst h
     omega
   | succ i=>
     have:=(BA ts b k i t (by simpa using h) hs.2).1
     omega
theorem DK:∀(ts:List Tree) (j:Int),0 < bg ts j->∃(i:Nat) (t:Tree),ts[i]?=I t/\0 < t.room j
 | [],j,h=>by
   change (0:Int) < 0 at h
   omega
 | a::ts,j,h=>by
   by_cases h1:0 < a.room j
   . exact⟨0,a,rfl,h1⟩
   . change 0 < a.room j+bg ts j at h
     obtain⟨i,t,h2,h3⟩:=DK ts j (by omega)
     exact⟨i+1,t,h2,h3⟩
theorem step_mod (i d L:Nat)(hi:i < L)(hd:0 < d):((i+1) % L+(d-1)) % L=(i+d) % L:=by
 rw[Nat.mod_add_mod]
 congr 1
 omega
theorem NW (b:Box)(k:Int)(hk:k=2\/k=3)(N:Nat)(IH:∀t,t.size<=N->Can t)(hN:N<=900):∀(a:Nat) (n:Int),n.natAbs=a->∀(ts:List Tree) (i:Nat),i < ts.length->au ts b k=true->bi ts->sizes ts<=N-> -1000<=n->0<=bg ts k+n->aN ts k+n<=1000->∃m rs,BD k m ts i n rs/\I9 ts b k n rs:=by
 intro a
 induction a with
 | zero=>
   intro n hn ts i hi hs dj hz j9 hr he
   have:n=0:=Int.natAbs_eq_zero.1 hn
   subst this
   exact⟨0,ts,.done k ts i hi,rfl,rfl,by omega,by omega,rfl,hs,dj,rfl⟩
 | succ a ih=>
   intro n hn ts i hi hs dj hz j9 hr he
   have give:∀(i:Nat) (t:Tree),ts[i]?=I t->i < ts.length->(n < 0->0 < t.room k)->∃m rs,BD k m ts i n rs/\I9 ts b k n rs:=by
    intro i t ht hi nu
    have ar:=aO ts b k i t ht hs
    simp only[Bool.and_eq_true,decide_eq_true_eq] at ar
    have hsz:=bI ts i t ht
    have eB:=bF ts i t ht dj
    have ju:=BA ts b k i t ht hs
    have LI:=bT t k ar.1
    have hside:=df t.box k (t.aF ar.1)
    have XI:0<=t.room k+sg n:=by
     unfold sg
     split
     . have:=nu (by assumption)
       omega
     . omega
    obtain⟨t',h1,h2⟩:=IH t (by omega) k (sg n) hk ar.1 eB (by omega) XI (by unfold sg;split <;> omega)
    have cF:=tC t t' b k (sg n) hk h2 ts i ht hs dj
    obtain⟨m,rs,h3,h4⟩:=ih (n-sg n) (by unfold sg;split <;> omega) (ts.set i t') ((i+1) % ts.length) (by rw[List.length_set];exact Nat.mod_lt _ (by omega)) cF.sound cF.kinds (by rw[cF.sizes];exact hz) (by unfold sg;split <;> omega) (by rw[cF.qm];omega) (by rw[cF.ext];omega)
    have hL: -1<=aN ts k:=ju.2
    refine⟨m+1,rs,.give k m ts i n rs t t' (by omega) (by omega) ht ar.1 eB (by omega) nu h2.size h1 h3,?_⟩
    have:=cF.trans h4
    rwa [show sg n+(n-sg n)=n by omega] at this
   by_cases eR:n < 0
   . obtain⟨i0,t0,h1,h2⟩:=DK ts k (by omega)
     have AH:i0 < ts.length:=by
      rcases Nat.lt_or_ge i0 ts.length with h | h
      . exact h
      . rw[List.getElem?_eq_none h] at h1
        cases h1
     have walk:∀(d i:Nat),i < ts.length->(i+d) % ts.length=i0->∃m rs,BD k m ts i n rs/\I9 ts b k n rs:=by
      intro d
      induction d with
      | zero=>
        intro i hi Vs
        rw[Nat.add_zero,Nat.mod_eq_of_lt hi] at Vs
        subst Vs
        exact give i t0 h1 hi fun _=>h2
      | succ d ihd=>
        intro i hi Vs
        obtain⟨t,ht⟩:∃t,ts[i]?=I t:=⟨_,List.getElem?_eq_getElem hi⟩
        have ar:=aO ts b k i t ht hs
        simp only[Bool.and_eq_true,decide_eq_true_eq] at ar
        have LI:=bT t k ar.1
        by_cases h0:t.room k=0
        . obtain⟨m,rs,h3,h4⟩:=ihd ((i+1) % ts.length) (Nat.mod_lt _ (by omega)) (by have:=step_mod i (d+1) ts.length hi (by omega);rw[Nat.add_sub_cancel] at this;rw[this];exact Vs)
          have hsz:=bI ts i t ht
          exact⟨m+1,rs,.skip k m ts i n rs t eR j9 ht ar.1 (bF ts i t ht dj) (by omega) h0 h3,h4⟩
        . exact give i t ht hi fun _=>by omega
     refine walk (i0+(ts.length-i)) i hi ?_
     rw[show i+(i0+(ts.length-i))=i0+ts.length by omega,Nat.add_mod_right,Nat.mod_eq_of_lt AH]
   . exact give i _ (List.getElem?_eq_getElem hi) hi fun h=>absurd h eR
structure Qi (ts:List Tree)(b:Box)(k n:Int)(rs:List Tree):Prop where
 len:rs.length=ts.length
 each:∀(i:Nat) (t r:Tree),ts[i]?=I t->rs[i]?=I r->Str t (aA k) n r
 sizes:sizes rs=sizes ts
 ext:aN rs k=aN ts k
 qm:bg rs k=bg ts k
 least:ts≠[]->aP rs (aA k)=aP ts (aA k)+n
 sound:au rs (b.str (aA k) n) k=true
 kinds:bi rs
 ids:kF rs=kF ts
theorem LQ (b:Box)(k:Int)(hk:k=2\/k=3)(n:Int):∀(ts:List Tree),(∀t∈ts,Can t)->au ts b k=true->bi ts->sizes ts<=900->0<=aP ts (aA k)+n->b.ext (aA k)+n<=1000->∃rs,Qi ts b k n rs
 | [],_,hs,dj,hz,hr,he=>⟨[],rfl,fun i t r h=>by simp at h,rfl,rfl,rfl,fun h=>absurd rfl h,rfl,trivial,rfl⟩
 | a::ts,IH,hs,dj,hz,hr,he=>by
   have ha:=sS k hk
   unfold au at hs
   simp only[Bool.and_eq_true,decide_eq_true_eq] at hs
   change a.size+sizes ts<=900 at hz
   change 0<=min (a.room (aA k)) (aP ts (aA k))+n at hr
   obtain⟨rs,h⟩:=LQ b k hk n ts (fun t ht=>IH t (List.mem_cons_of_mem _ ht)) hs.2 dj.2 (by omega) (by omega) he
   obtain⟨r,h1,h2⟩:=IH a List.mem_cons_self (aA k) n ha.1 hs.1.1 dj.1 (by omega) (by omega) (by rw[hs.1.2.2];exact he)
   refine⟨r::rs,by simp[h.len],?_,?_,?_,?_,?_,?_,⟨h2.kinds,h.kinds⟩,?_⟩
   . intro i t r' e1 e2
     cases i with
     | zero=>
       simp at e1 e2
       subst e1 e2
       exact h1
     | succ i=>exact h.each i t r' (by simpa using e1) (by simpa using e2)
   . show r.size+Go.Proofs.YtejlincnnonhaaaGreat.sizes rs=a.size+Go.Proofs.YtejlincnnonhaaaGreat.sizes ts
     rw[h2.size,h.sizes]
   . show r.box.ext k+1+aN rs k=a.box.ext k+1+aN ts k
     rw[h.ext,h2.box,Box.pK _ _ _ _ ha.1 hk (Ne.symm ha.2)]
   . show r.room k+bg rs k=a.room k+bg ts k
     rw[h.qm,h2.other k hk (Ne.symm ha.2)]
   . intro _
     show min (r.room (aA k)) (aP rs (aA k))=min (a.room (aA k)) (aP ts (aA k))+n
     rw[h2.room]
     have gh:=room_le a (aA k) ha.1 dj.1 hs.1.1
     have hrs:=room_le r (aA k) ha.1 h2.kinds h2.sound
     rw[h2.room,h2.box,Box.qJ] at hrs
     have hx:=hs.1.2.2
     have hb:=df a.box (aA k) (a.aF hs.1.1)
     cases gn:ts with
     | nil=>
       have:rs=[]:=by
        have:=h.len
        rw[gn] at this
        exact List.length_eq_zero_iff.1 this
       subst this
       show min (a.room (aA k)+n) 1000=min (a.room (aA k)) 1000+n
       omega
     | cons c cs=>
       rw[<- gn,h.least (by rw[gn];simp)]
       omega
   . show au (r::rs) (b.str (aA k) n) k=true
     unfold au
     simp only[Bool.and_eq_true,decide_eq_true_eq]
     refine⟨⟨h2.sound,?_,?_⟩,h.sound⟩
     . rw[h2.kind]
       exact hs.1.2.1
     . rw[h2.box,Box.qJ,Box.qJ,hs.1.2.2]
   . show r.idl++kF rs=a.idl++kF ts
     rw[h2.ids,h.ids]
theorem Pi:∀(N:Nat) (t:Tree),t.size<=N->Can t:=by
 intro N
 induction N with
 | zero=>
   intro t ht
   have:=t.kK
   omega
 | succ N ih=>
   intro t ht j n hj hs dj hz hr he
   have gh:=room_le t j hj dj hs
   have ar:=t.aF hs
   have hx:=df t.box j ar
   have bN:Ag t j n:=⟨hj,hs,dj,hz,by omega,by omega⟩
   cases t with
   | leaf b p=>
     refine⟨_,.leaf b p j n bN,?_,trivial,rfl,rfl,fun q=>rfl,?_,?_,rfl⟩
     . unfold Tree.sound at hs ⊢
       rw[Bool.and_eq_true] at hs ⊢
       exact⟨yD b j n hj ar (by change b.ext j-1<=b.ext j-1 at gh;change 0<=b.ext j-1+n at hr;omega) he,hs.2⟩
     . show (b.str j n).ext j-1=b.ext j-1+n
       rw[Box.qJ]
       omega
     . intro q hq a7
       show (b.str j n).ext q-1=b.ext q-1
       rw[Box.pK b j n q hj hq a7]
   | split b k ts=>
     have ej:=hs
     unfold Tree.sound at ej
     simp only[Bool.and_eq_true,decide_eq_true_eq] at ej
     obtain⟨hk,sA⟩:=dj
     change 1+sizes ts<=900 at hz
     change 1+sizes ts<=N+1 at ht
     by_cases oe:j=k
     . subst oe
       have eL:(Tree.split b j ts).room j=bg ts j:=if_pos rfl
       rw[eL] at hr gh
       obtain⟨m,rs,h1,h2⟩:=NW b j hk (min N 900) (fun t h=>ih t (by omega)) (by omega) n.natAbs n rfl ts 0 (by omega) ej.2.1 sA (by omega) (by have:=bN.low;omega) hr (by rw[ej.2.2];exact he)
       refine⟨_,.along b j ts n m rs bN h1,?_,⟨hk,h2.kinds⟩,?_,rfl,fun q=>rfl,?_,?_,h2.ids⟩
       . unfold Tree.sound
         have ha:=sS j hk
         simp only[Bool.and_eq_true,decide_eq_true_eq]
         refine⟨⟨by rw[h2.len];exact ej.1.1,?_⟩,?_,?_⟩
         . have:=yD b j n hk ar (by change _<=b.ext j-1 at gh;omega) he
           rwa [Bool.and_eq_true] at this
         . have e:∀(us:List Tree),au us (b.str j n) j=au us b j:=by
            intro us
            induction us with
            | nil=>rfl
            | cons u us ihu=>
              unfold au
              rw[ihu,Box.pK b j n (aA j) hk ha.1 ha.2]
           rw[e]
           exact h2.sound
         . rw[h2.ext,Box.qJ,ej.2.2]
       . show 1+sizes rs=1+sizes ts
         rw[h2.sizes]
       . rw[eL]
         show (if j=j then bg rs j else aP rs j)=_
         rw[if_pos rfl,h2.qm]
       . intro q hq a7
         show (if q=j then bg rs q else aP rs q)=(if q=j then bg ts q else aP ts q)
         rw[if_neg a7,if_neg a7,yC q j hq hk a7,h2.least]
     . have hja:=yC j k hj hk oe
       have eL:(Tree.split b k ts).room j=aP ts j:=if_neg oe
       rw[eL] at hr gh
       have ha:=sS k hk
       subst hja
       obtain⟨rs,h⟩:=LQ b k hk n ts (fun t Xp=>by
        obtain⟨i,hi⟩:=List.getElem?_of_mem Xp
        have:=bI ts i t hi
        exact ih t (by omega)) ej.2.1 sA (by omega) hr he
       refine⟨_,.across b k ts (aA k) n rs bN oe h.len h.each,?_,⟨hk,h.kinds⟩,?_,rfl,fun q=>rfl,?_,?_,h.ids⟩
       . unfold Tree.sound
         simp only[Bool.and_eq_true,decide_eq_true_eq]
         refine⟨⟨by rw[h.len];exact ej.1.1,?_⟩,h.sound,?_⟩
         . have:=yD b (aA k) n ha.1 ar (by change _<=b.ext _-1 at gh;omega) he
           rwa [Bool.and_eq_true] at this
         . rw[h.ext,Box.pK _ _ _ _ ha.1 hk (Ne.symm ha.2),ej.2.2]
       . show 1+sizes rs=1+sizes ts
         rw[h.sizes]
       . rw[eL]
         show (if aA k=k then bg rs (aA k) else aP rs (aA k))=_
         rw[if_neg ha.2,h.least (by intro e;have:=ej.1.1;rw[e] at this;simp at this)]
       . intro q hq a7
         have hqk:q=k:=by rcases hk with rfl | rfl <;> rcases hq with rfl | rfl <;> first | rfl | exact absurd rfl a7
         subst hqk
         show (if q=q then bg rs q else aP rs q)=(if q=q then bg ts q else aP ts q)
         rw[if_pos rfl,if_pos rfl,h.qm]
theorem tu (t:Tree):Can t:=Pi t.size t (Nat.le_refl _)
theorem oh:∀(N:Nat) (t:Tree),t.size<=N->∀j t',Str t j 0 t'->t'=t:=by
 intro N
 induction N with
 | zero=>
   intro t ht
   have:=t.kK
   omega
 | succ N ih=>
   intro t ht j t' h
   cases h with
   | leaf b p j n bN=>rw[Box.oh]
   | across b k ts j n rs bN a7 hlen mI=>
     change 1+sizes ts<=N+1 at ht
     have:rs=ts:=by
      apply List.ext_getElem?
      intro i
      rcases Nat.lt_or_ge i ts.length with hi | hi
      . have e1:ts[i]?=I ts[i]:=List.getElem?_eq_getElem hi
        have e2:rs[i]?=I (rs[i]'(by omega)):=List.getElem?_eq_getElem (by omega)
        have:=bI ts i _ e1
        rw[e1,e2,ih _ (by omega) j _ (mI i _ _ e1 e2)]
      . rw[List.getElem?_eq_none hi,List.getElem?_eq_none (by omega)]
     rw[this,Box.oh]
   | along b k ts n m rs bN hd=>
     cases hd with
     | done k ts i hi=>rw[Box.oh]
     | skip k m ts i n rs t eR=>exact absurd eR (by decide)
     | give k m ts i n rs t t' a7=>exact absurd rfl a7
end Go.Proofs.YtejlincnnonhaaaGreat
