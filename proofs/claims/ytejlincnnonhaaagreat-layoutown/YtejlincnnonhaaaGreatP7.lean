import Derived.Test.YtejlincnnonhaaaGreatP4
import Derived.BigQuiet
import Derived.Laws.AppendOwnNone
namespace Go.Proofs.YtejlincnnonhaaaGreat
open Go.RowKit Go.Proofs.Tryz
open Value renaming int->J,slice->Jj,pointer->JJ
open IntKind renaming i64->Jq
open Option renaming none->O,some->I
open Ending renaming returned->Jz
open Obj renaming cells->JZ
set_option linter.unusedVariables false
set_option maxRecDepth 100000
set_option maxHeartbeats 16000000
def fQ (n:Node)(sl:Value):List Value:=[J Jq n.k,J Jq n.w,J Jq n.h,J Jq n.i,sl]
def aC (n:Node)(sl:Value):Array Value:=#[J Jq n.k,J Jq n.w,J Jq n.h,J Jq n.i,sl]
theorem oQ (n:Node)(sl:Value)(j:Nat):(fQ n sl)[j]?=(aC n sl)[j]?:=by unfold fQ aC;simp
mutual
def Node.In (W:World):Node->Value->List Nat->Prop
 | .mk _ _ _ _ ks,sl,fp=>∃cs fs,W.ownsRow 0 53 5 sl ks.length cs/\aY W ks cs fs/\fp=sl.ownBlock.toList++fs
def aY (W:World):List Node->List Value->List Nat->Prop
 | [],cs,fp=>cs=[]/\fp=[]
 | n::r,cs,fp=>∃sl cs' f f',cs=fQ n sl++cs'/\n.In W sl f/\aY W r cs' f'/\fp=f++f'
end
theorem dE {W W':World}{B s:Nat}{t:TypeId}{sl:Value}{n:Nat}{vs:List Value}(h:W.ownsRow B t s sl n vs)(hk:∀g∈sl.ownBlock.toList,W'.heap[g]?=W.heap[g]?):W'.ownsRow B t s sl n vs:=by
 refine⟨h.1,?_⟩
 rcases h.2 with h0 | ⟨g,cap,cur,rfl,hb,hg,r⟩
 . exact .inl h0
 . exact .inr ⟨g,cap,cur,rfl,hb,(hk g (by simp[Value.ownBlock])).trans hg,r⟩
theorem iD {W:World}{B s:Nat}{t:TypeId}{sl:Value}{n:Nat}{vs:List Value}(h:W.ownsRow B t s sl n vs):∀g∈sl.ownBlock.toList,g < W.heap.size:=fun g hg=>(World.ownsRow.lt h g (by simpa using hg)).2
theorem dG {W:World}{B s:Nat}{t:TypeId}{sl:Value}{n:Nat}{vs:List Value}(h:W.ownsRow B t s sl n vs):∃a c,sl=Jj a n c:=by
 rcases h.2 with ⟨h0,h1⟩ | ⟨g,cap,cur,rfl,_⟩
 . exact⟨O,0,by rw[h0,h1]⟩
 . exact⟨_,_,rfl⟩
mutual
theorem Node.In.keep {W W':World}:∀{n:Node} {sl:Value} {fp:List Nat},n.In W sl fp->(∀g∈fp,W'.heap[g]?=W.heap[g]?)->n.In W' sl fp
 | .mk _ _ _ _ ks,sl,fp,h,hk=>by
   obtain⟨cs,fs,h1,h2,rfl⟩:=h
   exact⟨cs,fs,dE h1 (fun q hq=>hk q (List.mem_append_left _ hq)),aY.keep h2 (fun q hq=>hk q (List.mem_append_right _ hq)),rfl⟩
theorem aY.keep {W W':World}:∀{ns:List Node} {cs:List Value} {fp:List Nat},aY W ns cs fp->(∀g∈fp,W'.heap[g]?=W.heap[g]?)->aY W' ns cs fp
 | [],cs,fp,h,hk=>h
 | n::r,cs,fp,h,hk=>by
   obtain⟨sl,cs',f,f',h1,h2,h3,rfl⟩:=h
   exact⟨sl,cs',f,f',h1,Node.In.keep h2 (fun q hq=>hk q (List.mem_append_left _ hq)),aY.keep h3 (fun q hq=>hk q (List.mem_append_right _ hq)),rfl⟩
end
mutual
theorem Node.In.lt {W:World}:∀{n:Node} {sl:Value} {fp:List Nat},n.In W sl fp->∀g∈fp,g < W.heap.size
 | .mk _ _ _ _ ks,sl,fp,h=>by
   obtain⟨cs,fs,h1,h2,rfl⟩:=h
   intro g hg
   rcases List.mem_append.1 hg with hg | hg
   . exact iD h1 g hg
   . exact aY.lt h2 g hg
theorem aY.lt {W:World}:∀{ns:List Node} {cs:List Value} {fp:List Nat},aY W ns cs fp->∀g∈fp,g < W.heap.size
 | [],cs,fp,h=>by
   obtain⟨_,rfl⟩:=h
   intro g hg
   cases hg
 | n::r,cs,fp,h=>by
   obtain⟨sl,cs',f,f',h1,h2,h3,rfl⟩:=h
   intro g hg
   rcases List.mem_append.1 hg with hg | hg
   . exact Node.In.lt h2 g hg
   . exact aY.lt h3 g hg
end
theorem Node.In.below {W W':World}{n:Node}{sl:Value}{fp:List Nat}(h:n.In W sl fp)(hb:Below W.heap.size W W'):n.In W' sl fp:=h.keep fun g hg=>hb.block g (h.lt g hg)
theorem aY.below {W W':World}{ns:List Node}{cs:List Value}{fp:List Nat}(h:aY W ns cs fp)(hb:Below W.heap.size W W'):aY W' ns cs fp:=h.keep fun g hg=>hb.block g (h.lt g hg)
theorem Node.In.sl {W:World}{n:Node}{sl:Value}{fp:List Nat}(h:n.In W sl fp):∃a c,sl=Jj a n.ks.length c:=by
 cases n with
 | mk k w h' i ks=>
   obtain⟨cs,fs,h1,_⟩:=h
   exact dG h1
theorem aY.length {W:World}:∀{ns:List Node} {cs:List Value} {fp:List Nat},aY W ns cs fp->cs.length=ns.length*5
 | [],cs,fp,h=>by rw[h.1];rfl
 | n::r,cs,fp,h=>by
   obtain⟨sl,cs',f,f',rfl,h2,h3,rfl⟩:=h
   rw[List.length_append,aY.length h3,List.length_cons]
   show 5+_=_
   omega
theorem aY.get {W:World}:∀{ns:List Node} {cs:List Value} {fp:List Nat},aY W ns cs fp->∀(i:Nat) (n:Node),ns[i]?=I n->∃sl f,n.In W sl f/\(∀q∈f,q∈fp)/\∀j,j < 5->cs[i*5+j]?=(fQ n sl)[j]?
 | [],cs,fp,h,i,n,hi=>by cases hi
 | a::r,cs,fp,h,0,n,hi=>by
   obtain⟨sl,cs',f,f',rfl,h2,h3,rfl⟩:=h
   cases hi
   refine⟨sl,f,h2,fun q hq=>List.mem_append_left _ hq,fun j hj=> ?_⟩
   rw[Nat.zero_mul,Nat.zero_add,List.getElem?_append_left (by show j < 5;exact hj)]
 | a::r,cs,fp,h,i+1,n,hi=>by
   obtain⟨sl,cs',f,f',rfl,h2,h3,rfl⟩:=h
   obtain⟨sl1,f1,e1,e2,e3⟩:=aY.get h3 i n hi
   refine⟨sl1,f1,e1,fun q hq=>List.mem_append_right _ (e2 q hq),fun j hj=> ?_⟩
   rw[<- e3 j hj,List.getElem?_append_right (by show 5<=(i+1)*5+j;omega)]
   show cs'[(i+1)*5+j-5]?=_
   rw[show (i+1)*5+j-5=i*5+j by omega]
theorem aY.snoc {W:World}{n:Node}{sl:Value}{f:List Nat}(h2:n.In W sl f):∀{ns:List Node} {cs:List Value} {fs:List Nat},aY W ns cs fs->aY W (ns++[n]) (cs++fQ n sl) (fs++f)
 | [],cs,fs,h=>by
   obtain⟨rfl,rfl⟩:=h
   exact⟨sl,[],f,[],by simp,h2,⟨rfl,rfl⟩,by simp⟩
 | a::ns,cs,fs,h=>by
   obtain⟨sl1,cs',f1,f',rfl,h3,h4,rfl⟩:=h
   exact⟨sl1,cs'++fQ n sl,f1,f'++f,by simp,h3,aY.snoc h2 h4,by simp⟩
structure kG (W:World)(b off:Nat)(n:Node)(sl:Value):Prop where
 q0:W.cell? ⟨b,off,O⟩=I (J Jq n.k)
 q1:W.cell? ⟨b,off+1,O⟩=I (J Jq n.w)
 q2:W.cell? ⟨b,off+2,O⟩=I (J Jq n.h)
 q3:W.cell? ⟨b,off+3,O⟩=I (J Jq n.i)
 q4:W.cell? ⟨b,off+4,O⟩=I sl
theorem Node.In.kids {W:World}{k w h i:Int}{ks:List Node}{sl:Value}{fp:List Nat}(hn:(Node.mk k w h i ks).In W sl fp)(a7:ks≠[]):∃g cap,sl=Jj (I ⟨g,0,O⟩) ks.length cap/\g < W.heap.size/\∀(j:Nat) (n:Node),ks[j]?=I n->∃sl' f,n.In W sl' f/\kG W g (j*5) n sl':=by
 obtain⟨cs,fs,h1,h2,rfl⟩:=hn
 rcases h1.2 with ⟨h0,h3⟩ | ⟨g,cap,cur,rfl,_,hg,_,_,h5,h6⟩
 . exact absurd (List.length_eq_zero_iff.1 h3) a7
 . refine⟨g,cap,rfl,lt_of_block hg,fun j n hj=> ?_⟩
   obtain⟨sl',f,e1,e2,e3⟩:=h2.get j n hj
   have am:j < ks.length:=(List.getElem?_eq_some_iff.1 hj).1
   have hc:∀o,o < 5->W.cell? ⟨g,j*5+o,O⟩=(fQ n sl')[o]?:=by
    intro o ho
    rw[ae hg,<- e3 o ho,<- h6,List.getElem?_take_of_lt (by omega)]
    simp
   exact⟨sl',f,e1,hc 0 (by omega),hc 1 (by omega),hc 2 (by omega),hc 3 (by omega),hc 4 (by omega)⟩
theorem eX:(prog.info? 53).map (fun i=>(i.zero,i.size,i.bytes))=I (I (.agg #[J Jq 0,J Jq 0,J Jq 0,J Jq 0,Jj O 0 0]),5,56):=by kernel_rfl
theorem rP {ops:Array Oper}{rest:List Oper}{o:Oper}{a:Act}{Q:Exit->Act->World->Prop}(w:World)(e9:o.guard=O)(s x:Operand)
 (ho:o.op=.call { callee:=.builtin .append,args:=#[s,x],argTypes:=#[51,51] })
 (v:Value) (m:Nat) (cs:List Value) (n:Node) (sa:Option Addr) (sn sc:Nat) (hs:a.eval s=v) (bm:w.ownsRow 0 53 5 v m cs) (hx:a.eval x=Jj (I ⟨w.heap.size,0,O⟩) 1 1) (hlen:m<=1000000)
 (h:∀v' w',w'.ownsRow 0 53 5 v' (m+1) (cs++fQ n (Jj sa sn sc))->(w.alloc (.cells (aC n (Jj sa sn sc)) 53)).grownBy w' v.ownBlock->(v'.ownBlock=v.ownBlock\/v'.ownBlock=I (w.alloc (.cells (aC n (Jj sa sn sc)) 53)).heap.size)->wpList prog ops Q rest (a.put o.dst v') w'):wpList prog ops Q (o::rest) a (w.alloc (.cells (aC n (Jj sa sn sc)) 53)):=by
 obtain⟨i0,hi,eh,db,cJ⟩:=bH eX
 refine wpList_append_own_at _ e9 s x 51 ho 0 53 i0 _ 5 56 underlying51 hi eh db cJ rfl (by decide) v m cs hs (World.ownsRow.alloc bm _) ⟨w.heap.size,0,O⟩ 1 1 (fQ n (Jj sa sn sc)) hx rfl ?_ ?_ ?_ ?_ (Nat.zero_le _) ?_
 . intro j u hu
   rw[show (⟨w.heap.size,0,O⟩:Addr).add j=⟨w.heap.size,j,O⟩ by unfold Addr.add;split <;> simp_all,dW,<- oQ]
   exact hu
 . intro u hu
   have ll:u∈[Value.int .i64 n.k,J Jq n.w,J Jq n.h,J Jq n.i,Jj sa sn sc]:=hu
   simp only[List.mem_cons,List.not_mem_nil,or_false] at ll
   rcases ll with rfl | rfl | rfl | rfl | rfl <;> rfl
 . unfold maxLen;omega
 . omega
 . intro v' w' h2 h3 _ h5
   exact h v' w' h2 h3 h5
theorem nS:∀(m:Nat),(∀c r,(kP m c r).2.length<=r.length)/\(∀d r,(dn m d r).2.length<=r.length)
 | 0=>⟨fun c r=>Nat.le_refl _,fun d r=>Nat.le_refl _⟩
 | m+1=>by
   obtain⟨i1,i2⟩:=nS m
   refine⟨fun c r=>i2 c.depth r,fun d r=> ?_⟩
   cases r with
   | nil=>exact Nat.le_refl _
   | cons c r=>
     unfold dn
     simp only[]
     split
     . have h1:=i1 c r
       have h2:=i2 d (kP m c r).2
       rw[List.length_cons]
       simp only[]
       omega
     . exact Nat.le_refl _
theorem uh:∀(q:Nat),(∀m m' c r,r.length < q->2*r.length+1<=m->2*r.length+1<=m'->kP m c r=kP m' c r)/\(∀m m' d r,r.length < q->2*r.length<=m->2*r.length<=m'->dn m d r=dn m' d r)
 | 0=>⟨fun _ _ _ _ h=>by omega,fun _ _ _ _ h=>by omega⟩
 | q+1=>by
   obtain⟨i1,i2⟩:=uh q
   have two:∀m m' d r,r.length < q+1->2*r.length<=m->2*r.length<=m'->dn m d r=dn m' d r:=by
    intro m m' d r hr hm Ml
    cases r with
    | nil=>cases m <;> cases m' <;> rfl
    | cons c r=>
      rw[List.length_cons] at hr hm Ml
      obtain⟨k,rfl⟩:∃k,m=k+1:=⟨m-1,by omega⟩
      obtain⟨k',rfl⟩:∃k,m'=k+1:=⟨m'-1,by omega⟩
      unfold dn
      simp only[]
      have h1:=i1 k k' c r (by omega) (by omega) (by omega)
      have h2:=(nS k').1 c r
      rw[h1,i2 k k' d (kP k' c r).2 (by omega) (by omega) (by omega)]
   refine⟨fun m m' c r hr hm Ml=> ?_,two⟩
   obtain⟨k,rfl⟩:∃k,m=k+1:=⟨m-1,by omega⟩
   obtain⟨k',rfl⟩:∃k,m'=k+1:=⟨m'-1,by omega⟩
   unfold kP
   rw[two k k' c.depth r hr (by omega) (by omega)]
def fG (c:aj)(r:List aj):Node × List aj:=kP (2*r.length+1) c r
def fU (d:Int)(r:List aj):List Node × List aj:=dn (2*r.length) d r
theorem Am (c:aj)(r:List aj):fG c r=(.mk c.kind c.w c.h c.p (fU c.depth r).1,(fU c.depth r).2):=by
 unfold fG fU kP
 rfl
theorem BZ (d:Int):fU d []=([],[]):=rfl
theorem kS (c:aj)(r:List aj):(fG c r).2.length<=r.length:=(nS _).1 c r
theorem nO (d:Int)(c:aj)(r:List aj):fU d (c::r)=if d < c.depth then ((fG c r).1::(fU d (fG c r).2).1,(fU d (fG c r).2).2) else ([],c::r):=by
 have hs:=kS c r
 unfold fG at hs ⊢
 unfold fU
 rw[show 2*(c::r).length=(2*r.length+1)+1 by rw[List.length_cons];omega]
 conv=>lhs;unfold dn
 simp only[]
 rw[(uh (r.length+1)).2 (2*r.length+1) (2*(kP (2*r.length+1) c r).2.length) d (kP (2*r.length+1) c r).2 (by omega) (by omega) (by omega)]
theorem rC.fG {l:List aj}{t:Tree}(h:rC l t){c:aj}{r:List aj}(hl:l=c::r):Go.Proofs.YtejlincnnonhaaaGreat.fG c r=(ag t,[]):=by
 rw[<- h.grow hl]
 have:=h.size
 rw[hl,List.length_cons] at this
 exact (uh (r.length+1)).1 _ 200 c r (by omega) (by omega) (by omega)
def kR (l:List aj)(c:aj)(r:List aj)(w:World)(e:Ending)(w':World):Prop:=
 ∃sa sn sc fp pre,e=Jz (.tuple #[.agg (aC (fG c r).1 (Jj sa sn sc)),J Jq (pre:List aj).length])/\l=pre++(fG c r).2/\(fG c r).1.In w' (Jj sa sn sc) fp/\fp.Nodup/\(∀q∈fp,w.heap.size<=q)/\Below w.heap.size w w'
structure jP (l:List aj)(c:aj)(r0:List aj)(w:World)(sl:Value)(ts:List Node)(pre r:List aj)(wr:World):Prop where
 res:wr.heap[w.heap.size]?=I (JZ #[J Jq 0,J Jq 0,J Jq 0,J Jq 0,Jj O 0 0] 53 (0,0))
 cel:wr.heap[w.heap.size+1]?=I (JZ #[J Jq c.depth,J Jq c.kind,J Jq c.x,J Jq c.y,J Jq c.w,J Jq c.h,J Jq c.p] 41 (0,0))
 nod:wr.heap[w.heap.size+2]?=I (JZ #[J Jq c.kind,J Jq c.w,J Jq c.h,J Jq c.p,sl] 53 (0,0))
 row:∃cs fs,wr.ownsRow 0 53 5 sl ts.length cs/\aY wr ts cs fs/\(sl.ownBlock.toList++fs).Nodup/\∀q∈sl.ownBlock.toList++fs,w.heap.size+3<=q
 eq:fU c.depth r0=(ts++(fU c.depth r).1,(fU c.depth r).2)
 at_:l=pre++r
 below:Below w.heap.size w wr
 len:ts.length+r.length<=r0.length
theorem Qm (w:World)(o1 o2 o3:Obj):(((w.alloc o1).alloc o2).alloc o3).heap[w.heap.size]?=(w.alloc o1).heap[w.heap.size]?/\(((w.alloc o1).alloc o2).alloc o3).heap[w.heap.size+1]?=((w.alloc o1).alloc o2).heap[w.heap.size+1]?:=by
 have b1:=(Below.refl ((w.alloc o1).heap.size) (w.alloc o1)).alloc (Nat.le_refl _) o2
 have b2:=(Below.refl (((w.alloc o1).alloc o2).heap.size) ((w.alloc o1).alloc o2)).alloc (Nat.le_refl _) o3
 refine⟨(b2.block _ (by simp;omega)).trans (b1.block _ (by simp)),b2.block _ (by simp)⟩
theorem jP.start (l:List aj)(c:aj)(r0 pre:List aj)(w:World)(hl:l=pre++r0):
 jP l c r0 w (Jj O 0 0) [] pre r0 (((w.alloc (JZ #[J Jq 0,J Jq 0,J Jq 0,J Jq 0,Jj O 0 0] 53)).alloc (JZ #[J Jq c.depth,J Jq c.kind,J Jq c.x,J Jq c.y,J Jq c.w,J Jq c.h,J Jq c.p] 41)).alloc (JZ #[J Jq c.kind,J Jq c.w,J Jq c.h,J Jq c.p,Jj O 0 0] 53)):=by
 have h3:=Qm w (JZ #[J Jq 0,J Jq 0,J Jq 0,J Jq 0,Jj O 0 0] 53) (JZ #[J Jq c.depth,J Jq c.kind,J Jq c.x,J Jq c.y,J Jq c.w,J Jq c.h,J Jq c.p] 41) (JZ #[J Jq c.kind,J Jq c.w,J Jq c.h,J Jq c.p,Jj O 0 0] 53)
 refine⟨h3.1.trans (heap_alloc_new _ _),h3.2.trans ?_,?_,⟨[],[],World.ownsRow_nil _ _ _ _,⟨rfl,rfl⟩,by simp[Value.ownBlock],by simp[Value.ownBlock]⟩,by simp,hl,?_,by simp⟩
 . exact jR _ _ (by simp) _ _
 . exact jR _ _ (by simp) _ _
 . exact (((Below.refl _ _).alloc (Nat.le_refl _) _).alloc (by simp) _).alloc (by simp;omega) _
theorem jP.done {l:List aj}{c:aj}{r0:List aj}{w:World}{sl:Value}{ts:List Node}{pre r:List aj}{wr:World}(h:jP l c r0 w sl ts pre r wr)(hr:fU c.depth r=([],r)):fG c r0=(.mk c.kind c.w c.h c.p ts,r):=by
 rw[Am,h.eq,hr]
 simp
theorem jP.next {l:List aj}{c:aj}{r0:List aj}{w:World}{sl:Value}{ts:List Node}{pre:List aj}{c':aj}{r1:List aj}{wr:World}(h:jP l c r0 w sl ts pre (c'::r1) wr)(hd:c.depth < c'.depth){sa:Option Addr}{sn sc:Nat}{fp:List Nat}{pre':List aj}{w2:World}(hl:l=pre'++(fG c' r1).2)(hN:(fG c' r1).1.In w2 (Jj sa sn sc) fp)(aE:fp.Nodup)(cf:∀q∈fp,wr.heap.size<=q)(hb:Below wr.heap.size wr w2)(o:Obj):
 w2.heap[w.heap.size+2]?=I (JZ #[J Jq c.kind,J Jq c.w,J Jq c.h,J Jq c.p,sl] 53 (0,0))/\∃cs,(w2.alloc o).ownsRow 0 53 5 sl ts.length cs/\ts.length<=1000000+r0.length/\∀o' sl' w5,w5.ownsRow 0 53 5 sl' (ts.length+1) (cs++fQ (fG c' r1).1 (Jj sa sn sc))->((w2.alloc o).alloc o').grownBy w5 sl.ownBlock->(sl'.ownBlock=sl.ownBlock\/sl'.ownBlock=I ((w2.alloc o).alloc o').heap.size)->
  w5.heap[w.heap.size+2]?=I (JZ #[J Jq c.kind,J Jq c.w,J Jq c.h,J Jq c.p,sl] 53 (0,0))/\jP l c r0 w sl' (ts++[(fG c' r1).1]) pre' (fG c' r1).2 (w5.setCell ⟨w.heap.size+2,4,O⟩ sl'):=by
 obtain⟨cs,fs,h1,h2,h3,h4⟩:=h.row
 have ub:w.heap.size+2 < wr.heap.size:=lt_of_block h.nod
 have hsz2:=hb.size
 have hsz3:(w2.alloc o).heap.size=w2.heap.size+1:=by simp
 have hlen:=h.len
 rw[List.length_cons] at hlen
 have k9:=kS c' r1
 refine⟨(hb.block _ ub).trans h.nod,cs,World.ownsRow.alloc (dE h1 fun q hq=>hb.block q (iD h1 q hq)) o,by omega,fun o' sl' w5 k1 k2 k3=> ?_⟩
 have hsz4:((w2.alloc o).alloc o').heap.size=w2.heap.size+2:=by simp
 have J0:∀q,q < w2.heap.size->q ∉ sl.ownBlock.toList->w5.heap[q]?=w2.heap[q]?:=fun q hq hn=>(k2.block q (by omega) (by intro e;exact hn (by rw[<- e];simp))).trans ((((Below.refl w2.heap.size w2).alloc (Nat.le_refl _) o).alloc (by omega) o').block q hq)
 have ck:=iD h1
 obtain⟨n1,n2,n3⟩:=List.nodup_append.1 h3
 have ia:∀q,q < wr.heap.size->q ∉ sl.ownBlock.toList->w5.heap[q]?=wr.heap[q]?:=fun q hq hn=>(J0 q (by omega) hn).trans (hb.block q hq)
 have pH:∀q,q < w.heap.size+3->q ∉ sl.ownBlock.toList:=fun q hq hm=>by
  have:=h4 q (List.mem_append_left _ hm)
  omega
 have PC:w5.heap[w.heap.size+2]?=I (JZ #[J Jq c.kind,J Jq c.w,J Jq c.h,J Jq c.p,sl] 53 (0,0)):=(ia _ (by omega) (pH _ (by omega))).trans h.nod
 have cF:∀q,q≠w.heap.size+2->(w5.setCell ⟨w.heap.size+2,4,O⟩ sl').heap[q]?=w5.heap[q]?:=fun q hq=>Below.heap_setCell _ _ _ _ hq
 have b8:∀q∈sl'.ownBlock.toList,w.heap.size+3<=q:=by
  intro q hq
  rcases k3 with k3 | k3
  . rw[k3] at hq
    exact h4 q (List.mem_append_left _ hq)
  . rw[k3] at hq
    simp at hq
    omega
 refine⟨PC,?_,?_,?_,⟨cs++fQ (fG c' r1).1 (Jj sa sn sc),fs++fp,?_,aY.snoc (hN.keep fun q hq=>(cF q ?_).trans (J0 q (hN.lt q hq) fun e=> ?_)) (h2.keep fun q hq=>(cF q ?_).trans (ia q (h2.lt q hq) fun e=> ?_)),?_,?_⟩,?_,hl,?_,?_⟩
 . exact (cF _ (by omega)).trans ((ia _ (by omega) (pH _ (by omega))).trans h.res)
 . exact (cF _ (by omega)).trans ((ia _ (by omega) (pH _ (by omega))).trans h.cel)
 . have am:w.heap.size+2 < w5.heap.size:=lt_of_block PC
   have h':w5.heap[w.heap.size+2]=JZ #[J Jq c.kind,J Jq c.w,J Jq c.h,J Jq c.p,sl] 53 (0,0):=by simpa [Array.getElem?_eq_getElem am] using PC
   show (w5.heap.modify (w.heap.size+2) _)[w.heap.size+2]?=_
   rw[Array.getElem?_eq_getElem (by simpa using am),Array.getElem_modify_self,h']
   rfl
 . have:=dE k1 (W':=w5.setCell ⟨w.heap.size+2,4,O⟩ sl') fun q hq=>cF q (by have:=b8 q hq;omega)
   simpa using this
 . have:=cf q hq;omega
 . have:=ck q e;have:=cf q hq;omega
 . have:=h4 q (List.mem_append_right _ hq);omega
 . exact n3 q e q hq rfl
 . have N3:(fs++fp).Nodup:=by
    refine List.nodup_append.2 ⟨n2,aE,fun a ha b cC e=> ?_⟩
    have:=h2.lt a ha
    have:=cf b cC
    omega
   refine List.nodup_append.2 ⟨by cases sl'.ownBlock <;> simp,N3,fun a ha b cC e=> ?_⟩
   subst e
   rcases k3 with k3 | k3
   . rw[k3] at ha
     rcases List.mem_append.1 cC with cC | cC
     . exact n3 a ha a cC rfl
     . have:=ck a ha;have:=cf a cC;omega
   . rw[k3] at ha
     simp at ha
     rcases List.mem_append.1 cC with cC | cC
     . have:=h2.lt a cC;omega
     . have:=hN.lt a cC;omega
 . intro q hq
   rcases List.mem_append.1 hq with hq | hq
   . exact b8 q hq
   . rcases List.mem_append.1 hq with hq | hq
     . exact h4 q (List.mem_append_right _ hq)
     . have:=cf q hq;omega
 . rw[h.eq,nO,if_pos hd]
   simp
 . have cd:Below w.heap.size w w5:=⟨k2.os.trans (hb.os.trans h.below.os),k2.tape.trans (hb.tape.trans h.below.tape),k2.output.trans (hb.output.trans h.below.output),by have:=k2.size;have:=h.below.size;omega,fun q hq=>(ia q (by omega) (pH q (by omega))).trans (h.below.block q hq)⟩
   exact below_grown cd (grownBy_set _ _ _ _) (by omega)
 . rw[List.length_append]
   simp
   omega
theorem jP.keep {l:List aj}{c:aj}{r0:List aj}{w:World}{sl:Value}{ts:List Node}{pre r:List aj}{wr w2:World}(h:jP l c r0 w sl ts pre r wr)(hb:Below wr.heap.size wr w2):jP l c r0 w sl ts pre r w2:=by
 obtain⟨cs,fs,h1,h2,h3,h4⟩:=h.row
 exact⟨(hb.block _ (lt_of_block h.res)).trans h.res,(hb.block _ (lt_of_block h.cel)).trans h.cel,(hb.block _ (lt_of_block h.nod)).trans h.nod,⟨cs,fs,dE h1 fun q hq=>hb.block q (iD h1 q hq),h2.below hb,h3,h4⟩,h.eq,h.at_,af h.below hb,h.len⟩
def fB (W:World)(g:Nat)(a b c d e:Value):World:=((((W.setCell ⟨g,0,O⟩ a).setCell ⟨g,1,O⟩ b).setCell ⟨g,2,O⟩ c).setCell ⟨g,3,O⟩ d).setCell ⟨g,4,O⟩ e
theorem fD (W:World)(g:Nat)(a b c d e:Value)(q:Nat)(hq:q≠g):(fB W g a b c d e).heap[q]?=W.heap[q]?:=
 (Below.heap_setCell _ _ _ _ hq).trans ((Below.heap_setCell _ _ _ _ hq).trans ((Below.heap_setCell _ _ _ _ hq).trans ((Below.heap_setCell _ _ _ _ hq).trans (Below.heap_setCell _ _ _ _ hq))))
theorem bC {W0 W:World}(h:Below W0.heap.size W0 W)(g:Nat)(hg:W0.heap.size<=g)(a b c d e:Value):Below W0.heap.size W0 (fB W g a b c d e):=
 below_grown (below_grown (below_grown (below_grown (below_grown h (grownBy_set _ _ _ _) hg) (grownBy_set _ _ _ _) hg) (grownBy_set _ _ _ _) hg) (grownBy_set _ _ _ _) hg) (grownBy_set _ _ _ _) hg
theorem jP.fin {l:List aj}{c:aj}{r0:List aj}{w:World}{sa:Option Addr}{sn sc:Nat}{ts:List Node}{pre r:List aj}{wr:World}(h:jP l c r0 w (Jj sa sn sc) ts pre r wr)(hr:fU c.depth r=([],r))(j:Nat)(hj:pre.length=j)(v0 v1 v2 v3 v4:Value):
 kR l c r0 w (Jz (.tuple #[.agg #[J Jq c.kind,J Jq c.w,J Jq c.h,J Jq c.p,Jj sa sn sc],J Jq j])) (fB wr w.heap.size v0 v1 v2 v3 v4):=by
 obtain⟨cs,fs,h1,h2,h3,h4⟩:=h.row
 have hd:=h.done hr
 refine⟨sa,sn,sc,(Value.slice sa sn sc).ownBlock.toList++fs,pre,?_,?_,?_,h3,fun q hq=>by have:=h4 q hq;omega,bC h.below _ (Nat.le_refl _) _ _ _ _ _⟩
 . rw[hd,hj]
   rfl
 . rw[hd]
   exact h.at_
 . rw[hd]
   have hk:∀q∈(Value.slice sa sn sc).ownBlock.toList++fs,(fB wr w.heap.size v0 v1 v2 v3 v4).heap[q]?=wr.heap[q]?:=fun q hq=>fD _ _ _ _ _ _ _ q (by have:=h4 q hq;omega)
   exact⟨cs,fs,dE h1 fun q hq=>hk q (List.mem_append_left _ hq),h2.keep fun q hq=>hk q (List.mem_append_right _ hq),rfl⟩
structure Qp (w:World)(c:aj)(sl:Value)(W:World):Prop where
 r0:W.cell? ⟨w.heap.size,0,O⟩=I (J Jq 0)
 r1:W.cell? ⟨w.heap.size,1,O⟩=I (J Jq 0)
 r2:W.cell? ⟨w.heap.size,2,O⟩=I (J Jq 0)
 r3:W.cell? ⟨w.heap.size,3,O⟩=I (J Jq 0)
 r4:W.cell? ⟨w.heap.size,4,O⟩=I (Jj O 0 0)
 f0:W.frozen? ⟨w.heap.size,0,O⟩=false
 f1:W.frozen? ⟨w.heap.size,1,O⟩=false
 f2:W.frozen? ⟨w.heap.size,2,O⟩=false
 f3:W.frozen? ⟨w.heap.size,3,O⟩=false
 f4:W.frozen? ⟨w.heap.size,4,O⟩=false
 n0:W.cell? ⟨w.heap.size+1+1,0,O⟩=I (J Jq c.kind)
 n1:W.cell? ⟨w.heap.size+1+1,1,O⟩=I (J Jq c.w)
 n2:W.cell? ⟨w.heap.size+1+1,2,O⟩=I (J Jq c.h)
 n3:W.cell? ⟨w.heap.size+1+1,3,O⟩=I (J Jq c.p)
 n4:W.cell? ⟨w.heap.size+1+1,4,O⟩=I sl
theorem jP.ends {l:List aj}{c:aj}{r0:List aj}{w:World}{sl:Value}{ts:List Node}{pre r:List aj}{wr:World}(h:jP l c r0 w sl ts pre r wr):Qp w c sl wr:=
 ⟨ae h.res 0,ae h.res 1,ae h.res 2,ae h.res 3,ae h.res 4,ai h.res 0,ai h.res 1,ai h.res 2,ai h.res 3,ai h.res 4,ae h.nod 0,ae h.nod 1,ae h.nod 2,ae h.nod 3,ae h.nod 4⟩
theorem zo (l:List aj)(pre:List aj)(c:aj)(r:List aj)(b off cap:Nat)(w:World)(hl:l=pre++c::r)(hn:l.length<=1000)(hs:gW w b off l)
 (HI:∀pre' c' r' X,r'.length < r.length->l=pre'++c'::r'->Below w.heap.size w X->Calls prog 82 #[Jj (I ⟨b,off,O⟩) l.length cap,J Jq (pre':List aj).length] X (kR l c' r' X)):
 Calls prog 82 #[Jj (I ⟨b,off,O⟩) l.length cap,J Jq pre.length] w (kR l c r w):=by
 have uv:l[pre.length]?=I c:=by rw[hl,List.getElem?_append_right (Nat.le_refl _),Nat.sub_self];rfl
 have hq:∀o,lQ (w.alloc o) b (off+pre.length*7) c:=fun o=>(hs.below ((Below.refl _ _).alloc (Nat.le_refl _) o)) pre.length c uv
 have HS:=zh hs
 have HG:=zh HI
 obtain⟨n,aR⟩:∃n,l.length=n:=⟨_,rfl⟩
 obtain⟨i,UX⟩:∃i,pre.length=i:=⟨_,rfl⟩
 have hlen:i+1+r.length=n:=by rw[<- aR,<- UX,hl];simp;omega
 have HL:=zh aR
 have H0:Hid (jP l c r w (Jj O 0 0) [] (pre++[c]) r _):=jP.start l c r (pre++[c]) w (by rw[hl];simp)
 have HP:Hid ((pre++[c]).length=i+1):=by show _=_;rw[List.length_append,UX];rfl
 rw[aR] at HG hn ⊢
 rw[UX] at hq ⊢
 have q0:=fun o=>(hq o).q0
 have q1:=fun o=>(hq o).q1
 have q2:=fun o=>(hq o).q2
 have q3:=fun o=>(hq o).q3
 have q4:=fun o=>(hq o).q4
 have q5:=fun o=>(hq o).q5
 have q6:=fun o=>(hq o).q6
 have bE:i < n:=by omega
 have kr:IntKind.i64.wrap ((i:Int)+1)=(i:Int)+1:=by rw[IntKind.wrap_i64];omega
 have tQ:Hid (r.length<=1000):=by show _<=_;omega
 clear HI hs hl uv UX aR hlen hq
 go_enter func82,ntmps82
 go_wp2
 go_loopw [8] (fun v wr=>∃(ts:List Node) (p:List aj) (s:List aj) (sa:Option Addr) (sn sc:Nat),v=J Jq p.length/\Hid (jP l c r w (Jj sa sn sc) ts p s wr)) (fun v _=>n-(intOf v).toNat)
 case atStart=>exact⟨[],pre++[c],r,O,0,0,by rw[HP.out];rfl,H0⟩
 case round=>
  obtain⟨ts,p,s,sa,sn,sc,rfl,HT⟩:=hrel
  clear q0 q1 q2 q3 q4 q5 q6 H0 kr
  have c0:wr.cell? ⟨w.heap.size+1,0,O⟩=I (J Jq c.depth):=ae HT.out.cel 0
  have Mv:=congrArg List.length HT.out.at_
  rw[HL.out,List.length_append] at Mv
  obtain⟨j,hj⟩:∃j,p.length=j:=⟨_,rfl⟩
  rw[hj] at Mv ⊢
  have HJ:=zh hj
  clear hj
  cases s with
  | nil=>
    have Mw:j=n:=by simpa using Mv.symm
    subst Mw
    have hd:decide ((j:Int) < (j:Int))=false:=decide_eq_false (by omega)
    have eT:decide (j < j)=false:=decide_eq_false (by omega)
    have GQ:Hid (fU c.depth []=([],[])):=BZ _
    have HX:Hid True:=trivial
    clear Mv c0
    go_wp2_with fail
    . skip
      . skip
        refine aQ (fun X=>Below wr.heap.size wr X) (by kernel_rfl) (by kernel_rfl) (Below.refl _ _).drew ?_
        repeat (
         refine dJ (v:= ?_) (by rfl) (fun X hX=> ?_) ?_
         rotate_left
         . go_simp
           all_goals with_reducible rfl
         intro K hK
         go_simp
         try simp only[hd,eT]
         refine hK.out _ ?_
         clear hK K)
        repeat (
         refine lW (by rfl) ?_
         intro K hK
         go_simp
         refine hK.out _ ?_
         clear hK K)
        repeat (
         refine dJ (v:= ?_) (by rfl) (fun X hX=> ?_) ?_
         rotate_left
         . go_simp
           all_goals with_reducible rfl
         intro K hK
         go_simp
         try simp only[hd,eT]
         refine hK.out _ ?_
         clear hK K)
        refine fK ?_
        intro w2 eD
        have HF:Hid (∀v0 v1 v2 v3 v4,kR l c r w (Jz (.tuple #[.agg #[J Jq c.kind,J Jq c.w,J Jq c.h,J Jq c.p,Jj sa sn sc],J Jq j])) (fB w2 w.heap.size v0 v1 v2 v3 v4)):=fun v0 v1 v2 v3 v4=>(HT.out.keep eD).fin GQ.out j HJ.out v0 v1 v2 v3 v4
        obtain⟨r0,r1,r2,r3,r4,f0,f1,f2,f3,f4,n0,n1,n2,n3,n4⟩:=(HT.out.keep eD).ends
        clear eD HT HX
        go_wp2
        exact bodyPost_ret (v:=.tuple #[.agg #[J Jq c.kind,J Jq c.w,J Jq c.h,J Jq c.p,Jj sa sn sc],J Jq j]) (by simp[results,results82,go_sem,r0,r1,r2,r3,r4]) rfl (HF.out _ _ _ _ _)
  | cons c' s=>
    rw[List.length_cons] at Mv
    have Mw:j < n:=by omega
    have uv:l[j]?=I c':=by rw[HT.out.at_,<- HJ.out,List.getElem?_append_right (Nat.le_refl _),Nat.sub_self];rfl
    have hh:=(HS.out.below HT.out.below) j c' uv
    have p0:=hh.q0
    have hd:decide ((j:Int) < (n:Int))=true:=decide_eq_true (by omega)
    have HLP:=zh Mv
    clear hh uv Mv
    have HX:Hid (∀X,Below wr.heap.size wr X->X.cell? ⟨w.heap.size+1,0,O⟩=I (J Jq c.depth)/\X.cell? ⟨b,off+j*7,O⟩=I (J Jq c'.depth)):=fun X hX=>⟨(hX.cell (p:=⟨w.heap.size+1,0,O⟩) (World.block_lt_of_cell? wr _ c0)).trans c0,(hX.cell (p:=⟨b,off+j*7,O⟩) (World.block_lt_of_cell? wr _ p0)).trans p0⟩
    clear c0 p0
    have eT:decide (j < n)=true:=decide_eq_true Mw
    by_cases mB:c.depth < c'.depth
    . have SD:decide (c.depth < c'.depth)=true:=decide_eq_true mB
      go_wp2_with fail
      . skip
        refine aQ (fun X=>Below wr.heap.size wr X) (by kernel_rfl) (by kernel_rfl) (Below.refl _ _).drew ?_
        repeat (
         refine dJ (v:= ?_) (by rfl) (fun X hX=> ?_) ?_
         rotate_left
         . have x0:=(HX.out X hX).1
           have x1:=(HX.out X hX).2
           go_simp
           all_goals with_reducible rfl
         intro K hK
         go_simp
         try simp only[hd,eT,SD]
         refine hK.out _ ?_
         clear hK K)
        refine fK ?_
        intro w2 eD
        have Db:=zh (HT.out.keep eD)
        have Ek:Hid (Calls prog 82 #[Jj (I ⟨b,off,O⟩) n cap,J Jq j] w2 (kR l c' s w2)):=by
         have h1:=Db.out.len
         rw[List.length_cons] at h1
         have:=HG.out p c' s w2 (by omega) Db.out.at_ Db.out.below
         rw[HJ.out] at this
         exact this
        clear eD HT HX
        go_wp2_with fail
        refine Ek.out.mono ?_
        rintro e w3 ⟨sa',sn',sc',fp,pre',rfl,e1,e2,e3,e4,e5⟩
        obtain⟨f1,cs,f2,f3,f4⟩:=Db.out.next mB e1 e2 e3 e4 e5 (.cells (aC (fG c' s).1 (Jj sa' sn' sc')) 53)
        have HM:Hid (n-pre'.length < n-j):=by
         have h1:=congrArg List.length e1
         rw[HL.out,List.length_append] at h1
         have h2:=kS c' s
         have h3:=HLP.out
         show _ < _
         omega
        obtain⟨nn,aR⟩:∃x,(fG c' s).1=x:=⟨_,rfl⟩
        have ze:=zh e1
        rw[aR] at f2 f4 ⊢
        have HO:=zh f2
        have HK:=zh (f4 (.cells (aC nn (Jj sa' sn' sc')) 53))
        have HTS:Hid (ts.length<=1000000):=by
         have h1:=Db.out.len
         have h2:=tQ.out
         show _<=_
         omega
        have SE:w.heap.size+1+1 < w3.heap.size:=lt_of_block f1
        have n4:∀o,(w3.alloc o).cell? ⟨w.heap.size+1+1,4,O⟩=I (Jj sa sn sc):=fun o=>by
         rw[(((Below.refl w3.heap.size w3).alloc (Nat.le_refl _) o).cell (p:=⟨w.heap.size+1+1,4,O⟩) SE)]
         exact ae f1 4
        clear e1 e2 e3 e4 e5 f1 f2 f3 f4 Ek Db aR SE
        unfold aC at HO HK
        unfold aC
        go_wp2_with (at_builtin;refine rP (w3.alloc (.cells (aC nn (Jj sa' sn' sc')) 53)) rfl (.tmp 47) (.tmp 49) rfl (Jj sa sn sc) ts.length cs nn sa' sn' sc' (by simp[Act.eval]) HO.out (by simp[Act.eval]) HTS.out ?_;intro sl' w5 a1 a2 a3;have av:=dG a1;have hj:=HK.out sl' w5 a1 a2 a3;have c5:w5.cell? ⟨w.heap.size+1+1,4,O⟩=I (Jj sa sn sc):=ae hj.1 4;have g5:w5.frozen? ⟨w.heap.size+1+1,4,O⟩=false:=ai hj.1 4;have qe:Hid _:=hj.2;clear a1 a2 a3 hj;obtain⟨sb,sd,cq⟩:=av;subst cq)
        go_roundw
        case rel=>exact⟨_,pre',_,_,_,_,rfl,qe⟩
        case measure=>
         have:=HM.out
         simp[intOf]
         omega
    . have SD:decide (c.depth < c'.depth)=false:=decide_eq_false mB
      have GQ:Hid (fU c.depth (c'::s)=([],c'::s)):=by show _=_;rw[nO,if_neg mB]
      go_wp2_with fail
      . skip
        refine aQ (fun X=>Below wr.heap.size wr X) (by kernel_rfl) (by kernel_rfl) (Below.refl _ _).drew ?_
        repeat (
         refine dJ (v:= ?_) (by rfl) (fun X hX=> ?_) ?_
         rotate_left
         . have x0:=(HX.out X hX).1
           have x1:=(HX.out X hX).2
           go_simp
           all_goals with_reducible rfl
         intro K hK
         go_simp
         try simp only[hd,eT,SD]
         refine hK.out _ ?_
         clear hK K)
        refine fK ?_
        intro w2 eD
        have HF:Hid (∀v0 v1 v2 v3 v4,kR l c r w (Jz (.tuple #[.agg #[J Jq c.kind,J Jq c.w,J Jq c.h,J Jq c.p,Jj sa sn sc],J Jq j])) (fB w2 w.heap.size v0 v1 v2 v3 v4)):=fun v0 v1 v2 v3 v4=>(HT.out.keep eD).fin GQ.out j HJ.out v0 v1 v2 v3 v4
        obtain⟨r0,r1,r2,r3,r4,f0,f1,f2,f3,f4,n0,n1,n2,n3,n4⟩:=(HT.out.keep eD).ends
        clear eD HT HX
        go_wp2
        exact bodyPost_ret (v:=.tuple #[.agg #[J Jq c.kind,J Jq c.w,J Jq c.h,J Jq c.p,Jj sa sn sc],J Jq j]) (by simp[results,results82,go_sem,r0,r1,r2,r3,r4]) rfl (HF.out _ _ _ _ _)
theorem Cb:∀(m:Nat) (l pre:List aj) (c:aj) (r:List aj) (b off cap:Nat) (w:World),r.length<=m->l=pre++c::r->l.length<=1000->gW w b off l->Calls prog 82 #[Jj (I ⟨b,off,O⟩) l.length cap,J Jq pre.length] w (kR l c r w)
 | 0,l,pre,c,r,b,off,cap,w,hm,hl,hn,hs=>zo l pre c r b off cap w hl hn hs fun pre' c' r' X h=>by omega
 | m+1,l,pre,c,r,b,off,cap,w,hm,hl,hn,hs=>zo l pre c r b off cap w hl hn hs fun pre' c' r' X h YD hX=>Cb m l pre' c' r' b off cap X (by omega) YD hn (hs.below hX)
theorem aW {ops:Array Oper}{rest:List Oper}{o:Oper}{a:Act}{Q:Exit->Act->World->Prop}(w:World)(e9:o.guard=O)(s x:Operand)(t e:TypeId)
 (ho:o.op=.call { callee:=.builtin .append,args:=#[s,x],argTypes:=#[t,t] }) (z:Value) (size bytes:Nat) (ht:prog.underlying t=I (.slice e)) (Cu:(prog.info? e).map (fun i=>(i.zero,i.size,i.bytes))=I (I z,size,bytes)) (Ao:z.cells.size=size) (hsz:0 < size) (EB:bytes<=100)
 (B:Nat) (v:Value) (n:Nat) (xs:List Value) (hs:a.eval s=v) (bm:w.ownsRow B e size v n xs) (B':Nat) (u:Value) (m:Nat) (ys:List Value) (hx:a.eval x=u) (b8:w.ownsRow B' e size u m ys) (co:∀y∈ys,y.oneCell'=true)
 (hlen:n+m<=1000000) (hB:B<=w.heap.size)
 (h:∀v' w',w'.ownsRow B e size v' (n+m) (xs++ys)->w.grownBy w' v.ownBlock->wpList prog ops Q rest (a.put o.dst v') w'):wpList prog ops Q (o::rest) a w:=by
 obtain⟨i0,hi,eh,db,cJ⟩:=bH Cu
 rcases b8.2 with ⟨h0,h1⟩ | ⟨g,cap,cur,hu,hb,hg,mx,my,GF,te⟩
 . subst h0 h1
   have hy:ys=[]:=List.length_eq_zero_iff.1 (by have:=b8.1;omega)
   subst hy
   refine wpList_append_own_none e9 s x t ho B e i0 size ht hi v n xs hs bm hx ?_
   exact h v w (by simpa using bm) ⟨rfl,rfl,rfl,Nat.le_refl _,fun _ _ _=>rfl⟩
 . subst hu
   refine wpList_append_own_at _ e9 s x t ho B e i0 z size bytes ht hi eh db cJ Ao hsz v n xs hs bm ⟨g,0,O⟩ m cap ys hx b8.1 (World.ownsRow.cells b8 rfl) co ?_ ?_ hB ?_
   . unfold maxLen;omega
   . exact Nat.le_trans (Nat.mul_le_mul hlen EB) (by decide)
   . intro v' w' h2 h3 _ _
     exact h v' w' h2 h3
mutual
def Node.cnt:Node->Nat
 | .mk _ _ _ _ ks=>1+cnts ks
def cnts:List Node->Nat
 | []=>0
 | n::r=>n.cnt+cnts r
end
mutual
theorem nI:∀(n:Node),n.ids.length<=n.cnt
 | .mk k w h i ks=>by
   have:=uB ks
   show (if k=1 then [i] else gV ks).length<=1+cnts ks
   split
   . show 1<=_
     omega
   . omega
theorem uB:∀(ks:List Node),(gV ks).length<=cnts ks
 | []=>Nat.le_refl _
 | n::r=>by
   have h1:=nI n
   have h2:=uB r
   show (n.ids++gV r).length<=n.cnt+cnts r
   rw[List.length_append]
   omega
end
theorem yO:∀(ks:List Node) (j:Nat) (n:Node),ks[j]?=I n->gV (ks.take (j+1))=gV (ks.take j)++n.ids
 | [],j,n,h=>by simp at h
 | a::ks,0,n,h=>by
   simp at h
   subst h
   show a.ids++[]=[]++a.ids
   simp
 | a::ks,j+1,n,h=>by
   show a.ids++gV (ks.take (j+1))=(a.ids++gV (ks.take j))++n.ids
   rw[yO ks j n (by simpa using h),List.append_assoc]
theorem sV:∀(ks:List Node) (j:Nat) (n:Node),ks[j]?=I n->cnts (ks.take j)+n.cnt<=cnts ks
 | [],j,n,h=>by simp at h
 | a::ks,0,n,h=>by
   simp at h
   subst h
   show 0+a.cnt<=a.cnt+cnts ks
   omega
 | a::ks,j+1,n,h=>by
   have:=sV ks j n (by simpa using h)
   show a.cnt+cnts (ks.take j)+n.cnt<=a.cnt+cnts ks
   omega
theorem oC:∀(ks:List Node),ks.length<=cnts ks
 | []=>Nat.le_refl _
 | n::r=>by
   have:=oC r
   have h1:1<=n.cnt:=by cases n;exact Nat.le_add_right _ _
   show r.length+1<=n.cnt+cnts r
   omega
theorem I5 (X:World)(g B:Nat)(hg:X.heap.size=g)(i:Int)(hB:B<=g):dD (X.alloc (JZ #[J Jq i] 3)) B (Jj (I ⟨g,0,O⟩) 1 1) [i]:=by
 subst hg
 exact⟨rfl,.inr ⟨X.heap.size,1,#[J Jq i],rfl,hB,heap_alloc_new _ _,Nat.le_refl _,by decide,rfl,rfl⟩⟩
theorem Ob (zs:List Int):∀y∈zs.map (Value.int .i64),y.oneCell'=true:=by
 intro y hy
 obtain⟨z,_,rfl⟩:=List.mem_map.1 hy
 rfl
theorem dD.lower {w:World}{B B':Nat}{v:Value}{l:List Int}(h:dD w B v l)(hB:B'<=B):dD w B' v l:=by
 refine⟨h.1,?_⟩
 rcases h.2 with h0 | ⟨g,cap,cur,e,hb,r⟩
 . exact .inl h0
 . exact .inr ⟨g,cap,cur,e,Nat.le_trans hB hb,r⟩
def FM (n:Node):Prop:=∀sl fp w,n.In w sl fp->Calls prog 54 #[.agg (aC n sl)] w fun e w'=>∃u,e=Jz u/\dD w' w.heap.size u n.ids/\Below w.heap.size w w'
theorem Oc (wd h i:Int)(ks:List Node)(a:Option Addr)(m c:Nat)(w:World):Calls prog 54 #[.agg #[J Jq 1,J Jq wd,J Jq h,J Jq i,Jj a m c]] w fun e w'=>∃u,e=Jz u/\dD w' w.heap.size u [i]/\Below w.heap.size w w':=by
 have HO:Hid (∀o,dD ((w.alloc o).alloc (JZ #[J Jq i] 3)) w.heap.size (Jj (I ⟨w.heap.size+1,0,O⟩) 1 1) [i]):=fun o=>I5 (w.alloc o) (w.heap.size+1) w.heap.size (by simp) i (by omega)
 have HB:Hid (∀o o',Below w.heap.size w ((w.alloc o).alloc o')):=fun o o'=>((Below.refl _ _).alloc (Nat.le_refl _) _).alloc (by simp) _
 go_enter func54,ntmps54
 go_wp2
 go_ret
 exact⟨_,rfl,HO.out _,HB.out _ _⟩
theorem Mc (k wd h i:Int)(ks:List Node)(hk:k≠1)(hc:cnts ks<=1000)(IH:∀n∈ks,FM n)(sl:Value)(fp:List Nat)(w:World)(ab:(Node.mk k wd h i ks).In w sl fp):Calls prog 54 #[.agg (aC (.mk k wd h i ks) sl)] w fun e w'=>∃u,e=Jz u/\dD w' w.heap.size u (gV ks)/\Below w.heap.size w w':=by
 obtain⟨ad,cap,av⟩:=ab.sl
 obtain⟨m,hm⟩:∃m,ks.length=m:=⟨_,rfl⟩
 change sl=Jj ad ks.length cap at av
 have bS:=oC ks
 have da:m<=1000:=by omega
 have hb0:∀o,Below w.heap.size w (w.alloc o):=fun o=>(Below.refl _ _).alloc (Nat.le_refl _) o
 obtain⟨W,hW⟩:∃W,w.alloc (JZ #[J Jq k,J Jq wd,J Jq h,J Jq i,sl] 53)=W:=⟨_,rfl⟩
 have cN:W.heap[w.heap.size]?=I (JZ #[J Jq k,J Jq wd,J Jq h,J Jq i,sl] 53 (0,0)):=by rw[<- hW];exact heap_alloc_new _ _
 have mj:Below w.heap.size w W:=by rw[<- hW];exact hb0 _
 have fi:W.heap.size=w.heap.size+1:=by rw[<- hW];simp
 have kt:Hid (∀X,Below W.heap.size W X->X.heap[w.heap.size]?=I (JZ #[J Jq k,J Jq wd,J Jq h,J Jq i,sl] 53 (0,0))):=fun X hX=>(hX.block _ (by omega)).trans cN
 have HB:Hid (∀X,Below W.heap.size W X->Below w.heap.size w X):=fun X hX=>af mj hX
 have HI:=zh (ab.below mj)
 have eJ:=zh IH
 have HM:=zh hm
 have HC:=zh hc
 have pm:=zh fi
 have HW:=zh hW
 have kk:(k==1)=false:=by simpa using hk
 rw[hm] at av
 subst av
 clear bS ab IH hm hc hb0 cN mj fi hW hk
 show Calls _ _ #[.agg #[J Jq k,J Jq wd,J Jq h,J Jq i,Jj ad m cap]] _ _
 go_enter func54,ntmps54
 go_wp2
 rw[HW.out]
 go_loopw [3,4] (fun u v wr=>∃j:Nat,j<=m/\v=J Jq j/\Hid (dD wr W.heap.size u (gV (ks.take j)))/\Hid (Below W.heap.size W wr)) (fun _ v _=>m-(intOf v).toNat)
 case atStart=>exact⟨0,Nat.zero_le _,rfl,World.ownsRow_nil _ _ _ _,Below.refl _ _⟩
 case round=>
  obtain⟨j,hj,rfl,HO,bB⟩:=hrel
  have km:=kt.out wr bB.out
  have b4:wr.cell? ⟨w.heap.size,4,O⟩=I (Jj ad m cap):=ae km 4
  clear km
  by_cases am:j < m
  . obtain⟨n,hn⟩:∃n,ks[j]?=I n:=⟨_,List.getElem?_eq_getElem (by rw[HM.out];exact am)⟩
    obtain⟨g,cap',e1,e2,e3⟩:=(HI.out.below bB.out).kids (by intro e;rw[e] at hn;simp at hn)
    rw[HM.out] at e1
    cases e1
    obtain⟨sl',f',e4,q0,q1,q2,q3,q4⟩:=e3 j n hn
    obtain⟨ad',c',cq⟩:=e4.sl
    have lx:Hid (Calls prog 54 #[.agg (aC n sl')] wr fun e w'=>∃u,e=Jz u/\dD w' wr.heap.size u n.ids/\Below wr.heap.size wr w'):=eJ.out n (List.mem_of_getElem? hn) sl' f' wr e4
    have HT:=zh (yO ks j n hn)
    have xT:Hid ((gV (ks.take j)).length+n.ids.length<=1000000):=by
     have h1:=uB (ks.take j)
     have h2:=nI n
     have h3:=sV ks j n hn
     have h4:=HC.out
     show _<=_
     omega
    subst cq
    unfold aC at lx
    clear e2 e3 e4 hn
    go_wp2_with fail
    refine lx.out.mono ?_
    rintro e w2 ⟨u2,rfl,h1,h2⟩
    have VC:=zh h1
    have HU:=zh (HO.out.below h2)
    have aD:=zh (af bB.out h2)
    clear h1 h2 lx
    go_wp2_with (at_builtin;refine aW w2 rfl (.tmp 18) (.tmp 24) 96 3 rfl (J Jq 0) 1 8 underlying96 KT rfl (by decide) (by decide) W.heap.size u3 _ _ rfl HU.out wr.heap.size u2 _ _ rfl VC.out (Ob _) xT.out aD.out.size ?_;intro v' w3 a1 a2';have aM:Below W.heap.size W w3:=aD.out.grown a2' aD.out.size (fun q hq=>(World.ownsRow.lt HU.out q hq).1);have cQ:Hid (Below W.heap.size W w3):=aM;have If:Hid (dD w3 W.heap.size v' (gV (ks.take (j+1)))):=(by rw[HT.out];unfold dD;rw[List.map_append,List.length_append];exact a1);clear a1 a2' aM)
    go_roundw
    case rel=>exact⟨j+1,by omega,by go_num,If,cQ⟩
    case measure=>simp[intOf];omega
  . go_wp2
    go_ret
    have h:=HO.out
    rw[List.take_of_length_le (by rw[HM.out];omega)] at h
    exact⟨_,rfl,dD.lower h (by have:=pm.out;omega),HB.out _ bB.out⟩
mutual
theorem dF:∀(n:Node),n.cnt<=1000->FM n
 | .mk k wd h i ks,hc=>by
   intro sl fp w ab
   unfold Node.cnt at hc
   by_cases hk:k=1
   . subst hk
     obtain⟨a,c,av⟩:=ab.sl
     subst av
     have hi:(Node.mk 1 wd h i ks).ids=[i]:=by unfold Node.ids;rw[if_pos rfl]
     rw[hi]
     exact Oc wd h i ks a _ c w
   . have hi:(Node.mk k wd h i ks).ids=gV ks:=by unfold Node.ids;rw[if_neg hk]
     rw[hi]
     exact Mc k wd h i ks hk (by omega) (D6 ks (by omega)) sl fp w ab
theorem D6:∀(ks:List Node),cnts ks<=1000->∀n∈ks,FM n
 | [],hc=>fun n hn=>by cases hn
 | a::ks,hc=>fun n hn=>by
   unfold cnts at hc
   rcases List.mem_cons.1 hn with e | hn
   . exact e ▸ dF a (by omega)
   . exact D6 ks (by omega) n hn
end
theorem eQ (n:Node)(a:Option Addr)(m c:Nat)(d:Int)(w:World):Calls prog 57 #[.agg (aC n (Jj a m c)),J Jq d] w fun e w'=>e=Jz (J Jq (n.ext d))/\Below w.heap.size w w':=by
 have HB:Hid (∀o,Below w.heap.size w (w.alloc o)):=fun o=>(Below.refl _ _).alloc (Nat.le_refl _) _
 obtain⟨x,hx⟩:∃x,n.ext d=x:=⟨_,rfl⟩
 rw[hx]
 unfold aC
 by_cases hd:d=2
 . have LS:n.w=x:=by rw[<- hx];unfold Node.ext;rw[if_pos hd]
   subst hd
   rw[LS]
   clear hx LS
   go_enter func57,ntmps57
   go_wp2
   go_ret
   exact⟨rfl,HB.out _⟩
 . have LS:n.h=x:=by rw[<- hx];unfold Node.ext;rw[if_neg hd]
   have eT:(d==2)=false:=by simpa using hd
   rw[LS]
   clear hx LS hd
   go_enter func57,ntmps57
   go_wp2
   go_ret
   exact⟨rfl,HB.out _⟩
def sF (n:Node)(k w h:Int):Bool:=(((!decide (n.k=k))&&(decide (n.w<=w)&&decide (n.h<=h)))&&(n.ok&&(if k=2 then decide (n.h=h) else decide (n.w=w))))
theorem jc (n:Node)(r:List Node)(k w h:Int):gU (n::r) k w h=(sF n k w h&&gU r k w h):=by
 conv=>lhs;unfold gU
 rfl
theorem xZ:∀(ks:List Node) (k w h:Int) (j:Nat) (n:Node),ks[j]?=I n->gU ks k w h=true->sF n k w h=true
 | [],k,w,h,j,n,hj,ho=>by simp at hj
 | a::ks,k,w,h,0,n,hj,ho=>by
   simp at hj
   subst hj
   rw[jc,Bool.and_eq_true] at ho
   exact ho.1
 | a::ks,k,w,h,j+1,n,hj,ho=>by
   rw[jc,Bool.and_eq_true] at ho
   exact xZ ks k w h j n (by simpa using hj) ho.2
theorem x8:∀(ks:List Node) (k w h:Int) (j:Nat) (n:Node),ks[j]?=I n->gU (ks.take j) k w h=true->sF n k w h=true->gU (ks.take (j+1)) k w h=true
 | [],k,w,h,j,n,hj,ho,hn=>by simp at hj
 | a::ks,k,w,h,0,n,hj,ho,hn=>by
   simp at hj
   subst hj
   show gU [a] k w h=true
   rw[jc,hn]
   rfl
 | a::ks,k,w,h,j+1,n,hj,ho,hn=>by
   change gU (a::ks.take j) k w h=true at ho
   show gU (a::ks.take (j+1)) k w h=true
   rw[jc,Bool.and_eq_true] at ho ⊢
   exact⟨ho.1,x8 ks k w h j n (by simpa using hj) ho.2 hn⟩
def wz:List Node->Int->Int
 | [],_=>0
 | n::r,k=>n.ext k+wz r k
theorem EO:∀(ks:List Node) (k:Int),JD ks k=((ks.length:Int)-1)+wz ks k
 | [],k=>rfl
 | n::r,k=>by
   show n.ext k+1+JD r k=(((r.length+1:Nat):Int)-1)+(n.ext k+wz r k)
   rw[EO r k]
   omega
theorem x9:∀(ks:List Node) (k:Int) (j:Nat) (n:Node),ks[j]?=I n->wz (ks.take (j+1)) k=wz (ks.take j) k+n.ext k
 | [],k,j,n,h=>by simp at h
 | a::ks,k,0,n,h=>by
   simp at h
   subst h
   show a.ext k+0=0+a.ext k
   omega
 | a::ks,k,j+1,n,h=>by
   show a.ext k+wz (ks.take (j+1)) k=a.ext k+wz (ks.take j) k+n.ext k
   rw[x9 ks k j n (by simpa using h)]
   omega
theorem Gj (n:Node)(h:n.ok=true):1<=n.w/\1<=n.h:=by
 cases n with
 | mk k w hh i ks=>
   unfold Node.ok at h
   simp only[Bool.and_eq_true,decide_eq_true_eq] at h
   exact⟨h.1.1.1,h.1.1.2⟩
theorem sG {n:Node}{k w h:Int}(hk:sF n k w h=true)(hw:w<=1000)(hh:h<=1000):1<=n.ext k/\n.ext k<=1000:=by
 unfold sF at hk
 simp only[Bool.and_eq_true,decide_eq_true_eq] at hk
 have:=Gj n hk.2.1
 unfold Node.ext
 split <;> omega
theorem um:∀(ks:List Node) (k w h:Int),gU ks k w h=true->w<=1000->h<=1000->0<=wz ks k/\wz ks k<=1000*(ks.length:Int)
 | [],k,w,h,ho,hw,hh=>by
   show (0:Int)<=0/\(0:Int)<=1000*0
   omega
 | n::r,k,w,h,ho,hw,hh=>by
   rw[jc,Bool.and_eq_true] at ho
   have h1:=sG ho.1 hw hh
   have h2:=um r k w h ho.2 hw hh
   show 0<=n.ext k+wz r k/\n.ext k+wz r k<=1000*((r.length+1:Nat):Int)
   omega
def o7 (n:Node):Prop:=∀sl fp w,n.In w sl fp->n.w<=1000->n.h<=1000->Calls prog 83 #[.agg (aC n sl)] w fun e w'=>e=Jz (.bool n.ok)/\Below w.heap.size w w'
theorem Kq (k wd h i:Int)(ks:List Node):(Node.mk k wd h i ks).ok=(((decide (1<=wd)&&decide (1<=h))&&(decide (1<=k)&&decide (k<=3)))&&
 (if k=1 then (decide (ks.length=0)&&idB i) else ((decide (2<=ks.length)&&decide (i=0))&&(gU ks k wd h&&decide (JD ks k=if k=2 then wd else h))))):=by
 conv=>lhs;unfold Node.ok
theorem Ih (k wd h i:Int)(ks:List Node)(a:Option Addr)(m c:Nat)(w:World)(hb:¬((1<=wd/\1<=h)/\(1<=k/\k<=3))):Calls prog 83 #[.agg #[J Jq k,J Jq wd,J Jq h,J Jq i,Jj a m c]] w fun e w'=>e=Jz (.bool false)/\Below w.heap.size w w':=by
 have HB:Hid (∀o,Below w.heap.size w (w.alloc o)):=fun o=>(Below.refl _ _).alloc (Nat.le_refl _) _
 by_cases a1:wd < 1
 . clear hb
   go_enter func83,ntmps83
   go_wp2
   go_ret
   exact⟨rfl,HB.out _⟩
 . by_cases a2:h < 1
   . clear hb
     go_enter func83,ntmps83
     go_wp2
     go_ret
     exact⟨rfl,HB.out _⟩
   . by_cases a3:k < 1
     . clear hb
       go_enter func83,ntmps83
       go_wp2
       go_ret
       exact⟨rfl,HB.out _⟩
     . have a4:3 < k:=by omega
       clear hb
       go_enter func83,ntmps83
       go_wp2
       go_ret
       exact⟨rfl,HB.out _⟩
theorem Ii (wd h i:Int)(a:Option Addr)(m c:Nat)(w:World)(a1:¬wd < 1)(a2:¬h < 1):Calls prog 83 #[.agg #[J Jq 1,J Jq wd,J Jq h,J Jq i,Jj a m c]] w fun e w'=>e=Jz (.bool (decide (m=0)&&idB i))/\Below w.heap.size w w':=by
 have HB:Hid (∀o,Below w.heap.size w (w.alloc o)):=fun o=>(Below.refl _ _).alloc (Nat.le_refl _) _
 by_cases h0:m=0
 . subst h0
   have hi:idB i=(decide (1<=i)&&decide (i<=4611686018427387904)):=rfl
   by_cases b1:1<=i
   . by_cases b2:i<=4611686018427387904
     . have HR:Hid (idB i=true):=by show _=_;rw[hi];simp[b1,b2]
       clear hi
       go_enter func83,ntmps83
       go_wp2
       go_ret
       exact⟨by rw[HR.out];rfl,HB.out _⟩
     . have HR:Hid (idB i=false):=by show _=_;rw[hi];simp[b2]
       clear hi
       go_enter func83,ntmps83
       go_wp2
       go_ret
       exact⟨by rw[HR.out];rfl,HB.out _⟩
   . have HR:Hid (idB i=false):=by show _=_;rw[hi];simp[b1]
     clear hi
     go_enter func83,ntmps83
     go_wp2
     go_ret
     exact⟨by rw[HR.out];rfl,HB.out _⟩
 . have HR:Hid (decide (m=0)=false):=decide_eq_false h0
   have h1:((m:Int)==0)=false:=by simp;omega
   clear h0
   go_enter func83,ntmps83
   go_wp2
   go_ret
   exact⟨by rw[HR.out];rfl,HB.out _⟩
theorem Kr (k wd h i:Int)(a:Option Addr)(m c:Nat)(w:World)(a1:¬wd < 1)(a2:¬h < 1)(hk:k=2\/k=3)(hf:m < 2\/i≠0):Calls prog 83 #[.agg #[J Jq k,J Jq wd,J Jq h,J Jq i,Jj a m c]] w fun e w'=>e=Jz (.bool false)/\Below w.heap.size w w':=by
 have HB:Hid (∀o,Below w.heap.size w (w.alloc o)):=fun o=>(Below.refl _ _).alloc (Nat.le_refl _) _
 by_cases h0:(m:Int) < 2
 . clear hf
   rcases hk with rfl | rfl
   . go_enter func83,ntmps83
     go_wp2
     go_ret
     exact⟨rfl,HB.out _⟩
   . go_enter func83,ntmps83
     go_wp2
     go_ret
     exact⟨rfl,HB.out _⟩
 . have hi:(i != 0)=true:=by
    have:i≠0:=by omega
    simpa using this
   clear hf
   rcases hk with rfl | rfl
   . go_enter func83,ntmps83
     go_wp2
     go_ret
     exact⟨rfl,HB.out _⟩
   . go_enter func83,ntmps83
     go_wp2
     go_ret
     exact⟨rfl,HB.out _⟩
theorem PP {n:Node}{k w h:Int}(hn:¬(n.k≠k/\n.w<=w/\n.h<=h/\n.ok=true/\(k=2->n.h=h)/\(k=3->n.w=w)))(hk:k=2\/k=3):sF n k w h=false:=by
 cases hq:sF n k w h with
 | false=>rfl
 | true=>
   exfalso
   apply hn
   unfold sF at hq
   simp only[Bool.and_eq_true,decide_eq_true_eq,Bool.not_eq_true',decide_eq_false_iff_not] at hq
   obtain⟨⟨h1,h2,h3⟩,h4,h5⟩:=hq
   refine⟨h1,h2,h3,h4,fun e=> ?_,fun e=> ?_⟩
   . rw[if_pos e] at h5
     exact of_decide_eq_true h5
   . rw[if_neg (by omega)] at h5
     exact of_decide_eq_true h5
theorem Kt {n:Node}{k w h:Int}(h1:n.k≠k)(h2:n.w<=w)(h3:n.h<=h)(h4:n.ok=true)(h5:k=2->n.h=h)(h6:k≠2->n.w=w):sF n k w h=true:=by
 unfold sF
 by_cases hk:k=2
 . rw[if_pos hk]
   simp[h1,h2,h4,h5 hk]
 . rw[if_neg hk]
   simp[h1,h3,h4,h6 hk]
theorem IW (k wd h:Int)(ks:List Node)(hk:k=2\/k=3)(hc:cnts ks<=1000)(h2:2<=ks.length)(a1:¬wd < 1)(a2:¬h < 1)(hw:wd<=1000)(hh:h<=1000)(IH:∀n∈ks,o7 n)(sl:Value)(fp:List Nat)(w:World)(ab:(Node.mk k wd h 0 ks).In w sl fp):Calls prog 83 #[.agg (aC (.mk k wd h 0 ks) sl)] w fun e w'=>e=Jz (.bool (gU ks k wd h&&decide (JD ks k=if k=2 then wd else h)))/\Below w.heap.size w w':=by
 obtain⟨ad,cap,av⟩:=ab.sl
 obtain⟨m,hm⟩:∃m,ks.length=m:=⟨_,rfl⟩
 change sl=Jj ad ks.length cap at av
 have bS:=oC ks
 have da:m<=1000:=by omega
 have hb0:∀o,Below w.heap.size w (w.alloc o):=fun o=>(Below.refl _ _).alloc (Nat.le_refl _) o
 obtain⟨W,hW⟩:∃W,w.alloc (JZ #[J Jq k,J Jq wd,J Jq h,J Jq 0,sl] 53)=W:=⟨_,rfl⟩
 have cN:W.heap[w.heap.size]?=I (JZ #[J Jq k,J Jq wd,J Jq h,J Jq 0,sl] 53 (0,0)):=by rw[<- hW];exact heap_alloc_new _ _
 have mj:Below w.heap.size w W:=by rw[<- hW];exact hb0 _
 have fi:W.heap.size=w.heap.size+1:=by rw[<- hW];simp
 have kt:Hid (∀X,Below W.heap.size W X->X.heap[w.heap.size]?=I (JZ #[J Jq k,J Jq wd,J Jq h,J Jq 0,sl] 53 (0,0))):=fun X hX=>(hX.block _ (by omega)).trans cN
 have HB:Hid (∀X,Below W.heap.size W X->Below w.heap.size w X):=fun X hX=>af mj hX
 have HI:=zh (ab.below mj)
 have eJ:=zh IH
 have HM:=zh hm
 have HW:=zh hW
 have ff:Hid (∀X,Calls prog 57 #[.agg #[J Jq k,J Jq wd,J Jq h,J Jq 0,Jj ad m cap],J Jq k] X fun e w'=>e=Jz (J Jq (if k=2 then wd else h))/\Below X.heap.size X w'):=fun X=>eQ (.mk k wd h 0 ks) ad m cap k X
 have kA:Hid (wd<=1000/\h<=1000):=⟨hw,hh⟩
 obtain⟨r,hr⟩:∃r,(gU ks k wd h&&decide (JD ks k=if k=2 then wd else h))=r:=⟨_,rfl⟩
 have fq:Hid (∀(j:Nat) n,ks[j]?=I n->sF n k wd h=false->r=false):=by
  intro j n hj hn
  rw[<- hr]
  cases ho:gU ks k wd h with
  | false=>rfl
  | true=>
    have:=xZ ks k wd h j n hj ho
    rw[hn] at this
    cases this
 have Um:Hid (gU ks k wd h=true->r=decide (((m:Int)-1)+wz ks k=if k=2 then wd else h)):=by
  intro ho
  rw[<- hr,ho,EO,hm]
  rfl
 have ef:IntKind.i64.wrap ((m:Int)-1)=(m:Int)-1:=by rw[IntKind.wrap_i64];omega
 have UM:¬((m:Int) < 2):=by omega
 rw[hm] at av
 subst av
 rw[hr]
 clear bS ab IH hm hc hb0 cN mj fi hW hr h2
 obtain⟨E,hE⟩:∃E,(if k=2 then wd else h)=E:=⟨_,rfl⟩
 rw[hE] at ff Um
 have kk:(k==1)=false:=by
  have:k≠1:=by omega
  simpa using this
 have k1:¬k < 1:=by omega
 have k3:¬ 3 < k:=by omega
 have HK:=zh hk
 clear hE hk hw hh
 show Calls _ _ #[.agg #[J Jq k,J Jq wd,J Jq h,J Jq 0,Jj ad m cap]] _ _
 go_enter func83,ntmps83
 go_wp2
 rw[HW.out]
 go_loopw [3,4] (fun u v wr=>∃j:Nat,j<=m/\v=J Jq j/\u=J Jq (((m:Int)-1)+wz (ks.take j) k)/\Hid (gU (ks.take j) k wd h=true)/\Hid (Below W.heap.size W wr)) (fun _ v _=>m-(intOf v).toNat)
 case atStart=>exact⟨0,Nat.zero_le _,rfl,by show _=Value.int .i64 (_+0);rw[Int.add_zero],rfl,Below.refl _ _⟩
 case round=>
  obtain⟨j,hj,rfl,rfl,HO,bB⟩:=hrel
  have km:=kt.out wr bB.out
  have b0:wr.cell? ⟨w.heap.size,0,O⟩=I (J Jq k):=ae km 0
  have b1:wr.cell? ⟨w.heap.size,1,O⟩=I (J Jq wd):=ae km 1
  have b2:wr.cell? ⟨w.heap.size,2,O⟩=I (J Jq h):=ae km 2
  have b3:wr.cell? ⟨w.heap.size,3,O⟩=I (J Jq 0):=ae km 3
  have b4:wr.cell? ⟨w.heap.size,4,O⟩=I (Jj ad m cap):=ae km 4
  obtain⟨S,hS⟩:∃S,wz (ks.take j) k=S:=⟨_,rfl⟩
  rw[hS]
  have HS:=zh hS
  have Z0:Hid (0<=S/\S<=1000*(j:Int)):=by
   have:=um (ks.take j) k wd h HO.out kA.out.1 kA.out.2
   rw[hS,List.length_take,HM.out] at this
   show _/\_
   omega
  clear km hS
  by_cases am:j < m
  . obtain⟨n,hn⟩:∃n,ks[j]?=I n:=⟨_,List.getElem?_eq_getElem (by rw[HM.out];exact am)⟩
    obtain⟨g,cap',e1,e2,e3⟩:=(HI.out.below bB.out).kids (by intro e;rw[e] at hn;simp at hn)
    rw[HM.out] at e1
    cases e1
    obtain⟨sl',f',e4,q0,q1,q2,q3,q4⟩:=e3 j n hn
    obtain⟨ad',c',cq⟩:=e4.sl
    subst cq
    have HNj:=zh (fq.out j n hn)
    have Z3:=zh (x8 ks k wd h j n hn HO.out)
    have Vv:Hid (wz (ks.take (j+1)) k=S+n.ext k):=by
     show _=_
     rw[x9 ks k j n hn,HS.out]
    have Un:Hid (∀o,Below W.heap.size W (wr.alloc o)):=fun o=>af bB.out ((Below.refl _ _).alloc (Nat.le_refl _) o)
    have fg:Hid (n.w<=1000->n.h<=1000->∀o,Calls prog 83 #[.agg #[J Jq n.k,J Jq n.w,J Jq n.h,J Jq n.i,Jj ad' n.ks.length c']] (wr.alloc o) fun e w'=>e=Jz (.bool n.ok)/\Below (wr.alloc o).heap.size (wr.alloc o) w'):=fun hw hh o=>eJ.out n (List.mem_of_getElem? hn) _ f' (wr.alloc o) (e4.below ((Below.refl _ _).alloc (Nat.le_refl _) o)) hw hh
    have hN:w.heap.size < wr.heap.size:=World.block_lt_of_cell? wr _ b0
    have Vw:Hid (∀o,Below wr.heap.size wr (wr.alloc o)):=fun o=>(Below.refl _ _).alloc (Nat.le_refl _) o
    have c0:∀o,(wr.alloc o).cell? ⟨w.heap.size,0,O⟩=I (J Jq k):=fun o=>((Vw.out o).cell (p:=⟨w.heap.size,0,O⟩) hN).trans b0
    have c1:∀o,(wr.alloc o).cell? ⟨w.heap.size,1,O⟩=I (J Jq wd):=fun o=>((Vw.out o).cell (p:=⟨w.heap.size,1,O⟩) hN).trans b1
    have c2:∀o,(wr.alloc o).cell? ⟨w.heap.size,2,O⟩=I (J Jq h):=fun o=>((Vw.out o).cell (p:=⟨w.heap.size,2,O⟩) hN).trans b2
    have HN:=zh hN
    clear e2 e3 e4 hn hN b1 b2 b3
    have RR:Hid (∀w',Below W.heap.size W w'->¬(n.k≠k/\n.w<=wd/\n.h<=h/\n.ok=true/\(k=2->n.h=h)/\(k=3->n.w=wd))->Ending.returned (.bool false)=Jz (.bool r)/\Below w.heap.size w w'):=fun w' hb hn=>⟨by rw[HNj.out (PP hn HK.out)],HB.out _ hb⟩
    by_cases d1:n.k=k
    . have d1':(n.k==k)=true:=by simpa using d1
      have HD:=zh d1
      clear d1
      go_wp2
      go_ret
      exact RR.out _ (Un.out _) fun h=>h.1 HD.out
    . have d1':(n.k==k)=false:=by simpa using d1
      have Z4:=zh d1
      clear d1
      by_cases d2:wd < n.w
      . go_wp2
        go_ret
        exact RR.out _ (Un.out _) fun h=>by have:=h.2.1;omega
      . by_cases d3:h < n.h
        . go_wp2
          go_ret
          exact RR.out _ (Un.out _) fun h=>by have:=h.2.2.1;omega
        . have Uo:Hid (∀o,Calls prog 83 #[.agg #[J Jq n.k,J Jq n.w,J Jq n.h,J Jq n.i,Jj ad' n.ks.length c']] (wr.alloc o) fun e w'=>e=Jz (.bool n.ok)/\Below (wr.alloc o).heap.size (wr.alloc o) w'):=fg.out (by have:=kA.out;omega) (by have:=kA.out;omega)
          clear fg
          go_wp2_with fail
          refine (Uo.out _).mono ?_
          rintro e w2 ⟨rfl,al⟩
          have aD:Hid (Below W.heap.size W w2):=af (Un.out _) al
          have k0:w2.cell? ⟨w.heap.size,0,O⟩=I (J Jq k):=(al.cell (p:=⟨w.heap.size,0,O⟩) (by have:=HN.out;simp;omega)).trans (c0 _)
          have k1':w2.cell? ⟨w.heap.size,1,O⟩=I (J Jq wd):=(al.cell (p:=⟨w.heap.size,1,O⟩) (by have:=HN.out;simp;omega)).trans (c1 _)
          have k2:w2.cell? ⟨w.heap.size,2,O⟩=I (J Jq h):=(al.cell (p:=⟨w.heap.size,2,O⟩) (by have:=HN.out;simp;omega)).trans (c2 _)
          have ce:(wr.alloc (JZ #[J Jq n.k,J Jq n.w,J Jq n.h,J Jq n.i,Jj ad' n.ks.length c'] 53)).heap[wr.heap.size]?=I (JZ #[J Jq n.k,J Jq n.w,J Jq n.h,J Jq n.i,Jj ad' n.ks.length c'] 53 (0,0)):=heap_alloc_new _ _
          have oY:=(al.block wr.heap.size (by simp)).trans ce
          have y0:w2.cell? ⟨wr.heap.size,0,O⟩=I (J Jq n.k):=ae oY 0
          have y1:w2.cell? ⟨wr.heap.size,1,O⟩=I (J Jq n.w):=ae oY 1
          have y2:w2.cell? ⟨wr.heap.size,2,O⟩=I (J Jq n.h):=ae oY 2
          have y3:w2.cell? ⟨wr.heap.size,3,O⟩=I (J Jq n.i):=ae oY 3
          have y4:w2.cell? ⟨wr.heap.size,4,O⟩=I (Jj ad' n.ks.length c'):=ae oY 4
          obtain⟨ok,bN⟩:∃ok,n.ok=ok:=⟨_,rfl⟩
          have uL:=zh bN
          rw[bN]
          have Ly:Hid (Calls prog 57 #[.agg #[J Jq n.k,J Jq n.w,J Jq n.h,J Jq n.i,Jj ad' n.ks.length c'],J Jq k] w2 fun e w'=>e=Jz (J Jq (n.ext k))/\Below w2.heap.size w2 w'):=eQ n ad' _ c' k w2
          clear bN ce oY al c0 c1 c2 Uo Vw Un
          cases ok
          . go_wp2
            go_ret
            exact RR.out _ aD.out fun h=>by have:=h.2.2.2.1;rw[uL.out] at this;cases this
          . by_cases dt:k=2
            . by_cases d4:n.h=h
              . have Up:Hid (sF n k wd h=true):=Kt Z4.out (by omega) (by omega) uL.out (fun _=>d4) (fun e=>absurd dt e)
                have Mn:=zh (sG Up.out kA.out.1 kA.out.2)
                have d4':(n.h != h)=false:=by simpa using d4
                have kk2:(k==2)=true:=by simpa using dt
                have kk3:(k==3)=false:=by simp;omega
                obtain⟨X,hX⟩:∃X,n.ext k=X:=⟨_,rfl⟩
                rw[hX] at Ly Vv Mn
                have Vx:IntKind.i64.wrap (((m:Int)-1)+S+X)=((m:Int)-1)+S+X:=by
                 have h1:=Mn.out
                 have h2:=Z0.out
                 rw[IntKind.wrap_i64]
                 omega
                clear d4 hX dt
                go_wp2_with fail
                refine Ly.out.mono ?_
                rintro e w3 ⟨rfl,aM⟩
                have cQ:=zh (af aD.out aM)
                clear aM Ly
                go_wp2
                go_roundw
                case rel=>exact⟨j+1,by omega,by go_num,by rw[Vv.out,Int.add_assoc],Z3.out Up.out,cQ⟩
                case measure=>simp[intOf];omega
              . have d4':(n.h != h)=true:=by simpa using d4
                have kk2:(k==2)=true:=by simpa using dt
                have kk3:(k==3)=false:=by simp;omega
                have Uq:Hid (¬n.h=h/\k=2):=⟨d4,dt⟩
                clear d4 dt Ly
                go_wp2
                go_ret
                exact RR.out _ aD.out fun h=>Uq.out.1 (h.2.2.2.2.1 Uq.out.2)
            . have Li:k=3:=by have:=HK.out;omega
              have kk2:(k==2)=false:=by simpa using dt
              have kk3:(k==3)=true:=by simpa using Li
              by_cases d4:n.w=wd
              . have Up:Hid (sF n k wd h=true):=Kt Z4.out (by omega) (by omega) uL.out (fun e=>absurd e dt) (fun _=>d4)
                have Mn:=zh (sG Up.out kA.out.1 kA.out.2)
                have d4':(n.w != wd)=false:=by simpa using d4
                obtain⟨X,hX⟩:∃X,n.ext k=X:=⟨_,rfl⟩
                rw[hX] at Ly Vv Mn
                have Vx:IntKind.i64.wrap (((m:Int)-1)+S+X)=((m:Int)-1)+S+X:=by
                 have h1:=Mn.out
                 have h2:=Z0.out
                 rw[IntKind.wrap_i64]
                 omega
                clear d4 hX dt Li
                go_wp2_with fail
                refine Ly.out.mono ?_
                rintro e w3 ⟨rfl,aM⟩
                have cQ:=zh (af aD.out aM)
                clear aM Ly
                go_wp2
                go_roundw
                case rel=>exact⟨j+1,by omega,by go_num,by rw[Vv.out,Int.add_assoc],Z3.out Up.out,cQ⟩
                case measure=>simp[intOf];omega
              . have d4':(n.w != wd)=true:=by simpa using d4
                have Uq:Hid (¬n.w=wd/\k=3):=⟨d4,Li⟩
                clear d4 dt Li Ly
                go_wp2
                go_ret
                exact RR.out _ aD.out fun h=>Uq.out.1 (h.2.2.2.2.2 Uq.out.2)
  . have Er:j=m:=by omega
    subst Er
    have HR:Hid (r=decide (((j:Int)-1)+S=E)):=by
     have h1:=Um.out
     rw[List.take_of_length_le (by rw[HM.out];exact Nat.le_refl _)] at HO HS
     rw[<- HS.out]
     exact h1 HO.out
    go_wp2_with fail
    refine (ff.out _).mono ?_
    rintro e w2 ⟨rfl,al⟩
    have aD:Hid (Below w.heap.size w w2):=HB.out _ (af bB.out al)
    clear al
    go_wp2
    go_ret
    refine⟨?_,aD.out⟩
    rw[HR.out]
    first | rfl | (simp) | (simp;rfl)
theorem IX (n:Node)(hc:n.cnt<=1000)(IH:∀m∈n.ks,o7 m):o7 n:=by
 cases n with
 | mk k wd h i ks=>
   intro sl fp w ab hw hh
   change wd<=1000 at hw
   change h<=1000 at hh
   unfold Node.cnt at hc
   rw[Kq]
   obtain⟨a,c,av⟩:=ab.sl
   change sl=Jj a ks.length c at av
   by_cases hb:(1<=wd/\1<=h)/\(1<=k/\k<=3)
   . have hd:((decide (1<=wd)&&decide (1<=h))&&(decide (1<=k)&&decide (k<=3)))=true:=by simp[hb]
     rw[hd,Bool.true_and]
     by_cases hk:k=1
     . rw[if_pos hk]
       subst hk av
       exact Ii wd h i a ks.length c w (by omega) (by omega)
     . rw[if_neg hk]
       have dt:k=2\/k=3:=by omega
       by_cases hf:ks.length < 2\/i≠0
       . have eT:(decide (2<=ks.length)&&decide (i=0))=false:=by
          rcases hf with hf | hf
          . rw[decide_eq_false (by omega)]
            rfl
          . rw[decide_eq_false hf,Bool.and_false]
         rw[eT,Bool.false_and]
         subst av
         exact Kr k wd h i a ks.length c w (by omega) (by omega) dt hf
       . have hi:i=0:=by omega
         subst hi
         have eT:(decide (2<=ks.length)&&decide ((0:Int)=0))=true:=by
          rw[decide_eq_true (by omega)]
          rfl
         rw[eT,Bool.true_and]
         exact IW k wd h ks dt (by omega) (by omega) (by omega) (by omega) hw hh IH sl fp w ab
   . have hd:((decide (1<=wd)&&decide (1<=h))&&(decide (1<=k)&&decide (k<=3)))=false:=by
      cases hq:((decide (1<=wd)&&decide (1<=h))&&(decide (1<=k)&&decide (k<=3))) with
      | false=>rfl
      | true=>exact absurd (by simpa using hq) hb
     rw[hd,Bool.false_and]
     subst av
     exact Ih k wd h i ks a ks.length c w hb
mutual
theorem zJ:∀(n:Node),n.cnt<=1000->o7 n
 | .mk k wd h i ks,hc=>IX (.mk k wd h i ks) hc (yG ks (by unfold Node.cnt at hc;omega))
theorem yG:∀(ks:List Node),cnts ks<=1000->∀n∈ks,o7 n
 | [],hc=>fun n hn=>by cases hn
 | a::ks,hc=>fun n hn=>by
   unfold cnts at hc
   rcases List.mem_cons.1 hn with e | hn
   . exact e ▸ zJ a (by omega)
   . exact yG ks (by omega) n hn
end
end Go.Proofs.YtejlincnnonhaaaGreat
