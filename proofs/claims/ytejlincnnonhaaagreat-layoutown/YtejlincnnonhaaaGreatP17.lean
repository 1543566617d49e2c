import Derived.Test.YtejlincnnonhaaaGreatP10
import Derived.Test.YtejlincnnonhaaaGreatP11
import Derived.Deep.RegionLaw
namespace Go.Proofs.YtejlincnnonhaaaGreat
open Go.RowKit Go.Proofs.Tryz
open Value renaming int->J,slice->Jj,pointer->JJ
open IntKind renaming i64->Jq
open Option renaming none->O,some->I
open Ending renaming returned->Jz
open Obj renaming cells->JZ
set_option linter.unusedVariables false
set_option maxRecDepth 100000
set_option maxHeartbeats 16000000
theorem CX (t:Tree):(cZ t).length=t.size:=by
 unfold cZ
 rw[Tree.eu,Tree.iI]
theorem tY {L n:Int}(hL: -2000<=L/\L<=2000)(hn:1<=n): -2000<=L.tdiv n/\L.tdiv n<=2000:=by
 by_cases h0:0<=L
 . rw[Int.tdiv_eq_ediv_of_nonneg h0]
   have h1:0<=L / n:=Int.ediv_nonneg h0 (by omega)
   have h2:L / n<=L:=Int.ediv_le_self n h0
   omega
 . have h1:0<=(-L) / n:=Int.ediv_nonneg (by omega) (by omega)
   have h2:(-L) / n<= -L:=Int.ediv_le_self n (by omega)
   have h3:(-L).tdiv n=(-L) / n:=Int.tdiv_eq_ediv_of_nonneg (by omega)
   rw[Int.neg_tdiv] at h3
   omega
theorem Eo {wh n i:Int}(hw: -1000<=wh/\wh<=1000)(hn:1<=n/\n<=500): -2001<=bu wh n i/\bu wh n i<=2001:=by
 have h:=tY (L:=wh-(n-1)) (n:=n) (by omega) hn.1
 unfold bu
 split <;> omega
theorem BM (wh n i:Int)(w:World)(hw: -1000<=wh/\wh<=1000)(hn:1<=n/\n<=500):Calls prog 95 #[J Jq wh,J Jq n,J Jq i] w fun e w'=>e=Jz (J Jq (bu wh n i))/\w=w':=by
 have w1:IntKind.i64.wrap (n-1)=n-1:=by rw[IntKind.wrap_i64];omega
 have w2:IntKind.i64.wrap (wh-(n-1))=wh-(n-1):=by rw[IntKind.wrap_i64];omega
 have hd:=tY (L:=wh-(n-1)) (n:=n) (by omega) hn.1
 obtain⟨L,hL⟩:∃L,wh-(n-1)=L:=⟨_,rfl⟩
 unfold bu
 rw[hL] at hd w2 ⊢
 obtain⟨q,hq⟩:∃q,L.tdiv n=q:=⟨_,rfl⟩
 obtain⟨r,hr⟩:∃r,L.tmod n=r:=⟨_,rfl⟩
 have w3:IntKind.i64.wrap q=q:=by rw[IntKind.wrap_i64];omega
 have w4:IntKind.i64.wrap (q+1)=q+1:=by rw[IntKind.wrap_i64];omega
 have mU:n≠0:=by omega
 have hb:(n==0)=false:=by simpa using mU
 rw[hq,hr]
 by_cases hc:i < r
 . rw[if_pos hc]
   have hdc:decide (i < r)=true:=decide_eq_true hc
   clear hd hw hn
   go_enter func95,ntmps95
   go_wp2
   go_ret
   exact⟨rfl,rfl⟩
 . rw[if_neg hc]
   have hdc:decide (i < r)=false:=decide_eq_false hc
   clear hd hw hn
   go_enter func95,ntmps95
   go_wp2
   go_ret
   exact⟨rfl,rfl⟩
theorem rM (g:Nat)(b:Box)(k n:Int)(w:World)(h:bP w g b)(h1: -3000<=b.w/\b.w<=3000)(h2: -3000<=b.h/\b.h<=3000)(h3: -3000<=n/\n<=3000):
 Calls prog 40 #[JJ (I ⟨g,0,O⟩),J Jq k,J Jq n] w fun e w'=>e=Jz (.agg #[J Jq (b.with k n).x,J Jq (b.with k n).y,J Jq (b.with k n).w,J Jq (b.with k n).h])/\Below w.heap.size w w':=by
 obtain⟨q0,q1,q2,q3,qf⟩:=h
 have HB:Hid (bP w g b):=⟨q0,q1,q2,q3,qf⟩
 have am:=HB.out.lt
 obtain⟨e,he⟩:∃e,b.ext k=e:=⟨_,rfl⟩
 have V2: -3000<=e/\e<=3000:=by rw[<- he];unfold Box.ext;split <;> omega
 have hw:IntKind.i64.wrap (n-e)=n-e:=by rw[IntKind.wrap_i64];omega
 have HE:Hid (∀X,Below w.heap.size w X->Calls prog 38 #[JJ (I ⟨g,0,O⟩),J Jq k] X fun e' w'=>e'=Jz (J Jq e)/\X=w'):=fun X hX=>he ▸ dC g b k X (HB.out.below hX)
 have HS:Hid (∀X,bP X (w.heap.size+1) b->Calls prog 41 #[JJ (I ⟨w.heap.size+1,0,O⟩),J Jq k,J Jq (n-e)] X fun e' w'=>e'=Jz (.tuple #[])/\bP w' (w.heap.size+1) (b.str k (n-e))/\X.grownBy w' (I (w.heap.size+1))/\(∀o,4<=o->w'.cell? ⟨w.heap.size+1,o,O⟩=X.cell? ⟨w.heap.size+1,o,O⟩)):=fun X h=>iZ _ _ k (n-e) X h (by omega) (by omega) (by omega)
 obtain⟨b',cC⟩:∃b',b.str k (n-e)=b':=⟨_,rfl⟩
 have hd:b.with k n=b':=by unfold Box.with;rw[he,cC]
 rw[hd]
 rw[cC] at HS
 clear he qf V2 h1 h2 h3 hd cC
 go_enter func40,ntmps40
 go_wp2_with fail
 have HX:Hid (∀o o',Below w.heap.size w ((w.alloc o).alloc o')):=fun o o'=>((Below.refl _ _).alloc (Nat.le_refl _) _).alloc (by simp) _
 have HZ:Hid (∀o,bP ((w.alloc (JZ #[J Jq 0,J Jq 0,J Jq 0,J Jq 0] 47)).alloc o) w.heap.size ⟨0,0,0,0⟩):=fun o=>(bP.new w 47).below ((Below.refl _ _).alloc (Nat.le_refl _) o)
 have HY:Hid (∀o,bP ((w.alloc o).alloc (JZ #[J Jq b.x,J Jq b.y,J Jq b.w,J Jq b.h] 47)) (w.heap.size+1) b):=fun o=>by
  have hs:(w.alloc o).heap.size=w.heap.size+1:=by simp
  have hn:=heap_alloc_new (w.alloc o) (JZ #[J Jq b.x,J Jq b.y,J Jq b.w,J Jq b.h] 47)
  rw[hs] at hn
  exact⟨ae hn 0,ae hn 1,ae hn 2,ae hn 3,fun o _=>ai hn o⟩
 refine (HE.out _ (HX.out _ _)).mono ?_
 rintro e' w1 ⟨rfl,rfl⟩
 clear q0 q1 q2 q3
 go_wp2_with fail
 refine (HS.out _ (HY.out _)).mono ?_
 rintro e' w2 ⟨rfl,al,eO,_⟩
 obtain⟨z0,z1,z2,z3,zf⟩:=(HZ.out _).grown eO (by omega)
 obtain⟨r0,r1,r2,r3,_⟩:=al
 have f0:=zf 0 (by decide)
 have f1:=zf 1 (by decide)
 have f2:=zf 2 (by decide)
 have f3:=zf 3 (by decide)
 have aD:Hid (Below w.heap.size w w2):=below_grown (HX.out _ _) eO (by omega)
 clear zf eO HZ HY HX HE HS
 go_wp2
 refine bodyPost_ret (v:=.agg #[J Jq b'.x,J Jq b'.y,J Jq b'.w,J Jq b'.h]) (by simp[results,results40,go_sem,z0,z1,z2,z3]) rfl ?_
 exact⟨rfl,below_grown (below_grown (below_grown (below_grown aD.out (grownBy_set _ _ _ _) (Nat.le_refl _)) (grownBy_set _ _ _ _) (Nat.le_refl _)) (grownBy_set _ _ _ _) (Nat.le_refl _)) (grownBy_set _ _ _ _) (Nat.le_refl _)⟩
def iP (w:World)(v:Value)(zs:List Int):Prop:=∃g o cap,v=Jj (I ⟨g,o,O⟩) zs.length cap/\zs.length<=cap/\∀(i:Nat) z,zs[i]?=I z->w.cell? ⟨g,o+i,O⟩=I (J Jq z)
theorem iP.below {w w':World}{v:Value}{zs:List Int}(h:iP w v zs)(hb:Below w.heap.size w w'):iP w' v zs:=by
 obtain⟨g,o,cap,e,hc,h2⟩:=h
 exact⟨g,o,cap,e,hc,fun i z hz=>(hb.cell (p:=⟨g,o+i,O⟩) (World.block_lt_of_cell? w _ (h2 i z hz))).trans (h2 i z hz)⟩
structure jg (w:World)(k:Int)(b:Box)(ts:List Tree)(sl:Value)(vs:List Value)(fs:List Nat)(wr:World):Prop where
 box:bP wr w.heap.size b
 own:aX wr (w.heap.size+1) b k sl
 row:wr.ownsRow (w.heap.size+2) 70 1 sl vs.length vs
 parts:aB wr 0 ts vs fs
 nodup:fs.Nodup
 ge:∀q∈fs,w.heap.size+2<=q
 apart:∀q∈fs,sl.ownBlock≠I q
 below:Below w.heap.size w wr
theorem jg.lt {w:World}{k:Int}{b:Box}{ts:List Tree}{sl:Value}{vs:List Value}{fs:List Nat}{wr:World}(h:jg w k b ts sl vs fs wr):w.heap.size+2<=wr.heap.size:=lt_of_block h.own
theorem jg.below' {w:World}{k:Int}{b:Box}{ts:List Tree}{sl:Value}{vs:List Value}{fs:List Nat}{wr X:World}(h:jg w k b ts sl vs fs wr)(hb:Below wr.heap.size wr X):jg w k b ts sl vs fs X:=
 ⟨h.box.below hb,h.own.below hb,own_below h.row hb,h.parts.below hb,h.nodup,h.ge,h.apart,af h.below hb⟩
theorem jg.start (w:World)(k:Int)(b:Box):jg w k b [] (Jj O 0 0) [] [] ((w.alloc (JZ #[J Jq b.x,J Jq b.y,J Jq b.w,J Jq b.h] 47)).alloc (JZ #[J Jq b.x,J Jq b.y,J Jq b.w,J Jq b.h,J Jq k,Jj O 0 0] 91)):=by
 have hs:(w.alloc (JZ #[J Jq b.x,J Jq b.y,J Jq b.w,J Jq b.h] 47)).heap.size=w.heap.size+1:=by simp
 have hn:=heap_alloc_new w (JZ #[J Jq b.x,J Jq b.y,J Jq b.w,J Jq b.h] 47)
 have hB:bP (w.alloc (JZ #[J Jq b.x,J Jq b.y,J Jq b.w,J Jq b.h] 47)) w.heap.size b:=⟨ae hn 0,ae hn 1,ae hn 2,ae hn 3,fun o _=>ai hn o⟩
 have h1:Below w.heap.size w (w.alloc (JZ #[J Jq b.x,J Jq b.y,J Jq b.w,J Jq b.h] 47)):=(Below.refl _ _).alloc (Nat.le_refl _) _
 refine⟨hB.below ((Below.refl _ _).alloc (Nat.le_refl _) _),?_,World.ownsRow_nil _ _ _ _,⟨rfl,rfl⟩,List.nodup_nil,nofun,nofun,aK h1 _⟩
 rw[<- hs]
 exact heap_alloc_new _ _
theorem jg.next {w:World}{k:Int}{b:Box}{ts:List Tree}{sl:Value}{vs:List Value}{fs:List Nat}{wr X:World}(h:jg w k b ts sl vs fs wr)(hX:Below wr.heap.size wr X){t:Tree}{v:Value}{f:List Nat}(hA:t.At X 0 v f)(hf:f.Nodup)(be:∀q∈f,wr.heap.size<=q){o:Obj}{sl':Value}{w':World}(h1:w'.ownsRow (w.heap.size+2) 70 1 sl' (vs.length+1) (vs++[v]))(h2:(X.alloc o).grownBy w' sl.ownBlock)(h3:sl'.ownBlock=sl.ownBlock\/sl'.ownBlock=I (X.alloc o).heap.size):
 aX w' (w.heap.size+1) b k sl/\jg w k b (ts++[t]) sl' (vs++[v]) (fs++f) (w'.setCell ⟨w.heap.size+1,5,O⟩ sl'):=by
 have hx:=h.below' hX
 have am:=h.lt
 have hxl:=hX.size
 have hsz:(X.alloc o).heap.size=X.heap.size+1:=by simp
 have a7:∀q,sl.ownBlock=I q->w.heap.size+2<=q/\q < wr.heap.size:=fun q hq=>World.ownsRow.lt h.row q hq
 have kept:∀q,q < X.heap.size->sl.ownBlock≠I q->w'.heap[q]?=X.heap[q]?:=fun q hq hn=>(h2.block q (by omega) (fun e=>hn e.symm)).trans (((Below.refl X.heap.size X).alloc (Nat.le_refl _) o).block q hq)
 have hs:aX w' (w.heap.size+1) b k sl:=(kept _ (by omega) fun e=>by have:=a7 _ e;omega).trans hx.own
 have kept':∀q,q < X.heap.size->sl.ownBlock≠I q->q≠w.heap.size+1->(w'.setCell ⟨w.heap.size+1,5,O⟩ sl').heap[q]?=X.heap[q]?:=fun q hq hn eV=>(Below.heap_setCell _ _ _ _ (fun e=>eV (by simpa using e))).trans (kept q hq hn)
 have li:∀q∈fs,q < wr.heap.size:=h.parts.lt
 refine⟨hs,?_,hs.Jr sl',?_,aB.snoc (hA.keep fun q hq=> ?_) (hx.parts.keep fun q hq=> ?_),?_,fun q hq=> ?_,fun q hq=> ?_,?_⟩
 . have kb:=kept' w.heap.size (by omega) (fun e=>by have:=a7 _ e;omega) (by omega)
   have e:∀o',(w'.setCell ⟨w.heap.size+1,5,O⟩ sl').cell? ⟨w.heap.size,o',O⟩=X.cell? ⟨w.heap.size,o',O⟩:=fun o'=>World.cell?_of_block kb
   have e':∀o',(w'.setCell ⟨w.heap.size+1,5,O⟩ sl').frozen? ⟨w.heap.size,o',O⟩=X.frozen? ⟨w.heap.size,o',O⟩:=fun o'=>World.frozen?_of_block kb
   exact⟨(e _).trans hx.box.x,(e _).trans hx.box.y,(e _).trans hx.box.w,(e _).trans hx.box.h,fun o' ho=>(e' _).trans (hx.box.free o' ho)⟩
 . have:=dU h1 (W':=w'.setCell ⟨w.heap.size+1,5,O⟩ sl') fun q hq=>by
    refine Below.heap_setCell _ _ _ _ fun e=> ?_
    have:=(World.ownsRow.lt h1 q (by simpa using hq)).1
    have e':q=w.heap.size+1:=by simpa using e
    omega
   simpa using this
 . have:=be q hq
   exact kept' q (hA.lt q hq) (fun e=>by have:=a7 _ e;omega) (by omega)
 . have:=h.ge q hq
   have:=li q hq
   exact kept' q (by omega) (h.apart q hq) (by omega)
 . refine List.nodup_append.2 ⟨h.nodup,hf,fun a ha c hc e=> ?_⟩
   have:=li a ha
   have:=be c hc
   omega
 . rcases List.mem_append.1 hq with h4 | h4
   . exact h.ge q h4
   . have:=be q h4
     omega
 . rcases List.mem_append.1 hq with h4 | h4
   . rcases h3 with e | e
     . rw[e];exact h.apart q h4
     . rw[e]
       intro e2
       have:=li q h4
       have:=Option.some.inj e2
       omega
   . have h5:=be q h4
     have h6:=hA.lt q h4
     rcases h3 with e | e
     . rw[e]
       intro e2
       have:=a7 _ e2
       omega
     . rw[e]
       intro e2
       have:=Option.some.inj e2
       omega
 . have hb:Below w.heap.size w w':=by
    have h0:Below w.heap.size w (X.alloc o):=aK hx.below o
    refine⟨h2.os.trans h0.os,h2.tape.trans h0.tape,h2.output.trans h0.output,Nat.le_trans h0.size h2.size,fun q hq=>(h2.block q (by have:=h0.size;omega) fun e=> ?_).trans (h0.block q hq)⟩
    have:=a7 _ e.symm
    omega
   exact below_grown hb (grownBy_set _ _ _ _) (by omega)
theorem jg.made {w:World}{k:Int}{b:Box}{ts:List Tree}{sl:Value}{vs:List Value}{fs:List Nat}{wr:World}(h:jg w k b ts sl vs fs wr):dP (.split b k ts) w (Jz (dA (w.heap.size+1))) wr:=by
 refine⟨_,_,_,rfl,⟨_,sl,vs,fs,rfl,h.own,⟨h.row.1,?_⟩,h.parts,rfl⟩,?_,?_,h.below⟩
 . rcases h.row.2 with h0 | ⟨g,cap,cur,e,_,r⟩
   . exact .inl h0
   . exact .inr ⟨g,cap,cur,e,Nat.zero_le _,r⟩
 . have h1:∀q∈sl.ownBlock.toList,w.heap.size+2<=q:=fun q hq=>(World.ownsRow.lt h.row q (by simpa using hq)).1
   refine List.nodup_cons.2 ⟨fun hm=> ?_,List.nodup_append.2 ⟨?_,h.nodup,fun a ha c hc e=> ?_⟩⟩
   . rcases List.mem_append.1 hm with h2 | h2
     . have:=h1 _ h2;omega
     . have:=h.ge _ h2;omega
   . cases sl.ownBlock <;> simp
   . subst e
     exact h.apart a hc (by simpa using ha)
 . intro q hq
   rcases List.mem_cons.1 hq with h2 | h2
   . omega
   . rcases List.mem_append.1 h2 with h3 | h3
     . have:=(World.ownsRow.lt h.row q (by simpa using h3)).1;omega
     . have:=h.ge _ h3;omega
theorem mJ {ops:Array Oper}{o:Oper}{a:Act}{K:Act->World->Prop}{Q:Exit->Act->World->Prop}{E:Prop}(w:World)(e9:o.guard=O)(s x:Operand)
 (ho:o.op=.call { callee:=.builtin .append,args:=#[s,x],argTypes:=#[85,85] })
 (B:Nat) (v:Value) (vs:List Value) (T:TypeId) (g:Nat) (hs:a.eval s=v) (bm:w.ownsRow B 70 1 v vs.length vs) (hx:a.eval x=Jj (I ⟨w.heap.size,0,O⟩) 1 1) (hlen:vs.length<=1000000) (hB:B<=w.heap.size)
 (h:∀v' w',w'.ownsRow B 70 1 v' (vs.length+1) (vs++[.iface T (JJ (I ⟨g,0,O⟩))])->(w.alloc (JZ #[.iface T (JJ (I ⟨g,0,O⟩))] 70)).grownBy w' v.ownBlock->(v'.ownBlock=v.ownBlock\/v'.ownBlock=I (w.alloc (JZ #[.iface T (JJ (I ⟨g,0,O⟩))] 70)).heap.size)->K (a.put o.dst v') w'):if Region.wanted o (yielded ops a.tmps)=true then Oper.wp prog o a (w.alloc (JZ #[.iface T (JJ (I ⟨g,0,O⟩))] 70)) K Q else E:=by
 have hw:Region.wanted o (yielded ops a.tmps)=true:=by simp[Region.wanted,e9]
 rw[if_pos hw]
 obtain⟨i0,hi,eh,db,cJ⟩:=bH kN
 obtain⟨v',w',hr,h2,h3,h4,h5⟩:=run_append_own_at (P:=prog) (w.alloc (JZ #[.iface T (JJ (I ⟨g,0,O⟩))] 70)) B 85 o.type 70 i0 .nilIface 1 16 underlying85 hi eh db cJ rfl (by decide) v vs.length vs (World.ownsRow.alloc bm _) ⟨w.heap.size,0,O⟩ 1 1 [.iface T (JJ (I ⟨g,0,O⟩))] rfl (fun j u hu=>by
  rw[show (⟨w.heap.size,0,O⟩:Addr).add j=⟨w.heap.size,j,O⟩ by unfold Addr.add;split <;> simp_all,dW]
  simpa using hu) (fun u hu=>by
  simp only[List.mem_cons,List.not_mem_nil,or_false] at hu
  subst hu
  rfl) (by unfold maxLen;omega) (by omega) (by
  have:(w.alloc (JZ #[.iface T (JJ (I ⟨g,0,O⟩))] 70)).heap.size=w.heap.size+1:=by simp
  omega)
 unfold Oper.wp execOp
 simp only[ho,resolve,invoke,builtin,Sem.run_bind,Sem.run_pure,Result.andThen_ok,List.map_toArray,List.map_cons,List.map_nil,hs,hx,hr]
 exact h v' w' h2 h3 h5
theorem mG (w:World)(b:Box):bP (w.alloc (JZ #[J Jq b.x,J Jq b.y,J Jq b.w,J Jq b.h] 47)) w.heap.size b:=by
 have hn:=heap_alloc_new w (JZ #[J Jq b.x,J Jq b.y,J Jq b.w,J Jq b.h] 47)
 exact⟨ae hn 0,ae hn 1,ae hn 2,ae hn 3,fun o _=>ai hn o⟩
def I7 (b:Box):Value:=.agg #[J Jq b.x,J Jq b.y,J Jq b.w,J Jq b.h]
theorem MM (k:Int)(z:Int)(b:Box)(v:Value)(w:World)(hI:iP w v [z]):Calls prog 79 #[J Jq k,v,I7 b] w (dP (.leaf b z) w):=by
 obtain⟨g,o,cap,rfl,cG,hz⟩:=hI
 clear cG
 obtain⟨W,hW⟩:∃x,w.alloc (JZ #[J Jq b.x,J Jq b.y,J Jq b.w,J Jq b.h] 47)=x:=⟨_,rfl⟩
 have hB:bP W w.heap.size b:=by rw[<- hW];exact mG w b
 have ap:Below w.heap.size w W:=by rw[<- hW];exact (Below.refl _ _).alloc (Nat.le_refl _) _
 obtain⟨c0,c1,c2,c3,_⟩:=hB
 have h0:=hz 0 z rfl
 have d0:W.cell? ⟨g,o,O⟩=I (J Jq z):=(ap.cell (p:=⟨g,o,O⟩) (World.block_lt_of_cell? w _ h0)).trans h0
 have HW:Hid (w.alloc (JZ #[J Jq b.x,J Jq b.y,J Jq b.w,J Jq b.h] 47)=W):=hW
 have bR:Hid (Below w.heap.size w W):=ap
 unfold I7
 clear hW ap hz h0
 go_enter func79,ntmps79
 go_upto_region 1 with fail
 rw[HW.out]
 go_wp2
 go_region
 have HL:Hid (dP (.leaf b z) w (Jz (.iface 45 (JJ (I ⟨W.heap.size,0,O⟩)))) (W.alloc (JZ #[J Jq b.x,J Jq b.y,J Jq b.w,J Jq b.h,J Jq z] 49)).drew):=
  ⟨_,_,[W.heap.size],rfl,⟨_,rfl,heap_alloc_new _ _,rfl⟩,by simp,fun q hq=>by rw[List.mem_singleton.1 hq];exact bR.out.size,(aK bR.out _).drew⟩
 go_wp2
 go_ret
 exact HL.out
theorem JB {w wr X:World}{B':Box}{z:Int}(hl:w.heap.size+2<=wr.heap.size)(hX:Below wr.heap.size wr X):Below wr.heap.size wr (X.alloc (JZ #[J Jq B'.x,J Jq B'.y,J Jq B'.w,J Jq B'.h,J Jq z] 49))/\w.heap.size+2<=(X.alloc (JZ #[J Jq B'.x,J Jq B'.y,J Jq B'.w,J Jq B'.h,J Jq z] 49)).heap.size/\(Tree.leaf B' z).At (X.alloc (JZ #[J Jq B'.x,J Jq B'.y,J Jq B'.w,J Jq B'.h,J Jq z] 49)) 0 (.iface 45 (JJ (I ⟨X.heap.size,0,O⟩))) [X.heap.size]:=by
 have h1:=aK hX (JZ #[J Jq B'.x,J Jq B'.y,J Jq B'.w,J Jq B'.h,J Jq z] 49)
 exact⟨h1,Nat.le_trans hl h1.size,⟨_,rfl,heap_alloc_new _ _,rfl⟩⟩
theorem gB {w X:World}{p:Addr}{v:Value}(h:w.cell? p=I v)(hb:Below w.heap.size w X):X.cell? p=I v/\(∀o,(X.alloc o).cell? p=I v)/\∀o o',((X.alloc o).alloc o').cell? p=I v:=by
 have hl:=World.block_lt_of_cell? w p h
 have h1:X.cell? p=I v:=(hb.cell hl).trans h
 have h2:∀o,(X.alloc o).cell? p=I v:=fun o=>(((Below.refl X.heap.size X).alloc (Nat.le_refl _) o).cell (Nat.lt_of_lt_of_le hl hb.size)).trans h1
 refine⟨h1,h2,fun o o'=> ?_⟩
 have hz:X.heap.size<=(X.alloc o).heap.size:=by simp
 exact (((Below.refl (X.alloc o).heap.size (X.alloc o)).alloc (Nat.le_refl _) o').cell (Nat.lt_of_lt_of_le hl (Nat.le_trans hb.size hz))).trans (h2 o)
theorem xh {α:Type}(l:List α)(i:Nat)(x:α)(h:l[i]?=I x):l.take (i+1)=l.take i++[x]:=by
 rw[List.take_add_one,h]
 rfl
theorem JC (k:Int)(hk:k=2\/k=3)(zs:List Int)(b:Box)(v:Value)(w:World)(hI:iP w v zs)(h2:2<=zs.length)(h3:zs.length<=400)(hw: -1000<=b.w/\b.w<=1000)(hh: -1000<=b.h/\b.h<=1000):Calls prog 79 #[J Jq k,v,I7 b] w (dP (.split b k (fC k b zs.length zs 0)) w):=by
 obtain⟨g,o,cap,rfl,cG,hz⟩:=hI
 clear cG
 obtain⟨W,hW⟩:∃x,w.alloc (JZ #[J Jq b.x,J Jq b.y,J Jq b.w,J Jq b.h] 47)=x:=⟨_,rfl⟩
 have hB:bP W w.heap.size b:=by rw[<- hW];exact mG w b
 have fi:W.heap.size=w.heap.size+1:=by rw[<- hW];simp
 obtain⟨c0,c1,c2,c3,_⟩:=hB
 obtain⟨V,hV⟩:∃x,W.alloc (JZ #[J Jq b.x,J Jq b.y,J Jq b.w,J Jq b.h,J Jq k,Jj O 0 0] 91)=x:=⟨_,rfl⟩
 have lO:Hid (jg w k b [] (Jj O 0 0) [] [] V):=by rw[<- hV,<- hW];exact jg.start w k b
 have HW:Hid (w.alloc (JZ #[J Jq b.x,J Jq b.y,J Jq b.w,J Jq b.h] 47)=W):=hW
 have HV:Hid (W.alloc (JZ #[J Jq b.x,J Jq b.y,J Jq b.w,J Jq b.h,J Jq k,Jj O 0 0] 91)=V):=hV
 have BS: -1000<=b.ext k/\b.ext k<=1000:=by unfold Box.ext;split <;> assumption
 obtain⟨n,hn⟩:∃n,zs.length=n:=⟨_,rfl⟩
 have HN:Hid (zs.length=n):=hn
 rw[hn] at h2 h3 ⊢
 obtain⟨ts,gn⟩:∃ts,fC k b n zs 0=ts:=⟨_,rfl⟩
 have Mq:Hid (ts.length=n):=by show _=_;rw[<- gn,jq,hn]
 have HT:Hid (∀(i:Nat) z,zs[i]?=I z->ts[i]?=I (.leaf (b.with k (bu (b.ext k) n i)) z)):=fun i z h=>by
  rw[<- gn]
  have:=pW k b n zs 0 i z h
  rw[Int.zero_add] at this
  exact this
 rw[gn]
 have HZ:Hid (∀(i:Nat) z,zs[i]?=I z->w.cell? ⟨g,o+i,O⟩=I (J Jq z)):=hz
 obtain⟨E,hE⟩:∃e,b.ext k=e:=⟨_,rfl⟩
 have ff:Hid (∀X,bP X w.heap.size b->Calls prog 38 #[JJ (I ⟨w.heap.size,0,O⟩),J Jq k] X fun e w'=>e=Jz (J Jq E)/\X=w'):=fun X hX=>by rw[<- hE];exact dC _ b k X hX
 have Kk:Hid (∀(i:Nat) X,Calls prog 95 #[J Jq E,J Jq n,J Jq i] X fun e w'=>e=Jz (J Jq (bu E n i))/\X=w'):=fun i X=>BM E n i X (by omega) (by omega)
 have Gr:Hid (∀(i:Nat) X,bP X w.heap.size b->Calls prog 40 #[JJ (I ⟨w.heap.size,0,O⟩),J Jq k,J Jq (bu E n i)] X fun e w'=>e=Jz (.agg #[J Jq (b.with k (bu E n i)).x,J Jq (b.with k (bu E n i)).y,J Jq (b.with k (bu E n i)).w,J Jq (b.with k (bu E n i)).h])/\Below X.heap.size X w'):=fun i X hX=>rM _ b k _ X hX (by omega) (by omega) (by have:=Eo (wh:=E) (n:=n) (i:=i) (by omega) (by omega);omega)
 rw[hE] at HT
 have du:((n:Int)==1)=false:=by
  have:(n:Int)≠1:=by omega
  simpa using this
 unfold I7
 clear hW hV hz hn gn hE hw hh BS hk
 go_enter func79,ntmps79
 go_upto_region 1 with fail
 rw[HW.out]
 go_upto_region 4 with fail
 rw[HV.out]
 go_wp2
 go_loopw [26] (fun vi wr=>∃i:Nat,i<=n/\vi=J Jq i/\∃sl vs fs,Hid (jg w k b (ts.take i) sl vs fs wr)) (fun vi _=>n-(intOf vi).toNat)
 case atStart=>exact⟨0,Nat.zero_le _,rfl,_,_,_,lO⟩
 case round=>
  obtain⟨i,hi,rfl,sl,vs,fs,HJ⟩:=hrel
  by_cases am:i < n
  . obtain⟨z,hz⟩:∃z,zs[i]?=I z:=⟨_,List.getElem?_eq_getElem (by rw[HN.out];exact am)⟩
    have Ra:=HZ.out i z hz
    have dz:wr.cell? ⟨g,o+i,O⟩=I (J Jq z):=(HJ.out.below.cell (p:=⟨g,o+i,O⟩) (World.block_lt_of_cell? w _ Ra)).trans Ra
    have nf:Hid (ts.take (i+1)=ts.take i++[.leaf (b.with k (bu E n i)) z]):=xh _ _ _ (HT.out i z hz)
    have d5:wr.cell? ⟨w.heap.size+1,5,O⟩=I sl:=ae HJ.out.own 5
    obtain⟨sa,sn,sc,av⟩:=iO HJ.out.row
    subst av
    obtain⟨B',tW⟩:∃B',b.with k (bu E n i)=B':=⟨_,rfl⟩
    obtain⟨q,hq⟩:∃q,bu E n i=q:=⟨_,rfl⟩
    have zd:Hid (∀X,Calls prog 95 #[J Jq E,J Jq n,J Jq i] X fun e w'=>e=Jz (J Jq q)/\X=w'):=fun X=>by rw[<- hq];exact Kk.out i X
    have VZ:Hid (∀X,bP X w.heap.size b->Calls prog 40 #[JJ (I ⟨w.heap.size,0,O⟩),J Jq k,J Jq q] X fun e w'=>e=Jz (.agg #[J Jq B'.x,J Jq B'.y,J Jq B'.w,J Jq B'.h])/\Below X.heap.size X w'):=fun X hX=>by rw[<- tW,<- hq];exact Gr.out i X hX
    rw[tW] at nf
    have kA:Hid (bP wr.drew w.heap.size b):=by obtain⟨x0,x1,x2,x3,x4⟩:=HJ.out.box;exact⟨x0,x1,x2,x3,x4⟩
    have V0:Hid (vs.length=i):=by
     show _=_
     rw[HJ.out.parts.length,List.length_take,Mq.out]
     omega
    have hlen:vs.length<=1000000:=by rw[V0.out];omega
    have V1:Hid (wr.drew.cell? ⟨w.heap.size+1,5,O⟩=I (Jj sa sn sc)):=d5
    clear hz Ra tW hq
    go_wp2
    go_region_law (first
     | (refine mJ (X.alloc (JZ #[J Jq B'.x,J Jq B'.y,J Jq B'.w,J Jq B'.h,J Jq z] 49)) rfl (.tmp 35) (.tmp 48) rfl (w.heap.size+2) (Jj sa sn sc) vs 45 X.heap.size (by simp[Act.eval]) (HJ.out.below' HX.out.1).row (by simp[Act.eval]) hlen HX.out.2.1 ?_;intro sl' w3 a1 a2 a3;have av:=iO a1;have hj:=HJ.out.next HX.out.1 HX.out.2.2 (by simp) (fun q hq=>by rw[List.mem_singleton.1 hq];exact Mr.out) a1 a2 a3;have c5:w3.cell? ⟨w.heap.size+1,5,O⟩=I (Jj sa sn sc):=ae hj.1 5;have f5:w3.frozen? ⟨w.heap.size+1,5,O⟩=false:=ai hj.1 5;have nL:Hid (jg w k b (ts.take i++[.leaf B' z]) sl' (vs++[.iface 45 (JJ (I ⟨X.heap.size,0,O⟩))]) (fs++[X.heap.size]) (w3.setCell ⟨w.heap.size+1,5,O⟩ sl')):=hj.2;clear a1 a2 a3 hj;obtain⟨sa',sn',sc',cq⟩:=av;subst cq)
     | (go_simp;go_at_call 38;refine (ff.out _ kA.out).mono ?_;rintro e w1 ⟨rfl,rfl⟩)
     | (go_simp;go_at_call 95;refine (zd.out _).mono ?_;rintro e w1 ⟨rfl,rfl⟩)
     | (go_simp;go_at_call 40;refine (VZ.out _ kA.out).mono ?_;rintro e X ⟨rfl,cK⟩;have HX:Hid (Below wr.heap.size wr (X.alloc (JZ #[J Jq B'.x,J Jq B'.y,J Jq B'.w,J Jq B'.h,J Jq z] 49))/\w.heap.size+2<=(X.alloc (JZ #[J Jq B'.x,J Jq B'.y,J Jq B'.w,J Jq B'.h,J Jq z] 49)).heap.size/\(Tree.leaf B' z).At (X.alloc (JZ #[J Jq B'.x,J Jq B'.y,J Jq B'.w,J Jq B'.h,J Jq z] 49)) 0 (.iface 45 (JJ (I ⟨X.heap.size,0,O⟩))) [X.heap.size]):=JB HJ.out.lt ⟨cK.os,cK.tape,cK.output,cK.size,cK.block⟩;have Mr:Hid (wr.heap.size<=X.heap.size):=cK.size;obtain⟨dX,dXa,dXb⟩:=gB V1.out cK;clear cK))
    all_goals (
     go_wp2
     go_roundw
     case rel=>exact⟨i+1,by omega,by go_num,_,_,_,by rw[nf.out];exact nL⟩
     case measure=>simp[intOf];omega)
  . have HM:Hid (dP (.split b k ts) w (Jz (dA (w.heap.size+1))) wr):=by
     have h:=HJ.out.made
     rw[List.take_of_length_le (by rw[Mq.out];omega)] at h
     exact h
    unfold dA at HM
    go_wp2
    go_ret
    exact HM.out
theorem wE (k:Int)(hk:k=2\/k=3)(zs:List Int)(b:Box)(v:Value)(w:World)(hI:iP w v zs)(a7:zs≠[])(h3:zs.length<=400)(hw: -1000<=b.w/\b.w<=1000)(hh: -1000<=b.h/\b.h<=1000):Calls prog 79 #[J Jq k,v,I7 b] w (dP (eU k zs b) w):=by
 match zs,a7,hI,h3 with
 | [z],_,hI,_=>exact MM k z b v w hI
 | x::y::zs,_,hI,h3=>exact JC k hk (x::y::zs) b v w hI (by simp) h3 hw hh
theorem iP.cut {w:World}{g o n cap:Nat}{zs:List Int}(h:∀(i:Nat) z,zs[i]?=I z->w.cell? ⟨g,o+i,O⟩=I (J Jq z))(a m:Nat):∀(i:Nat) z,((zs.drop a).take m)[i]?=I z->w.cell? ⟨g,o+a+i,O⟩=I (J Jq z):=fun i z hz=>by
 rw[List.getElem?_take] at hz
 split at hz
 . rw[List.getElem?_drop] at hz
   have:=h (a+i) z hz
   rw[show o+a+i=o+(a+i) by omega]
   exact this
 . cases hz
theorem uZ {wh z:Int}(hw:1<=wh/\wh<=1000):0<=jC wh z/\jC wh z<=1000:=by
 unfold jC dM
 split
 . omega
 . omega
theorem Gv {w X Y:World}{k:Int}{b B1:Box}{z0:Int}{g1:Nat}{t:Tree}{T:TypeId}{g:Nat}{f:List Nat}(h1:bD Y g1 B1 z0)(hg:w.heap.size<=g1)(gw:g1 < X.heap.size)(hA:t.At Y 0 (.iface T (JJ (I ⟨g,0,O⟩))) f)(hf:f.Nodup)(be:∀q∈f,X.heap.size<=q)(hb:Below w.heap.size w Y):
 dP (.split b k [.leaf B1 z0,t]) w (Jz (.iface 83 (JJ (I ⟨Y.heap.size+1,0,O⟩)))) ((Y.alloc (JZ #[.iface 45 (JJ (I ⟨g1,0,O⟩)),.iface T (JJ (I ⟨g,0,O⟩))] 70)).alloc (JZ #[J Jq b.x,J Jq b.y,J Jq b.w,J Jq b.h,J Jq k,Jj (I ⟨Y.heap.size,0,O⟩) 2 2] 91)):=by
 obtain⟨Z,hZ⟩:∃Z,Y.alloc (JZ #[.iface 45 (JJ (I ⟨g1,0,O⟩)),.iface T (JJ (I ⟨g,0,O⟩))] 70)=Z:=⟨_,rfl⟩
 have hZs:Z.heap.size=Y.heap.size+1:=by rw[<- hZ];simp
 have hZn:Z.heap[Y.heap.size]?=I (JZ #[.iface 45 (JJ (I ⟨g1,0,O⟩)),.iface T (JJ (I ⟨g,0,O⟩))] 70 (0,0)):=by rw[<- hZ];exact heap_alloc_new _ _
 have Zz:Below Y.heap.size Y Z:=by rw[<- hZ];exact (Below.refl _ _).alloc (Nat.le_refl _) _
 rw[hZ]
 obtain⟨V,hV⟩:∃V,Z.alloc (JZ #[J Jq b.x,J Jq b.y,J Jq b.w,J Jq b.h,J Jq k,Jj (I ⟨Y.heap.size,0,O⟩) 2 2] 91)=V:=⟨_,rfl⟩
 have hVn:V.heap[Y.heap.size+1]?=I (JZ #[J Jq b.x,J Jq b.y,J Jq b.w,J Jq b.h,J Jq k,Jj (I ⟨Y.heap.size,0,O⟩) 2 2] 91 (0,0)):=by rw[<- hV,<- hZs];exact heap_alloc_new _ _
 have ZI:Below Z.heap.size Z V:=by rw[<- hV];exact (Below.refl _ _).alloc (Nat.le_refl _) _
 rw[hV]
 have XF:Below Y.heap.size Y V:=af Zz ZI
 have li:=hA.lt
 have h1l:=lt_of_block h1
 refine⟨_,_,(Y.heap.size+1)::([Y.heap.size]++([g1]++(f++[]))),rfl,⟨Y.heap.size+1,Jj (I ⟨Y.heap.size,0,O⟩) 2 2,[.iface 45 (JJ (I ⟨g1,0,O⟩)),.iface T (JJ (I ⟨g,0,O⟩))],[g1]++(f++[]),rfl,hVn,⟨rfl,.inr ⟨Y.heap.size,2,_,rfl,Nat.zero_le _,(ZI.block _ (by omega)).trans hZn,Nat.le_refl _,by unfold maxLen;omega,rfl,rfl⟩⟩,⟨_,_,[g1],f++[],rfl,⟨g1,rfl,h1.below XF,rfl⟩,⟨_,_,f,[],rfl,hA.below XF,⟨rfl,rfl⟩,rfl⟩,rfl⟩,rfl⟩,?_,?_,af hb XF⟩
 . rw[List.append_nil]
   refine List.nodup_cons.2 ⟨fun hm=> ?_,List.nodup_cons.2 ⟨fun hm=> ?_,List.nodup_cons.2 ⟨fun hm=> ?_,hf⟩⟩⟩
   . rcases List.mem_cons.1 hm with h | hm
     . omega
     . rcases List.mem_cons.1 hm with h | h
       . omega
       . have:=li _ h;omega
   . rcases List.mem_cons.1 hm with h | h
     . omega
     . have:=li _ h;omega
   . have:=be _ hm
     omega
 . intro q hq
   rw[List.append_nil] at hq
   have:=hb.size
   rcases List.mem_cons.1 hq with h | hq
   . omega
   . rcases List.mem_cons.1 hq with h | hq
     . omega
     . rcases List.mem_cons.1 hq with h | h
       . omega
       . have h4:=be q h
         omega
theorem first_any (k:Int)(hk:k=2\/k=3)(z0:Int)(zs:List Int)(b:Box)(sz:Int)(v:Value)(w:World)(hI:iP w v (z0::zs))(a7:zs≠[])(h3:zs.length<=300)(hw:1<=b.w/\b.w<=1000)(hh:1<=b.h/\b.h<=1000)(hsz: -9223372036854775808<=sz/\sz<=9223372036854775807):Calls prog 80 #[J Jq k,v,I7 b,J Jq sz] w (dP (firstT k z0 zs b sz) w):=by
 obtain⟨g,o,cap,rfl,cG,hz⟩:=hI
 obtain⟨W,hW⟩:∃x,w.alloc (JZ #[J Jq b.x,J Jq b.y,J Jq b.w,J Jq b.h] 47)=x:=⟨_,rfl⟩
 have hB:bP W w.heap.size b:=by rw[<- hW];exact mG w b
 have HB:=zh hB
 have ap:Below w.heap.size w W:=by rw[<- hW];exact (Below.refl _ _).alloc (Nat.le_refl _) _
 have bR:=zh ap
 obtain⟨c0,c1,c2,c3,_⟩:=hB
 have HW:=zh hW
 have BS:1<=b.ext k/\b.ext k<=1000:=by unfold Box.ext;split <;> assumption
 have OP:=uZ (z:=sz) BS
 unfold firstT
 obtain⟨E,hE⟩:∃e,b.ext k=e:=⟨_,rfl⟩
 rw[hE] at BS OP ⊢
 obtain⟨ot,A0⟩:∃x,jC E sz=x:=⟨_,rfl⟩
 have YN:=zh A0
 rw[A0] at OP ⊢
 have ff:Hid (∀X,bP X w.heap.size b->Calls prog 38 #[JJ (I ⟨w.heap.size,0,O⟩),J Jq k] X fun e w'=>e=Jz (J Jq E)/\X=w'):=fun X hX=>by rw[<- hE];exact dC _ b k X hX
 have IS:Hid (∀X,Calls prog 73 #[J Jq E] X fun e w'=>e=Jz (J Jq (dM E))/\X=w'):=fun X=>Gq E X (by omega)
 obtain⟨hf,Lq⟩:∃x,dM E=x:=⟨_,rfl⟩
 rw[Lq] at IS
 obtain⟨h1,h2,Tt⟩:=ql k hk
 obtain⟨j,hj⟩:∃j,aA k=j:=⟨_,rfl⟩
 have Kd:Hid (∀X,Calls prog 45 #[J Jq k] X fun e w'=>e=Jz (J Jq j)/\X=w'):=fun X=>by rw[<- hj];exact pU k X
 rw[hj] at h2 ⊢
 obtain⟨B1,Lf⟩:∃x,b.with k (E-1-ot)=x:=⟨_,rfl⟩
 obtain⟨B2,eD⟩:∃x,b.with k ot=x:=⟨_,rfl⟩
 have ZJ:Hid (∀X,bP X w.heap.size b->Calls prog 40 #[JJ (I ⟨w.heap.size,0,O⟩),J Jq k,J Jq (E-1-ot)] X fun e w'=>e=Jz (.agg #[J Jq B1.x,J Jq B1.y,J Jq B1.w,J Jq B1.h])/\Below X.heap.size X w'):=fun X hX=>by rw[<- Lf];exact rM _ b k _ X hX (by omega) (by omega) (by omega)
 have ZK:Hid (∀X,bP X w.heap.size b->Calls prog 40 #[JJ (I ⟨w.heap.size,0,O⟩),J Jq k,J Jq ot] X fun e w'=>e=Jz (.agg #[J Jq B2.x,J Jq B2.y,J Jq B2.w,J Jq B2.h])/\Below X.heap.size X w'):=fun X hX=>by rw[<- eD];exact rM _ b k _ X hX (by omega) (by omega) (by omega)
 have al:(-1000<=B2.w/\B2.w<=1000)/\(-1000<=B2.h/\B2.h<=1000):=by
  rw[<- eD]
  rcases hk with rfl | rfl
  . exact⟨by show -1000<=b.w+(ot-b.w)/\b.w+(ot-b.w)<=1000;omega,by show -1000<=b.h/\b.h<=1000;omega⟩
  . exact⟨by show -1000<=b.w/\b.w<=1000;omega,by show -1000<=b.h+(ot-b.h)/\b.h+(ot-b.h)<=1000;omega⟩
 obtain⟨n,hn⟩:∃n,zs.length=n:=⟨_,rfl⟩
 have OR:∀X,Below w.heap.size w X->∀(i:Nat) z,(z0::zs)[i]?=I z->X.cell? ⟨g,o+i,O⟩=I (J Jq z):=fun X hX i z h=>(hX.cell (p:=⟨g,o+i,O⟩) (World.block_lt_of_cell? w _ (hz i z h))).trans (hz i z h)
 have RO:Hid (∀c X,n<=c->Below w.heap.size w X->Calls prog 79 #[J Jq j,Jj (I ⟨g,o+1,O⟩) n c,.agg #[J Jq B2.x,J Jq B2.y,J Jq B2.w,J Jq B2.h]] X (dP (eU j zs B2) X)):=fun c X hc hX=>wE j h2 zs B2 _ X ⟨g,o+1,c,by rw[hn],by rw[hn];exact hc,fun i z h=>by have:=OR X hX (i+1) z (by simpa using h);rw[show o+1+i=o+(i+1) by omega];exact this⟩ a7 (by omega) al.1 al.2
 rw[Lf,eD]
 obtain⟨ET,Kh⟩:∃t,eU j zs B2=t:=⟨_,rfl⟩
 rw[Kh] at RO ⊢
 have IT:Hid (∀X,Below w.heap.size w X->X.cell? ⟨g,o,O⟩=I (J Jq z0)):=fun X hX=>OR X hX 0 z0 rfl
 have mU:1<=n:=by have:=List.length_pos_iff.2 a7;omega
 rw[List.length_cons,hn]
 rw[List.length_cons,hn] at cG
 have sL:n<=cap-1:=by omega
 have h1n:(1:Int)<=(n:Int)+1:=by omega
 have mx:cap≠1:=by omega
 have w1:IntKind.i64.wrap (E-1)=E-1:=by rw[IntKind.wrap_i64];omega
 have w2:IntKind.i64.wrap (E-1-ot)=E-1-ot:=by rw[IntKind.wrap_i64];omega
 have w3:1<=sz->IntKind.i64.wrap (E-1-sz)=E-1-sz:=fun h=>by rw[IntKind.wrap_i64];omega
 unfold I7
 have fL:(if 1<=sz then max (E-1-sz) 1 else hf)=ot:=by rw[<- A0,<- Lq];rfl
 clear hW ap hz hE A0 Lq Lf eD al Kh OR hj h1 Tt hk BS OP a7 hn h2
 by_cases hs:1<=sz
 . rw[if_pos hs] at fL
   have w3':=w3 hs
   have hd:decide ((1:Int)<=sz)=true:=decide_eq_true hs
   clear w3
   go_enter func80,ntmps80
   go_upto_region 1 with fail
   rw[HW.out]
   go_wp2_with fail
   refine (ff.out _ HB.out).mono ?_
   rintro e w1' ⟨rfl,rfl⟩
   go_wp2_with fail
   refine (IS.out _).mono ?_
   rintro e w1' ⟨rfl,rfl⟩
   go_wp2_with fail
   have kA:Hid (bP W.drew w.heap.size b):=by obtain⟨x0,x1,x2,x3,x4⟩:=HB.out;exact⟨x0,x1,x2,x3,x4⟩
   have d0:W.cell? ⟨g,o,O⟩=I (J Jq z0):=IT.out W bR.out
   go_region_law (first
    | (go_simp;go_at_call 40;refine (ZJ.out _ kA.out).mono ?_;rintro e X ⟨rfl,cK⟩;have HX:Hid (Below w.heap.size w X):=af bR.out ⟨cK.os,cK.tape,cK.output,cK.size,cK.block⟩;have dX:=IT.out X HX.out;have e8:Hid (bP X w.heap.size b):=HB.out.below ⟨cK.os,cK.tape,cK.output,cK.size,cK.block⟩;clear cK))
   all_goals (
    obtain⟨Y,hY⟩:∃Y,X.alloc (JZ #[J Jq B1.x,J Jq B1.y,J Jq B1.w,J Jq B1.h,J Jq z0] 49)=Y:=⟨_,rfl⟩
    have Lx:Hid (bD Y X.heap.size B1 z0):=by rw[<- hY];exact heap_alloc_new _ _
    have lE:Hid (Below w.heap.size w Y):=by rw[<- hY];exact aK HX.out _
    have Pe:Hid (bP Y w.heap.size b):=by rw[<- hY];exact e8.out.below ((Below.refl _ _).alloc (Nat.le_refl _) _)
    rw[hY]
    obtain⟨y0,y1,y2,y3,_⟩:=Pe.out
    have qS:Hid (bP Y.drew w.heap.size b):=⟨y0,y1,y2,y3,fun o ho=>Pe.out.free o ho⟩
    have Uh:=zh HX.out.size
    clear hY c0 c1 c2 c3 d0 dX
    go_wp2_with fail
    go_region_law (first
     | (go_simp;go_at_call 45;refine (Kd.out _).mono ?_;rintro e w9 ⟨rfl,rfl⟩)
     | (go_simp;go_at_call 40;refine (ZK.out _ qS.out).mono ?_;rintro e X2 ⟨rfl,ez⟩;have eW:Hid (Below Y.heap.size Y X2):=⟨ez.os,ez.tape,ez.output,ez.size,ez.block⟩;clear ez;obtain⟨x0,x1,x2,x3,_⟩:=Pe.out.below eW.out)
     | (go_simp;go_at_call 79;refine (RO.out _ _ sL (af lE.out eW.out)).mono ?_;rintro e X3 ⟨T3,g3,f3,rfl,C0,mL,mN,aM⟩;have H3:Hid (ET.At X3 0 (.iface T3 (JJ (I ⟨g3,0,O⟩))) f3/\f3.Nodup/\(∀q∈f3,X2.heap.size<=q)/\Below X2.heap.size X2 X3):=⟨C0,mL,mN,aM⟩;obtain⟨q0,r0,_⟩:=gB x0 aM;obtain⟨q1,r1,_⟩:=gB x1 aM;obtain⟨q2,r2,_⟩:=gB x2 aM;obtain⟨q3,r3,_⟩:=gB x3 aM;clear C0 mL mN aM))
    all_goals (
     have HM:=Gv (b:=b) (k:=k) (Lx.out.below (af eW.out H3.out.2.2.2)) Uh.out (Nat.lt_of_lt_of_le (lt_of_block Lx.out) eW.out.size) H3.out.1 H3.out.2.1 H3.out.2.2.1 (af (af lE.out eW.out) H3.out.2.2.2)
     have XG:=zh HM
     clear HM
     go_wp2
     go_ret
     exact XG.out))
 . rw[if_neg hs] at fL
   subst fL
   have hd:decide ((1:Int)<=sz)=false:=decide_eq_false hs
   clear w3
   go_enter func80,ntmps80
   go_upto_region 1 with fail
   rw[HW.out]
   go_wp2_with fail
   refine (ff.out _ HB.out).mono ?_
   rintro e w1' ⟨rfl,rfl⟩
   go_wp2_with fail
   refine (IS.out _).mono ?_
   rintro e w1' ⟨rfl,rfl⟩
   go_wp2_with fail
   have kA:Hid (bP W.drew w.heap.size b):=by obtain⟨x0,x1,x2,x3,x4⟩:=HB.out;exact⟨x0,x1,x2,x3,x4⟩
   have d0:W.cell? ⟨g,o,O⟩=I (J Jq z0):=IT.out W bR.out
   go_region_law (first
    | (go_simp;go_at_call 40;refine (ZJ.out _ kA.out).mono ?_;rintro e X ⟨rfl,cK⟩;have HX:Hid (Below w.heap.size w X):=af bR.out ⟨cK.os,cK.tape,cK.output,cK.size,cK.block⟩;have dX:=IT.out X HX.out;have e8:Hid (bP X w.heap.size b):=HB.out.below ⟨cK.os,cK.tape,cK.output,cK.size,cK.block⟩;clear cK))
   all_goals (
    obtain⟨Y,hY⟩:∃Y,X.alloc (JZ #[J Jq B1.x,J Jq B1.y,J Jq B1.w,J Jq B1.h,J Jq z0] 49)=Y:=⟨_,rfl⟩
    have Lx:Hid (bD Y X.heap.size B1 z0):=by rw[<- hY];exact heap_alloc_new _ _
    have lE:Hid (Below w.heap.size w Y):=by rw[<- hY];exact aK HX.out _
    have Pe:Hid (bP Y w.heap.size b):=by rw[<- hY];exact e8.out.below ((Below.refl _ _).alloc (Nat.le_refl _) _)
    rw[hY]
    obtain⟨y0,y1,y2,y3,_⟩:=Pe.out
    have qS:Hid (bP Y.drew w.heap.size b):=⟨y0,y1,y2,y3,fun o ho=>Pe.out.free o ho⟩
    have Uh:=zh HX.out.size
    clear hY c0 c1 c2 c3 d0 dX
    go_wp2_with fail
    go_region_law (first
     | (go_simp;go_at_call 45;refine (Kd.out _).mono ?_;rintro e w9 ⟨rfl,rfl⟩)
     | (go_simp;go_at_call 40;refine (ZK.out _ qS.out).mono ?_;rintro e X2 ⟨rfl,ez⟩;have eW:Hid (Below Y.heap.size Y X2):=⟨ez.os,ez.tape,ez.output,ez.size,ez.block⟩;clear ez;obtain⟨x0,x1,x2,x3,_⟩:=Pe.out.below eW.out)
     | (go_simp;go_at_call 79;refine (RO.out _ _ sL (af lE.out eW.out)).mono ?_;rintro e X3 ⟨T3,g3,f3,rfl,C0,mL,mN,aM⟩;have H3:Hid (ET.At X3 0 (.iface T3 (JJ (I ⟨g3,0,O⟩))) f3/\f3.Nodup/\(∀q∈f3,X2.heap.size<=q)/\Below X2.heap.size X2 X3):=⟨C0,mL,mN,aM⟩;obtain⟨q0,r0,_⟩:=gB x0 aM;obtain⟨q1,r1,_⟩:=gB x1 aM;obtain⟨q2,r2,_⟩:=gB x2 aM;obtain⟨q3,r3,_⟩:=gB x3 aM;clear C0 mL mN aM))
    all_goals (
     have HM:=Gv (b:=b) (k:=k) (Lx.out.below (af eW.out H3.out.2.2.2)) Uh.out (Nat.lt_of_lt_of_le (lt_of_block Lx.out) eW.out.size) H3.out.1 H3.out.2.1 H3.out.2.2.1 (af (af lE.out eW.out) H3.out.2.2.2)
     have XG:=zh HM
     clear HM
     go_wp2
     go_ret
     exact XG.out))
theorem BJ (f n r c:Nat)(h:¬r*c < n):oL f n r c=(r,c):=by
 cases f with
 | zero=>rfl
 | succ f=>unfold oL;rw[if_neg h]
theorem N7 (n:Nat)(w:World)(hn:n<=32):Calls prog 96 #[J Jq n] w fun e w'=>e=Jz (.tuple #[J Jq (iE n).1,J Jq (iE n).2])/\w=w':=by
 obtain⟨G,hG⟩:∃G,iE n=G:=⟨_,rfl⟩
 have HG:=zh hG
 rw[hG]
 clear hG
 go_enter func96,ntmps96
 go_wp2
 go_loopw [4,5] (fun vr vc wr=>∃r c:Nat,1<=r/\r<=33/\1<=c/\c<=r/\vr=J Jq r/\vc=J Jq c/\Hid (oL (41-r) n r c=G)/\w=wr) (fun vr _ _=>40-(intOf vr).toNat)
 case atStart=>exact⟨1,1,by omega,by omega,by omega,by omega,rfl,rfl,HG,rfl⟩
 case round=>
  obtain⟨r,c,UJ,im,mx,my,rfl,rfl,HT,rfl⟩:=hrel
  have hm:r*c<=33*33:=Nat.mul_le_mul im (Nat.le_trans my im)
  have bS:(r+1)*c<=34*33:=Nat.mul_le_mul (by omega) (Nat.le_trans my im)
  have e1:((r:Int)*(c:Int))=((r*c:Nat):Int):=by simp
  have e2:(((r:Int)+1)*(c:Int))=(((r+1)*c:Nat):Int):=by simp
  have w1:IntKind.i64.wrap ((r:Int)*(c:Int))=((r*c:Nat):Int):=by rw[e1,IntKind.wrap_i64];omega
  have w2:IntKind.i64.wrap (((r:Int)+1)*(c:Int))=(((r+1)*c:Nat):Int):=by rw[e2,IntKind.wrap_i64];omega
  have So:r<=r*c:=Nat.le_mul_of_pos_right r mx
  by_cases h:r*c < n
  . have HF:Hid (oL (41-r) n r c=if (r+1)*c < n then oL (41-(r+1)) n (r+1) (c+1) else oL (41-(r+1)) n (r+1) c):=by
     show _=_
     rw[show 41-r=(41-(r+1))+1 by omega]
     show (if r*c < n then _ else _)=_
     rw[if_pos h]
    have hd:decide (((r*c:Nat):Int) < (n:Int))=true:=decide_eq_true (by omega)
    obtain⟨m,Bw⟩:∃m,r*c=m:=⟨_,rfl⟩
    obtain⟨m2,tP⟩:∃m,(r+1)*c=m:=⟨_,rfl⟩
    rw[Bw] at w1 hd hm So h
    rw[tP] at w2 bS
    have gx:=zh tP
    clear e1 e2 Bw tP
    by_cases h2:m2 < n
    . have eT:decide ((m2:Int) < (n:Int))=true:=decide_eq_true (by omega)
      have Do:Hid (oL (41-(r+1)) n (r+1) (c+1)=G):=by
       have:=HT.out
       rw[HF.out,gx.out,if_pos h2] at this
       exact this
      go_wp2
      go_roundw
      case rel=>exact⟨r+1,c+1,by omega,by omega,by omega,by omega,by go_num,by go_num,Do,by first | exact trivial | rfl⟩
      case measure=>simp[intOf];omega
    . have eT:decide ((m2:Int) < (n:Int))=false:=decide_eq_false (by omega)
      have Do:Hid (oL (41-(r+1)) n (r+1) c=G):=by
       have:=HT.out
       rw[HF.out,gx.out,if_neg h2] at this
       exact this
      go_wp2
      go_roundw
      case rel=>exact⟨r+1,c,by omega,by omega,by omega,by omega,by go_num,rfl,Do,by first | exact trivial | rfl⟩
      case measure=>simp[intOf];omega
  . have hd:decide (((r*c:Nat):Int) < (n:Int))=false:=decide_eq_false (by omega)
    have HE:Hid (G=(r,c)):=by
     show _=_
     rw[<- HT.out]
     exact BJ _ _ _ _ h
    obtain⟨m,Bw⟩:∃m,r*c=m:=⟨_,rfl⟩
    rw[Bw] at w1 hd hm So h
    clear e1 e2 Bw w2 bS
    go_wp2
    rw[HE.out]
    exact bodyPost_ret (v:=.tuple #[J Jq r,J Jq c]) (by simp[results,results96,go_sem]) rfl ⟨rfl,rfl⟩
theorem BK (g o n cap lo m:Nat)(h1:lo<=m)(h3:m<=cap)(h4:lo < cap)(W:World):(Instr.slice 96 (Jj (I ⟨g,o,O⟩) n cap) (I (J Jq (lo:Int))) (I (J Jq (m:Int))) O).run prog W=.ok (Jj (I ⟨g,o+lo,O⟩) (m-lo) (cap-lo)) W:=by
 have hs:(sizeOf (prog.elem 96)).run prog W=.ok 1 W:=by kernel_rfl
 have h:=run_slice_lh (P:=prog) (w:=W) 96 (I ⟨g,o,O⟩) n cap (by kernel_rfl) .i64 .i64 (lo:Int) (m:Int) (by omega) (by omega) (by omega)
 rw[h,hs]
 show Result.ok (sliced (I ⟨g,o,O⟩) lo m cap 1) W=_
 unfold sliced
 rw[if_neg (by omega)]
 show Result.ok (Value.slice (I ((⟨g,o,O⟩:Addr).add (lo*1))) (m-lo) (cap-lo)) W=_
 rw[show (⟨g,o,O⟩:Addr).add (lo*1)=⟨g,o+lo,O⟩ by rw[Nat.mul_one];unfold Addr.add;split <;> simp_all]
theorem zg {wh n i:Int}(hw:1<=wh/\wh<=1000)(hn:2<=n/\n<=100): -1000<=bu wh n i/\bu wh n i<=1000:=by
 unfold bu
 obtain⟨L,hL⟩:∃L,wh-(n-1)=L:=⟨_,rfl⟩
 rw[hL]
 have h: -100<=L.tdiv n/\L.tdiv n<=999:=by
  by_cases h0:0<=L
  . rw[Int.tdiv_eq_ediv_of_nonneg h0]
    have h1:0<=L / n:=Int.ediv_nonneg h0 (by omega)
    have h2:L / n<=L:=Int.ediv_le_self n h0
    omega
  . have h1:0<=(-L) / n:=Int.ediv_nonneg (by omega) (by omega)
    have h2:(-L) / n<= -L:=Int.ediv_le_self n (by omega)
    have h3:(-L).tdiv n=(-L) / n:=Int.tdiv_eq_ediv_of_nonneg (by omega)
    rw[Int.neg_tdiv] at h3
    omega
 split <;> omega
theorem y9 (zs:List Int)(n lo hi c:Nat)(hn:zs.length=n)(hl:lo < n)(hh:hi=lo+c):((zs.drop lo).take c).length=min hi n-lo:=by
 rw[List.length_take,List.length_drop,hn]
 omega
theorem L8 (zs:List Int)(b:Box)(v:Value)(w:World)(hI:iP w v zs)(h2:2<=zs.length)(h3:zs.length<=32)(hw:1<=b.w/\b.w<=1000)(hh:1<=b.h/\b.h<=1000):Calls prog 81 #[v,I7 b] w (dP (Ah b (iE zs.length).1 (iE zs.length).2 zs) w):=by
 obtain⟨g,o,cap,rfl,cG,hz⟩:=hI
 obtain⟨W,hW⟩:∃x,w.alloc (JZ #[J Jq b.x,J Jq b.y,J Jq b.w,J Jq b.h] 47)=x:=⟨_,rfl⟩
 have hB:bP W w.heap.size b:=by rw[<- hW];exact mG w b
 have fi:W.heap.size=w.heap.size+1:=by rw[<- hW];simp
 obtain⟨c0,c1,c2,c3,_⟩:=hB
 obtain⟨V,hV⟩:∃x,W.alloc (JZ #[J Jq b.x,J Jq b.y,J Jq b.w,J Jq b.h,J Jq 3,Jj O 0 0] 91)=x:=⟨_,rfl⟩
 have lO:Hid (jg w 3 b [] (Jj O 0 0) [] [] V):=by rw[<- hV,<- hW];exact jg.start w 3 b
 have HW:Hid (w.alloc (JZ #[J Jq b.x,J Jq b.y,J Jq b.w,J Jq b.h] 47)=W):=hW
 have HV:Hid (W.alloc (JZ #[J Jq b.x,J Jq b.y,J Jq b.w,J Jq b.h,J Jq 3,Jj O 0 0] 91)=V):=hV
 obtain⟨n,hn⟩:∃n,zs.length=n:=⟨_,rfl⟩
 have HN:Hid (zs.length=n):=hn
 rw[hn] at h2 h3 cG ⊢
 obtain⟨f1,f2,f3,f4,f5,f6⟩:=pV n (by omega) h2
 have HG:Hid (∀X,Calls prog 96 #[J Jq n] X fun e w'=>e=Jz (.tuple #[J Jq (iE n).1,J Jq (iE n).2])/\X=w'):=fun X=>N7 n X (by omega)
 obtain⟨r,hr⟩:∃r,(iE n).1=r:=⟨_,rfl⟩
 obtain⟨c,hc⟩:∃c,(iE n).2=c:=⟨_,rfl⟩
 rw[hr,hc] at HG f3 f4 ⊢
 rw[hr] at f1 f5
 rw[hc] at f2 f6
 unfold Ah
 obtain⟨ts,gn⟩:∃ts,qo b r c zs r 0=ts:=⟨_,rfl⟩
 have Mq:Hid (ts.length=r):=by show _=_;rw[<- gn,lN]
 have HT:Hid (∀i:Nat,i < r->ts[i]?=I (eU 2 ((zs.drop (i*c)).take c) (b.with 3 (bu b.h r i)))):=fun i h=>by
  rw[<- gn]
  have:=wY b r c r zs 0 i h
  rw[Int.zero_add] at this
  exact this
 rw[gn]
 have HZ:Hid (∀X,Below w.heap.size w X->∀(i:Nat) z,zs[i]?=I z->X.cell? ⟨g,o+i,O⟩=I (J Jq z)):=fun X hX i z h=>(hX.cell (p:=⟨g,o+i,O⟩) (World.block_lt_of_cell? w _ (hz i z h))).trans (hz i z h)
 have Kk:Hid (∀(i:Nat) X,Calls prog 95 #[J Jq b.h,J Jq r,J Jq i] X fun e w'=>e=Jz (J Jq (bu b.h r i))/\X=w'):=fun i X=>BM b.h r i X (by omega) (by omega)
 have Pa:Hid (∀i:Nat,-1000<=bu b.h r i/\bu b.h r i<=1000):=fun i=>zg hh (by omega)
 have Gr:Hid (∀(q:Int) X,-1000<=q/\q<=1000->bP X w.heap.size b->Calls prog 40 #[JJ (I ⟨w.heap.size,0,O⟩),J Jq 3,J Jq q] X fun e w'=>e=Jz (.agg #[J Jq (b.with 3 q).x,J Jq (b.with 3 q).y,J Jq (b.with 3 q).w,J Jq (b.with 3 q).h])/\Below X.heap.size X w'):=fun q X hq hX=>rM _ b 3 _ X hX (by omega) (by omega) (by omega)
 have HIx:Hid (∀i:Nat,i < r->i*c < n/\(i+1)*c<=2000):=fun i hi=>by
  have e1:i*c<=(r-1)*c:=Nat.mul_le_mul_right c (by omega)
  have e2:(i+1)*c<=32*32:=Nat.mul_le_mul (by omega) f6
  exact⟨by omega,by omega⟩
 unfold I7
 clear hW hV hz hn gn hr hc f3 f4 f6
 go_enter func81,ntmps81
 go_upto_region 1 with fail
 rw[HW.out]
 go_wp2_with fail
 refine (HG.out _).mono ?_
 rintro e w9 ⟨rfl,rfl⟩
 go_upto_region 3 with fail
 rw[HV.out]
 go_wp2
 go_loopw [20] (fun vi wr=>∃i:Nat,i<=r/\vi=J Jq i/\∃sl vs fs,Hid (jg w 3 b (ts.take i) sl vs fs wr)) (fun vi _=>r-(intOf vi).toNat)
 case atStart=>exact⟨0,Nat.zero_le _,rfl,_,_,_,lO⟩
 case round=>
  obtain⟨i,hi,rfl,sl,vs,fs,HJ⟩:=hrel
  by_cases am:i < r
  . have pj:=HT.out i am
    obtain⟨x1,x2⟩:=HIx.out i am
    obtain⟨q,hq⟩:∃q,bu b.h r i=q:=⟨_,rfl⟩
    have X8:=Pa.out i
    have zd:Hid (∀X,Calls prog 95 #[J Jq b.h,J Jq r,J Jq i] X fun e w'=>e=Jz (J Jq q)/\X=w'):=fun X=>by rw[<- hq];exact Kk.out i X
    rw[hq] at pj X8
    obtain⟨B',tW⟩:∃B',b.with 3 q=B':=⟨_,rfl⟩
    have VZ:Hid (∀X,bP X w.heap.size b->Calls prog 40 #[JJ (I ⟨w.heap.size,0,O⟩),J Jq 3,J Jq q] X fun e w'=>e=Jz (.agg #[J Jq B'.x,J Jq B'.y,J Jq B'.w,J Jq B'.h])/\Below X.heap.size X w'):=fun X hX=>by rw[<- tW];exact Gr.out q X X8 hX
    have nF:(-1000<=B'.w/\B'.w<=1000)/\(-1000<=B'.h/\B'.h<=1000):=by
     rw[<- tW]
     exact⟨by show -1000<=b.w/\b.w<=1000;omega,by show -1000<=b.h+(q-b.h)/\b.h+(q-b.h)<=1000;omega⟩
    have e1:((i:Int)*(c:Int))=((i*c:Nat):Int):=by simp
    have e2:(((i:Int)+1)*(c:Int))=(((i+1)*c:Nat):Int):=by simp
    have VD:(i+1)*c=i*c+c:=by rw[Nat.add_mul];omega
    obtain⟨lo,j9⟩:∃x,i*c=x:=⟨_,rfl⟩
    obtain⟨rA,By⟩:∃x,(i+1)*c=x:=⟨_,rfl⟩
    rw[j9] at e1 x1 pj VD
    rw[By] at e2 x2 VD
    have v1:IntKind.i64.wrap ((i:Int)*(c:Int))=(lo:Int):=by rw[e1,IntKind.wrap_i64];omega
    have v2:IntKind.i64.wrap (((i:Int)+1)*(c:Int))=(rA:Int):=by rw[e2,IntKind.wrap_i64];omega
    obtain⟨m,hm⟩:∃m,min rA n=m:=⟨_,rfl⟩
    have v3:min (rA:Int) (n:Int)=(m:Int):=by omega
    have av:=BK g o n cap lo m (by omega) (by omega) (by omega)
    obtain⟨L,hL⟩:∃L,m-lo=L:=⟨_,rfl⟩
    rw[hL] at av
    obtain⟨row,br⟩:∃row,(zs.drop lo).take c=row:=⟨_,rfl⟩
    have gh:row.length=L:=by
     rw[<- br,y9 zs n lo rA c HN.out x1 VD,hm,hL]
    have RO:Hid (∀X,Below w.heap.size w X->Calls prog 79 #[J Jq 2,Jj (I ⟨g,o+lo,O⟩) L (cap-lo),.agg #[J Jq B'.x,J Jq B'.y,J Jq B'.w,J Jq B'.h]] X (dP (eU 2 row B') X)):=fun X hX=>wE 2 (.inl rfl) row B' _ X ⟨g,o+lo,cap-lo,by rw[gh],by omega,by rw[<- br];exact iP.cut (n:=n) (cap:=cap) (HZ.out X hX) lo c⟩ (fun e=>by rw[e] at gh;simp at gh;omega) (by omega) nF.1 nF.2
    rw[br,tW] at pj
    have nf:Hid (ts.take (i+1)=ts.take i++[eU 2 row B']):=xh _ _ _ pj
    obtain⟨ET,Kh⟩:∃t,eU 2 row B'=t:=⟨_,rfl⟩
    rw[Kh] at RO nf
    have d5:wr.cell? ⟨w.heap.size+1,5,O⟩=I sl:=ae HJ.out.own 5
    obtain⟨sa,sn,sc,cq⟩:=iO HJ.out.row
    subst cq
    have kA:Hid (bP wr.drew w.heap.size b):=by obtain⟨x0,x1,x2,x3,x4⟩:=HJ.out.box;exact⟨x0,x1,x2,x3,x4⟩
    have b3:wr.cell? ⟨w.heap.size,3,O⟩=I (J Jq b.h):=HJ.out.box.h
    have V1:Hid (wr.drew.cell? ⟨w.heap.size+1,5,O⟩=I (Jj sa sn sc)):=d5
    have V0:Hid (vs.length=i):=by
     show _=_
     rw[HJ.out.parts.length,List.length_take,Mq.out]
     omega
    have hlen:vs.length<=1000000:=by rw[V0.out];omega
    clear pj hq X8 tW nF e1 e2 VD j9 By hm hL br gh Kh x2
    go_wp2
    go_region_law (first
     | (refine mJ X3 rfl (.tmp 39) (.tmp 48) rfl (w.heap.size+2) (Jj sa sn sc) vs T3 g3 (by simp[Act.eval]) (HJ.out.below' H3.out.2.2.2).row (by simp[Act.eval]) hlen H3.out.2.1 ?_;intro sl' w3 a1 a2 a3;have X9:=iO a1;have hj:=HJ.out.next H3.out.2.2.2 H3.out.1.1 H3.out.1.2.1 H3.out.1.2.2 a1 a2 a3;have c5:w3.cell? ⟨w.heap.size+1,5,O⟩=I (Jj sa sn sc):=ae hj.1 5;have f5:w3.frozen? ⟨w.heap.size+1,5,O⟩=false:=ai hj.1 5;have nL:Hid (jg w 3 b (ts.take i++[ET]) sl' (vs++[.iface T3 (JJ (I ⟨g3,0,O⟩))]) (fs++f3) (w3.setCell ⟨w.heap.size+1,5,O⟩ sl')):=hj.2;clear a1 a2 a3 hj;obtain⟨sa',sn',sc',Ya⟩:=X9;subst Ya)
     | (go_simp;go_at_call 95;refine (zd.out _).mono ?_;rintro e w1 ⟨rfl,rfl⟩)
     | (go_simp;go_at_call 40;refine (VZ.out _ kA.out).mono ?_;rintro e X ⟨rfl,cK⟩;have HX:Hid (Below wr.heap.size wr X):=⟨cK.os,cK.tape,cK.output,cK.size,cK.block⟩;have dX:=(gB V1.out cK).1;clear cK)
     | (go_simp;go_at_call 79;refine (RO.out _ (af HJ.out.below HX.out)).mono ?_;rintro e X3 ⟨T3,g3,f3,rfl,C0,mL,mN,aM⟩;have H3:Hid ((ET.At X3 0 (.iface T3 (JJ (I ⟨g3,0,O⟩))) f3/\f3.Nodup/\∀q∈f3,wr.heap.size<=q)/\w.heap.size+2<=X3.heap.size/\Below X.heap.size X X3/\Below wr.heap.size wr X3):=⟨⟨C0,mL,fun q hq=>Nat.le_trans HX.out.size (mN q hq)⟩,Nat.le_trans HJ.out.lt (Nat.le_trans HX.out.size aM.size),aM,af HX.out aM⟩;obtain⟨dX3,dX3a,_⟩:=gB dX aM;clear C0 mL mN aM))
    all_goals (
     go_wp2
     go_roundw
     case rel=>exact⟨i+1,by omega,by go_num,_,_,_,by rw[nf.out];exact nL⟩
     case measure=>simp[intOf];omega)
  . have HM:Hid (dP (.split b 3 ts) w (Jz (dA (w.heap.size+1))) wr):=by
     have h:=HJ.out.made
     rw[List.take_of_length_le (by rw[Mq.out];omega)] at h
     exact h
    unfold dA at HM
    go_wp2
    go_ret
    exact HM.out
mutual
theorem DW:∀(t:Tree),t.kinds->t.sound=true->∀z∈(ag t).ids,idB z=true
 | .leaf b p,_,hs,z,hz=>by
   have h:((aG b.w&&aG b.h)&&idB p)=true:=hs
   have h2:z∈[p]:=hz
   rw[List.mem_singleton.1 h2]
   exact (Bool.and_eq_true_iff.1 h).2
 | .split b k ts,hk,hs,z,hz=>by
   have h:((decide (2<=ts.length)&&(aG b.w&&aG b.h))&&(au ts b k&&decide (aN ts k=b.ext k)))=true:=hs
   have h3:k≠1:=by rcases hk.1 with e | e <;> omega
   have h2:z∈(if k=1 then [(0:Int)] else gV (nodesOf ts)):=hz
   rw[if_neg h3] at h2
   exact zZ ts b k hk.2 (Bool.and_eq_true_iff.1 (Bool.and_eq_true_iff.1 h).2).1 z h2
theorem zZ:∀(ts:List Tree) (b:Box) (k:Int),bi ts->au ts b k=true->∀z∈gV (nodesOf ts),idB z=true
 | [],_,_,_,_,z,hz=>by cases hz
 | t::ts,b,k,hk,hs,z,hz=>by
   have h:((t.sound&&(!t.bY k&&decide (t.box.ext (aA k)=b.ext (aA k))))&&au ts b k)=true:=hs
   have h2:z∈(ag t).ids++gV (nodesOf ts):=hz
   obtain⟨h3,h4⟩:=Bool.and_eq_true_iff.1 h
   rcases List.mem_append.1 h2 with h5 | h5
   . exact DW t hk.1 (Bool.and_eq_true_iff.1 h3).1 z h5
   . exact zZ ts b k hk.2 h4 z h5
end
def D9 (how:Int)(z0:Int)(zs:List Int)(b:Box)(sz:Int):Tree:=if how=1 then eU 2 (z0::zs) b else if how=2 then eU 3 (z0::zs) b else if how=3 then firstT 3 z0 zs b sz else if how=4 then firstT 2 z0 zs b sz else Ah b (iE (z0::zs).length).1 (iE (z0::zs).length).2 (z0::zs)
theorem yK (k:Int)(hk:k=2\/k=3)(z0:Int)(zs:List Int)(b:Box)(sz:Int):(firstT k z0 zs b sz).kinds:=⟨hk,trivial,qj _ (ql k hk).2.1 _ _,trivial⟩
theorem Aa (k:Int)(z0:Int)(zs:List Int)(b:Box)(sz:Int):(firstT k z0 zs b sz).size<=zs.length+4:=by
 have h:=pq (aA k) zs (b.with k (jC (b.ext k) sz))
 show 1+(1+((eU (aA k) zs (b.with k (jC (b.ext k) sz))).size+0))<=_
 omega
theorem CW (how:Int)(z0:Int)(zs:List Int)(b:Box)(sz:Int):(D9 how z0 zs b sz).kinds:=by
 unfold D9
 split
 . exact qj 2 (.inl rfl) _ _
 . split
   . exact qj 3 (.inr rfl) _ _
   . split
     . exact yK 3 (.inr rfl) _ _ _ _
     . split
       . exact yK 2 (.inl rfl) _ _ _ _
       . exact⟨.inr rfl,yL _ _ _ _ _ _⟩
theorem AP (how:Int)(z0:Int)(zs:List Int)(b:Box)(sz:Int)(h1:1<=zs.length)(h:zs.length<=31):(D9 how z0 zs b sz).size<=100:=by
 unfold D9
 split
 . have:=pq 2 (z0::zs) b;rw[List.length_cons] at this;omega
 . split
   . have:=pq 3 (z0::zs) b;rw[List.length_cons] at this;omega
   . split
     . have:=Aa 3 z0 zs b sz;omega
     . split
       . have:=Aa 2 z0 zs b sz;omega
       . have h2:=yM b (iE (z0::zs).length).1 (iE (z0::zs).length).2 (iE (z0::zs).length).1 (z0::zs) 0
         have h3:=pV (z0::zs).length (by rw[List.length_cons];omega) (by rw[List.length_cons];omega)
         show 1+sizes _<=_
         rw[List.length_cons] at h2 h3 ⊢
         omega
theorem dP.up {t:Tree}{w W:World}{e:Ending}{w':World}(h:dP t W e w')(hb:Below w.heap.size w W):dP t w e w':=by
 obtain⟨T,g,fp,h1,h2,h3,h4,h5⟩:=h
 exact⟨T,g,fp,h1,h2,h3,fun q hq=>Nat.le_trans hb.size (h4 q hq),af hb h5⟩
theorem DX (how:Int)(Z8:1<=how/\how<=5)(z0:Int)(zs:List Int)(b:Box)(sz:Int)(v:Value)(w:World)(hI:iP w v (z0::zs))(h1:1<=zs.length)(h3:zs.length<=31)(hw:1<=b.w/\b.w<=1000)(hh:1<=b.h/\b.h<=1000)(hsz: -9223372036854775808<=sz/\sz<=9223372036854775807):Calls prog 52 #[J Jq how,v,I7 b,J Jq sz] w (dP (D9 how z0 zs b sz) w):=by
 obtain⟨W,hW⟩:∃x,w.alloc (JZ #[J Jq b.x,J Jq b.y,J Jq b.w,J Jq b.h] 47)=x:=⟨_,rfl⟩
 have ap:Below w.heap.size w W:=by rw[<- hW];exact (Below.refl _ _).alloc (Nat.le_refl _) _
 have bR:=zh ap
 have hB:bP W w.heap.size b:=by rw[<- hW];exact mG w b
 obtain⟨c0,c1,c2,c3,_⟩:=hB
 have HW:=zh hW
 have a7:zs≠[]:=fun e=>by rw[e] at h1;simp at h1
 have RX:=hI.below ap
 have sE:Hid (Calls prog 79 #[J Jq 2,v,.agg #[J Jq b.x,J Jq b.y,J Jq b.w,J Jq b.h]] W (dP (eU 2 (z0::zs) b) W)):=wE 2 (.inl rfl) _ b v W RX (by simp) (by rw[List.length_cons];omega) (by omega) (by omega)
 have U9:Hid (Calls prog 79 #[J Jq 3,v,.agg #[J Jq b.x,J Jq b.y,J Jq b.w,J Jq b.h]] W (dP (eU 3 (z0::zs) b) W)):=wE 3 (.inr rfl) _ b v W RX (by simp) (by rw[List.length_cons];omega) (by omega) (by omega)
 have HF3:Hid (Calls prog 80 #[J Jq 3,v,.agg #[J Jq b.x,J Jq b.y,J Jq b.w,J Jq b.h],J Jq sz] W (dP (firstT 3 z0 zs b sz) W)):=first_any 3 (.inr rfl) z0 zs b sz v W RX a7 (by omega) hw hh hsz
 have Do:Hid (Calls prog 80 #[J Jq 2,v,.agg #[J Jq b.x,J Jq b.y,J Jq b.w,J Jq b.h],J Jq sz] W (dP (firstT 2 z0 zs b sz) W)):=first_any 2 (.inl rfl) z0 zs b sz v W RX a7 (by omega) hw hh hsz
 have Ki:Hid (Calls prog 81 #[v,.agg #[J Jq b.x,J Jq b.y,J Jq b.w,J Jq b.h]] W (dP (Ah b (iE (z0::zs).length).1 (iE (z0::zs).length).2 (z0::zs)) W)):=L8 (z0::zs) b v W RX (by rw[List.length_cons];omega) (by rw[List.length_cons];omega) hw hh
 unfold I7
 clear hW ap hI RX a7 h1 h3 hw hh hsz
 have P0:how=1\/how=2\/how=3\/how=4\/how=5:=by omega
 clear Z8
 rcases P0 with rfl | rfl | rfl | rfl | rfl
 . show Calls _ _ _ _ (dP (eU 2 (z0::zs) b) w)
   obtain⟨T,hT⟩:∃T,eU 2 (z0::zs) b=T:=⟨_,rfl⟩
   rw[hT] at sE ⊢
   go_enter func52,ntmps52
   go_upto_region 1 with fail
   rw[HW.out]
   go_wp2_with fail
   refine sE.out.mono ?_
   rintro e w1 h
   have h2:=h.up bR.out
   obtain⟨T1,g1,f1,rfl,h3⟩:=h
   have HR:=zh h2
   clear h2 h3
   go_wp2
   go_ret
   exact HR.out
 . show Calls _ _ _ _ (dP (eU 3 (z0::zs) b) w)
   obtain⟨T,hT⟩:∃T,eU 3 (z0::zs) b=T:=⟨_,rfl⟩
   rw[hT] at U9 ⊢
   go_enter func52,ntmps52
   go_upto_region 1 with fail
   rw[HW.out]
   go_wp2_with fail
   refine U9.out.mono ?_
   rintro e w1 h
   have h2:=h.up bR.out
   obtain⟨T1,g1,f1,rfl,h3⟩:=h
   have HR:=zh h2
   clear h2 h3
   go_wp2
   go_ret
   exact HR.out
 . show Calls _ _ _ _ (dP (firstT 3 z0 zs b sz) w)
   obtain⟨T,hT⟩:∃T,firstT 3 z0 zs b sz=T:=⟨_,rfl⟩
   rw[hT] at HF3 ⊢
   go_enter func52,ntmps52
   go_upto_region 1 with fail
   rw[HW.out]
   go_wp2_with fail
   refine HF3.out.mono ?_
   rintro e w1 h
   have h2:=h.up bR.out
   obtain⟨T1,g1,f1,rfl,h3⟩:=h
   have HR:=zh h2
   clear h2 h3
   go_wp2
   go_ret
   exact HR.out
 . show Calls _ _ _ _ (dP (firstT 2 z0 zs b sz) w)
   obtain⟨T,hT⟩:∃T,firstT 2 z0 zs b sz=T:=⟨_,rfl⟩
   rw[hT] at Do ⊢
   go_enter func52,ntmps52
   go_upto_region 1 with fail
   rw[HW.out]
   go_wp2_with fail
   refine Do.out.mono ?_
   rintro e w1 h
   have h2:=h.up bR.out
   obtain⟨T1,g1,f1,rfl,h3⟩:=h
   have HR:=zh h2
   clear h2 h3
   go_wp2
   go_ret
   exact HR.out
 . show Calls _ _ _ _ (dP (Ah b (iE (z0::zs).length).1 (iE (z0::zs).length).2 (z0::zs)) w)
   obtain⟨T,hT⟩:∃T,Ah b (iE (z0::zs).length).1 (iE (z0::zs).length).2 (z0::zs)=T:=⟨_,rfl⟩
   rw[hT] at Ki ⊢
   go_enter func52,ntmps52
   go_upto_region 1 with fail
   rw[HW.out]
   go_wp2_with fail
   refine Ki.out.mono ?_
   rintro e w1 h
   have h2:=h.up bR.out
   obtain⟨T1,g1,f1,rfl,h3⟩:=h
   have HR:=zh h2
   clear h2 h3
   go_wp2
   go_ret
   exact HR.out
theorem dD.ids {w:World}{B:Nat}{v:Value}{zs:List Int}(h:dD w B v zs)(a7:zs≠[]):iP w v zs:=by
 rcases h.2 with ⟨_,h0⟩ | ⟨g,cap,cur,e,hb,hg,h1,h2,h3,h4⟩
 . exact absurd (List.length_eq_zero_iff.1 h0) a7
 . refine⟨g,0,cap,e,h1,fun i z hz=> ?_⟩
   rw[Nat.zero_add,ae hg i]
   have h5:(zs.map (Value.int .i64))[i]?=I (J Jq z):=by rw[List.getElem?_map,hz];rfl
   rw[<- h4,List.getElem?_take] at h5
   split at h5
   . simpa using h5
   . cases h5
structure Qy (l:List aj)(t:Tree)(b:Box):Prop where
 lay:rC l t
 head:∃c r,l=c::r/\c.w=b.w/\c.h=b.h
 box:b=⟨0,0,t.box.w,t.box.h⟩
 sides:(1<=b.w/\b.w<=1000)/\(1<=b.h/\b.h<=1000)
 ids:∀z∈aH l,idB z=true
 few:(aH l).length<=32
 I:1<=(aH l).length
theorem CV {l:List aj}{t:Tree}(h:aT l=I t):Qy l t ⟨0,0,t.box.w,t.box.h⟩:=by
 have hl:=aV h
 have hs:=t.aF hl.sound
 refine⟨hl,?_,rfl,hs,fun z hz=> ?_,(Ar hl.few).1,?_⟩
 . have ht:=hl.tell
   cases t with
   | leaf b p=>exact⟨_,_,ht.symm,rfl,rfl⟩
   | split b k ts=>exact⟨_,_,ht.symm,rfl,rfl⟩
 . have h2:=jo t 0 hl.kinds
   rw[hl.tell] at h2
   rw[<- h2] at hz
   exact DW t hl.kinds hl.sound z hz
 . have h1:=nH t hl.kinds hl.sound
   rw[jo t 0 hl.kinds,hl.tell] at h1
   have:1<=t.size:=by cases t <;> (unfold Tree.size;omega)
   omega
theorem Kz (v:Value)(l:List aj)(how sz:Int)(w:World)(h:ay w v l)(hF:aT l=O):Calls prog 25 #[v,J Jq how,J Jq sz] w (dZ 40 [] w):=by
 have HR:=zh (wG v l w h hF)
 unfold eH at HR
 clear hF h
 go_enter func25,ntmps25
 go_wp2_with fail
 refine HR.out.mono ?_
 rintro e w1 ⟨rfl,hb⟩
 have HB:=zh hb
 clear hb
 go_wp2
 refine bodyPost_ret (v:=.tuple #[Jj O 0 0,J Jq 40]) (by simp[results,results25,go_sem]) rfl ?_
 exact⟨_,rfl,World.ownsRow_nil _ _ _ _,HB.out⟩
theorem ND (v:Value)(l:List aj)(how sz:Int)(w:World)(h:ay w v l){t:Tree}(hF:aT l=I t)(hh:¬(1<=how/\how<=5)):Calls prog 25 #[v,J Jq how,J Jq sz] w (dZ 1 [] w):=by
 have HR:=zh (dQ v l w h hF)
 clear hF h
 by_cases h1:how < 1
 . have d1:decide (how < (1:Int))=true:=decide_eq_true h1
   go_enter func25,ntmps25
   go_wp2_with fail
   refine HR.out.mono ?_
   rintro e w1 ⟨T,g,fp,rfl,_,_,_,hb⟩
   have HB:=zh hb
   clear hb
   go_wp2
   refine bodyPost_ret (v:=.tuple #[Jj O 0 0,J Jq 1]) (by simp[results,results25,go_sem]) rfl ?_
   exact⟨_,rfl,World.ownsRow_nil _ _ _ _,HB.out⟩
 . have d1:decide (how < (1:Int))=false:=decide_eq_false h1
   have d2:decide ((5:Int) < how)=true:=decide_eq_true (by omega)
   go_enter func25,ntmps25
   go_wp2_with fail
   refine HR.out.mono ?_
   rintro e w1 ⟨T,g,fp,rfl,_,_,_,hb⟩
   have HB:=zh hb
   clear hb
   go_wp2
   refine bodyPost_ret (v:=.tuple #[Jj O 0 0,J Jq 1]) (by simp[results,results25,go_sem]) rfl ?_
   exact⟨_,rfl,World.ownsRow_nil _ _ _ _,HB.out⟩
def fP (T:Tree)(w:World)(e:Ending)(w':World):Prop:=if T.sound=true then dZ 0 (cZ T) w e w' else dZ 44 [] w e w'
structure Oq (T:Tree)(w w3:World)(Ty:TypeId)(g:Nat)(Fs:FuncId):Prop where
 mS : ∀ W, (method 286 Ty (JJ (I ⟨g, 0, O⟩)) "mullion/layout.sound").run prog W = .ok (Fs, JJ (I ⟨g, 0, O⟩)) W
 fS:∀a W,(callFunc Fs #[a]).run prog W=.ok (.enter Fs #[a]) W
 cS:Calls prog Fs #[JJ (I ⟨g,0,O⟩)] w3 fun e w4=>e=Jz (.bool T.sound)/\Below w.heap.size w w4/\(T.sound=true->Calls prog 15 #[.iface Ty (JJ (I ⟨g,0,O⟩))] w4 fun e w5=>∃u,e=Jz u/\az w5 w.heap.size u (cZ T)/\Below w.heap.size w w5)
theorem left_of {T:Tree}{w w3:World}{Ty:TypeId}{g:Nat}{fp:List Nat}(hA:T.At w3 0 (.iface Ty (JJ (I ⟨g,0,O⟩))) fp)(aE:fp.Nodup)(be:∀q∈fp,w.heap.size<=q)(hb:Below w.heap.size w w3)(hk:T.kinds)(hz:T.size<=200):∃Fs,Oq T w w3 Ty g Fs:=by
 obtain⟨T',gi,Fs,Fa,hp⟩:=hA.JS (jH T hk hz)
 have e:=hp.val
 cases e
 refine⟨Fs,hp.mS,hp.fS,(hp.cS w3 (Below.refl _ _)).mono fun e w4 h=>⟨h.1,af hb h.2,fun hs=> ?_⟩⟩
 exact wW (af hb h.2) (But.refl _ _) be aE (hA.below h.2) hs hk hz
theorem NC (v:Value)(l:List aj)(how sz:Int)(w:World)(h:ay w v l){t:Tree}(hF:aT l=I t)(hh:1<=how/\how<=5)(h1:(aH l).length=1):Calls prog 25 #[v,J Jq how,J Jq sz] w (fP t w):=by
 have hO:=CV hF
 have HR:=zh (dQ v l w h hF)
 have HI:Hid (∀X,Below w.heap.size w X->Calls prog 51 #[v] X fun e w'=>∃u,e=Jz u/\dD w' X.heap.size u (aH l)/\Below X.heap.size X w'):=fun X hX=>nZ v l X (h.below hX) (by have:=hO.lay.size;omega)
 have HK:Hid (t.kinds/\t.size<=200/\t.sound=true):=⟨hO.lay.kinds,by have:=lay_size hO.lay;omega,hO.lay.sound⟩
 have H1:=zh h1
 have d1:decide (how < (1:Int))=false:=decide_eq_false (by omega)
 have d2:decide ((5:Int) < how)=false:=decide_eq_false (by omega)
 have Cq:fP t w=dZ 0 (cZ t) w:=by funext e w';unfold fP;rw[if_pos HK.out.2.2]
 rw[Cq]
 clear hF h hO h1 hh Cq
 go_enter func25,ntmps25
 go_wp2_with fail
 refine HR.out.mono ?_
 rintro e w1 ⟨T,g,fp,rfl,hA,aE,be,hb⟩
 have HA:Hid (t.At w1 0 (.iface T (JJ (I ⟨g,0,O⟩))) fp/\fp.Nodup/\(∀q∈fp,w.heap.size<=q)/\Below w.heap.size w w1):=⟨hA,aE,be,hb⟩
 clear hA aE be hb
 go_wp2_with fail
 refine (HI.out _ HA.out.2.2.2).mono ?_
 rintro e w2 ⟨u,rfl,hu,al⟩
 obtain⟨ua,uc,rfl⟩:∃a c,u=Jj a 1 c:=by
  have h2:w2.ownsRow w1.heap.size 3 1 u (aH l).length ((aH l).map (Value.int .i64)):=hu
  rw[H1.out] at h2
  rcases h2.2 with ⟨_,h0⟩ | ⟨g',cap,cur,e,_⟩
  . cases h0
  . exact⟨_,_,e⟩
 have Km:=left_of (HA.out.1.below al) HA.out.2.1 HA.out.2.2.1 (af HA.out.2.2.2 al) HK.out.1 HK.out.2.1
 obtain⟨Fs,om⟩:=Km
 have HL:=zh om
 have m1:=om.mS
 have m2:=om.fS
 clear hu al om
 go_wp2_with fail
 refine HL.out.cS.mono ?_
 rintro e w4 ⟨rfl,cv,te⟩
 have Pt:=zh (te HK.out.2.2)
 rw[HK.out.2.2]
 clear cv te m1 m2 HL
 go_wp2_with fail
 refine Pt.out.mono ?_
 rintro e w5 ⟨q,rfl,hq,cd⟩
 have H5:Hid (az w5 w.heap.size q (cZ t)/\Below w.heap.size w w5):=⟨hq,cd⟩
 clear hq cd
 go_wp2
 refine bodyPost_ret (v:=.tuple #[q,J Jq 0]) (by simp[results,results25,go_sem]) rfl ?_
 exact⟨_,rfl,H5.out.1,H5.out.2⟩
theorem KC (v:Value)(l:List aj)(how sz:Int)(w:World)(h:ay w v l){t:Tree}(hF:aT l=I t)(hh:1<=how/\how<=5)(hsz: -9223372036854775808<=sz/\sz<=9223372036854775807)(z0:Int)(zs:List Int)(ao:aH l=z0::zs)(h1:1<=zs.length):Calls prog 25 #[v,J Jq how,J Jq sz] w (fP (D9 how z0 zs ⟨0,0,t.box.w,t.box.h⟩ sz) w):=by
 have hO:=CV hF
 have HR:=zh (dQ v l w h hF)
 have HI:Hid (∀X,Below w.heap.size w X->Calls prog 51 #[v] X fun e w'=>∃u,e=Jz u/\dD w' X.heap.size u (aH l)/\Below X.heap.size X w'):=fun X hX=>nZ v l X (h.below hX) (by have:=hO.lay.size;omega)
 have ol:=hO.few
 rw[ao,List.length_cons] at ol
 obtain⟨b,hb⟩:∃b:Box,b=⟨0,0,t.box.w,t.box.h⟩:=⟨_,rfl⟩
 rw[<- hb] at hO ⊢
 have hx:b.x=0:=by rw[hb]
 have hy:b.y=0:=by rw[hb]
 obtain⟨c,r,rfl,tm,hch⟩:=hO.head
 obtain⟨gb,off,cap,rfl,cG,bX⟩:=h.seen (by simp)
 have q8:Hid (∀X,Below w.heap.size w X->X.cell? ⟨gb,off+4,O⟩=I (J Jq b.w)/\X.cell? ⟨gb,off+5,O⟩=I (J Jq b.h)):=fun X hX=>by
  have hd:=(bX.below hX).at0
  exact⟨by rw[<- tm];exact hd.q4,by rw[<- hch];exact hd.q5⟩
 obtain⟨n,hn⟩:∃n,(c::r).length=n:=⟨_,rfl⟩
 rw[hn] at HR HI cG ⊢
 have du:1<=n:=by rw[<- hn];simp
 have mU:0 < n:=by omega
 have Uv:Hid (∀u X,iP X u (z0::zs)->Calls prog 52 #[J Jq how,u,.agg #[J Jq 0,J Jq 0,J Jq b.w,J Jq b.h],J Jq sz] X (dP (D9 how z0 zs b sz) X)):=fun u X hX=>by
  have:=DX how hh z0 zs b sz u X hX h1 (by omega) hO.sides.1 hO.sides.2 hsz
  unfold I7 at this
  rw[hx,hy] at this
  exact this
 have HK:Hid ((D9 how z0 zs b sz).kinds/\(D9 how z0 zs b sz).size<=200):=⟨CW _ _ _ _ _,by have:=AP how z0 zs b sz h1 (by omega);omega⟩
 have bv:=zh ao
 obtain⟨m,hm⟩:∃m,zs.length=m:=⟨_,rfl⟩
 have HM:=zh hm
 rw[hm] at h1 ol
 have d1:decide (how < (1:Int))=false:=decide_eq_false (by omega)
 have d2:decide ((5:Int) < how)=false:=decide_eq_false (by omega)
 obtain⟨AT,hAT⟩:∃T,D9 how z0 zs b sz=T:=⟨_,rfl⟩
 rw[hAT] at Uv HK ⊢
 clear hF h hO ao hh hb hx hy tm hch bX hn hm hAT
 go_enter func25,ntmps25
 go_wp2_with fail
 refine HR.out.mono ?_
 rintro e w1 ⟨T,g,fp,rfl,hA,aE,be,hb⟩
 have cY:=zh hb
 clear hA aE be hb
 go_wp2_with fail
 refine (HI.out _ cY.out).mono ?_
 rintro e w2 ⟨u,rfl,hu,al⟩
 rw[bv.out] at hu
 have HU:Hid (iP w2 u (z0::zs)):=hu.ids (by simp)
 obtain⟨gu,ou,cu,sP,_⟩:=HU.out
 rw[List.length_cons,HM.out] at sP
 subst sP
 have aD:=zh (af cY.out al)
 obtain⟨q4,q5⟩:=q8.out w2 aD.out
 have h2m:(1:Int) < (m:Int)+1:=by omega
 clear hu al
 go_wp2_with fail
 go_region_law (first
  | (go_simp;go_at_call 52;refine (Uv.out _ _ (by obtain⟨a1,a2,a3,a4,a5,a6⟩:=HU.out;exact⟨a1,a2,a3,a4,a5,a6⟩)).mono ?_;rintro e w3 ⟨T3,g3,f3,rfl,C0,mL,mN,aM⟩;have hL3:=left_of (w:=w) C0 mL (fun q hq=>Nat.le_trans aD.out.size (mN q hq)) (af aD.out ⟨aM.os,aM.tape,aM.output,aM.size,aM.block⟩) HK.out.1 HK.out.2;obtain⟨Fs,om⟩:=hL3;have HL:Hid (Oq AT w w3 T3 g3 Fs):=om;have m1:=om.mS;have m2:=om.fS;clear C0 mL mN aM om))
 all_goals (
  go_wp2_with fail
  refine HL.out.cS.mono ?_
  rintro e w4 ⟨rfl,cv,te⟩
  have gr:=zh cv
  have Pt:=zh te
  obtain⟨sd,ar⟩:∃s,AT.sound=s:=⟨_,rfl⟩
  have j3:=zh ar
  rw[ar] at Pt ⊢
  clear cv te m1 m2 HL ar
  cases sd
  . go_wp2
    refine bodyPost_ret (v:=.tuple #[Jj O 0 0,J Jq 44]) (by simp[results,results25,go_sem]) rfl ?_
    unfold fP
    rw[if_neg (by rw[j3.out];decide)]
    exact⟨_,rfl,World.ownsRow_nil _ _ _ _,gr.out⟩
  . have fN:Hid (Calls prog 15 #[.iface T3 (JJ (I ⟨g3,0,O⟩))] w4 fun e w5=>∃u,e=Jz u/\az w5 w.heap.size u (cZ AT)/\Below w.heap.size w w5):=Pt.out rfl
    clear Pt
    go_wp2_with fail
    refine fN.out.mono ?_
    rintro e w5 ⟨q,rfl,hq,cd⟩
    have H5:Hid (az w5 w.heap.size q (cZ AT)/\Below w.heap.size w w5):=⟨hq,cd⟩
    clear hq cd
    go_wp2
    refine bodyPost_ret (v:=.tuple #[q,J Jq 0]) (by simp[results,results25,go_sem]) rfl ?_
    unfold fP
    rw[if_pos j3.out]
    exact⟨_,rfl,H5.out.1,H5.out.2⟩)
def iV (ns:List Node):List Value:=ns.flatMap fun n=>fQ n (Jj O 0 0)
theorem yV (ns:List Node)(n:Node):iV (ns++[n])=iV ns++fQ n (Jj O 0 0):=by
 unfold iV
 rw[List.flatMap_append]
 simp
theorem Be (W:World)(n:Node)(h:n.ks=[]):n.In W (Jj O 0 0) []:=by
 cases n with
 | mk k w h i ks=>
   have:ks=[]:=h
   subst this
   exact⟨[],[],World.ownsRow_nil _ _ _ _,⟨rfl,rfl⟩,rfl⟩
theorem vz (W:World):∀(ns:List Node),(∀n∈ns,n.ks=[])->aY W ns (iV ns) []
 | [],_=>⟨rfl,rfl⟩
 | n::ns,h=>⟨Jj O 0 0,iV ns,[],[],rfl,Be W n (h n (by simp)),vz W ns fun m hm=>h m (List.mem_cons_of_mem _ hm),rfl⟩
theorem IR (ts:List Tree)(t:Tree):nodesOf (ts++[t])=nodesOf ts++[ag t]:=by
 induction ts with
 | nil=>rfl
 | cons a ts ih=>show ag a::nodesOf (ts++[t])=_;rw[ih];rfl
theorem vC (k:Int)(b:Box)(n:Int):∀(zs:List Int) (i:Int),∀m∈nodesOf (fC k b n zs i),m.ks=[]
 | [],_,m,hm=>by cases hm
 | z::zs,i,m,hm=>by
   have Ml:m∈ag (.leaf (b.with k (bu (b.ext k) n i)) z)::nodesOf (fC k b n zs (i+1)):=hm
   rcases List.mem_cons.1 Ml with h | h
   . rw[h];rfl
   . exact vC k b n zs (i+1) m h
structure eY (w:World)(k wd ht:Int)(ns:List Node)(sl:Value)(wr:World):Prop where
 res:wr.heap[w.heap.size]?=I (.cells aU 53 (0,0))
 own:wr.heap[w.heap.size+1]?=I (JZ #[J Jq k,J Jq wd,J Jq ht,J Jq 0,sl] 53 (0,0))
 row:wr.ownsRow (w.heap.size+2) 53 5 sl ns.length (iV ns)
 below:Below w.heap.size w wr
theorem eY.lt {w:World}{k wd ht:Int}{ns:List Node}{sl:Value}{wr:World}(h:eY w k wd ht ns sl wr):w.heap.size+2<=wr.heap.size:=lt_of_block h.own
theorem IU {W W':World}{B:Nat}{t:TypeId}{sl:Value}{n:Nat}{vs:List Value}(h:W.ownsRow B t 5 sl n vs)(hb:Below W.heap.size W W'):W'.ownsRow B t 5 sl n vs:=dE h fun g hg=>hb.block g (iD h g hg)
theorem eY.below' {w:World}{k wd ht:Int}{ns:List Node}{sl:Value}{wr X:World}(h:eY w k wd ht ns sl wr)(hb:Below wr.heap.size wr X):eY w k wd ht ns sl X:=by
 have hl:=h.lt
 exact⟨(hb.block _ (by omega)).trans h.res,(hb.block _ (by omega)).trans h.own,IU h.row hb,af h.below hb⟩
theorem eY.next {w:World}{k wd ht:Int}{ns:List Node}{sl:Value}{wr X:World}(h:eY w k wd ht ns sl wr)(hX:Below wr.heap.size wr X){n:Node}{o:Obj}{sl':Value}{w':World}(h1:w'.ownsRow (w.heap.size+2) 53 5 sl' (ns.length+1) (iV ns++fQ n (Jj O 0 0)))(h2:(X.alloc o).grownBy w' sl.ownBlock):
 w'.heap[w.heap.size+1]?=I (JZ #[J Jq k,J Jq wd,J Jq ht,J Jq 0,sl] 53 (0,0))/\eY w k wd ht (ns++[n]) sl' (w'.setCell ⟨w.heap.size+1,4,O⟩ sl'):=by
 have hx:=h.below' hX
 have hl:=h.lt
 have hxl:=hX.size
 have hsz:(X.alloc o).heap.size=X.heap.size+1:=by simp
 have a7:∀q,sl.ownBlock=I q->w.heap.size+2<=q:=fun q hq=>(World.ownsRow.lt h.row q hq).1
 have kept:∀q,q < w.heap.size+2->w'.heap[q]?=X.heap[q]?:=fun q hq=>(h2.block q (by omega) (fun e=>by have:=a7 _ e.symm;omega)).trans (((Below.refl X.heap.size X).alloc (Nat.le_refl _) o).block q (by omega))
 have ho:=(kept _ (by omega)).trans hx.own
 refine⟨ho,?_,rQ ho sl',?_,?_⟩
 . rw[Below.heap_setCell _ _ _ _ (by simp)]
   exact (kept _ (by omega)).trans hx.res
 . rw[yV,List.length_append]
   refine dE h1 fun q hq=>Below.heap_setCell _ _ _ _ fun e=> ?_
   have:=(World.ownsRow.lt h1 q (by simpa using hq)).1
   have e':q=w.heap.size+1:=by simpa using e
   omega
 . have hb:Below w.heap.size w w':=by
    have h0:Below w.heap.size w (X.alloc o):=aK hx.below o
    refine⟨h2.os.trans h0.os,h2.tape.trans h0.tape,h2.output.trans h0.output,Nat.le_trans h0.size h2.size,fun q hq=>(h2.block q (by have:=h0.size;omega) fun e=> ?_).trans (h0.block q hq)⟩
    have:=a7 _ e.symm
    omega
   exact below_grown hb (grownBy_set _ _ _ _) (by omega)
theorem mZ {ops:Array Oper}{o:Oper}{a:Act}{K:Act->World->Prop}{Q:Exit->Act->World->Prop}{E:Prop}(w:World)(e9:o.guard=O)(s x:Operand)
 (ho:o.op=.call { callee:=.builtin .append,args:=#[s,x],argTypes:=#[51,51] })
 (B:Nat) (v:Value) (m:Nat) (cs:List Value) (n:Node) (sa:Option Addr) (sn sc:Nat) (hs:a.eval s=v) (bm:w.ownsRow B 53 5 v m cs) (hx:a.eval x=Jj (I ⟨w.heap.size,0,O⟩) 1 1) (hlen:m<=1000000) (hB:B<=w.heap.size)
 (h:∀v' w',w'.ownsRow B 53 5 v' (m+1) (cs++fQ n (Jj sa sn sc))->(w.alloc (.cells (aC n (Jj sa sn sc)) 53)).grownBy w' v.ownBlock->K (a.put o.dst v') w'):if Region.wanted o (yielded ops a.tmps)=true then Oper.wp prog o a (w.alloc (.cells (aC n (Jj sa sn sc)) 53)) K Q else E:=by
 have hw:Region.wanted o (yielded ops a.tmps)=true:=by simp[Region.wanted,e9]
 rw[if_pos hw]
 obtain⟨i0,hi,eh,db,cJ⟩:=bH eX
 refine wp_append_own _ s x 51 ho B 53 i0 _ 5 56 underlying51 hi eh db cJ rfl (by decide) v m cs hs (World.ownsRow.alloc bm _) ⟨w.heap.size,0,O⟩ 1 1 (fQ n (Jj sa sn sc)) hx rfl ?_ ?_ ?_ ?_ ?_ ?_
 . intro j u hu
   rw[show (⟨w.heap.size,0,O⟩:Addr).add j=⟨w.heap.size,j,O⟩ by unfold Addr.add;split <;> simp_all,dW,<- oQ]
   exact hu
 . intro u hu
   have ll:u∈[Value.int .i64 n.k,J Jq n.w,J Jq n.h,J Jq n.i,Jj sa sn sc]:=hu
   simp only[List.mem_cons,List.not_mem_nil,or_false] at ll
   rcases ll with rfl | rfl | rfl | rfl | rfl <;> rfl
 . unfold maxLen;omega
 . omega
 . have:(w.alloc (.cells (aC n (Jj sa sn sc)) 53)).heap.size=w.heap.size+1:=by simp
   omega
 . intro v' w' h2 h3 _
   exact h v' w' h2 h3
def y8 (ok:Bool)(n:Node)(w:World)(e:Ending)(w':World):Prop:=Below w.heap.size w w'/\((ok=true/\∃sa sn sc fp,e=Jz (.tuple #[.agg (aC n (Jj sa sn sc)),.bool true])/\n.In w' (Jj sa sn sc) fp/\∀q∈fp,w.heap.size<=q)\/(ok=false/\e=Jz (.tuple #[.agg aU,.bool false])))
def Px (ok:Bool)(n:Node)(w:World)(e:Ending)(w':World):Prop:=Below w.heap.size w w'/\((ok=true/\∃sa sn sc fp,e=Jz (.tuple #[.agg (aC n (Jj sa sn sc)),.bool true])/\n.In w' (Jj sa sn sc) fp/\(∀q∈fp,w.heap.size<=q)/\fp=(Value.slice sa sn sc).ownBlock.toList)\/(ok=false/\e=Jz (.tuple #[.agg aU,.bool false])))
theorem Px.doc {ok:Bool}{n:Node}{w:World}{e:Ending}{w':World}(h:Px ok n w e w'):y8 ok n w e w':=by
 refine⟨h.1,?_⟩
 rcases h.2 with ⟨h1,sa,sn,sc,fp,h2,h3,h4,_⟩ | h1
 . exact .inl ⟨h1,sa,sn,sc,fp,h2,h3,h4⟩
 . exact .inr h1
theorem bM (w:World)(o:Obj):Below w.heap.size w (w.alloc o):=(Below.refl _ _).alloc (Nat.le_refl _) _
theorem IJ (k:Int)(wd ht:Int)(v:Value)(w:World)(hb:wd < 1\/ht < 1):Calls prog 66 #[v,J Jq k,J Jq wd,J Jq ht] w fun e w'=>e=Jz (.tuple #[.agg aU,.bool false])/\Below w.heap.size w w':=by
 by_cases h1:wd < 1
 . have d1:decide (wd < (1:Int))=true:=decide_eq_true h1
   go_enter func66,ntmps66
   go_wp2
   exact bodyPost_ret (v:=.tuple #[.agg aU,.bool false]) (by simp[results,results66,go_sem,aU]) rfl ⟨rfl,bM _ _⟩
 . have d1:decide (wd < (1:Int))=false:=decide_eq_false h1
   have d2:decide (ht < (1:Int))=true:=decide_eq_true (by omega)
   go_enter func66,ntmps66
   go_wp2
   exact bodyPost_ret (v:=.tuple #[.agg aU,.bool false]) (by simp[results,results66,go_sem,aU]) rfl ⟨rfl,bM _ _⟩
theorem IK (k:Int)(wd ht z:Int)(v:Value)(w:World)(h1:1<=wd)(h2:1<=ht)(hI:iP w v [z]):Calls prog 66 #[v,J Jq k,J Jq wd,J Jq ht] w fun e w'=>e=Jz (.tuple #[.agg (aC (.mk 1 wd ht z []) (Jj O 0 0)),.bool true])/\Below w.heap.size w w':=by
 obtain⟨g,o,cap,rfl,cG,hz⟩:=hI
 have d1:decide (wd < (1:Int))=false:=decide_eq_false (by omega)
 have d2:decide (ht < (1:Int))=false:=decide_eq_false (by omega)
 have h0:=hz 0 z rfl
 have XO:=World.block_lt_of_cell? w _ h0
 obtain⟨W,hW⟩:∃x,w.alloc (.cells aU 53)=x:=⟨_,rfl⟩
 obtain⟨V,hV⟩:∃x,W.alloc (JZ #[J Jq k,J Jq wd,J Jq ht,J Jq 0,Jj O 0 0] 53)=x:=⟨_,rfl⟩
 have ZV:Below w.heap.size w W:=by rw[<- hW];exact bM _ _
 have XP:Below w.heap.size w V:=by rw[<- hV];exact aK ZV _
 have hc:V.heap[w.heap.size]?=I (.cells aU 53 (0,0)):=by
  have hs:W.heap.size=w.heap.size+1:=by rw[<- hW];simp
  rw[<- hV,((Below.refl W.heap.size W).alloc (Nat.le_refl _) _).block _ (by omega),<- hW]
  exact heap_alloc_new _ _
 have d0:V.cell? ⟨g,o,O⟩=I (J Jq z):=(XP.cell (p:=⟨g,o,O⟩) XO).trans h0
 have q0:V.cell? ⟨w.heap.size,0,O⟩=I (J Jq 0):=ae hc 0
 have q1:V.cell? ⟨w.heap.size,1,O⟩=I (J Jq 0):=ae hc 1
 have q2:V.cell? ⟨w.heap.size,2,O⟩=I (J Jq 0):=ae hc 2
 have q3:V.cell? ⟨w.heap.size,3,O⟩=I (J Jq 0):=ae hc 3
 have q4:V.cell? ⟨w.heap.size,4,O⟩=I (Jj O 0 0):=ae hc 4
 have f0:V.frozen? ⟨w.heap.size,0,O⟩=false:=ai hc 0
 have f1:V.frozen? ⟨w.heap.size,1,O⟩=false:=ai hc 1
 have f2:V.frozen? ⟨w.heap.size,2,O⟩=false:=ai hc 2
 have f3:V.frozen? ⟨w.heap.size,3,O⟩=false:=ai hc 3
 have f4:V.frozen? ⟨w.heap.size,4,O⟩=false:=ai hc 4
 have XQ:Hid (Below w.heap.size w V):=XP
 unfold aU at hW
 have HW:Hid (w.alloc (JZ #[J Jq 0,J Jq 0,J Jq 0,J Jq 0,Jj O 0 0] 53)=W):=hW
 have HV:Hid (W.alloc (JZ #[J Jq k,J Jq wd,J Jq ht,J Jq 0,Jj O 0 0] 53)=V):=hV
 clear hW hV ZV XP hc hz h0 XO
 go_enter func66,ntmps66
 go_upto_region 1 with fail
 rw[HW.out]
 go_upto_region 4 with fail
 rw[HV.out]
 go_wp2
 exact bodyPost_ret (v:=.tuple #[.agg #[J Jq 1,J Jq wd,J Jq ht,J Jq z,Jj O 0 0],.bool true]) (by simp[results,results66,go_sem,q0,q1,q2,q3,q4]) rfl ⟨rfl,bC XQ.out _ (Nat.le_refl _) _ _ _ _ _⟩
theorem ve (w:World)(k wd ht:Int):eY w k wd ht [] (Jj O 0 0) ((w.alloc (JZ #[J Jq 0,J Jq 0,J Jq 0,J Jq 0,Jj O 0 0] 53)).alloc (JZ #[J Jq k,J Jq wd,J Jq ht,J Jq 0,Jj O 0 0] 53)):=by
 obtain⟨W,hW⟩:∃x,w.alloc (JZ #[J Jq 0,J Jq 0,J Jq 0,J Jq 0,Jj O 0 0] 53)=x:=⟨_,rfl⟩
 have hs:W.heap.size=w.heap.size+1:=by rw[<- hW];simp
 have hn:W.heap[w.heap.size]?=I (.cells aU 53 (0,0)):=by rw[<- hW];exact heap_alloc_new _ _
 have hb:Below w.heap.size w W:=by rw[<- hW];exact bM _ _
 rw[hW]
 refine⟨(((Below.refl W.heap.size W).alloc (Nat.le_refl _) _).block _ (by omega)).trans hn,?_,World.ownsRow_nil _ _ _ _,aK hb _⟩
 rw[<- hs]
 exact heap_alloc_new _ _
theorem eY.cells {w:World}{k wd ht:Int}{ns:List Node}{sl:Value}{wr:World}(h:eY w k wd ht ns sl wr):(wr.cell? ⟨w.heap.size+1,0,O⟩=I (J Jq k)/\wr.cell? ⟨w.heap.size+1,1,O⟩=I (J Jq wd)/\wr.cell? ⟨w.heap.size+1,2,O⟩=I (J Jq ht)/\wr.cell? ⟨w.heap.size+1,3,O⟩=I (J Jq 0)/\wr.cell? ⟨w.heap.size+1,4,O⟩=I sl):=⟨ae h.own 0,ae h.own 1,ae h.own 2,ae h.own 3,ae h.own 4⟩
structure QB (w wr:World):Prop where
 q0:wr.cell? ⟨w.heap.size,0,O⟩=I (J Jq 0)
 q1:wr.cell? ⟨w.heap.size,1,O⟩=I (J Jq 0)
 q2:wr.cell? ⟨w.heap.size,2,O⟩=I (J Jq 0)
 q3:wr.cell? ⟨w.heap.size,3,O⟩=I (J Jq 0)
 q4:wr.cell? ⟨w.heap.size,4,O⟩=I (Jj O 0 0)
 f0:wr.frozen? ⟨w.heap.size,0,O⟩=false
 f1:wr.frozen? ⟨w.heap.size,1,O⟩=false
 f2:wr.frozen? ⟨w.heap.size,2,O⟩=false
 f3:wr.frozen? ⟨w.heap.size,3,O⟩=false
 f4:wr.frozen? ⟨w.heap.size,4,O⟩=false
theorem jX {w wr:World}(h:wr.heap[w.heap.size]?=I (.cells aU 53 (0,0))):QB w wr:=⟨ae h 0,ae h 1,ae h 2,ae h 3,ae h 4,ai h 0,ai h 1,ai h 2,ai h 3,ai h 4⟩
theorem LY {w:World}{k wd ht:Int}{ns:List Node}{sl:Value}{wr:World}(h:eY w k wd ht ns sl wr)(hl:∀n∈ns,n.ks=[])(v0 v1 v2 v3 v4:Value):(Node.mk k wd ht 0 ns).In (fB wr w.heap.size v0 v1 v2 v3 v4) sl (sl.ownBlock.toList++[])/\(∀q∈sl.ownBlock.toList++[],w.heap.size<=q)/\Below w.heap.size w (fB wr w.heap.size v0 v1 v2 v3 v4):=by
 have be:∀q∈sl.ownBlock.toList,w.heap.size+2<=q:=fun q hq=>(World.ownsRow.lt h.row q (by simpa using hq)).1
 have hb:=bC h.below w.heap.size (Nat.le_refl _) v0 v1 v2 v3 v4
 refine⟨⟨iV ns,[],⟨h.row.1,?_⟩,vz _ ns hl,rfl⟩,fun q hq=>by rw[List.append_nil] at hq;have:=be q hq;omega,hb⟩
 have hk:∀g∈sl.ownBlock.toList,(fB wr w.heap.size v0 v1 v2 v3 v4).heap[g]?=wr.heap[g]?:=fun g hg=>by
  have:=be g hg
  unfold fB
  rw[Below.heap_setCell _ _ _ _ (by simp;omega),Below.heap_setCell _ _ _ _ (by simp;omega),Below.heap_setCell _ _ _ _ (by simp;omega),Below.heap_setCell _ _ _ _ (by simp;omega),Below.heap_setCell _ _ _ _ (by simp;omega)]
 have h5:=dE h.row hk
 rcases h5.2 with h0 | ⟨g,cap,cur,e,_,r⟩
 . exact .inl h0
 . exact .inr ⟨g,cap,cur,e,Nat.zero_le _,r⟩
theorem Fp (k:Int)(hk:k=2\/k=3)(wd ht:Int)(zs:List Int)(v:Value)(w:World)(h1:1<=wd/\wd<=1000)(h2:1<=ht/\ht<=1000)(hI:iP w v zs)(fe:2<=zs.length)(rl:zs.length<=400):Calls prog 66 #[v,J Jq k,J Jq wd,J Jq ht] w (Px (ji k zs.length ⟨0,0,wd,ht⟩) (ag (eU k zs ⟨0,0,wd,ht⟩)) w):=by
 obtain⟨g,o,cap,rfl,cG,hz⟩:=hI
 have d1:decide (wd < (1:Int))=false:=decide_eq_false (by omega)
 have d2:decide (ht < (1:Int))=false:=decide_eq_false (by omega)
 obtain⟨b,hb⟩:∃b:Box,b=⟨0,0,wd,ht⟩:=⟨_,rfl⟩
 rw[<- hb]
 obtain⟨E,hE⟩:∃E,b.ext k=E:=⟨_,rfl⟩
 have Vt:(if k=2 then wd else ht)=E:=by rw[<- hE,hb];rfl
 have GW:1<=E/\E<=1000:=by rw[<- Vt];split <;> assumption
 obtain⟨n,hn⟩:∃n,zs.length=n:=⟨_,rfl⟩
 have HN:Hid (zs.length=n):=hn
 have RQ:eU k zs b=.split b k (fC k b n zs 0):=by
  match zs,fe,hn with
  | x::y::zs,_,hn=>show Tree.split b k (fC k b ((x::y::zs).length:Nat) (x::y::zs) 0)=_;rw[hn]
 have Pk:ji k zs.length b=decide ((n:Int)<=E-(n-1)):=by
  unfold ji
  rw[hn,hE,decide_eq_false (show ¬(n:Int)=1 by omega),jB GW.1 GW.2]
  have:aG (b.ext (aA k))=true:=by
   rw[hb]
   rcases hk with rfl | rfl
   . exact jB h2.1 h2.2
   . exact jB h1.1 h1.2
  rw[this]
  simp
 rw[Pk,RQ]
 have XR:ag (.split b k (fC k b n zs 0))=.mk k wd ht 0 (nodesOf (fC k b n zs 0)):=by rw[hb];rfl
 rw[XR]
 obtain⟨W,hW⟩:∃x,w.alloc (JZ #[J Jq 0,J Jq 0,J Jq 0,J Jq 0,Jj O 0 0] 53)=x:=⟨_,rfl⟩
 have fi:W.heap.size=w.heap.size+1:=by rw[<- hW];simp
 obtain⟨V,hV⟩:∃x,W.alloc (JZ #[J Jq k,J Jq wd,J Jq ht,J Jq 0,Jj O 0 0] 53)=x:=⟨_,rfl⟩
 have lO:Hid (eY w k wd ht [] (Jj O 0 0) V):=by rw[<- hV,<- hW];exact ve w k wd ht
 have HW:Hid (w.alloc (JZ #[J Jq 0,J Jq 0,J Jq 0,J Jq 0,Jj O 0 0] 53)=W):=hW
 have HV:Hid (W.alloc (JZ #[J Jq k,J Jq wd,J Jq ht,J Jq 0,Jj O 0 0] 53)=V):=hV
 obtain⟨c0,c1,c2,c3,c4⟩:=lO.out.cells
 have ff:Hid (∀X,Calls prog 57 #[.agg #[J Jq k,J Jq wd,J Jq ht,J Jq 0,Jj O 0 0],J Jq k] X fun e w'=>e=Jz (J Jq E)/\Below X.heap.size X w'):=fun X=>by
  have:=eQ (.mk k wd ht 0 []) O 0 0 k X
  rw[<- Vt]
  exact this
 have du:((n:Int)==1)=false:=by
  have:(n:Int)≠1:=by omega
  simpa using this
 have w1:IntKind.i64.wrap ((n:Int)-1)=(n:Int)-1:=by rw[IntKind.wrap_i64];omega
 have w2:IntKind.i64.wrap (E-((n:Int)-1))=E-((n:Int)-1):=by rw[IntKind.wrap_i64];omega
 rw[hn] at fe rl cG ⊢
 obtain⟨L,hL⟩:∃L,E-((n:Int)-1)=L:=⟨_,rfl⟩
 rw[hL] at w2 ⊢
 by_cases ol:L < (n:Int)
 . have hd:decide (L < (n:Int))=true:=decide_eq_true ol
   have Ks:decide ((n:Int)<=L)=false:=decide_eq_false (by omega)
   rw[Ks]
   have HZ:Hid (QB w V):=jX lO.out.res
   have XQ:Hid (Below w.heap.size w V):=lO.out.below
   have HRs:Hid (∀X,Below V.heap.size V X->QB w X):=fun X hX=>jX (lO.out.below' hX).res
   clear hW hV hz hE Vt RQ Pk XR hb hn Ks
   go_enter func66,ntmps66
   go_upto_region 1 with fail
   rw[HW.out]
   go_upto_region 4 with fail
   rw[HV.out]
   go_wp2_with fail
   refine (ff.out _).mono ?_
   rintro e X ⟨rfl,cK⟩
   obtain⟨q0,q1,q2,q3,q4,f0,f1,f2,f3,f4⟩:=HRs.out X cK
   have HXb:Hid (Below w.heap.size w X):=af XQ.out cK
   clear cK c0 c1 c2 c3 c4
   go_wp2
   exact bodyPost_ret (v:=.tuple #[.agg #[J Jq 0,J Jq 0,J Jq 0,J Jq 0,Jj O 0 0],.bool false]) (by simp[results,results66,go_sem,q0,q1,q2,q3,q4]) rfl ⟨bC HXb.out _ (Nat.le_refl _) _ _ _ _ _,.inr ⟨rfl,rfl⟩⟩
 . have hd:decide (L < (n:Int))=false:=decide_eq_false ol
   have Ks:decide ((n:Int)<=L)=true:=decide_eq_true (by omega)
   rw[Ks]
   obtain⟨ts,gn⟩:∃ts,fC k b n zs 0=ts:=⟨_,rfl⟩
   have HLf:Hid (∀m∈nodesOf ts,m.ks=[]):=by rw[<- gn];exact vC k b n zs 0
   have Mq:Hid (ts.length=n):=by show _=_;rw[<- gn,jq,hn]
   have HT:Hid (∀(i:Nat) z,zs[i]?=I z->ts[i]?=I (.leaf (b.with k (bu E n i)) z)):=fun i z h=>by
    rw[<- gn,<- hE]
    have:=pW k b n zs 0 i z h
    rw[Int.zero_add] at this
    exact this
   rw[gn]
   have E9:=tY (L:=L) (n:=n) (by omega) (by omega)
   obtain⟨qt,ZW⟩:∃q,L.tdiv n=q:=⟨_,rfl⟩
   obtain⟨rm,LI⟩:∃r,L.tmod n=r:=⟨_,rfl⟩
   have Pa:Hid (∀i:Int,bu E n i=if i < rm then qt+1 else qt):=fun i=>by unfold bu;rw[hL,ZW,LI]
   rw[ZW] at E9
   have w3:IntKind.i64.wrap qt=qt:=by rw[IntKind.wrap_i64];omega
   have w4:IntKind.i64.wrap (qt+1)=qt+1:=by rw[IntKind.wrap_i64];omega
   have hb0:((n:Int)==0)=false:=by
    have:(n:Int)≠0:=by omega
    simpa using this
   have HZ:Hid (∀X,Below w.heap.size w X->∀(i:Nat) z,zs[i]?=I z->X.cell? ⟨g,o+i,O⟩=I (J Jq z)):=fun X hX i z h=>(hX.cell (p:=⟨g,o+i,O⟩) (World.block_lt_of_cell? w _ (hz i z h))).trans (hz i z h)
   have fg:Hid (∀(sa:Option Addr) (sn sc:Nat) (z sh:Int) X,Calls prog 61 #[.agg #[J Jq k,J Jq wd,J Jq ht,J Jq 0,Jj sa sn sc],J Jq z,J Jq k,J Jq sh] X fun e w'=>e=Jz (.agg #[J Jq 1,J Jq (if k=2 then sh else wd),J Jq (if k=2 then ht else sh),J Jq z,Jj O 0 0])/\Below X.heap.size X w'):=fun sa sn sc z sh X=>oI (.mk k wd ht 0 []) sa sn sc z k sh hk X
   have cH:Hid (∀z sh:Int,ag (.leaf (b.with k sh) z)=.mk 1 (if k=2 then sh else wd) (if k=2 then ht else sh) z []):=fun z sh=>by
    rw[hb]
    rcases hk with rfl | rfl
    . show Node.mk 1 (wd+(sh-wd)) ht z []=_
      rw[show wd+(sh-wd)=sh by omega]
      rfl
    . show Node.mk 1 wd (ht+(sh-ht)) z []=_
      rw[show ht+(sh-ht)=sh by omega]
      rfl
   clear hW hV hz hE Vt RQ Pk XR hb hn Ks gn E9 hk
   go_enter func66,ntmps66
   go_upto_region 1 with fail
   rw[HW.out]
   go_upto_region 4 with fail
   rw[HV.out]
   go_wp2_with fail
   refine (ff.out _).mono ?_
   rintro e X ⟨rfl,cK⟩
   have HSX:Hid (eY w k wd ht [] (Jj O 0 0) X):=lO.out.below' cK
   clear cK c0 c1 c2 c3 c4
   go_wp2
   go_loopw [12] (fun vi wr=>∃i:Nat,i<=n/\vi=J Jq i/\∃sl,Hid (eY w k wd ht (nodesOf (ts.take i)) sl wr)) (fun vi _=>n-(intOf vi).toNat)
   case atStart=>exact⟨0,Nat.zero_le _,rfl,_,HSX⟩
   case round=>
    obtain⟨i,hi,rfl,sl,HJ⟩:=hrel
    by_cases am:i < n
    . obtain⟨z,hz⟩:∃z,zs[i]?=I z:=⟨_,List.getElem?_eq_getElem (by rw[HN.out];exact am)⟩
      have dz:=HZ.out wr HJ.out.below i z hz
      obtain⟨sh,k9⟩:∃s,bu E n i=s:=⟨_,rfl⟩
      have i7:=Pa.out (i:Int)
      rw[k9] at i7
      obtain⟨mw,XS⟩:∃x,(if k=2 then sh else wd)=x:=⟨_,rfl⟩
      obtain⟨mh,XT⟩:∃x,(if k=2 then ht else sh)=x:=⟨_,rfl⟩
      have nf:Hid (nodesOf (ts.take (i+1))=nodesOf (ts.take i)++[.mk 1 mw mh z []]):=by
       show _=_
       rw[xh _ _ _ (HT.out i z hz),IR,cH.out,k9,XS,XT]
      have zd:Hid (∀(sa:Option Addr) (sn sc:Nat) X,Calls prog 61 #[.agg #[J Jq k,J Jq wd,J Jq ht,J Jq 0,Jj sa sn sc],J Jq z,J Jq k,J Jq sh] X fun e w'=>e=Jz (.agg #[J Jq 1,J Jq mw,J Jq mh,J Jq z,Jj O 0 0])/\Below X.heap.size X w'):=fun sa sn sc X=>by rw[<- XS,<- XT];exact fg.out sa sn sc z sh X
      obtain⟨sa,sc,av⟩:=dG HJ.out.row
      obtain⟨sn,lp⟩:∃x,(nodesOf (ts.take i)).length=x:=⟨_,rfl⟩
      rw[lp] at av
      subst av
      have Fl:sn<=1000000:=by
       rw[<- lp,ax,List.length_take]
       omega
      obtain⟨e0,e1,e2,e3,e4⟩:=HJ.out.cells
      have Vu:Hid ((nodesOf (ts.take i)).length=sn):=lp
      have HD:Hid (wr.drew.cell? ⟨w.heap.size+1,4,O⟩=I (Jj sa sn sc)):=e4
      clear hz k9 XS XT lp
      by_cases RI:(i:Int) < rm
      . rw[if_pos RI] at i7
        subst i7
        have hdr:decide ((i:Int) < rm)=true:=decide_eq_true RI
        go_wp2
        go_region_law (first
         | (refine mZ X3 rfl (.tmp 65) (.tmp 74) rfl (w.heap.size+2) (Jj sa sn sc) sn (iV (nodesOf (ts.take i))) (.mk 1 mw mh z []) O 0 0 (by simp[Act.eval]) (by have h:=(HJ.out.below' v6.out).row;rw[Vu.out] at h;exact h) (by simp[Act.eval]) Fl (Nat.le_trans HJ.out.lt v6.out.size) ?_;intro sl' w5 a1 a2;rw[<- Vu.out] at a1;have av:=dG a1;have hj:=HJ.out.next v6.out a1 a2;have c5:w5.cell? ⟨w.heap.size+1,4,O⟩=I (Jj sa sn sc):=ae hj.1 4;have g5:w5.frozen? ⟨w.heap.size+1,4,O⟩=false:=ai hj.1 4;have qe:Hid (eY w k wd ht (nodesOf (ts.take i)++[.mk 1 mw mh z []]) sl' (w5.setCell ⟨w.heap.size+1,4,O⟩ sl')):=hj.2;clear a1 a2 hj;obtain⟨sb,sd,cq⟩:=av;subst cq)
         | (go_simp;go_at_call 61;refine (zd.out _ _ _ _).mono ?_;rintro e X3 ⟨rfl,aM⟩;have v6:Hid (Below wr.heap.size wr X3):=⟨aM.os,aM.tape,aM.output,aM.size,aM.block⟩;obtain⟨dX,dXa,_⟩:=gB HD.out aM;clear aM))
        all_goals (
         go_wp2
         go_roundw
         case rel=>exact⟨i+1,by omega,by go_num,_,by rw[nf.out];exact qe⟩
         case measure=>simp[intOf];omega)
      . rw[if_neg RI] at i7
        subst i7
        have hdr:decide ((i:Int) < rm)=false:=decide_eq_false RI
        go_wp2
        go_region_law (first
         | (refine mZ X3 rfl (.tmp 65) (.tmp 74) rfl (w.heap.size+2) (Jj sa sn sc) sn (iV (nodesOf (ts.take i))) (.mk 1 mw mh z []) O 0 0 (by simp[Act.eval]) (by have h:=(HJ.out.below' v6.out).row;rw[Vu.out] at h;exact h) (by simp[Act.eval]) Fl (Nat.le_trans HJ.out.lt v6.out.size) ?_;intro sl' w5 a1 a2;rw[<- Vu.out] at a1;have av:=dG a1;have hj:=HJ.out.next v6.out a1 a2;have c5:w5.cell? ⟨w.heap.size+1,4,O⟩=I (Jj sa sn sc):=ae hj.1 4;have g5:w5.frozen? ⟨w.heap.size+1,4,O⟩=false:=ai hj.1 4;have qe:Hid (eY w k wd ht (nodesOf (ts.take i)++[.mk 1 mw mh z []]) sl' (w5.setCell ⟨w.heap.size+1,4,O⟩ sl')):=hj.2;clear a1 a2 hj;obtain⟨sb,sd,cq⟩:=av;subst cq)
         | (go_simp;go_at_call 61;refine (zd.out _ _ _ _).mono ?_;rintro e X3 ⟨rfl,aM⟩;have v6:Hid (Below wr.heap.size wr X3):=⟨aM.os,aM.tape,aM.output,aM.size,aM.block⟩;obtain⟨dX,dXa,_⟩:=gB HD.out aM;clear aM))
        all_goals (
         go_wp2
         go_roundw
         case rel=>exact⟨i+1,by omega,by go_num,_,by rw[nf.out];exact qe⟩
         case measure=>simp[intOf];omega)
    . have HF:=HJ.out
      rw[List.take_of_length_le (by rw[Mq.out];omega)] at HF
      obtain⟨sa,sc,av⟩:=dG HF.row
      obtain⟨sn,lp⟩:∃x,(nodesOf ts).length=x:=⟨_,rfl⟩
      rw[lp] at av
      subst av
      have HG:=LY HF HLf.out
      obtain⟨e0,e1,e2,e3,e4⟩:=HF.cells
      obtain⟨q0,q1,q2,q3,q4,f0,f1,f2,f3,f4⟩:=jX HF.res
      have XU:Hid (∀v0 v1 v2 v3 v4,(Node.mk k wd ht 0 (nodesOf ts)).In (fB wr w.heap.size v0 v1 v2 v3 v4) (Jj sa sn sc) ((Value.slice sa sn sc).ownBlock.toList++[])/\(∀q∈(Value.slice sa sn sc).ownBlock.toList++[],w.heap.size<=q)/\Below w.heap.size w (fB wr w.heap.size v0 v1 v2 v3 v4)):=HG
      clear HG HF lp HJ
      go_wp2
      exact bodyPost_ret (v:=.tuple #[.agg #[J Jq k,J Jq wd,J Jq ht,J Jq 0,Jj sa sn sc],.bool true]) (by simp[results,results66,go_sem,q0,q1,q2,q3,q4]) rfl ⟨(XU.out _ _ _ _ _).2.2,.inl ⟨rfl,sa,sn,sc,_,rfl,(XU.out _ _ _ _ _).1,(XU.out (.bool true) (.bool true) (.bool true) (.bool true) (.bool true)).2.1,List.append_nil _⟩⟩
end Go.Proofs.YtejlincnnonhaaaGreat
