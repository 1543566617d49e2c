import Derived.Test.YtejlincnnonhaaaGreatP2
import Derived.Test.YtejlincnnonhaaaGreatP1
import Derived.WalkKit
import Derived.LoopTactic
import Derived.RegionTactic
import Derived.Deep.RegionWith
import Derived.Deep.DrawnRows
import Derived.Deep.RegionHeld3
import Derived.Laws.AppendOwn
import Derived.Deep.RegionLaw
namespace Go.Proofs.YtejlincnnonhaaaGreat
open Go.RowKit Go.Proofs.Tryz
open Value renaming int->J,slice->Jj,pointer->JJ
open IntKind renaming i64->Jq
open Option renaming none->O,some->I
open Ending renaming returned->Jz
open Obj renaming cells->JZ
set_option linter.unusedVariables false
set_option maxRecDepth 100000
set_option maxHeartbeats 16000000
def Box.str (b:Box)(k n:Int):Box:=if k=2 then { b with w:=b.w+n } else { b with h:=b.h+n }
theorem grownBy_set (w:World)(g o:Nat)(v:Value):w.grownBy (w.setCell ⟨g,o,O⟩ v) (I g):=
 ⟨rfl,rfl,rfl,by simp[World.setCell],fun k _ hr=>Below.heap_setCell _ _ _ _ (fun e=>hr (by simp[e]))⟩
theorem sZ (w:World)(g o:Nat)(v:Value)(p:Addr):(w.setCell ⟨g,o,O⟩ v).frozen? p=w.frozen? p:=by
 unfold World.frozen? World.setCell
 by_cases h:p.block=g
 . subst h
   cases hh:w.heap[p.block]? with
   | none=>simp[hh,Array.getElem?_modify]
   | some o=>cases o <;> simp[hh,Array.getElem?_modify]
 . have:g≠p.block:=fun e=>h e.symm
   simp[Array.getElem?_modify,this]
theorem iU (w:World)(g o o':Nat)(v:Value)(h:o≠o'):(w.setCell ⟨g,o,O⟩ v).cell? ⟨g,o',O⟩=w.cell? ⟨g,o',O⟩:=by
 rw[World.cell?_setCell_other]
 simp only[ne_eq,Addr.mk.injEq,not_and]
 intro _ e
 exact absurd e h
theorem AO (w:World)(g o:Nat)(v u:Value)(h:w.cell? ⟨g,o,O⟩=I u):(w.setCell ⟨g,o,O⟩ v).cell? ⟨g,o,O⟩=I v:=World.cell?_setCell_same _ _ _ h
theorem iZ (g:Nat)(b:Box)(k n:Int)(w:World)(h:bP w g b)(h1: -1000000<=b.w/\b.w<=1000000)(h2: -1000000<=b.h/\b.h<=1000000)(h3: -1000000<=n/\n<=1000000):
 Calls prog 41 #[JJ (I ⟨g,0,O⟩),J Jq k,J Jq n] w fun e w'=>e=Jz (.tuple #[])/\bP w' g (b.str k n)/\w.grownBy w' (I g)/\(∀o,4<=o->w'.cell? ⟨g,o,O⟩=w.cell? ⟨g,o,O⟩):=by
 have HB:=zh h
 obtain⟨q0,q1,q2,q3,qf⟩:=h
 have f2:=qf 2 (by decide)
 have f3:=qf 3 (by decide)
 clear qf
 by_cases hk:k=2
 . subst hk
   go_enter func41,ntmps41
   go_wp2
   refine⟨rfl,.tuple #[],(by simp[results,results41,go_sem]),rfl,?_,?_,?_⟩
   . show bP _ _ { b with w:=b.w+n }
     refine⟨?_,?_,?_,?_,fun o ho=>by rw[sZ];exact HB.out.free o ho⟩
     . rw[iU _ _ _ _ _ (by decide)];exact q0
     . rw[iU _ _ _ _ _ (by decide)];exact q1
     . rw[AO _ _ _ _ _ q2]
     . rw[iU _ _ _ _ _ (by decide)];exact q3
   . exact grownBy_set _ _ _ _
   . intro o ho
     rw[iU _ _ _ _ _ (by omega)]
 . have dt:(k==2)=false:=by simpa using hk
   have cg:b.str k n={ b with h:=b.h+n }:=if_neg hk
   rw[cg]
   go_enter func41,ntmps41
   go_wp2
   refine⟨rfl,.tuple #[],(by simp[results,results41,go_sem]),rfl,?_,?_,?_⟩
   . refine⟨?_,?_,?_,?_,fun o ho=>by rw[sZ];exact HB.out.free o ho⟩
     . rw[iU _ _ _ _ _ (by decide)];exact q0
     . rw[iU _ _ _ _ _ (by decide)];exact q1
     . rw[iU _ _ _ _ _ (by decide)];exact q2
     . rw[AO _ _ _ _ _ q3]
   . exact grownBy_set _ _ _ _
   . intro o ho
     rw[iU _ _ _ _ _ (by omega)]
def yX (ts:List Tree):Prop:=ts.length<=200/\∀t∈ts,(1<=t.box.w/\t.box.w<=1000)/\(1<=t.box.h/\t.box.h<=1000)
def bZ (ts:List Tree)(k:Int):Box:=match ts with
 | []=>⟨0,0,0,0⟩
 | t::r=>if k=2 then ⟨0,0,aN (t::r) k,t.box.h⟩ else ⟨0,0,t.box.w,aN (t::r) k⟩
theorem bP.below {W W':World}{g:Nat}{b:Box}(h:bP W g b)(hb:Below W.heap.size W W'):bP W' g b:=by
 have hg:g < W.heap.size:=World.block_lt_of_cell? W _ h.x
 exact⟨(hb.cell (p:=⟨g,0,O⟩) hg).trans h.x,(hb.cell (p:=⟨g,1,O⟩) hg).trans h.y,(hb.cell (p:=⟨g,2,O⟩) hg).trans h.w,(hb.cell (p:=⟨g,3,O⟩) hg).trans h.h,fun o ho=>(hb.frozen (p:=⟨g,o,O⟩) hg).trans (h.free o ho)⟩
theorem bP.lt {W:World}{g:Nat}{b:Box}(h:bP W g b):g < W.heap.size:=World.block_lt_of_cell? W _ h.x
theorem below_grown {a w w':World}{r:Nat}(h:Below a.heap.size a w)(hg:w.grownBy w' (I r))(hr:a.heap.size<=r):Below a.heap.size a w':=h.grown hg h.size (fun k e=>by cases e;exact hr)
theorem bP.new (W:World)(t:TypeId):bP (W.alloc (JZ #[J Jq 0,J Jq 0,J Jq 0,J Jq 0] t)) W.heap.size ⟨0,0,0,0⟩:=by
 have h:=heap_alloc_new W (JZ #[J Jq 0,J Jq 0,J Jq 0,J Jq 0] t)
 exact⟨ae h 0,ae h 1,ae h 2,ae h 3,fun o _=>ai h o⟩
structure Seen (W:World)(g:Nat)(k:Int)(sl:Value)(pg:Nat)(vs:List Value):Prop where
 kind:W.cell? ⟨g,4,O⟩=I (J Jq k)
 parts:W.cell? ⟨g,5,O⟩=I sl
 row:∀(i:Nat) v,vs[i]?=I v->W.cell? ⟨pg,i,O⟩=I v
theorem Seen.below {W W':World}{g:Nat}{k:Int}{sl:Value}{pg:Nat}{vs:List Value}(h:Seen W g k sl pg vs)(hb:Below W.heap.size W W'):Seen W' g k sl pg vs:=
 ⟨(hb.cell (p:=⟨g,4,O⟩) (World.block_lt_of_cell? W _ h.kind)).trans h.kind,(hb.cell (p:=⟨g,5,O⟩) (World.block_lt_of_cell? W _ h.parts)).trans h.parts,fun i v hi=>(hb.cell (p:=⟨pg,i,O⟩) (World.block_lt_of_cell? W _ (h.row i v hi))).trans (h.row i v hi)⟩
theorem jV {W:World}{B g:Nat}{b:Box}{k:Int}{sl:Value}{vs:List Value}(hS:aX W g b k sl)(hR:W.ownsRow B 70 1 sl vs.length vs)(a7:vs≠[]):∃pg cap,sl=Jj (I ⟨pg,0,O⟩) vs.length cap/\Seen W g k sl pg vs:=by
 rcases hR.2 with ⟨_,h0⟩ | ⟨pg,cap,cur,h1,hpB,B6,h5,h6,h7,h8⟩
 . exact absurd (List.length_eq_zero_iff.1 h0) a7
 . refine⟨pg,cap,h1,ae hS 4,ae hS 5,fun i v hi=> ?_⟩
   rw[ae B6]
   have vQ:=(List.getElem?_eq_some_iff.1 hi).1
   rw[<- h8,List.getElem?_take_of_lt (by omega)] at hi
   simpa using hi
theorem below_drewN {B:Nat}{a w:World}(h:Below B a w)(n:Nat):Below B a (w.drewN n):=⟨h.os,h.tape,h.output,h.size,h.block⟩
def jE:List Tree->Int->Int
 | [],_=>0
 | t::ts,k=>t.box.ext k+jE ts k
theorem GZ (ts:List Tree)(k:Int):aN ts k=jE ts k+((ts.length:Int)-1):=by
 induction ts with
 | nil=>rfl
 | cons t ts ih=>unfold aN jE;rw[ih];simp;omega
theorem Ee (ts:List Tree)(k:Int)(i:Nat)(t:Tree)(h:ts[i]?=I t):jE (ts.take (i+1)) k=jE (ts.take i) k+t.box.ext k:=by
 induction ts generalizing i with
 | nil=>simp at h
 | cons a ts ih=>
   cases i with
   | zero=>simp at h;subst h;simp[jE]
   | succ i=>
     simp only[List.getElem?_cons_succ] at h
     have:=ih i h
     simp only[List.take_succ_cons,jE] at this ⊢
     omega
theorem BC (ts:List Tree)(k:Int)(h:∀t∈ts,(1<=t.box.w/\t.box.w<=1000)/\(1<=t.box.h/\t.box.h<=1000)):0<=jE ts k/\jE ts k<=1000*(ts.length:Int):=by
 induction ts with
 | nil=>simp[jE]
 | cons t ts ih=>
   have h1:=ih (fun x hx=>h x (List.mem_cons_of_mem _ hx))
   have h2:=h t (by simp)
   have h3:1<=t.box.ext k/\t.box.ext k<=1000:=by unfold Box.ext;split <;> omega
   simp only[jE,List.length_cons]
   omega
theorem Ou (b:Box)(k x y:Int):(b.str k x).str k y=b.str k (x+y):=by
 unfold Box.str
 split <;> simp[Int.add_assoc]
theorem Ov (g : Nat) (W : World) : (nilAhead 286 45 (JJ (I ⟨g, 0, O⟩)) "mullion/layout.extent").run prog W = .ok (I false) W := by kernel_rfl
theorem Ox (g : Nat) (W : World) : (nilAhead 286 83 (JJ (I ⟨g, 0, O⟩)) "mullion/layout.extent").run prog W = .ok (I false) W := by kernel_rfl
theorem bP.grown {W W':World}{g r:Nat}{b:Box}(h:bP W g b)(hg:W.grownBy W' (I r))(a7:g≠r):bP W' g b:=by
 have hb:W'.heap[g]?=W.heap[g]?:=hg.block g h.lt (by simp;omega)
 have hc:∀o,W'.cell? ⟨g,o,O⟩=W.cell? ⟨g,o,O⟩:=fun o=>World.cell?_of_block (w:=W) (a:=⟨g,o,O⟩) hb
 exact⟨(hc 0).trans h.x,(hc 1).trans h.y,(hc 2).trans h.w,(hc 3).trans h.h,fun o ho=>(World.frozen?_of_block (w:=W) (a:=⟨g,o,O⟩) hb).trans (h.free o ho)⟩
theorem wO {v : Value} {g : Nat} (h : v = aZ g ∨ v = dA g) : ∃ T, v = .iface T (JJ (I ⟨g, 0, O⟩)) ∧ ∀ W, (method 286 T (JJ (I ⟨g, 0, O⟩)) "mullion/layout.extent").run prog W = .ok (38, JJ (I ⟨g, 0, O⟩)) W ∧ (nilAhead 286 T (JJ (I ⟨g, 0, O⟩)) "mullion/layout.extent").run prog W = .ok (I false) W := by
 rcases h with rfl | rfl
 . exact⟨_,rfl,fun W=>⟨nz g W,Ov g W⟩⟩
 . exact⟨_,rfl,fun W=>⟨nC g W,Ox g W⟩⟩
def Oy (w : World) (vs : List Value) (ts : List Tree) : Prop := ∀ (i : Nat) (t : Tree), ts[i]? = I t → ∃ (T : TypeId) (gi : Nat), vs[i]? = I (.iface T (JJ (I ⟨gi, 0, O⟩))) ∧ (∀ W, (method 286 T (JJ (I ⟨gi, 0, O⟩)) "mullion/layout.extent").run prog W = .ok (38, JJ (I ⟨gi, 0, O⟩)) W) ∧ (∀ W, (nilAhead 286 T (JJ (I ⟨gi, 0, O⟩)) "mullion/layout.extent").run prog W = .ok (I false) W) ∧ ∀ k X, Below w.heap.size w X → Calls prog 38 #[JJ (I ⟨gi, 0, O⟩), J Jq k] X fun e w' => e = Jz (J Jq (t.box.ext k)) ∧ X = w'
theorem G5 {w:World}{B:Nat}{ts:List Tree}{vs:List Value}{fs:List Nat}(hP:aB w B ts vs fs):Oy w vs ts:=by
 intro i t ht
 obtain⟨v0,f0,UK,UL,_⟩:=hP.get i t ht
 obtain⟨g0,pS,hb0,_⟩:=UL.own
 obtain⟨T,rfl,hm⟩:=wO pS
 exact⟨T,g0,UK,fun W=>(hm W).1,fun W=>(hm W).2,fun k X h=>dC g0 t.box k X (hb0.below h)⟩
theorem tH (g:Nat)(b:Box)(k:Int)(hk:k=2\/k=3)(sl:Value)(vs:List Value)(fs:List Nat)(t0:Tree)(tr:List Tree)(B:Nat)(w:World)(hS:aX w g b k sl)(hR:w.ownsRow B 70 1 sl vs.length vs)(hP:aB w B (t0::tr) vs fs)(hs:yX (t0::tr)):
 Calls prog 75 #[JJ (I ⟨g,0,O⟩)] w fun e w'=>e=Jz (.agg #[J Jq 0,J Jq 0,J Jq (bZ (t0::tr) k).w,J Jq (bZ (t0::tr) k).h])/\Below w.heap.size w w':=by
 have dk:=hP.length
 obtain⟨pg,cap,av,bX⟩:=jV hS hR (by intro e;rw[e] at dk;cases dk)
 have HX:=zh (G5 hP)
 obtain⟨T0,g0,UK,UM,_,UN⟩:=HX.out 0 t0 rfl
 subst av
 obtain⟨n,hn⟩:∃n,vs.length=n:=⟨_,rfl⟩
 have lc:(t0::tr).length=n:=by rw[<- hn,dk]
 have mU:(0:Int) < (n:Int):=by rw[<- lc];simp
 have hn00:0 < n:=by omega
 have du:n<=200:=by have:=hs.1;omega
 have hnw:IntKind.i64.wrap ((n:Int)-1)=(n:Int)-1:=by rw[IntKind.wrap_i64];omega
 rw[hn] at bX
 obtain⟨ak,vE⟩:∃x,aA k=x:=⟨_,rfl⟩
 obtain⟨ex,hex⟩:∃x,t0.box.ext ak=x:=⟨_,rfl⟩
 have hexb:1<=ex/\ex<=1000:=by
  have:=hs.2 t0 (by simp)
  rw[<- hex]
  unfold Box.ext
  split <;> omega
 have HN:=zh lc
 have As:=zh hs
 have q8:Hid (∀X,Below w.heap.size w X->Seen X g k (Jj (I ⟨pg,0,O⟩) n cap) pg vs):=fun X h=>bX.below h
 have Kd:Hid (∀X,Calls prog 45 #[J Jq k] X fun e w'=>e=Jz (J Jq ak)/\X=w'):=fun X=>vE ▸ pU k X
 have ff:Hid (∀X,Below w.heap.size w X->Calls prog 38 #[JJ (I ⟨g0,0,O⟩),J Jq ak] X fun e w'=>e=Jz (J Jq ex)/\X=w'):=fun X h=>hex ▸ UN ak X h
 have Av:Hid (∀o o' m,Below w.heap.size w (((w.alloc o).alloc o').drewN m)):=fun o o' m=>by
  have:=((Below.refl w.heap.size w).alloc (Nat.le_refl _) o).alloc (by simp) o'
  exact⟨this.1,this.2,this.3,this.4,this.5⟩
 have A9:Hid (∀o t m,bP (((w.alloc o).alloc (JZ #[J Jq 0,J Jq 0,J Jq 0,J Jq 0] t)).drewN m) (w.heap.size+1) ⟨0,0,0,0⟩):=fun o t m=>by
  have:=bP.new (w.alloc o) t
  rw[show (w.alloc o).heap.size=w.heap.size+1 by simp] at this
  exact⟨this.x,this.y,this.w,this.h,this.free⟩
 have LN:Hid (∀t o m,bP (((w.alloc (JZ #[J Jq 0,J Jq 0,J Jq 0,J Jq 0] t)).alloc o).drewN m) w.heap.size ⟨0,0,0,0⟩):=fun t o m=>by
  have h1:=bP.new w t
  have:=h1.below ((Below.refl _ _).alloc (Nat.le_refl _) o)
  exact⟨this.x,this.y,this.w,this.h,this.free⟩
 have kp:Hid (∀X,bP X (w.heap.size+1) ⟨0,0,0,0⟩->Calls prog 41 #[JJ (I ⟨w.heap.size+1,0,O⟩),J Jq ak,J Jq ex] X fun e w'=>e=Jz (.tuple #[])/\bP w' (w.heap.size+1) ((⟨0,0,0,0⟩:Box).str ak ex)/\X.grownBy w' (I (w.heap.size+1))/\(∀o,4<=o->w'.cell? ⟨w.heap.size+1,o,O⟩=X.cell? ⟨w.heap.size+1,o,O⟩)):=fun X h=>iZ _ _ ak ex X h (by decide) (by decide) (by omega)
 have Yh:Hid (aA k=ak/\t0.box.ext ak=ex/\(k=2\/k=3)):=⟨vE,hex,hk⟩
 have e4:∀o o',((w.alloc o).alloc o').cell? ⟨g,4,O⟩=I (J Jq k):=fun o o'=>(q8.out _ (Av.out o o' 0)).kind
 have e5:∀o o',((w.alloc o).alloc o').cell? ⟨g,5,O⟩=I (Jj (I ⟨pg,0,O⟩) n cap):=fun o o'=>(q8.out _ (Av.out o o' 0)).parts
 have e0:∀o o',((w.alloc o).alloc o').cell? ⟨pg,0,O⟩=I (.iface T0 (JJ (I ⟨g0,0,O⟩))):=fun o o'=>(q8.out _ (Av.out o o' 0)).row 0 _ UK
 obtain⟨aw,VK⟩:∃x,(bZ (t0::tr) k).w=x:=⟨_,rfl⟩
 obtain⟨ah,VL⟩:∃x,(bZ (t0::tr) k).h=x:=⟨_,rfl⟩
 have Yi:Hid ((bZ (t0::tr) k).w=aw/\(bZ (t0::tr) k).h=ah):=⟨VK,VL⟩
 rw[VK,VL]
 clear hn dk bX hR hP vE hex hS UK UN lc hs hk VK VL
 go_enter func75,ntmps75
 go_wp2_with fail
 refine bQ 19 _ (by rfl) (by rfl) (by kernel_rfl) (by kernel_rfl) (by kernel_rfl) ?_
 simp only[List.take_succ_cons,List.take_zero]
 repeat (quiet_step (first | (go_at_call 45;exact Calls.quiet_of_same ((Kd.out _).mono fun e w' h=>⟨h.1,h.2.symm⟩)) | (go_at_call 38;exact Calls.quiet_of_same ((ff.out _ (Av.out _ _ _)).mono fun e w' h=>⟨h.1,h.2.symm⟩))))
 refine wpQuiet_nil ?_
 intro m K hK
 go_simp
 go_at_call 41
 refine (kp.out _ (A9.out _ _ _)).mono ?_
 rintro e w1 ⟨rfl,tB,gw,Da⟩
 refine hK _ _ ?_
 clear hK
 clear K
 have P4:Hid (Below w.heap.size w w1):=below_grown (Av.out _ _ m) gw (by omega)
 have RY:Hid (bP w1 w.heap.size ⟨0,0,0,0⟩):=(LN.out _ _ m).grown gw (by omega)
 have yd:Hid (Seen w1 g k (Jj (I ⟨pg,0,O⟩) n cap) pg vs):=q8.out _ P4.out
 have RZ:Hid (∀m,Calls prog 41 #[JJ (I ⟨w.heap.size+1,0,O⟩),J Jq k,J Jq ((n:Int)-1)] (w1.drewN m) fun e w'=>e=Jz (.tuple #[])/\bP w' (w.heap.size+1) (((⟨0,0,0,0⟩:Box).str ak ex).str k ((n:Int)-1))/\(w1.drewN m).grownBy w' (I (w.heap.size+1))/\(∀o,4<=o->w'.cell? ⟨w.heap.size+1,o,O⟩=(w1.drewN m).cell? ⟨w.heap.size+1,o,O⟩)):=fun m=>iZ _ _ k ((n:Int)-1) (w1.drewN m) ⟨tB.x,tB.y,tB.w,tB.h,tB.free⟩ (by unfold Box.str;split <;> constructor <;> simp <;> omega) (by unfold Box.str;split <;> constructor <;> simp <;> omega) (by omega)
 have Qf:Hid (∀m,Below w.heap.size w (w1.drewN m)):=fun m=>below_drewN P4.out m
 have c4:=yd.out.kind
 have c5:=yd.out.parts
 clear gw tB Da e4 e5 e0 kp ff Kd A9 Av UM
 go_wp2_with fail
 refine bQ 10 _ (by rfl) (by rfl) (by kernel_rfl) (by kernel_rfl) (by kernel_rfl) ?_
 simp only[List.take_succ_cons,List.take_zero]
 repeat (quiet_step (fail))
 refine wpQuiet_nil ?_
 intro m2 K hK
 go_simp
 go_at_call 41
 refine (RZ.out m2).mono ?_
 rintro e w2 ⟨rfl,tB,gw,Da⟩
 refine hK _ _ ?_
 clear hK
 clear K
 have R7:Hid (Below w.heap.size w w2):=below_grown (Qf.out m2) gw (by omega)
 have tA:Hid (bP w2 w.heap.size ⟨0,0,0,0⟩):=bP.grown (W:=w1.drewN m2) ⟨RY.out.x,RY.out.y,RY.out.w,RY.out.h,RY.out.free⟩ gw (by omega)
 have j6:Hid (Seen w2 g k (Jj (I ⟨pg,0,O⟩) n cap) pg vs):=q8.out _ R7.out
 have Yj:=zh tB
 have d4:=j6.out.kind
 have d5:=j6.out.parts
 clear gw tB Da c4 c5 RZ Qf yd P4
 have VM:∀x:Int,0<=x->x<=200000->((((⟨0,0,0,0⟩:Box).str ak ex).str k ((n:Int)-1)).str k x).x=0/\((((⟨0,0,0,0⟩:Box).str ak ex).str k ((n:Int)-1)).str k x).y=0/\(0<=((((⟨0,0,0,0⟩:Box).str ak ex).str k ((n:Int)-1)).str k x).w/\((((⟨0,0,0,0⟩:Box).str ak ex).str k ((n:Int)-1)).str k x).w<=300000)/\(0<=((((⟨0,0,0,0⟩:Box).str ak ex).str k ((n:Int)-1)).str k x).h/\((((⟨0,0,0,0⟩:Box).str ak ex).str k ((n:Int)-1)).str k x).h<=300000):=fun x h0 h1=>by
  unfold Box.str
  repeat' split
  all_goals simp
  all_goals omega
 have VN:(((⟨0,0,0,0⟩:Box).str ak ex).str k ((n:Int)-1)).str k (jE (t0::tr) k)=bZ (t0::tr) k:=by
  have h1:=GZ (t0::tr) k
  rw[HN.out] at h1
  obtain⟨h2,h3,h4⟩:=Yh.out
  rcases h4 with rfl | rfl
  . have h5:ak=3:=by rw[<- h2];rfl
    subst h5
    have h6:bZ (t0::tr) 2=⟨0,0,aN (t0::tr) 2,t0.box.h⟩:=rfl
    rw[h6,h1,<- h3]
    simp[Box.str,Box.ext]
    omega
  . have h5:ak=2:=by rw[<- h2];rfl
    subst h5
    have h6:bZ (t0::tr) 3=⟨0,0,t0.box.w,aN (t0::tr) 3⟩:=rfl
    rw[h6,h1,<- h3]
    simp[Box.str,Box.ext]
    omega
 obtain⟨B0,Yk⟩:∃x,((⟨0,0,0,0⟩:Box).str ak ex).str k ((n:Int)-1)=x:=⟨_,rfl⟩
 rw[Yk] at VM VN Yj
 have UO:=zh VM
 have HE0:=zh VN
 clear VM VN Yk
 go_wp2_with fail
 go_loopw [42] (fun v wr=>∃i:Nat,i<=n/\v=J Jq i/\Hid (bP wr (w.heap.size+1) (B0.str k (jE ((t0::tr).take i) k)))/\Hid (Below w.heap.size w wr)/\Hid (bP wr w.heap.size ⟨0,0,0,0⟩)) (fun v _=>n-(intOf v).toNat)
 case atStart=>exact⟨0,Nat.zero_le _,rfl,(by
  show bP _ _ _
  have:B0.str k (jE ((t0::tr).take 0) k)=B0:=by unfold Box.str;split <;> simp[jE]
  rw[this]
  exact Yj.out),R7,tA⟩
 case round=>
  obtain⟨i,hi,rfl,HQ,bB,yk⟩:=hrel
  have vL:Hid (Seen wr g k (Jj (I ⟨pg,0,O⟩) n cap) pg vs):=q8.out _ bB.out
  have Ke:=BC ((t0::tr).take i) k (fun t ht=>As.out.2 t (List.mem_of_mem_take ht))
  have Fl:(((t0::tr).take i).length:Int)<=200:=by rw[List.length_take];omega
  have i8:=UO.out (jE ((t0::tr).take i) k) Ke.1 (by omega)
  have r4:=vL.out.kind
  have r5:=vL.out.parts
  clear d4 d5
  by_cases am:i < n
  . obtain⟨t,ht⟩:∃t,(t0::tr)[i]?=I t:=⟨_,List.getElem?_eq_getElem (by rw[HN.out];exact am)⟩
    obtain⟨T,gi,Ax,hmi,VO,Qt⟩:=HX.out i t ht
    have ri:=vL.out.row i _ Ax
    have HT:=Ee (t0::tr) k i t ht
    have hte:1<=t.box.ext k/\t.box.ext k<=1000:=by
     have:=As.out.2 t (List.mem_of_getElem? ht)
     unfold Box.ext
     split <;> omega
    obtain⟨ei,LO⟩:∃x,t.box.ext k=x:=⟨_,rfl⟩
    rw[LO] at hte HT
    have Yl:Hid (∀X,Below w.heap.size w X->Calls prog 38 #[JJ (I ⟨gi,0,O⟩),J Jq k] X fun e w'=>e=Jz (J Jq ei)/\X=w'):=fun X h=>LO ▸ Qt k X h
    obtain⟨sm,kq⟩:∃x,jE ((t0::tr).take i) k=x:=⟨_,rfl⟩
    rw[kq] at HQ i8 HT Ke
    have R9:Hid (∀m,Calls prog 41 #[JJ (I ⟨w.heap.size+1,0,O⟩),J Jq k,J Jq ei] (wr.drewN m) fun e w'=>e=Jz (.tuple #[])/\bP w' (w.heap.size+1) ((B0.str k sm).str k ei)/\(wr.drewN m).grownBy w' (I (w.heap.size+1))/\(∀o,4<=o->w'.cell? ⟨w.heap.size+1,o,O⟩=(wr.drewN m).cell? ⟨w.heap.size+1,o,O⟩)):=fun m=>iZ _ _ k ei (wr.drewN m) ⟨HQ.out.x,HQ.out.y,HQ.out.w,HQ.out.h,HQ.out.free⟩ (by omega) (by omega) (by omega)
    have Qf:Hid (∀m,Below w.heap.size w (wr.drewN m)):=fun m=>below_drewN bB.out m
    have Db:=zh HT
    clear kq LO Qt ht Ax Ke Fl i8 HQ HT
    go_wp2_with fail
    refine bQ 13 _ (by rfl) (by rfl) (by kernel_rfl) (by kernel_rfl) (by kernel_rfl) ?_
    simp only[List.take_succ_cons,List.take_zero]
    repeat (quiet_step ((go_at_call 38;exact Calls.quiet_of_same ((Yl.out _ (Qf.out _)).mono fun e w' h=>⟨h.1,h.2.symm⟩))))
    refine wpQuiet_nil ?_
    intro m3 K hK
    go_simp
    go_at_call 41
    refine (R9.out m3).mono ?_
    rintro e w3 ⟨rfl,tB,gw,Da⟩
    refine hK _ _ ?_
    clear hK
    clear K
    have cQ:Hid (Below w.heap.size w w3):=below_grown (Qf.out m3) gw (by omega)
    have C6:Hid (bP w3 w.heap.size ⟨0,0,0,0⟩):=bP.grown (W:=wr.drewN m3) ⟨yk.out.x,yk.out.y,yk.out.w,yk.out.h,yk.out.free⟩ gw (by omega)
    have HQ3:Hid (bP w3 (w.heap.size+1) (B0.str k (jE ((t0::tr).take (i+1)) k))):=by
     show bP _ _ _
     rw[Db.out,<- Ou]
     exact tB
    clear tB gw Da R9 Qf Yl
    go_wp2
    go_roundw
    case rel=>exact⟨i+1,by omega,by go_num,HQ3,cQ,C6⟩
    case measure=>simp[intOf];omega
  . have bE:i=n:=by omega
    have UP:Hid (bP wr (w.heap.size+1) (bZ (t0::tr) k)):=by
     show bP _ _ _
     have h:=HQ.out
     rw[List.take_of_length_le (by rw[HN.out];omega),HE0.out] at h
     exact h
    have q9:(bZ (t0::tr) k).x=0/\(bZ (t0::tr) k).y=0:=by
     rcases Yh.out.2.2 with rfl | rfl
     . exact⟨rfl,rfl⟩
     . exact⟨rfl,rfl⟩
    have q0:=UP.out.x
    have q1:=UP.out.y
    have q2:=UP.out.w
    have q3:=UP.out.h
    rw[q9.1] at q0
    rw[q9.2] at q1
    clear q9 Ke Fl i8 HQ bE
    rw[Yi.out.1] at q2
    rw[Yi.out.2] at q3
    have s0:=yk.out.x
    have s1:=yk.out.y
    have s2:=yk.out.w
    have s3:=yk.out.h
    have f0:=yk.out.free 0 (by decide)
    have f1:=yk.out.free 1 (by decide)
    have f2:=yk.out.free 2 (by decide)
    have f3:=yk.out.free 3 (by decide)
    go_wp2
    refine bodyPost_ret (v:=.agg #[J Jq 0,J Jq 0,J Jq aw,J Jq ah]) (by simp[results,results75,go_sem,s0,s1,s2,s3]) rfl ?_
    exact⟨rfl,below_grown (below_grown (below_grown (below_grown bB.out (grownBy_set _ _ _ _) (Nat.le_refl _)) (grownBy_set _ _ _ _) (Nat.le_refl _)) (grownBy_set _ _ _ _) (Nat.le_refl _)) (grownBy_set _ _ _ _) (Nat.le_refl _)⟩
structure OI (w:World)(v:Value)(t:Tree)(T:TypeId)(gi:Nat)(Fs Fa:FuncId):Prop where
 val:v=.iface T (JJ (I ⟨gi,0,O⟩))
 mS : ∀ W, (method 286 T (JJ (I ⟨gi, 0, O⟩)) "mullion/layout.sound").run prog W = .ok (Fs, JJ (I ⟨gi, 0, O⟩)) W
 mA : ∀ W, (method 286 T (JJ (I ⟨gi, 0, O⟩)) "mullion/layout.as").run prog W = .ok (Fa, JJ (I ⟨gi, 0, O⟩)) W
 mE : ∀ W, (method 286 T (JJ (I ⟨gi, 0, O⟩)) "mullion/layout.extent").run prog W = .ok (38, JJ (I ⟨gi, 0, O⟩)) W
 fS:∀a W,(callFunc Fs #[a]).run prog W=.ok (.enter Fs #[a]) W
 fA:∀a c W,(callFunc Fa #[a,c]).run prog W=.ok (.enter Fa #[a,c]) W
 nA : ∀ W, (nilAhead 286 T (JJ (I ⟨gi, 0, O⟩)) "mullion/layout.as").run prog W = .ok (I false) W
 nE : ∀ W, (nilAhead 286 T (JJ (I ⟨gi, 0, O⟩)) "mullion/layout.extent").run prog W = .ok (I false) W
 cS:∀X,Below w.heap.size w X->Calls prog Fs #[JJ (I ⟨gi,0,O⟩)] X fun e w'=>e=Jz (.bool t.sound)/\Below X.heap.size X w'
 cA:∀k X,Below w.heap.size w X->Calls prog Fa #[JJ (I ⟨gi,0,O⟩),J Jq k] X fun e w'=>e=Jz (JJ (if t.bY k=true then I ⟨gi,0,O⟩ else O))/\X=w'
 cE:∀k X,Below w.heap.size w X->Calls prog 38 #[JJ (I ⟨gi,0,O⟩),J Jq k] X fun e w'=>e=Jz (J Jq (t.box.ext k))/\X=w'
theorem QP (a:Value)(W:World):(callFunc 138 #[a]).run prog W=.ok (.enter 138 #[a]) W:=by kernel_rfl
theorem QQ (a:Value)(W:World):(callFunc 146 #[a]).run prog W=.ok (.enter 146 #[a]) W:=by kernel_rfl
theorem QR (a c:Value)(W:World):(callFunc 134 #[a,c]).run prog W=.ok (.enter 134 #[a,c]) W:=by kernel_rfl
theorem QS (a c:Value)(W:World):(callFunc 142 #[a,c]).run prog W=.ok (.enter 142 #[a,c]) W:=by kernel_rfl
def Og (w:World)(vs:List Value)(ts:List Tree):Prop:=∀(i:Nat) (t:Tree),ts[i]?=I t->∃v T gi Fs Fa,vs[i]?=I v/\OI w v t T gi Fs Fa
theorem af {w a b:World}(h:Below w.heap.size w a)(k:Below a.heap.size a b):Below w.heap.size w b:=h.trans (k.mono h.size)
theorem aX.below {W W':World}{g:Nat}{b:Box}{k:Int}{sl:Value}(h:aX W g b k sl)(hb:Below W.heap.size W W'):aX W' g b k sl:=by
 have hg:g < W.heap.size:=World.block_lt_of_cell? W _ h.box.x
 exact (hb.block g hg).trans h
theorem aO (ts:List Tree)(b:Box)(k:Int):∀(i:Nat) (t:Tree),ts[i]?=I t->au ts b k=true->(t.sound&&(!t.bY k&&decide (t.box.ext (aA k)=b.ext (aA k))))=true:=by
 induction ts with
 | nil=>intro i t h;simp at h
 | cons a ts ih=>
   intro i t h hs
   unfold au at hs
   rw[Bool.and_eq_true] at hs
   cases i with
   | zero=>simp at h;subst h;exact hs.1
   | succ i=>exact ih i t (by simpa using h) hs.2
theorem Aw (ts:List Tree)(b:Box)(k:Int):∀(i:Nat) (t:Tree),ts[i]?=I t->au (ts.take i) b k=true->(t.sound&&(!t.bY k&&decide (t.box.ext (aA k)=b.ext (aA k))))=true->au (ts.take (i+1)) b k=true:=by
 induction ts with
 | nil=>intro i t h;simp at h
 | cons a ts ih=>
   intro i t h hs ht
   cases i with
   | zero=>
     simp at h
     subst h
     show au [a] b k=true
     unfold au
     rw[ht]
     rfl
   | succ i=>
     rw[List.take_succ_cons] at hs ⊢
     unfold au at hs ⊢
     rw[Bool.and_eq_true] at hs ⊢
     exact⟨hs.1,ih i t (by simpa using h) hs.2 ht⟩
theorem Tree.aF (t:Tree)(h:t.sound=true):(1<=t.box.w/\t.box.w<=1000)/\(1<=t.box.h/\t.box.h<=1000):=by
 cases t with
 | leaf b p=>
   unfold Tree.sound at h
   simp only[aG,Bool.and_eq_true,decide_eq_true_eq] at h
   exact⟨h.1.1,h.1.2⟩
 | split b k ts=>
   unfold Tree.sound at h
   simp only[aG,Bool.and_eq_true,decide_eq_true_eq] at h
   exact⟨h.1.2.1,h.1.2.2⟩
theorem yR (ts:List Tree)(b:Box)(k:Int)(hl:ts.length<=200)(h:au ts b k=true):yX ts:=by
 refine⟨hl,fun t ht=> ?_⟩
 obtain⟨i,hi⟩:=List.getElem?_of_mem ht
 have:=aO ts b k i t hi h
 rw[Bool.and_eq_true] at this
 exact t.aF this.1
theorem oZ {W:World}{B:Nat}{t:TypeId}{sl:Value}{n:Nat}{vs:List Value}(h:W.ownsRow B t 1 sl n vs):∀g∈sl.ownBlock.toList,g < W.heap.size:=by
 rcases h.2 with ⟨h0,_⟩ | ⟨g,cap,cur,rfl,hb,hg,r⟩
 . intro g hg
   rw[h0] at hg
   simp[Value.ownBlock] at hg
 . intro x hx
   simp[Value.ownBlock] at hx
   subst hx
   exact lt_of_block hg
mutual
theorem Tree.At.lt {W:World}{B:Nat}:∀{t:Tree} {v:Value} {fp:List Nat},t.At W B v fp->∀g∈fp,g < W.heap.size
 | .leaf b p,v,fp,h=>by
   obtain⟨g,h1,h2,rfl⟩:=h
   intro x hx
   simp only[List.mem_cons,List.not_mem_nil,or_false] at hx
   subst hx
   exact lt_of_block h2
 | .split b k ts,v,fp,h=>by
   obtain⟨g,sl,vs,fs,h1,h2,h3,h4,rfl⟩:=h
   intro x hx
   rw[List.mem_cons,List.mem_append] at hx
   rcases hx with rfl | hx | hx
   . exact lt_of_block h2
   . exact oZ h3 x hx
   . exact aB.lt h4 x hx
theorem aB.lt {W:World}{B:Nat}:∀{ts:List Tree} {vs:List Value} {fp:List Nat},aB W B ts vs fp->∀g∈fp,g < W.heap.size
 | [],vs,fp,h=>by
   intro x hx
   rw[h.2] at hx
   cases hx
 | t::ts,vs,fp,h=>by
   obtain⟨v,vs',f,f',h1,h2,h3,rfl⟩:=h
   intro x hx
   rw[List.mem_append] at hx
   rcases hx with hx | hx
   . exact Tree.At.lt h2 x hx
   . exact aB.lt h3 x hx
end
theorem Tree.At.below {W W':World}{B:Nat}{t:Tree}{v:Value}{fp:List Nat}(h:t.At W B v fp)(hb:Below W.heap.size W W'):t.At W' B v fp:=h.keep fun g hg=>hb.block g (h.lt g hg)
theorem aB.below {W W':World}{B:Nat}{ts:List Tree}{vs:List Value}{fp:List Nat}(h:aB W B ts vs fp)(hb:Below W.heap.size W W'):aB W' B ts vs fp:=h.keep fun g hg=>hb.block g (h.lt g hg)
theorem own_below {W W':World}{B:Nat}{t:TypeId}{sl:Value}{n:Nat}{vs:List Value}(h:W.ownsRow B t 1 sl n vs)(hb:Below W.heap.size W W'):W'.ownsRow B t 1 sl n vs:=dU h fun g hg=>hb.block g (oZ h g hg)
theorem Ia (ts:List Tree)(k:Int)(hk:k=2\/k=3)(hn:ts≠[]):(bZ ts k).ext k=aN ts k:=by
 cases ts with
 | nil=>exact absurd rfl hn
 | cons t r=>rcases hk with rfl | rfl <;> rfl
theorem Cm (g:Nat)(b:Box)(k:Int)(hk:k=2\/k=3)(sl:Value)(vs:List Value)(fs:List Nat)(ts:List Tree)(B:Nat)(w:World)(hS:aX w g b k sl)(hR:w.ownsRow B 70 1 sl vs.length vs)(hP:aB w B ts vs fs)(hn:ts≠[])(hs:yX ts)(X:World)(hX:Below w.heap.size w X):
 Calls prog 75 #[JJ (I ⟨g,0,O⟩)] X fun e w'=>e=Jz (.agg #[J Jq 0,J Jq 0,J Jq (bZ ts k).w,J Jq (bZ ts k).h])/\Below X.heap.size X w':=by
 cases ts with
 | nil=>exact absurd rfl hn
 | cons t r=>exact tH g b k hk sl vs fs t r B X (hS.below hX) (own_below hR hX) (hP.below hX) hs
theorem ED (g:Nat)(b:Box)(k:Int)(hk:k=2\/k=3)(sl:Value)(vs:List Value)(fs:List Nat)(ts:List Tree)(B:Nat)(w:World)(hS:aX w g b k sl)(hR:w.ownsRow B 70 1 sl vs.length vs)(hP:aB w B ts vs fs)(hX:Og w vs ts)(h2:2<=ts.length)(hl:ts.length<=200)(hf:(aG b.w&&aG b.h)=true):
 Calls prog 146 #[JJ (I ⟨g,0,O⟩)] w fun e w'=>e=Jz (.bool (Tree.split b k ts).sound)/\Below w.heap.size w w':=by
 have dk:=hP.length
 obtain⟨pg,cap,av,bX⟩:=jV hS hR (by intro e;rw[e] at dk;simp at dk;omega)
 subst av
 obtain⟨n,hn⟩:∃n,vs.length=n:=⟨_,rfl⟩
 rw[hn] at bX
 have lc:ts.length=n:=by rw[<- hn,dk]
 have fe:(2:Int)<=(n:Int):=by omega
 have K0:n<=200:=by omega
 have aE:decide ((n:Int) < 2)=false:=by simp;omega
 have HN:=zh lc
 have HX:=zh hX
 have q8:Hid (∀X,Below w.heap.size w X->Seen X g k (Jj (I ⟨pg,0,O⟩) n cap) pg vs):=fun X h=>bX.below h
 have e8:Hid (∀X,Below w.heap.size w X->bP X g b):=fun X h=>hS.box.below h
 have Rc:Hid (∀X,Below w.heap.size w X->Calls prog 135 #[JJ (I ⟨g,0,O⟩)] X fun e w'=>e=Jz (.bool true)/\X=w'):=fun X h=>hf ▸ Au g b X (hS.box.below h)
 have c5:=bX.parts
 have MU:Hid (aX w g b k (Jj (I ⟨pg,0,O⟩) vs.length cap)/\w.ownsRow B 70 1 (Jj (I ⟨pg,0,O⟩) vs.length cap) vs.length vs/\aB w B ts vs fs):=⟨hS,hR,hP⟩
 obtain⟨want,Ch⟩:∃x,(Tree.split b k ts).sound=x:=⟨_,rfl⟩
 have HW:=zh Ch
 rw[Ch]
 clear Ch dk hS hR hP hX hn lc bX
 go_enter func146,ntmps146
 go_wp2_with (go_at_call 135;refine (Rc.out _ (Below.refl _ _)).mono ?_;rintro e w1 ⟨rfl,rfl⟩)
 go_loopw [24] (fun v wr=>∃i:Nat,i<=n/\v=J Jq i/\Hid (au (ts.take i) b k=true)/\Hid (Below w.heap.size w wr)) (fun v _=>n-(intOf v).toNat)
 case atStart=>exact⟨0,Nat.zero_le _,rfl,(by show au (ts.take 0) b k=true;rfl),Below.refl _ _⟩
 case round=>
  obtain⟨i,hi,rfl,HA,bB⟩:=hrel
  clear c5
  have vL:=q8.out _ bB.out
  have r4:=vL.kind
  have r5:=vL.parts
  by_cases am:i < n
  . obtain⟨t,ht⟩:∃t,ts[i]?=I t:=⟨_,List.getElem?_eq_getElem (by rw[HN.out];exact am)⟩
    obtain⟨v,T,gi,Fs,Fa,Ax,HP⟩:=HX.out i t ht
    have ri:=vL.row i _ Ax
    have de:=HP.val
    subst de
    have j5:=aO ts b k i t ht
    have nf:=Aw ts b k i t ht HA.out
    have m1:=HP.mS
    have m2:=HP.mA
    have m3:=HP.mE
    have m4:=HP.nA
    have m5:=HP.nE
    have m6:=HP.fS
    have m7:=HP.fA
    have SS:Hid (∀X,Below w.heap.size w X->Calls prog Fs #[JJ (I ⟨gi,0,O⟩)] X fun e w'=>e=Jz (.bool t.sound)/\Below w.heap.size w w'):=fun X h=>(HP.cS X h).mono fun e w' h2=>⟨h2.1,af h h2.2⟩
    have iu:Hid (∀X,Below w.heap.size w X->Calls prog Fa #[JJ (I ⟨gi,0,O⟩),J Jq k] X fun e w'=>e=Jz (JJ (if t.bY k=true then I ⟨gi,0,O⟩ else O))/\Below w.heap.size w w'):=fun X h=>(HP.cA k X h).mono fun e w' h2=>⟨h2.1,h2.2 ▸ h⟩
    obtain⟨ak,vE⟩:∃x,aA k=x:=⟨_,rfl⟩
    have U3:Hid (∀X,Below w.heap.size w X->Calls prog 45 #[J Jq k] X fun e w'=>e=Jz (J Jq ak)/\Below w.heap.size w w'):=fun X h=>(vE ▸ pU k X).mono fun e w' h2=>⟨h2.1,h2.2 ▸ h⟩
    obtain⟨e1,lP⟩:∃x,t.box.ext ak=x:=⟨_,rfl⟩
    obtain⟨e2,jx⟩:∃x,b.ext ak=x:=⟨_,rfl⟩
    have AI:Hid (∀X,Below w.heap.size w X->Calls prog 38 #[JJ (I ⟨gi,0,O⟩),J Jq ak] X fun e w'=>e=Jz (J Jq e1)/\Below w.heap.size w w'):=fun X h=>(lP ▸ HP.cE ak X h).mono fun e w' h2=>⟨h2.1,h2.2 ▸ h⟩
    have vD:Hid (∀X,Below w.heap.size w X->Calls prog 38 #[JJ (I ⟨g,0,O⟩),J Jq ak] X fun e w'=>e=Jz (J Jq e2)/\Below w.heap.size w w'):=fun X h=>(jx ▸ dC g b ak X (e8.out X h)).mono fun e w' h2=>⟨h2.1,h2.2 ▸ h⟩
    rw[vE,lP,jx] at j5 nf
    clear vE lP jx HP Ax
    obtain⟨ks,dj⟩:∃x,t.bY k=x:=⟨_,rfl⟩
    obtain⟨sb,Dg⟩:∃x,t.sound=x:=⟨_,rfl⟩
    rw[dj] at iu j5 nf
    rw[Dg] at SS j5 nf
    clear dj Dg
    have zp:=zh j5
    have G3:=zh nf
    clear j5 nf ht vL
    cases sb
    . have SU:Hid (want=false):=by
       show _=_
       rw[<- HW.out]
       cases hq:au ts b k with
       | false=>unfold Tree.sound;rw[hq];simp
       | true=>exact absurd (zp.out hq) (by simp)
      go_wp2_with fail
      refine aQ (fun X=>Below w.heap.size w X) (by kernel_rfl) (by kernel_rfl) bB.out.drew ?_
      repeat (first
       | (refine dJ (v:= ?_) (by rfl) (fun X hX=> ?_) ?_
          rotate_left
          . have x4:=(q8.out X hX).kind
            go_simp
            all_goals first
             | with_reducible rfl
             | with_reducible exact SS.out X hX
             | with_reducible exact iu.out X hX
             | with_reducible exact U3.out X hX
             | with_reducible exact AI.out X hX
             | with_reducible exact vD.out X hX
          intro K hK
          go_simp
          refine hK.out _ ?_
          clear hK K)
       | (refine lW (by rfl) ?_
          intro K hK
          go_simp
          refine hK.out _ ?_
          clear hK K))
      refine fK ?_
      intro w2 eD
      have aD:=zh eD
      clear eD
      go_wp2
      go_ret
      rw[SU.out]
      exact⟨rfl,aD.out⟩
    . cases ks
      . by_cases U4:e1=e2
        . simp only[Bool.false_eq_true,if_false] at iu
          have hed:decide (e1=e2)=true:=by simp[U4]
          have Db:Hid (au (ts.take (i+1)) b k=true):=G3.out (by simp[U4])
          subst U4
          clear zp G3 hed
          go_wp2_with fail
          refine aQ (fun X=>Below w.heap.size w X) (by kernel_rfl) (by kernel_rfl) bB.out.drew ?_
          repeat (first
           | (refine dJ (v:= ?_) (by rfl) (fun X hX=> ?_) ?_
              rotate_left
              . have x4:=(q8.out X hX).kind
                go_simp
                all_goals first
                 | with_reducible rfl
                 | with_reducible exact SS.out X hX
                 | with_reducible exact iu.out X hX
                 | with_reducible exact U3.out X hX
                 | with_reducible exact AI.out X hX
                 | with_reducible exact vD.out X hX
              intro K hK
              go_simp
              refine hK.out _ ?_
              clear hK K)
           | (refine lW (by rfl) ?_
              intro K hK
              go_simp
              refine hK.out _ ?_
              clear hK K))
          refine fK ?_
          intro w2 eD
          have aD:=zh eD
          clear eD
          go_wp2
          go_roundw
          case rel=>exact⟨i+1,by omega,by go_num,Db,aD⟩
          case measure=>simp[intOf];omega
        . simp only[Bool.false_eq_true,if_false] at iu
          have SU:Hid (want=false):=by
           show _=_
           rw[<- HW.out]
           cases hq:au ts b k with
           | false=>unfold Tree.sound;rw[hq];simp
           | true=>exact absurd (zp.out hq) (by simp[U4])
          clear zp G3
          go_wp2_with fail
          refine aQ (fun X=>Below w.heap.size w X) (by kernel_rfl) (by kernel_rfl) bB.out.drew ?_
          repeat (first
           | (refine dJ (v:= ?_) (by rfl) (fun X hX=> ?_) ?_
              rotate_left
              . have x4:=(q8.out X hX).kind
                go_simp
                all_goals first
                 | with_reducible rfl
                 | with_reducible exact SS.out X hX
                 | with_reducible exact iu.out X hX
                 | with_reducible exact U3.out X hX
                 | with_reducible exact AI.out X hX
                 | with_reducible exact vD.out X hX
              intro K hK
              go_simp
              refine hK.out _ ?_
              clear hK K)
           | (refine lW (by rfl) ?_
              intro K hK
              go_simp
              refine hK.out _ ?_
              clear hK K))
          refine fK ?_
          intro w2 eD
          have aD:=zh eD
          clear eD
          go_wp2
          go_ret
          rw[SU.out]
          exact⟨rfl,aD.out⟩
      . simp only[if_true] at iu
        have SU:Hid (want=false):=by
         show _=_
         rw[<- HW.out]
         cases hq:au ts b k with
         | false=>unfold Tree.sound;rw[hq];simp
         | true=>exact absurd (zp.out hq) (by simp)
        clear zp G3
        go_wp2_with fail
        refine aQ (fun X=>Below w.heap.size w X) (by kernel_rfl) (by kernel_rfl) bB.out.drew ?_
        repeat (first
         | (refine dJ (v:= ?_) (by rfl) (fun X hX=> ?_) ?_
            rotate_left
            . have x4:=(q8.out X hX).kind
              go_simp
              all_goals first
               | with_reducible rfl
               | with_reducible exact SS.out X hX
               | with_reducible exact iu.out X hX
               | with_reducible exact U3.out X hX
               | with_reducible exact AI.out X hX
               | with_reducible exact vD.out X hX
            intro K hK
            go_simp
            refine hK.out _ ?_
            clear hK K)
         | (refine lW (by rfl) ?_
            intro K hK
            go_simp
            refine hK.out _ ?_
            clear hK K))
        refine fK ?_
        intro w2 eD
        have aD:=zh eD
        clear eD
        go_wp2
        go_ret
        rw[SU.out]
        exact⟨rfl,aD.out⟩
  . have bE:i=n:=by omega
    have sk:Hid (au ts b k=true):=by
     have h:=HA.out
     rw[List.take_of_length_le (by rw[HN.out];omega)] at h
     exact h
    clear HA
    have a7:ts≠[]:=by intro e;have:=HN.out;rw[e] at this;simp at this;omega
    have MY:=Cm g b k hk (Jj (I ⟨pg,0,O⟩) vs.length cap) vs fs ts B w MU.out.1 MU.out.2.1 MU.out.2.2 a7 (yR ts b k (by rw[HN.out];omega) sk.out)
    have ju:=Ia ts k hk a7
    obtain⟨bb,D3⟩:∃x,bZ ts k=x:=⟨_,rfl⟩
    rw[D3] at MY ju
    have HAr:=zh MY
    have M1:=zh ju
    clear D3 MY ju a7
    subst bE
    clear am
    go_wp2_with (go_at_call 75;refine (HAr.out _ bB.out).mono ?_;rintro e w2 ⟨rfl,eD⟩;have aD:Hid (Below w.heap.size w w2):=af bB.out eD;clear eD)
    have ft:=heap_alloc_new w2 (JZ #[J Jq 0,J Jq 0,J Jq bb.w,J Jq bb.h] 47)
    have i8:bP (w2.alloc (JZ #[J Jq 0,J Jq 0,J Jq bb.w,J Jq bb.h] 47)) w2.heap.size ⟨0,0,bb.w,bb.h⟩:=⟨ae ft 0,ae ft 1,ae ft 2,ae ft 3,fun o _=>ai ft o⟩
    have qu:Below w.heap.size w (w2.alloc (JZ #[J Jq 0,J Jq 0,J Jq bb.w,J Jq bb.h] 47)):=aD.out.alloc aD.out.size _
    clear ft bB r4 r5 vL
    obtain⟨W3,K1⟩:∃W3,w2.alloc (JZ #[J Jq 0,J Jq 0,J Jq bb.w,J Jq bb.h] 47)=W3:=⟨_,rfl⟩
    obtain⟨N,hN⟩:∃N,w2.heap.size=N:=⟨_,rfl⟩
    rw[K1] at i8 qu
    rw[hN] at i8
    rw[K1,hN]
    clear K1 hN aD
    have cQ:=zh qu
    obtain⟨e1,lP⟩:∃x,bb.ext k=x:=⟨_,rfl⟩
    obtain⟨e2,jx⟩:∃x,b.ext k=x:=⟨_,rfl⟩
    have Hk:Hid (∀X,Below W3.heap.size W3 X->X.cell? ⟨g,4,O⟩=I (J Jq k)):=fun X h=>(q8.out X (af qu h)).kind
    have SV:Hid (∀X,Below W3.heap.size W3 X->Calls prog 38 #[JJ (I ⟨N,0,O⟩),J Jq k] X fun e w'=>e=Jz (J Jq e1)/\Below W3.heap.size W3 w'):=fun X h=>(dC N ⟨0,0,bb.w,bb.h⟩ k X (i8.below h)).mono fun e w' h2=>⟨h2.1.trans (by rw[<- lP];rfl),h2.2 ▸ h⟩
    have Hc2:Hid (∀X,Below W3.heap.size W3 X->Calls prog 38 #[JJ (I ⟨g,0,O⟩),J Jq k] X fun e w'=>e=Jz (J Jq e2)/\Below W3.heap.size W3 w'):=fun X h=>(jx ▸ dC g b k X (e8.out X (af qu h))).mono fun e w' h2=>⟨h2.1,h2.2 ▸ h⟩
    have BW:Hid (want=decide (e1=e2)):=by
     show _=_
     rw[<- HW.out,<- lP,<- jx,M1.out]
     unfold Tree.sound
     rw[sk.out,hf,decide_eq_true h2]
     rfl
    clear qu i8 lP jx
    refine aQ (fun X=>Below W3.heap.size W3 X) (by kernel_rfl) (by kernel_rfl) (Below.refl _ _).drew ?_
    repeat (
     refine dJ (v:= ?_) (by rfl) (fun X hX=> ?_) ?_
     rotate_left
     . have x4:=Hk.out X hX
       go_simp
       all_goals first | with_reducible rfl | with_reducible exact SV.out X hX | with_reducible exact Hc2.out X hX
     intro K hK
     go_simp
     refine hK.out _ ?_
     clear hK K)
    refine fK ?_
    intro w4 eI
    have gr:=zh (af cQ.out eI)
    clear eI
    go_wp2
    go_ret
    rw[BW.out]
    exact⟨oV rfl,gr.out⟩
theorem LP (g:Nat)(b:Box)(k:Int)(sl:Value)(vs:List Value)(B:Nat)(w:World)(hS:aX w g b k sl)(hR:w.ownsRow B 70 1 sl vs.length vs)(h2:vs.length < 2):
 Calls prog 146 #[JJ (I ⟨g,0,O⟩)] w fun e w'=>e=Jz (.bool false)/\Below w.heap.size w w':=by
 have c5:w.cell? ⟨g,5,O⟩=I sl:=ae hS 5
 obtain⟨n,hn⟩:∃n,vs.length=n:=⟨_,rfl⟩
 rw[hn] at hR h2
 have aE:((n:Int) < 2):=by omega
 clear hS hn
 rcases hR.2 with ⟨rfl,h0⟩ | ⟨pg,cap,cur,rfl,_⟩
 . clear hR h0 aE h2
   go_enter func146,ntmps146
   go_wp2
   all_goals go_ret
   all_goals exact⟨rfl,Below.refl _ _⟩
 . clear hR h2
   go_enter func146,ntmps146
   go_wp2
   all_goals go_ret
   all_goals exact⟨rfl,Below.refl _ _⟩
theorem FD (g:Nat)(b:Box)(k:Int)(sl:Value)(vs:List Value)(B:Nat)(w:World)(hS:aX w g b k sl)(hR:w.ownsRow B 70 1 sl vs.length vs)(h2:2<=vs.length)(hf:(aG b.w&&aG b.h)=false):
 Calls prog 146 #[JJ (I ⟨g,0,O⟩)] w fun e w'=>e=Jz (.bool false)/\Below w.heap.size w w':=by
 have c5:w.cell? ⟨g,5,O⟩=I sl:=ae hS 5
 have Rc:Hid (Calls prog 135 #[JJ (I ⟨g,0,O⟩)] w fun e w'=>e=Jz (.bool false)/\w=w'):=hf ▸ Au g b w hS.box
 obtain⟨n,hn⟩:∃n,vs.length=n:=⟨_,rfl⟩
 rw[hn] at hR h2
 have aE:¬((n:Int) < 2):=by omega
 clear hS hn
 rcases hR.2 with ⟨rfl,h0⟩ | ⟨pg,cap,cur,rfl,_⟩
 . omega
 . clear hR h2
   go_enter func146,ntmps146
   go_wp2_with (go_at_call 135;refine Rc.out.mono ?_;rintro e w1 ⟨rfl,rfl⟩)
   all_goals go_ret
   all_goals exact⟨rfl,Below.refl _ _⟩
mutual
def Tree.fine:Tree->Prop
 | .leaf _ _=>True
 | .split _ k ts=>(k=2\/k=3)/\ts.length<=200/\Af ts
def Af:List Tree->Prop
 | []=>True
 | t::ts=>t.fine/\Af ts
end
theorem QX (g : Nat) (W : World) : (nilAhead 286 45 (JJ (I ⟨g, 0, O⟩)) "mullion/layout.as").run prog W = .ok (I false) W := by kernel_rfl
theorem QY (g : Nat) (W : World) : (nilAhead 286 83 (JJ (I ⟨g, 0, O⟩)) "mullion/layout.as").run prog W = .ok (I false) W := by kernel_rfl
theorem Qr (g : Nat) (W : World) : (nilAhead 286 45 (JJ (I ⟨g, 0, O⟩)) "mullion/layout.extent").run prog W = .ok (I false) W := by kernel_rfl
theorem Qs (g : Nat) (W : World) : (nilAhead 286 83 (JJ (I ⟨g, 0, O⟩)) "mullion/layout.extent").run prog W = .ok (I false) W := by kernel_rfl
theorem bD.below {W W':World}{g:Nat}{b:Box}{p:Int}(h:bD W g b p)(hb:Below W.heap.size W W'):bD W' g b p:=(hb.block g (lt_of_block h)).trans h
theorem yU {P:Program}{F:FuncId}{vs:Array Value}{X:World}{r:Bool}(h:Calls P F vs X fun e w'=>e=Jz (.bool r)/\X=w'):Calls P F vs X fun e w'=>e=Jz (.bool r)/\Below X.heap.size X w':=h.mono fun e w' h2=>⟨h2.1,h2.2 ▸ Below.refl _ _⟩
mutual
theorem Tree.At.JS:∀{t:Tree} {w:World} {B:Nat} {v:Value} {fp:List Nat},t.At w B v fp->t.fine->∃T gi Fs Fa,OI w v t T gi Fs Fa
 | .leaf b p,w,B,v,fp,h,_=>by
   obtain⟨g,rfl,h2,rfl⟩:=h
   exact⟨_,g,_,_,{ val:=rfl,mS:=O9 g,mA:=QZ g,mE:=nz g,fS:=QP,fA:=QR,nA:=QX g,nE:=Qr g,cS:=fun X hX=>yU (IL g b p X (h2.below hX)),cA:=fun k X _=>Pg g k X,cE:=fun k X hX=>dC g b k X (h2.box.below hX) }⟩
 | .split b k ts,w,B,v,fp,h,qb=>by
   obtain⟨g,sl,vs,fs,rfl,h2,h3,h4,rfl⟩:=h
   refine⟨_,g,_,_,{ val:=rfl,mS:=Ph g,mA:=Q3 g,mE:=nC g,fS:=QQ,fA:=QS,nA:=QY g,nE:=Qs g,cS:=fun X hX=> ?_,cA:=fun j X hX=> ?_,cE:=fun j X hX=>dC g b j X (h2.box.below hX) }⟩
   . have AW:=h2.below hX
     have Uj:=own_below h3 hX
     have Vr:=h4.below hX
     have hl:=h4.length
     by_cases hn:vs.length < 2
     . refine (LP g b k sl vs B X AW Uj hn).mono fun e w' h5=>⟨h5.1.trans (oV ?_),h5.2⟩
       unfold Tree.sound
       rw[decide_eq_false (by omega)]
       rfl
     . cases hq:(aG b.w&&aG b.h) with
       | false=>
         refine (FD g b k sl vs B X AW Uj (by omega) hq).mono fun e w' h5=>⟨h5.1.trans (oV ?_),h5.2⟩
         unfold Tree.sound
         rw[hq,Bool.and_false]
         rfl
       | true=>exact ED g b k qb.1 sl vs fs ts B X AW Uj Vr (aB.Jt Vr qb.2.2) (by omega) qb.2.1 hq
   . refine (NV g b k sl j X (h2.below hX)).mono fun e w' h5=>⟨h5.1.trans ?_,h5.2⟩
     show Ending.returned (JJ (if k=j then _ else _))=Ending.returned (JJ (if decide (k=j)=true then _ else _))
     by_cases hk:k=j <;> simp[hk]
theorem aB.Jt:∀{ts:List Tree} {w:World} {B:Nat} {vs:List Value} {fp:List Nat},aB w B ts vs fp->Af ts->Og w vs ts
 | [],w,B,vs,fp,h,_=>by
   intro i t hi
   simp at hi
 | t::ts,w,B,vs,fp,h,qb=>by
   obtain⟨v,vs',f,f',rfl,h2,h3,rfl⟩:=h
   have h4:=Tree.At.JS h2 qb.1
   have h5:=aB.Jt h3 qb.2
   intro i t' hi
   cases i with
   | zero=>
     simp at hi
     subst hi
     obtain⟨T,gi,Fs,Fa,hp⟩:=h4
     exact⟨v,T,gi,Fs,Fa,rfl,hp⟩
   | succ i=>exact h5 i t' (by simpa using hi)
end
theorem PI (g : Nat) (W : World) : (method 286 45 (JJ (I ⟨g, 0, O⟩)) "mullion/layout.move").run prog W = .ok (136, JJ (I ⟨g, 0, O⟩)) W := by kernel_rfl
theorem PK (g : Nat) (W : World) : (method 286 45 (JJ (I ⟨g, 0, O⟩)) "mullion/layout.tell").run prog W = .ok (139, JJ (I ⟨g, 0, O⟩)) W := by kernel_rfl
theorem bD.set {W:World}{g:Nat}{b b':Box}{p:Int}(h:bD W g b p)(o:Nat)(v:Value)(hv:(wV b p).setIfInBounds o v=wV b' p):bD (W.setCell ⟨g,o,O⟩ v) g b' p:=by
 have am:g < W.heap.size:=lt_of_block h
 have h':W.heap[g]=.cells (wV b p) 49 (0,0):=by unfold bD at h;simpa [Array.getElem?_eq_getElem am] using h
 show (W.heap.modify g _)[g]?=_
 rw[Array.getElem?_eq_getElem (by simpa using am),Array.getElem_modify_self,h',<- hv]
 rfl
theorem Hy (g:Nat)(b:Box)(p:Int)(x y:Int)(w:World)(h:bD w g b p):
 Calls prog 136 #[JJ (I ⟨g,0,O⟩),J Jq x,J Jq y] w fun e w'=>e=Jz (.tuple #[])/\bD w' g { b with x:=x,y:=y } p/\w.grownBy w' (I g):=by
 obtain⟨q0,q1,q2,q3,hf⟩:=h.box
 have f0:=hf 0 (by omega)
 have f1:=hf 1 (by omega)
 have HL:=zh h
 clear h hf
 go_enter func136,ntmps136
 go_wp2
 refine⟨rfl,.tuple #[],(by simp[results,results136,go_sem]),rfl,(HL.out.set 0 (J Jq x) (b':={ b with x:=x }) rfl).set 1 (J Jq y) (b':={ b with x:=x,y:=y }) rfl,⟨rfl,rfl,rfl,by simp[World.setCell],fun k _ hr=> ?_⟩⟩
 exact (Below.heap_setCell _ _ _ _ (fun e=>hr (by simp[e]))).trans (Below.heap_setCell _ _ _ _ (fun e=>hr (by simp[e])))
theorem F9 (g:Nat)(b:Box)(d k p:Int)(w:World)(h:bP w g b)(am:g < w.heap.size):
 Calls prog 141 #[JJ (I ⟨g,0,O⟩),J Jq d,J Jq k,J Jq p] w fun e w'=>e=Jz (.agg #[J Jq d,J Jq k,J Jq b.x,J Jq b.y,J Jq b.w,J Jq b.h,J Jq p])/\Below w.heap.size w w':=by
 obtain⟨q0,q1,q2,q3,_⟩:=h
 go_enter func141,ntmps141
 go_wp2_with fail
 go_region_held3 (fun W'=>W'.cell? ⟨g,0,O⟩=I (J Jq b.x)/\W'.cell? ⟨g,1,O⟩=I (J Jq b.y)/\W'.cell? ⟨g,2,O⟩=I (J Jq b.w)/\W'.cell? ⟨g,3,O⟩=I (J Jq b.h)) (go_keep) (fail)
 all_goals go_wp2
 all_goals refine bodyPost_ret (v:=.agg #[J Jq d,J Jq k,J Jq b.x,J Jq b.y,J Jq b.w,J Jq b.h,J Jq p]) (by simp[results,results141,go_sem]) rfl ?_
 all_goals exact⟨rfl,((Below.refl _ _).alloc (Nat.le_refl _) _).drew⟩
structure But (S:List Nat)(w w':World):Prop where
 os:w'.os=w.os
 tape:w'.tape=w.tape
 output:w'.output=w.output
 size:w.heap.size<=w'.heap.size
 block:∀k,k < w.heap.size->k ∉ S->w'.heap[k]?=w.heap[k]?
theorem But.refl (S:List Nat)(w:World):But S w w:=⟨rfl,rfl,rfl,Nat.le_refl _,fun _ _ _=>rfl⟩
theorem But.trans {S:List Nat}{a b c:World}(h:But S a b)(k:But S b c):But S a c:=
 ⟨k.os.trans h.os,k.tape.trans h.tape,k.output.trans h.output,Nat.le_trans h.size k.size,fun j hj hs=>(k.block j (Nat.lt_of_lt_of_le hj h.size) hs).trans (h.block j hj hs)⟩
theorem But.mono {S T:List Nat}{a b:World}(h:But S a b)(hs:∀k,k∈S->k∈T):But T a b:=⟨h.os,h.tape,h.output,h.size,fun k hk hn=>h.block k hk (fun e=>hn (hs k e))⟩
theorem But.grown {a b:World}{g:Nat}(h:a.grownBy b (I g)):But [g] a b:=⟨h.os,h.tape,h.output,h.size,fun k hk hn=>h.block k hk (by intro e;cases e;simp at hn)⟩
theorem But.drew {S:List Nat}{a b:World}(h:But S a b):But S a b.drew:=⟨h.os,h.tape,h.output,h.size,h.block⟩
theorem Tree.At.but {W W':World}{B:Nat}{t:Tree}{v:Value}{fp S:List Nat}(h:t.At W B v fp)(hb:But S W W')(hd:∀g∈fp,g ∉ S):t.At W' B v fp:=h.keep fun g hg=>hb.block g (h.lt g hg) (hd g hg)
theorem aB.but {W W':World}{B:Nat}{ts:List Tree}{vs:List Value}{fp S:List Nat}(h:aB W B ts vs fp)(hb:But S W W')(hd:∀g∈fp,g ∉ S):aB W' B ts vs fp:=h.keep fun g hg=>hb.block g (h.lt g hg) (hd g hg)
theorem aB.one {W:World}{B:Nat}:∀{ts:List Tree} {vs:List Value} {fp:List Nat},aB W B ts vs fp->fp.Nodup->∀(i:Nat) t,ts[i]?=I t->
 ∃v f,vs[i]?=I v/\t.At W B v f/\f.Nodup/\(∀x∈f,x∈fp)/\∀W' t',But f W W'->t'.At W' B v f->aB W' B (ts.set i t') vs fp
 | [],vs,fp,h,_,i,t,hi=>by cases hi
 | t::ts,vs,fp,h,hn,0,t',hi=>by
   obtain⟨v,vs',f,f',rfl,h2,h3,rfl⟩:=h
   cases hi
   obtain⟨n1,n2,n3⟩:=List.nodup_append.1 hn
   refine⟨v,f,rfl,h2,n1,fun x hx=>List.mem_append_left _ hx,fun W' t' hb ht=>⟨v,vs',f,f',rfl,ht,h3.but hb fun g hg hf=>n3 g hf g hg rfl,rfl⟩⟩
 | t::ts,vs,fp,h,hn,i+1,t',hi=>by
   obtain⟨v,vs',f,f',rfl,h2,h3,rfl⟩:=h
   obtain⟨n1,n2,n3⟩:=List.nodup_append.1 hn
   obtain⟨v1,f1,e1,e2,e3,e4,e5⟩:=aB.one h3 n2 i t' hi
   exact⟨v1,f1,e1,e2,e3,fun x hx=>List.mem_append_right _ (e4 x hx),fun W' t'' hb ht=>⟨v,vs',f,f',rfl,h2.but hb fun g hg hf=>n3 g hg g (e4 g hf) rfl,e5 W' t'' hb ht,rfl⟩⟩
def ig:List Tree->Int->Int->Int->Nat->List Tree
 | ts,_,_,_,0=>ts
 | [],_,_,_,_+1=>[]
 | t::ts,k,x,y,n+1=>t.moved x y::(if k=2 then ig ts k (x+(t.box.ext k+1)) y n else ig ts k x (y+(t.box.ext k+1)) n)
def xW:List Tree->Int->Nat->Int
 | _,_,0=>0
 | [],_,_+1=>0
 | t::ts,k,n+1=>t.box.ext k+1+xW ts k n
def xAt (ts:List Tree)(k x:Int)(i:Nat):Int:=if k=2 then x+xW ts k i else x
def yAt (ts:List Tree)(k y:Int)(i:Nat):Int:=if k=2 then y else y+xW ts k i
theorem qM:∀(ts:List Tree) (k x y:Int) (i:Nat),(ig ts k x y i)[i]?=ts[i]?
 | ts,k,x,y,0=>by cases ts <;> rfl
 | [],k,x,y,i+1=>rfl
 | t::ts,k,x,y,i+1=>by
   unfold ig
   split
   . exact qM ts k _ _ i
   . exact qM ts k _ _ i
theorem o5:∀(ts:List Tree) (k x y:Int) (i:Nat) (t:Tree),ts[i]?=I t->(ig ts k x y i).set i (t.moved (xAt ts k x i) (yAt ts k y i))=ig ts k x y (i+1)
 | [],k,x,y,i,t,h=>by simp at h
 | a::ts,k,x,y,0,t,h=>by
   cases h
   have e1:xAt (a::ts) k x 0=x:=by unfold xAt xW;split <;> simp
   have e2:yAt (a::ts) k y 0=y:=by unfold yAt xW;split <;> simp
   rw[e1,e2]
   show a.moved x y::ts=a.moved x y::(if k=2 then ig ts k (x+(a.box.ext k+1)) y 0 else ig ts k x (y+(a.box.ext k+1)) 0)
   have z:∀x y,ig ts k x y 0=ts:=fun x y=>by cases ts <;> rfl
   rw[z,z,ite_self]
 | a::ts,k,x,y,i+1,t,h=>by
   have h':ts[i]?=I t:=h
   by_cases hk:k=2
   . have ih:=o5 ts k (x+(a.box.ext k+1)) y i t h'
     have e1:xAt (a::ts) k x (i+1)=xAt ts k (x+(a.box.ext k+1)) i:=by
      unfold xAt
      rw[if_pos hk,if_pos hk,xW]
      omega
     have e2:yAt (a::ts) k y (i+1)=yAt ts k y i:=by
      unfold yAt
      rw[if_pos hk,if_pos hk]
     rw[e1,e2]
     conv=>lhs;unfold ig
     conv=>rhs;unfold ig
     rw[if_pos hk,if_pos hk,List.set_cons_succ,ih]
   . have ih:=o5 ts k x (y+(a.box.ext k+1)) i t h'
     have e1:xAt (a::ts) k x (i+1)=xAt ts k x i:=by
      unfold xAt
      rw[if_neg hk,if_neg hk]
     have e2:yAt (a::ts) k y (i+1)=yAt ts k (y+(a.box.ext k+1)) i:=by
      unfold yAt
      rw[if_neg hk,if_neg hk,xW]
      omega
     rw[e1,e2]
     conv=>lhs;unfold ig
     conv=>rhs;unfold ig
     rw[if_neg hk,if_neg hk,List.set_cons_succ,ih]
theorem qN:∀(ts:List Tree) (k x y:Int),ig ts k x y ts.length=aS ts k x y
 | [],k,x,y=>rfl
 | t::ts,k,x,y=>by
   rw[List.length_cons]
   unfold ig aS
   rw[qN ts,qN ts]
theorem xX:∀(ts:List Tree) (k:Int) (i:Nat) (t:Tree),ts[i]?=I t->xW ts k (i+1)=xW ts k i+(t.box.ext k+1)
 | [],k,i,t,h=>by simp at h
 | a::ts,k,0,t,h=>by
   cases h
   show a.box.ext k+1+xW ts k 0=0+_
   have:xW ts k 0=0:=by cases ts <;> rfl
   omega
 | a::ts,k,i+1,t,h=>by
   have:=xX ts k i t h
   show a.box.ext k+1+xW ts k (i+1)=a.box.ext k+1+xW ts k i+_
   omega
theorem zN:∀(ts:List Tree) (k:Int),(∀t∈ts,1<=t.box.ext k)-> -1<=aN ts k
 | [],k,h=>by unfold aN;omega
 | t::ts,k,h=>by
   have:=zN ts k fun t ht=>h t (List.mem_cons_of_mem _ ht)
   have h1:=h t List.mem_cons_self
   unfold aN
   omega
theorem J9:∀(ts:List Tree) (k:Int) (i:Nat) (t:Tree),(∀t∈ts,1<=t.box.ext k)->ts[i]?=I t->0<=xW ts k i/\xW ts k i+t.box.ext k<=aN ts k
 | [],k,i,t,hp,h=>by simp at h
 | a::ts,k,0,t,hp,h=>by
   cases h
   have:=zN ts k fun t ht=>hp t (List.mem_cons_of_mem _ ht)
   show (0:Int)<=0/\0+_<=a.box.ext k+1+aN ts k
   omega
 | a::ts,k,i+1,t,hp,h=>by
   have:=J9 ts k i t (fun t ht=>hp t (List.mem_cons_of_mem _ ht)) h
   have h1:=hp a List.mem_cons_self
   show (0:Int)<=a.box.ext k+1+xW ts k i/\a.box.ext k+1+xW ts k i+_<=a.box.ext k+1+aN ts k
   omega
theorem aX.set {W:World}{g:Nat}{b b':Box}{k:Int}{sl:Value}(h:aX W g b k sl)(o:Nat)(v:Value)(hv:(splitV b k sl).setIfInBounds o v=splitV b' k sl):aX (W.setCell ⟨g,o,O⟩ v) g b' k sl:=by
 have am:g < W.heap.size:=lt_of_block h
 have h':W.heap[g]=.cells (splitV b k sl) 91 (0,0):=by unfold aX at h;simpa [Array.getElem?_eq_getElem am] using h
 show (W.heap.modify g _)[g]?=_
 rw[Array.getElem?_eq_getElem (by simpa using am),Array.getElem_modify_self,h',<- hv]
 rfl
theorem EK (g:Nat)(b:Box)(k:Int)(sl:Value)(x y:Int)(w:World)(h:aX w g b k sl):
 Calls prog 136 #[JJ (I ⟨g,0,O⟩),J Jq x,J Jq y] w fun e w'=>e=Jz (.tuple #[])/\aX w' g { b with x:=x,y:=y } k sl/\w.grownBy w' (I g):=by
 obtain⟨q0,q1,q2,q3,hf⟩:=h.box
 have f0:=hf 0 (by omega)
 have f1:=hf 1 (by omega)
 have HL:=zh h
 clear h hf
 go_enter func136,ntmps136
 go_wp2
 refine⟨rfl,.tuple #[],(by simp[results,results136,go_sem]),rfl,(HL.out.set 0 (J Jq x) (b':={ b with x:=x }) rfl).set 1 (J Jq y) (b':={ b with x:=x,y:=y }) rfl,⟨rfl,rfl,rfl,by simp[World.setCell],fun k _ hr=> ?_⟩⟩
 exact (Below.heap_setCell _ _ _ _ (fun e=>hr (by simp[e]))).trans (Below.heap_setCell _ _ _ _ (fun e=>hr (by simp[e])))
structure PM (B:Nat)(v:Value)(t:Tree)(fp:List Nat)(T:TypeId)(gi:Nat)(Fm:FuncId):Prop where
 val:v=.iface T (JJ (I ⟨gi,0,O⟩))
 mM : ∀ W, (method 286 T (JJ (I ⟨gi, 0, O⟩)) "mullion/layout.move").run prog W = .ok (Fm, JJ (I ⟨gi, 0, O⟩)) W
 mE : ∀ W, (method 286 T (JJ (I ⟨gi, 0, O⟩)) "mullion/layout.extent").run prog W = .ok (38, JJ (I ⟨gi, 0, O⟩)) W
 nE : ∀ W, (nilAhead 286 T (JJ (I ⟨gi, 0, O⟩)) "mullion/layout.extent").run prog W = .ok (I false) W
 fM:∀a c d W,(callFunc Fm #[a,c,d]).run prog W=.ok (.enter Fm #[a,c,d]) W
 cM:∀X x y,t.At X B v fp->(-1000000<=x/\x+t.box.w<=1000000)->(-1000000<=y/\y+t.box.h<=1000000)->Calls prog Fm #[JJ (I ⟨gi,0,O⟩),J Jq x,J Jq y] X fun e w'=>e=Jz (.tuple #[])/\(t.moved x y).At w' B v fp/\But fp X w'
 cE:∀X x y j,(t.moved x y).At X B v fp->Calls prog 38 #[JJ (I ⟨gi,0,O⟩),J Jq j] X fun e w'=>e=Jz (J Jq (t.box.ext j))/\X=w'
def Tree.Moves (t:Tree):Prop:=∀B v fp W,t.At W B v fp->fp.Nodup->t.sound=true->∃T gi Fm,PM B v t fp T gi Fm
structure ku (w:World)(g:Nat)(b:Box)(k:Int)(sl:Value)(vs:List Value)(fs:List Nat)(ts:List Tree)(B:Nat)(x y:Int)(i:Nat)(wr:World):Prop where
 own:aX wr g { b with x:=x,y:=y } k sl
 row:wr.ownsRow B 70 1 sl vs.length vs
 parts:aB wr B (ig ts k x y i) vs fs
 but:But (g::fs) w wr
theorem ku.below {w:World}{g:Nat}{b:Box}{k:Int}{sl:Value}{vs:List Value}{fs:List Nat}{ts:List Tree}{B:Nat}{x y:Int}{i:Nat}{wr X:World}(h:ku w g b k sl vs fs ts B x y i wr)(hb:Below wr.heap.size wr X):ku w g b k sl vs fs ts B x y i X:=
 ⟨h.own.below hb,own_below h.row hb,h.parts.below hb,h.but.trans ⟨hb.os,hb.tape,hb.output,hb.size,fun q hq _=>hb.block q hq⟩⟩
theorem Np (ts:List Tree)(k x:Int):xAt ts k x 0=x:=by
 have z:xW ts k 0=0:=by cases ts <;> rfl
 unfold xAt
 rw[z]
 split <;> omega
theorem Nq (ts:List Tree)(k y:Int):yAt ts k y 0=y:=by
 have z:xW ts k 0=0:=by cases ts <;> rfl
 unfold yAt
 rw[z]
 split <;> omega
theorem Nr (ts:List Tree)(k x:Int)(i:Nat)(t:Tree)(h:ts[i]?=I t):xAt ts k x (i+1)=if k=2 then xAt ts k x i+(t.box.ext k+1) else xAt ts k x i:=by
 unfold xAt
 rw[xX ts k i t h]
 split <;> omega
theorem Nu (ts:List Tree)(k y:Int)(i:Nat)(t:Tree)(h:ts[i]?=I t):yAt ts k y (i+1)=if k=2 then yAt ts k y i else yAt ts k y i+(t.box.ext k+1):=by
 unfold yAt
 rw[xX ts k i t h]
 split <;> omega
theorem Gi (ts:List Tree)(b:Box)(k:Int)(i:Nat)(t:Tree)(h:ts[i]?=I t)(hs:au ts b k=true):(1<=t.box.w/\t.box.w<=1000)/\(1<=t.box.h/\t.box.h<=1000):=by
 have:=aO ts b k i t h hs
 rw[Bool.and_eq_true] at this
 exact t.aF this.1
theorem vT (ts:List Tree)(b:Box)(k:Int)(i:Nat)(t:Tree)(h:ts[i]?=I t)(hs:au ts b k=true):1<=t.box.ext k/\t.box.ext k<=1000:=by
 have:=Gi ts b k i t h hs
 unfold Box.ext
 split
 . exact this.1
 . exact this.2
theorem EL {x y w h:Int}(hx: -1000000<=x/\x+w<=1000000)(hy: -1000000<=y/\y+h<=1000000)(hs:(1<=w/\w<=1000)/\(1<=h/\h<=1000)):(-1000000<=x/\x<=1000000)/\(-1000000<=y/\y<=1000000):=by omega
theorem J8 {w:World}{g:Nat}{b:Box}{k:Int}{pg n cap:Nat}{vs:List Value}{fs:List Nat}{ts:List Tree}{B:Nat}{x y:Int}{i:Nat}{wr:World}{t:Tree}(aE:(g::((Value.slice (I ⟨pg,0,O⟩) n cap).ownBlock.toList++fs)).Nodup)(IH:∀t∈ts,t.Moves)(c8:au ts b k=true)(ju:aN ts k=b.ext k)(hk:k=2\/k=3)
 (hx: -1000000<=x/\x+b.w<=1000000) (hy: -1000000<=y/\y+b.h<=1000000) (ht:ts[i]?=I t) (h:ku w g b k (Jj (I ⟨pg,0,O⟩) n cap) vs fs ts B x y i wr):
 ∃v T gi Fm f,vs[i]?=I v/\PM B v t f T gi Fm/\(-1000000<=xAt ts k x i/\xAt ts k x i+t.box.w<=1000000)/\(-1000000<=yAt ts k y i/\yAt ts k y i+t.box.h<=1000000)/\t.At wr B v f/\
  ∀w',(t.moved (xAt ts k x i) (yAt ts k y i)).At w' B v f->But f wr w'->ku w g b k (Jj (I ⟨pg,0,O⟩) n cap) vs fs ts B x y (i+1) w':=by
 obtain⟨n1,n2⟩:=List.nodup_cons.1 aE
 obtain⟨n3,n4,n5⟩:=List.nodup_append.1 n2
 have hg:(ig ts k x y i)[i]?=I t:=(qM ts k x y i).trans ht
 obtain⟨v,f,e1,e2,e3,e4,e5⟩:=aB.one h.parts n4 i t hg
 have ar:=aO ts b k i t ht c8
 rw[Bool.and_eq_true,Bool.and_eq_true,decide_eq_true_eq] at ar
 obtain⟨T,gi,Fm,hp⟩:=IH t (List.mem_of_getElem? ht) B v f wr e2 e3 ar.1
 have nu:∀t∈ts,1<=t.box.ext k:=by
  intro t' dr
  obtain⟨j,hj⟩:=List.getElem?_of_mem dr
  exact (vT ts b k j t' hj c8).1
 have ho:=J9 ts k i t nu ht
 rw[ju] at ho
 have yW:=ar.2.2
 refine⟨v,T,gi,Fm,f,e1,hp,?_,?_,e2,fun w' h1 h2=>⟨?_,?_,?_,?_⟩⟩
 . rcases hk with rfl | rfl
   . unfold xAt
     rw[if_pos rfl]
     change 0<=xW ts 2 i/\xW ts 2 i+t.box.w<=b.w at ho
     omega
   . unfold xAt
     rw[if_neg (by decide)]
     change t.box.w=b.w at yW
     omega
 . rcases hk with rfl | rfl
   . unfold yAt
     rw[if_pos rfl]
     change t.box.h=b.h at yW
     omega
   . unfold yAt
     rw[if_neg (by decide)]
     change 0<=xW ts 3 i/\xW ts 3 i+t.box.h<=b.h at ho
     omega
 . exact (h2.block g (lt_of_block h.own) fun e=>n1 (List.mem_append_right _ (e4 g e))).trans h.own
 . exact dU h.row fun q hq=>h2.block q (oZ h.row q hq) fun e=>n5 q hq q (e4 q e) rfl
 . rw[<- o5 ts k x y i t ht]
   exact e5 w' _ h2 h1
 . exact h.but.trans (h2.mono fun q hq=>List.mem_cons_of_mem _ (e4 q hq))
theorem Ig (g:Nat)(b:Box)(k:Int)(hk:k=2\/k=3)(sl:Value)(vs:List Value)(fs:List Nat)(ts:List Tree)(B:Nat)(w:World)(hS:aX w g b k sl)(hR:w.ownsRow B 70 1 sl vs.length vs)(hP:aB w B ts vs fs)(aE:(g::(sl.ownBlock.toList++fs)).Nodup)(hs:(Tree.split b k ts).sound=true)(hl:ts.length<=200)(IH:∀t∈ts,t.Moves)
 (x y:Int) (hx: -1000000<=x/\x+b.w<=1000000) (hy: -1000000<=y/\y+b.h<=1000000):
 Calls prog 144 #[JJ (I ⟨g,0,O⟩),J Jq x,J Jq y] w fun e w'=>e=Jz (.tuple #[])/\ku w g b k sl vs fs ts B x y ts.length w':=by
 have dk:=hP.length
 unfold Tree.sound at hs
 simp only[Bool.and_eq_true,decide_eq_true_eq] at hs
 obtain⟨⟨h2,kr,hh1⟩,c8,ju⟩:=hs
 obtain⟨pg,cap,av,bX⟩:=jV hS hR (by intro e;rw[e] at dk;simp at dk;omega)
 subst av
 obtain⟨n,hn⟩:∃n,vs.length=n:=⟨_,rfl⟩
 have lc:ts.length=n:=by rw[<- hn,dk]
 have HN:=zh lc
 have HV:=zh hn
 have eJ:=zh IH
 have sk:=zh c8
 have M1:=zh ju
 have tj:=zh aE
 have kp:Hid (∀w',aX w' g { b with x:=x,y:=y } k (Jj (I ⟨pg,0,O⟩) vs.length cap)->w.grownBy w' (I g)->ku w g b k (Jj (I ⟨pg,0,O⟩) vs.length cap) vs fs ts B x y 0 w'):=by
  intro w' h1 h2
  have hb:=But.grown h2
  have jz:=List.nodup_cons.1 aE
  refine⟨h1,dU hR fun q hq=>hb.block q (oZ hR q hq) ?_,?_,hb.mono (by simp)⟩
  . simp only[List.mem_cons,List.not_mem_nil,or_false]
    intro e
    exact jz.1 (List.mem_append_left _ (e ▸ hq))
  . have z:ig ts k x y 0=ts:=by cases ts <;> rfl
    rw[z]
    refine hP.but hb fun q hq e=> ?_
    simp only[List.mem_cons,List.not_mem_nil,or_false] at e
    exact jz.1 (List.mem_append_right _ (e ▸ hq))
 have HM:Hid (Calls prog 136 #[JJ (I ⟨g,0,O⟩),J Jq x,J Jq y] w fun e w'=>e=Jz (.tuple #[])/\ku w g b k (Jj (I ⟨pg,0,O⟩) vs.length cap) vs fs ts B x y 0 w'):=(EK g b k _ x y w hS).mono fun e w' h=>⟨h.1,kp.out w' h.2.1 h.2.2⟩
 rw[lc]
 rw[hn] at HM
 obtain⟨sl,av⟩:∃sl,Value.slice (I ⟨pg,0,O⟩) vs.length cap=sl:=⟨_,rfl⟩
 rw[hn]
 have mU:n<=200:=by omega
 have Cp:Hid (∀i wr,ku w g b k (Jj (I ⟨pg,0,O⟩) n cap) vs fs ts B x y i wr->Seen wr g k (Jj (I ⟨pg,0,O⟩) n cap) pg vs):=by
  intro i wr h
  obtain⟨pg',cap',e,h3⟩:=jV h.own h.row (by intro e;rw[e] at dk;simp at dk;omega)
  cases e
  exact h3
 clear av dk hS hR hP aE IH c8 ju bX kp hn lc h2 hl
 go_enter func144,ntmps144
 go_wp2_with (go_at_call 136;refine HM.out.mono ?_;rintro e w1 ⟨rfl,hm⟩;have M8:Hid (ku w g b k (Jj (I ⟨pg,0,O⟩) n cap) vs fs ts B x y 0 w1):=hm;have c5:=(Cp.out 0 w1 hm).parts;clear hm)
 go_loopw [1,2,19] (fun vx vy v wr=>∃i:Nat,i<=n/\vx=J Jq (xAt ts k x i)/\vy=J Jq (yAt ts k y i)/\v=J Jq i/\Hid (ku w g b k (Jj (I ⟨pg,0,O⟩) n cap) vs fs ts B x y i wr)) (fun _ _ v _=>n-(intOf v).toNat)
 case atStart=>exact⟨0,Nat.zero_le _,by rw[Np],by rw[Nq],rfl,M8⟩
 case round=>
  obtain⟨i,hi,rfl,rfl,rfl,dy⟩:=hrel
  clear c5 M8
  have vL:=Cp.out _ _ dy.out
  have r4:=vL.kind
  have r5:=vL.parts
  by_cases am:i < n
  . obtain⟨t,ht⟩:∃t,ts[i]?=I t:=⟨_,List.getElem?_eq_getElem (by rw[HN.out];exact am)⟩
    have M9:=tj.out
    rw[HV.out] at M9
    obtain⟨v,T,gi,Fm,f,Ax,K4,i8,EB,bq,xo⟩:=J8 M9 eJ.out sk.out M1.out hk hx hy ht dy.out
    obtain⟨e1,lP⟩:∃e,t.box.ext k=e:=⟨_,rfl⟩
    have pQ:=Nr ts k x i t ht
    have to:=Nu ts k y i t ht
    rw[lP] at pQ to
    have hes:1<=e1/\e1<=1000:=lP ▸ vT ts b k i t ht sk.out
    obtain⟨xi,Qt⟩:∃xi,xAt ts k x i=xi:=⟨_,rfl⟩
    obtain⟨yi,Wu⟩:∃yi,yAt ts k y i=yi:=⟨_,rfl⟩
    rw[Qt] at pQ i8 xo
    rw[Wu] at to EB xo
    rw[Qt,Wu]
    have ri:=vL.row i _ Ax
    have de:=K4.val
    subst de
    have m1:=K4.mM
    have m2:=K4.mE
    have m3:=K4.nE
    have m4:=K4.fM
    have S7:=EL i8 EB (Gi ts b k i t ht sk.out)
    have w1e:IntKind.i64.wrap (e1+1)=e1+1:=by rw[IntKind.wrap_i64];omega
    have w2e:IntKind.i64.wrap (xi+(e1+1))=xi+(e1+1):=by rw[IntKind.wrap_i64];omega
    have w3e:IntKind.i64.wrap (yi+(e1+1))=yi+(e1+1):=by rw[IntKind.wrap_i64];omega
    have YV:=zh pQ
    have YW:=zh to
    have U8:Hid (Calls prog Fm #[JJ (I ⟨gi,0,O⟩),J Jq xi,J Jq yi] wr fun e w'=>e=Jz (.tuple #[])/\ku w g b k (Jj (I ⟨pg,0,O⟩) n cap) vs fs ts B x y (i+1) w'/\(∀X,Below w'.heap.size w' X->Calls prog 38 #[JJ (I ⟨gi,0,O⟩),J Jq k] X fun e w'=>e=Jz (J Jq e1)/\X=w')):=
     (K4.cM wr xi yi bq i8 EB).mono fun e w' h=>⟨h.1,xo w' h.2.1 h.2.2,fun X hX=>lP ▸ K4.cE X xi yi k (h.2.1.below hX)⟩
    clear bq xo K4 Ax pQ to Qt Wu lP i8 EB S7 hes M9 ht vL
    go_wp2_with fail
    refine U8.out.mono ?_
    rintro e w2 ⟨rfl,ie,YX⟩
    have gx:=zh ie
    have AI:=zh YX
    have r4:=(Cp.out _ _ ie).kind
    have r5:=(Cp.out _ _ ie).parts
    clear ie YX
    rcases hk with rfl | rfl
    . go_wp2_with fail
      . skip
        have Hk:Hid (∀X,Below w2.heap.size w2 X->X.cell? ⟨g,4,O⟩=I (J Jq 2)):=fun X h=>((Cp.out _ _ gx.out).below h).kind
        have SV:Hid (∀X,Below w2.heap.size w2 X->Calls prog 38 #[JJ (I ⟨gi,0,O⟩),J Jq 2] X fun e w'=>e=Jz (J Jq e1)/\Below w2.heap.size w2 w'):=fun X h=>(AI.out X h).mono fun e w' h2=>⟨h2.1,h2.2 ▸ h⟩
        clear r4 r5 AI
        refine aQ (fun X=>Below w2.heap.size w2 X) (by kernel_rfl) (by kernel_rfl) (Below.refl _ _).drew ?_
        repeat (
         refine dJ (v:= ?_) (by rfl) (fun X hX=> ?_) ?_
         rotate_left
         . have x4:=Hk.out X hX
           go_simp
           all_goals first | with_reducible rfl | with_reducible exact SV.out X hX
         intro K hK
         go_simp
         refine hK.out _ ?_
         clear hK K)
        refine fK ?_
        intro w4 eI
        have Hi:=zh (gx.out.below eI)
        clear eI
        go_wp2
        go_roundw
        case rel=>exact⟨i+1,by omega,by rw[YV.out];simp,by rw[YW.out];simp,by go_num,Hi⟩
        case measure=>simp[intOf];omega
    . go_wp2_with fail
      . skip
        have Hk:Hid (∀X,Below w2.heap.size w2 X->X.cell? ⟨g,4,O⟩=I (J Jq 3)):=fun X h=>((Cp.out _ _ gx.out).below h).kind
        have SV:Hid (∀X,Below w2.heap.size w2 X->Calls prog 38 #[JJ (I ⟨gi,0,O⟩),J Jq 3] X fun e w'=>e=Jz (J Jq e1)/\Below w2.heap.size w2 w'):=fun X h=>(AI.out X h).mono fun e w' h2=>⟨h2.1,h2.2 ▸ h⟩
        clear r4 r5 AI
        refine aQ (fun X=>Below w2.heap.size w2 X) (by kernel_rfl) (by kernel_rfl) (Below.refl _ _).drew ?_
        repeat (
         refine dJ (v:= ?_) (by rfl) (fun X hX=> ?_) ?_
         rotate_left
         . have x4:=Hk.out X hX
           go_simp
           all_goals first | with_reducible rfl | with_reducible exact SV.out X hX
         intro K hK
         go_simp
         refine hK.out _ ?_
         clear hK K)
        refine fK ?_
        intro w4 eI
        have Hi:=zh (gx.out.below eI)
        clear eI
        go_wp2
        go_roundw
        case rel=>exact⟨i+1,by omega,by rw[YV.out];simp,by rw[YW.out];simp,by go_num,Hi⟩
        case measure=>simp[intOf];omega
  . have bE:i=n:=by omega
    subst bE
    go_wp2
    refine⟨rfl,.tuple #[],(by simp[results,results144,go_sem]),rfl,dy.out⟩
theorem QF (a c d:Value)(W:World):(callFunc 136 #[a,c,d]).run prog W=.ok (.enter 136 #[a,c,d]) W:=by kernel_rfl
theorem QG (a c d:Value)(W:World):(callFunc 144 #[a,c,d]).run prog W=.ok (.enter 144 #[a,c,d]) W:=by kernel_rfl
theorem PN (g : Nat) (W : World) : (method 286 83 (JJ (I ⟨g, 0, O⟩)) "mullion/layout.move").run prog W = .ok (144, JJ (I ⟨g, 0, O⟩)) W := by kernel_rfl
mutual
theorem Tree.moves:∀(t:Tree),t.fine->t.Moves
 | .leaf b p,_=>by
   intro B v fp W h aE hs
   obtain⟨g,rfl,h2,rfl⟩:=h
   refine⟨_,g,_,{ val:=rfl,mM:=PI g,mE:=nz g,nE:=Qr g,fM:=QF,cM:=fun X x y hX _ _=> ?_,cE:=fun X x y j hX=> ?_ }⟩
   . obtain⟨g',e,h3,e'⟩:=hX
     cases e
     exact (Hy g b p x y X h3).mono fun e w' h4=>⟨h4.1,⟨g,rfl,h4.2.1,rfl⟩,But.grown h4.2.2⟩
   . obtain⟨g',e,h3,e'⟩:=hX
     cases e
     exact (dC g _ j X h3.box).mono fun e w' h4=>h4
 | .split b k ts,qb=>by
   intro B v fp W h aE hs
   have IH:=zD ts qb.2.2
   obtain⟨g,sl,vs,fs,rfl,h2,h3,h4,rfl⟩:=h
   refine⟨_,g,_,{ val:=rfl,mM:=PN g,mE:=nC g,nE:=Qs g,fM:=QG,cM:=fun X x y hX hx hy=> ?_,cE:=fun X x y j hX=> ?_ }⟩
   . obtain⟨g',sl',vs',fs',e,k2,k3,k4,e'⟩:=hX
     cases e
     have jz:=aE
     rw[e'] at jz
     refine (Ig g b k qb.1 sl' vs' fs' ts B X k2 k3 k4 jz hs qb.2.1 IH x y hx hy).mono fun e w' h5=>⟨h5.1,?_,?_⟩
     . refine⟨g,sl',vs',fs',rfl,h5.2.own,h5.2.row,?_,e'⟩
       rw[<- qN]
       exact h5.2.parts
     . refine h5.2.but.mono fun q hq=> ?_
       rw[e']
       rcases List.mem_cons.1 hq with rfl | hq
       . exact List.mem_cons_self
       . exact List.mem_cons_of_mem _ (List.mem_append_right _ hq)
   . obtain⟨g',sl',vs',fs',e,k2,k3,k4,e'⟩:=hX
     cases e
     exact (dC g _ j X k2.box).mono fun e w' h5=>h5
theorem zD:∀(ts:List Tree),Af ts->∀t∈ts,t.Moves
 | [],_=>fun t ht=>by cases ht
 | a::ts,h=>fun t ht=>by
   rcases List.mem_cons.1 ht with e | ht
   . exact e ▸ Tree.moves a h.1
   . exact zD ts h.2 t ht
end
def bz (l:List aj):List Value:=l.flatMap fun c=>c.vals.toList
theorem iR (l:List aj):(bz l).length=l.length*7:=by
 induction l with
 | nil=>rfl
 | cons c l ih=>
   show (c.vals.toList++bz l).length=_
   rw[List.length_append,ih,List.length_cons]
   show 7+_=_
   omega
def az (w:World)(B:Nat)(v:Value)(l:List aj):Prop:=w.ownsRow B 41 7 v l.length (bz l)
theorem az.below {w w':World}{B:Nat}{v:Value}{l:List aj}(h:az w B v l)(hb:Below w.heap.size w w'):az w' B v l:=
 World.ownsRow.kept (row:=O) h ⟨hb.os,hb.tape,hb.output,hb.size,fun k hk _=>hb.block k hk⟩ (by cases v.ownBlock <;> simp)
def zeroCell:aj:=⟨0,0,0,0,0,0,0⟩
theorem xC:(prog.info? 41).map (fun i=>(i.zero,i.size,i.bytes))=I (I (.agg zeroCell.vals),7,56):=by kernel_rfl
theorem bH {P:Program}{e:TypeId}{z:Value}{n m:Nat}(h:(P.info? e).map (fun i=>(i.zero,i.size,i.bytes))=I (I z,n,m)):∃i,P.info? e=I i/\i.zero=I z/\i.size=n/\i.bytes=m:=by
 cases hi:P.info? e with
 | none=>rw[hi] at h;cases h
 | some i=>
   rw[hi] at h
   simp only[Option.map_some,Option.some.injEq,Prod.mk.injEq] at h
   exact⟨i,rfl,h.1,h.2.1,h.2.2⟩
theorem dW (w:World)(cs:Array Value)(t:TypeId)(o:Nat):(w.alloc (.cells cs t)).cell? ⟨w.heap.size,o,O⟩=cs[o]?:=by
 have hn:=heap_alloc_new w (.cells cs t)
 unfold World.cell?
 rw[hn]
 rfl
theorem qy {ops:Array Oper}{o:Oper}{a:Act}{K:Act->World->Prop}{Q:Exit->Act->World->Prop}{E:Prop}(w:World)(e9:o.guard=O)(s x:Operand)
 (ho:o.op=.call { callee:=.builtin .append,args:=#[s,x],argTypes:=#[23,23] })
 (B:Nat) (v:Value) (l:List aj) (e:aj) (hs:a.eval s=v) (bm:az w B v l) (hx:a.eval x=Jj (I ⟨w.heap.size,0,O⟩) 1 1) (hlen:l.length<=16777216) (hB:B<=w.heap.size)
 (h:∀v' w',az w' B v' (l++[e])->(w.alloc (.cells e.vals 41)).grownBy w' v.ownBlock->K (a.put o.dst v') w'):if Region.wanted o (yielded ops a.tmps)=true then Oper.wp prog o a (w.alloc (.cells e.vals 41)) K Q else E:=by
 have hw:Region.wanted o (yielded ops a.tmps)=true:=by simp[Region.wanted,e9]
 rw[if_pos hw]
 obtain⟨i0,hi,eh,db,cJ⟩:=bH xC
 have b8:(w.alloc (.cells e.vals 41)).ownsRow B 41 7 v l.length (bz l):=World.ownsRow.alloc bm _
 refine wp_append_own _ s x 23 ho B 41 i0 (.agg zeroCell.vals) 7 56 underlying23 hi eh db cJ rfl (by decide) v l.length (bz l) hs b8 ⟨w.heap.size,0,O⟩ 1 1 e.vals.toList hx rfl ?_ ?_ ?_ ?_ ?_ ?_
 . intro j u hu
   rw[show (⟨w.heap.size,0,O⟩:Addr).add j=⟨w.heap.size,j,O⟩ by unfold Addr.add;split <;> simp_all,dW]
   simpa using hu
 . intro u hu
   have ll:u∈[Value.int .i64 e.depth,J Jq e.kind,J Jq e.x,J Jq e.y,J Jq e.w,J Jq e.h,J Jq e.p]:=hu
   simp only[List.mem_cons,List.not_mem_nil,or_false] at ll
   rcases ll with rfl | rfl | rfl | rfl | rfl | rfl | rfl <;> rfl
 . unfold maxLen;omega
 . omega
 . have:(w.alloc (.cells e.vals 41)).heap.size=w.heap.size+1:=by simp
   omega
 . intro v' w' h2 h3 _
   refine h v' w' ?_ h3
   unfold az bz
   rw[List.flatMap_append,List.length_append]
   simpa [bz] using h2
theorem uN {w w1 w':World}{B:Nat}{v:Value}{l:List aj}{o:Obj}(hv:az w B v l)(hB:B<=w.heap.size)(hb:Below w.heap.size w w1)(hg:(w1.alloc o).grownBy w' v.ownBlock):Below B w w':=by
 have am:=World.ownsRow.lt hv
 have h1:Below B w (w1.alloc o):=(hb.mono hB).alloc (Nat.le_trans hB hb.size) o
 refine⟨hg.os.trans h1.os,hg.tape.trans h1.tape,hg.output.trans h1.output,Nat.le_trans h1.size hg.size,fun k hk=>(hg.block k (by have:=h1.size;omega) ?_).trans (h1.block k hk)⟩
 intro e
 have:=(am k e.symm).1
 omega
theorem Il (g:Nat)(b:Box)(p d:Int)(B:Nat)(v:Value)(l:List aj)(w:World)(h:bD w g b p)(hg:g < B)(hB:B<=w.heap.size)(hv:az w B v l)(hl:l.length<=16777216):
 Calls prog 139 #[JJ (I ⟨g,0,O⟩),v,J Jq d] w fun e w'=>∃v',e=Jz v'/\az w' B v' (l++(Tree.leaf b p).tell d)/\Below B w w':=by
 have q4:w.cell? ⟨g,4,O⟩=I (J Jq p):=ae h 4
 have HL:=zh h
 have HV:=zh hv
 have HC:Hid (∀X,Below w.heap.size w X->Calls prog 141 #[JJ (I ⟨g,0,O⟩),J Jq d,J Jq 1,J Jq p] X fun e w'=>e=Jz (.agg #[J Jq d,J Jq 1,J Jq b.x,J Jq b.y,J Jq b.w,J Jq b.h,J Jq p])/\Below w.heap.size w w'):=fun X hX=>(F9 g b d 1 p X (h.box.below hX) (by have:=hX.size;omega)).mono fun e w' h2=>⟨h2.1,af hX h2.2⟩
 clear h hv
 go_enter func139,ntmps139
 go_wp2_with fail
 go_region_law (first
  | (refine qy w1 rfl (.tmp 7) (.tmp 17) rfl B v l ⟨d,1,b.x,b.y,b.w,b.h,p⟩ (by simp[Act.eval]) K3.out (by simp[Act.eval]) hl Lf ?_;intro v2 w2 h2 h3;have H2:Hid (az w2 B v2 (l++[⟨d,1,b.x,b.y,b.w,b.h,p⟩])):=h2;have H3:Hid (Below B w w2):=uN HV.out hB cY.out h3;clear h2 h3)
  | (go_simp;go_at_call 141;refine (HC.out _ (Below.refl _ _).drew).mono ?_;rintro e w1 ⟨rfl,bj⟩;have K3:Hid (az w1 B v l):=HV.out.below bj;have Lf:B<=w1.heap.size:=Nat.le_trans hB bj.size;have cY:Hid (Below w.heap.size w w1):=bj;clear bj))
 go_wp2
 go_ret
 exact⟨v2,rfl,H2.out,H3.out⟩
structure PS (w:World)(B:Nat)(v:Value)(t:Tree)(T:TypeId)(gi:Nat)(Ft:FuncId):Prop where
 val:v=.iface T (JJ (I ⟨gi,0,O⟩))
 mT : ∀ W, (method 286 T (JJ (I ⟨gi, 0, O⟩)) "mullion/layout.tell").run prog W = .ok (Ft, JJ (I ⟨gi, 0, O⟩)) W
 nT : ∀ W, (nilAhead 286 T (JJ (I ⟨gi, 0, O⟩)) "mullion/layout.tell").run prog W = .ok (I false) W
 fT:∀a c d W,(callFunc Ft #[a,c,d]).run prog W=.ok (.enter Ft #[a,c,d]) W
 cT:∀X (u:Value) (l:List aj) (d:Int),Below B w X->w.heap.size<=X.heap.size->az X B u l->(0<=d/\d+t.size<=1000)->l.length+t.size<=1000000->Calls prog Ft #[JJ (I ⟨gi,0,O⟩),u,J Jq d] X fun e w'=>∃u',e=Jz u'/\az w' B u' (l++t.tell d)/\Below B X w'
def PT (w:World)(B:Nat)(vs:List Value)(ts:List Tree):Prop:=∀(i:Nat) (t:Tree),ts[i]?=I t->∃v T gi Ft,vs[i]?=I v/\PS w B v t T gi Ft
theorem Dh (ts:List Tree)(d:Int):∀(i:Nat) (t:Tree),ts[i]?=I t->bJ (ts.take (i+1)) d=bJ (ts.take i) d++t.tell d:=by
 induction ts with
 | nil=>intro i t h;simp at h
 | cons a ts ih=>
   intro i t h
   cases i with
   | zero=>
     simp at h
     subst h
     show a.tell d++[]=[]++a.tell d
     simp
   | succ i=>
     show a.tell d++bJ (ts.take (i+1)) d=(a.tell d++bJ (ts.take i) d)++t.tell d
     rw[ih i t (by simpa using h),List.append_assoc]
mutual
theorem Tree.eu:∀(t:Tree) (d:Int),(t.tell d).length=t.size
 | .leaf _ _,_=>rfl
 | .split b k ts,d=>by
   show (bJ ts (d+1)).length+1=1+sizes ts
   rw[lZ ts]
   omega
theorem lZ:∀(ts:List Tree) (d:Int),(bJ ts d).length=sizes ts
 | [],_=>rfl
 | t::ts,d=>by
   show (t.tell d++bJ ts d).length=t.size+sizes ts
   rw[List.length_append,Tree.eu t,lZ ts]
end
theorem zH (ts:List Tree):∀(i:Nat) (t:Tree),ts[i]?=I t->sizes (ts.take i)+t.size<=sizes ts:=by
 induction ts with
 | nil=>intro i t h;simp at h
 | cons a ts ih=>
   intro i t h
   cases i with
   | zero=>
     simp at h
     subst h
     show 0+a.size<=a.size+sizes ts
     omega
   | succ i=>
     have:=ih i t (by simpa using h)
     show a.size+sizes (ts.take i)+t.size<=a.size+sizes ts
     omega
theorem Tree.kK (t:Tree):1<=t.size:=by
 cases t with
 | leaf _ _=>exact Nat.le_refl _
 | split _ _ ts=>exact Nat.le_add_right _ _
theorem aI:∀(ts:List Tree),ts.length<=sizes ts
 | []=>Nat.le_refl _
 | t::ts=>by
   have h1:=aI ts
   have h2:=t.kK
   show ts.length+1<=t.size+sizes ts
   omega
theorem EX (g:Nat)(b:Box)(k:Int)(pg n cap:Nat)(vs:List Value)(ts:List Tree)(d:Int)(B:Nat)(v:Value)(l:List aj)(w:World)(hS:aX w g b k (Jj (I ⟨pg,0,O⟩) n cap))(hn:ts.length=n)(hR:∀(i:Nat) u,vs[i]?=I u->w.cell? ⟨pg,i,O⟩=I u)(hT:PT w B vs ts)(hg:g < B)(B6:pg < B)(hB:B<=w.heap.size)(hv:az w B v l)(hd:0<=d/\d+(1+sizes ts)<=1000)(hl:l.length+(1+sizes ts)<=1000000):
 Calls prog 148 #[JJ (I ⟨g,0,O⟩),v,J Jq d] w fun e w'=>∃v',e=Jz v'/\az w' B v' (l++(Tree.split b k ts).tell d)/\Below B w w':=by
 have q4:w.cell? ⟨g,4,O⟩=I (J Jq k):=ae hS 4
 have HL:=zh hS
 have HV:=zh hv
 have uE:l.length<=16777216:=by omega
 have HC:Hid (∀X,Below w.heap.size w X->Calls prog 141 #[JJ (I ⟨g,0,O⟩),J Jq d,J Jq k,J Jq 0] X fun e w'=>e=Jz (.agg #[J Jq d,J Jq k,J Jq b.x,J Jq b.y,J Jq b.w,J Jq b.h,J Jq 0])/\Below w.heap.size w w'):=fun X hX=>(F9 g b d k 0 X (hS.box.below hX) (by have:=hX.size;omega)).mono fun e w' h2=>⟨h2.1,af hX h2.2⟩
 have E0:Hid (∀X,Below B w X->X.cell? ⟨g,5,O⟩=I (Jj (I ⟨pg,0,O⟩) n cap)):=fun X hX=>(hX.cell (p:=⟨g,5,O⟩) hg).trans (ae hS 5)
 have HXr:Hid (∀X,Below B w X->∀(i:Nat) u,vs[i]?=I u->X.cell? ⟨pg,i,O⟩=I u):=fun X hX i u hu=>(hX.cell (p:=⟨pg,i,O⟩) B6).trans (hR i u hu)
 have HT:=zh hT
 have HN:=zh hn
 have HD:=zh hd
 have Nx:=zh hl
 have hdw:IntKind.i64.wrap (d+1)=d+1:=by rw[IntKind.wrap_i64];omega
 have du:n<=1000:=by have:=aI ts;omega
 clear hS hv hT hR hn hd hl
 go_enter func148,ntmps148
 go_wp2_with fail
 go_region_law (first
  | (refine qy w1 rfl (.tmp 9) (.tmp 19) rfl B v l ⟨d,k,b.x,b.y,b.w,b.h,0⟩ (by simp[Act.eval]) K3.out (by simp[Act.eval]) uE Lf ?_;intro v2 w2 h2 h3;have H2:Hid (az w2 B v2 (l++[⟨d,k,b.x,b.y,b.w,b.h,0⟩])):=h2;have H3:Hid (Below B w w2):=uN HV.out hB cY.out h3;clear h2 h3)
  | (go_simp;go_at_call 141;refine (HC.out _ (Below.refl _ _).drew).mono ?_;rintro e w1 ⟨rfl,bj⟩;have K3:Hid (az w1 B v l):=HV.out.below bj;have Lf:B<=w1.heap.size:=Nat.le_trans hB bj.size;have cY:Hid (Below w.heap.size w w1):=bj;clear bj))
 have c5:=E0.out w2 H3.out
 clear K3 cY q4 Lf
 go_wp2_with fail
 go_loopw [1,26] (fun u vi wr=>∃i:Nat,i<=n/\vi=J Jq i/\Hid (az wr B u (l++(⟨d,k,b.x,b.y,b.w,b.h,0⟩::bJ (ts.take i) (d+1))))/\Hid (Below B w wr)) (fun _ v _=>n-(intOf v).toNat)
 case atStart=>exact⟨0,Nat.zero_le _,rfl,H2,H3⟩
 case round=>
  obtain⟨i,hi,rfl,HO,HB⟩:=hrel
  clear c5 H2 H3
  have r5:=E0.out _ HB.out
  by_cases am:i < n
  . obtain⟨t,ht⟩:∃t,ts[i]?=I t:=⟨_,List.getElem?_eq_getElem (by rw[HN.out];exact am)⟩
    obtain⟨pv,T,gi,Ft,qd,HP⟩:=HT.out i t ht
    have ri:=HXr.out _ HB.out i _ qd
    have de:=HP.val
    subst de
    have m1:=HP.mT
    have m2:=HP.nT
    have m3:=HP.fT
    have hsz:=zH ts i t ht
    have WA:=HP.cT _ _ _ (d+1) HB.out HB.out.size HO.out (by have:=HD.out;have:=Nx.out;omega) (by rw[List.length_append,List.length_cons,lZ];have:=Nx.out;omega)
    rw[List.append_assoc,List.cons_append,<- Dh ts (d+1) i t ht] at WA
    have HcT:=zh WA
    clear WA HP qd ht hsz
    go_wp2_with fail
    refine HcT.out.mono ?_
    rintro e w3 ⟨u3,rfl,si,aM⟩
    have If:=zh si
    have cQ:=zh (HB.out.trans aM)
    clear si aM
    go_wp2
    go_roundw
    case rel=>exact⟨i+1,by omega,by go_num,If,cQ⟩
    case measure=>simp[intOf];omega
  . have bE:i=n:=by omega
    subst bE
    have WB:Hid (az wr B u1 (l++(Tree.split b k ts).tell d)):=by
     have h:=HO.out
     rw[List.take_of_length_le (by rw[HN.out];exact Nat.le_refl _)] at h
     exact h
    clear HO
    go_wp2
    go_ret
    exact⟨_,rfl,WB.out,HB.out⟩
theorem Ql (g : Nat) (W : World) : (method 286 83 (JJ (I ⟨g, 0, O⟩)) "mullion/layout.tell").run prog W = .ok (148, JJ (I ⟨g, 0, O⟩)) W := by kernel_rfl
theorem Q4 (g : Nat) (W : World) : (nilAhead 286 45 (JJ (I ⟨g, 0, O⟩)) "mullion/layout.tell").run prog W = .ok (I false) W := by kernel_rfl
theorem Q5 (g : Nat) (W : World) : (nilAhead 286 83 (JJ (I ⟨g, 0, O⟩)) "mullion/layout.tell").run prog W = .ok (I false) W := by kernel_rfl
theorem Q7 (a c d:Value)(W:World):(callFunc 139 #[a,c,d]).run prog W=.ok (.enter 139 #[a,c,d]) W:=by kernel_rfl
theorem Q8 (a c d:Value)(W:World):(callFunc 148 #[a,c,d]).run prog W=.ok (.enter 148 #[a,c,d]) W:=by kernel_rfl
mutual
def Tree.full:Tree->Prop
 | .leaf _ _=>True
 | .split _ _ ts=>ts≠[]/\I4 ts
def I4:List Tree->Prop
 | []=>True
 | t::ts=>t.full/\I4 ts
end
mutual
theorem Tree.At.partT:∀{t:Tree} {w:World} {Bt B:Nat} {v:Value} {fp:List Nat},t.At w Bt v fp->t.full->(∀g∈fp,g < B)->B<=w.heap.size->∃T gi Ft,PS w B v t T gi Ft
 | .leaf b p,w,Bt,B,v,fp,h,_,cf,hB=>by
   obtain⟨g,rfl,h2,rfl⟩:=h
   have hg:g < B:=cf g (by simp)
   exact⟨_,g,_,{ val:=rfl,mT:=PK g,nT:=Q4 g,fT:=Q7,cT:=fun X u l d hX hsz hO hd hl=>Il g b p d B u l X ((hX.block g hg).trans h2) hg (Nat.le_trans hB hsz) hO (by have:=hl;omega) }⟩
 | .split b k ts,w,Bt,B,v,fp,h,J1,cf,hB=>by
   obtain⟨g,sl,vs,fs,rfl,h2,h3,h4,rfl⟩:=h
   have hg:g < B:=cf g (by simp)
   have dk:=h4.length
   obtain⟨pg,cap,av,_⟩:=jV h2 h3 (by intro e;rw[e] at dk;exact J1.1 (List.length_eq_zero_iff.1 dk.symm))
   subst av
   have B6:pg < B:=cf pg (by simp[Value.ownBlock])
   refine⟨_,g,_,{ val:=rfl,mT:=Ql g,nT:=Q5 g,fT:=Q8,cT:=fun X u l d hX hsz hO hd hl=> ?_ }⟩
   have AW:aX X g b k _:=(hX.block g hg).trans h2
   have Uj:X.ownsRow Bt 70 1 _ vs.length vs:=dU h3 fun q hq=>hX.block q (cf q (by simp[hq]))
   have Vr:aB X Bt ts vs fs:=h4.keep fun q hq=>hX.block q (cf q (by simp[hq]))
   obtain⟨pg',cap',e,bX⟩:=jV AW Uj (by intro e;rw[e] at dk;exact J1.1 (List.length_eq_zero_iff.1 dk.symm))
   cases e
   exact EX g b k pg vs.length cap vs ts d B u l X AW dk.symm bX.row (aB.tells Vr J1.2 (fun q hq=>cf q (by simp[hq])) (Nat.le_trans hB hsz)) hg B6 (Nat.le_trans hB hsz) hO (by have:=hd;unfold Tree.size at this;omega) (by have:=hl;unfold Tree.size at this;omega)
theorem aB.tells:∀{ts:List Tree} {w:World} {Bt B:Nat} {vs:List Value} {fp:List Nat},aB w Bt ts vs fp->I4 ts->(∀g∈fp,g < B)->B<=w.heap.size->PT w B vs ts
 | [],w,Bt,B,vs,fp,h,_,cf,hB=>by
   intro i t hi
   simp at hi
 | t::ts,w,Bt,B,vs,fp,h,J1,cf,hB=>by
   obtain⟨v,vs',f,f',rfl,h2,h3,rfl⟩:=h
   have h4:=Tree.At.partT h2 J1.1 (fun q hq=>cf q (List.mem_append_left _ hq)) hB
   have h5:=aB.tells h3 J1.2 (fun q hq=>cf q (List.mem_append_right _ hq)) hB
   intro i t' hi
   cases i with
   | zero=>
     simp at hi
     subst hi
     obtain⟨T,gi,Ft,hp⟩:=h4
     exact⟨v,T,gi,Ft,rfl,hp⟩
   | succ i=>exact h5 i t' (by simpa using hi)
end
mutual
theorem Tree.zV:∀(t:Tree) (x y:Int),t.full->(t.moved x y).full
 | .leaf _ _,_,_,_=>trivial
 | .split b k ts,x,y,h=>by
   refine⟨?_,rf ts k x y h.2⟩
   cases ts with
   | nil=>exact absurd rfl h.1
   | cons a r=>intro e;cases e
theorem rf:∀(ts:List Tree) (k x y:Int),I4 ts->I4 (aS ts k x y)
 | [],_,_,_,_=>trivial
 | t::ts,k,x,y,h=>by
   refine⟨Tree.zV t x y h.1,?_⟩
   split
   . exact rf ts k _ _ h.2
   . exact rf ts k _ _ h.2
end
mutual
theorem Tree.iI:∀(t:Tree) (x y:Int),(t.moved x y).size=t.size
 | .leaf _ _,_,_=>rfl
 | .split b k ts,x,y=>by
   show 1+sizes (aS ts k x y)=1+sizes ts
   rw[rq ts]
theorem rq:∀(ts:List Tree) (k x y:Int),sizes (aS ts k x y)=sizes ts
 | [],_,_,_=>rfl
 | t::ts,k,x,y=>by
   show (t.moved x y).size+sizes (if k=2 then _ else _)=t.size+sizes ts
   rw[Tree.iI t]
   split
   . rw[rq ts]
   . rw[rq ts]
end
mutual
theorem Tree.zW:∀(t:Tree),t.sound=true->t.full
 | .leaf _ _,_=>trivial
 | .split b k ts,h=>by
   unfold Tree.sound at h
   simp only[Bool.and_eq_true,decide_eq_true_eq] at h
   refine⟨?_,qE ts b k h.2.1⟩
   intro e
   rw[e] at h
   simp at h
theorem qE:∀(ts:List Tree) (b:Box) (k:Int),au ts b k=true->I4 ts
 | [],_,_,_=>trivial
 | t::ts,b,k,h=>by
   unfold au at h
   simp only[Bool.and_eq_true] at h
   exact⟨Tree.zW t h.1.1,qE ts b k h.2⟩
end
theorem xG (t:Tree)(B:Nat)(v:Value)(fp:List Nat)(w:World)(h:t.At w B v fp)(aE:fp.Nodup)(hs:t.sound=true)(hf:t.fine)(hz:t.size<=900):
 Calls prog 15 #[v] w fun e w'=>∃u,e=Jz u/\az w' w.heap.size u ((t.moved 0 0).tell 0)/\(t.moved 0 0).At w' B v fp/\But fp w w':=by
 have ar:=t.aF hs
 have J1:=Tree.zV t 0 0 (t.zW hs)
 obtain⟨T,gi,Fm,HP⟩:=t.moves hf B v fp w h aE hs
 have U8:=HP.cM w 0 0 h (by omega) (by omega)
 have am:=h.lt
 have HM : Hid (Calls prog Fm #[JJ (I ⟨gi, 0, O⟩), J Jq 0, J Jq 0] w fun e w' => e = Jz (.tuple #[]) ∧ But fp w w' ∧ ∃ Ft, (∀ W, (method 286 T (JJ (I ⟨gi, 0, O⟩)) "mullion/layout.tell").run prog W = .ok (Ft, JJ (I ⟨gi, 0, O⟩)) W) ∧ (∀ a c d W, (callFunc Ft #[a, c, d]).run prog W = .ok (.enter Ft #[a, c, d]) W) ∧
  Calls prog Ft #[JJ (I ⟨gi,0,O⟩),Jj O 0 0,J Jq 0] w' fun e w2=>∃u,e=Jz u/\az w2 w.heap.size u ((t.moved 0 0).tell 0)/\(t.moved 0 0).At w2 B v fp/\But fp w w2):=by
  refine U8.mono fun e w' h1=>⟨h1.1,h1.2.2,?_⟩
  have hsz:=h1.2.2.size
  obtain⟨T',gi',Ft,HT⟩:=h1.2.1.partT (B:=w.heap.size) J1 am hsz
  have e1:=HP.val
  rw[HT.val] at e1
  cases e1
  refine⟨Ft,HT.mT,HT.fT,(HT.cT w' (Jj O 0 0) [] 0 (Below.refl _ _) (Nat.le_refl _) (World.ownsRow_nil _ _ _ _) (by rw[Tree.iI];omega) (by rw[Tree.iI];simp;omega)).mono fun e w2 h2=> ?_⟩
  obtain⟨u,e2,e3,e4⟩:=h2
  refine⟨u,e2,e3,h1.2.1.keep fun q hq=>e4.block q (am q hq),?_⟩
  have hb:=h1.2.2
  exact⟨e4.os.trans hb.os,e4.tape.trans hb.tape,e4.output.trans hb.output,Nat.le_trans hb.size e4.size,fun q hq hn=>(e4.block q hq).trans (hb.block q hq hn)⟩
 have m1:=HP.mM
 have m2:=HP.fM
 have de:=HP.val
 subst de
 clear U8 HP h ar J1 am
 go_enter func15,ntmps15
 go_wp2_with fail
 refine HM.out.mono ?_
 rintro e w1 ⟨rfl,hb,Ft,m3,m4,hc⟩
 have HC:=zh hc
 clear hc hb
 go_wp2_with fail
 refine HC.out.mono ?_
 rintro e w2 ⟨u,rfl,hu⟩
 have HU:Hid _:=hu
 clear hu
 go_wp2
 go_ret
 exact⟨u,rfl,HU.out⟩
def fO (x y p:Int):Int:=if (aG x&&aG y)=false then 41 else if idB p=false then 43 else 0
theorem OH (x y p:Int)(w:World)(hb:¬fO x y p=0):
 Calls prog 5 #[J Jq x,J Jq y,J Jq p] w fun e w'=>e=Jz (.tuple #[Jj O 0 0,J Jq (fO x y p)])/\w=w':=by
 have H1:=zh ed
 have H2:=zh vW
 unfold fO at hb ⊢
 obtain⟨a,ha⟩:∃a,aG x=a:=⟨_,rfl⟩
 obtain⟨c,hc⟩:∃c,aG y=c:=⟨_,rfl⟩
 obtain⟨d,hd⟩:∃d,idB p=d:=⟨_,rfl⟩
 rw[ha,hc,hd] at hb ⊢
 cases a <;> cases c <;> cases d <;> simp only[Bool.and_true,Bool.and_false,Bool.true_eq_false,if_true,if_false,not_true_eq_false] at hb ⊢
 all_goals
  go_enter func5,ntmps5
  go_wp2_with (first | (go_at_call 13;refine (H1.out _ _).mono ?_;rintro e w1 ⟨rfl,rfl⟩) | (go_at_call 14;refine (H2.out _ _).mono ?_;rintro e w1 ⟨rfl,rfl⟩))
  all_goals go_ret2
  all_goals exact⟨rfl,rfl⟩
theorem az.lower {w:World}{B B':Nat}{v:Value}{l:List aj}(h:az w B v l)(hB:B'<=B):az w B' v l:=by
 refine⟨h.1,?_⟩
 rcases h.2 with h0 | ⟨g,cap,cur,e,hb,r⟩
 . exact .inl h0
 . exact .inr ⟨g,cap,cur,e,Nat.le_trans hB hb,r⟩
theorem F7 (x y p:Int)(w:World)(hb:fO x y p=0):
 Calls prog 5 #[J Jq x,J Jq y,J Jq p] w fun e w'=>∃u,e=Jz (.tuple #[u,J Jq 0])/\az w' w.heap.size u [⟨0,1,0,0,x,y,p⟩]/\Below w.heap.size w w':=by
 have pN:(aG x&&aG y)=true:=by
  cases h:(aG x&&aG y) with
  | true=>rfl
  | false=>unfold fO at hb;rw[h] at hb;simp at hb
 have hd:idB p=true:=by
  cases h:idB p with
  | true=>rfl
  | false=>unfold fO at hb;rw[h,pN] at hb;simp at hb
 have ha:aG x=true:=(Bool.and_eq_true _ _ ▸ pN).1
 have hc:aG y=true:=(Bool.and_eq_true _ _ ▸ pN).2
 have H1:Hid (∀W,Calls prog 13 #[J Jq x] W fun e w'=>e=Jz (.bool true)/\W=w'):=fun W=>ha ▸ ed x W
 have H3:Hid (∀W,Calls prog 13 #[J Jq y] W fun e w'=>e=Jz (.bool true)/\W=w'):=fun W=>hc ▸ ed y W
 have H2:Hid (∀W,Calls prog 14 #[J Jq p] W fun e w'=>e=Jz (.bool true)/\W=w'):=fun W=>hd ▸ vW p W
 have HL:Hid (∀X,w.heap.size<=X.heap.size->∀g,bD X g ⟨0,0,x,y⟩ p->Calls prog 15 #[aZ g] X fun e w'=>∃u,e=Jz u/\az w' X.heap.size u [⟨0,1,0,0,x,y,p⟩]/\But [g] X w'):=by
  intro X hX g hg
  refine (xG (.leaf ⟨0,0,x,y⟩ p) 0 (aZ g) [g] X ⟨g,rfl,hg,rfl⟩ (by simp) (by unfold Tree.sound;rw[ha,hc,hd];rfl) trivial (by show (1:Nat)<=900;omega)).mono fun e w' h=> ?_
  obtain⟨u,h1,h2,_,h4⟩:=h
  exact⟨u,h1,h2,h4⟩
 clear pN ha hc hd hb
 go_enter func5,ntmps5
 go_wp2_with fail
 refine (H1.out _).mono ?_
 rintro e w1 ⟨rfl,rfl⟩
 go_wp2_with fail
 refine (H3.out _).mono ?_
 rintro e w1 ⟨rfl,rfl⟩
 go_wp2_with fail
 refine (H2.out _).mono ?_
 rintro e w1 ⟨rfl,rfl⟩
 go_wp2_with fail
 have hX:w.heap.size<=(w.alloc (JZ #[J Jq 0,J Jq 0,J Jq x,J Jq y,J Jq p] 49)).heap.size:=by simp
 refine (HL.out _ hX w.heap.size (heap_alloc_new w _)).mono ?_
 rintro e w2 ⟨u,rfl,hu,hb⟩
 have HU:=zh (hu.lower hX)
 have HB:Hid (Below w.heap.size w w2):=by
  have h0:Below w.heap.size w (w.alloc (JZ #[J Jq 0,J Jq 0,J Jq x,J Jq y,J Jq p] 49)):=(Below.refl _ w).alloc (Nat.le_refl _) _
  exact⟨hb.os.trans h0.os,hb.tape.trans h0.tape,hb.output.trans h0.output,Nat.le_trans h0.size hb.size,fun q hq=>(hb.block q (by omega) (by simp;omega)).trans (h0.block q hq)⟩
 clear hu hb hX
 go_wp2
 go_ret2
 exact⟨u,rfl,HU.out,HB.out⟩
structure ay (w:World)(v:Value)(l:List aj):Prop where
 shape:∃ad cap,v=Jj ad l.length cap/\l.length<=cap/\(l=[]\/∃b off,ad=I ⟨b,off,O⟩/\∀(j:Nat) u,(bz l)[j]?=I u->w.cell? ⟨b,off+j,O⟩=I u)
theorem ay.below {w w':World}{v:Value}{l:List aj}(h:ay w v l)(hb:Below w.heap.size w w'):ay w' v l:=by
 obtain⟨ad,cap,h1,h2,h3⟩:=h.shape
 refine⟨ad,cap,h1,h2,?_⟩
 rcases h3 with h3 | ⟨b,off,h3,h4⟩
 . exact .inl h3
 . exact .inr ⟨b,off,h3,fun j u hu=>(hb.cell (p:=⟨b,off+j,O⟩) (World.block_lt_of_cell? w _ (h4 j u hu))).trans (h4 j u hu)⟩
theorem ay.nil {w:World}{v:Value}(h:ay w v []):∃ad cap,v=Jj ad 0 cap:=by
 obtain⟨ad,cap,h1,_⟩:=h.shape
 exact⟨ad,cap,h1⟩
theorem ay.cons {w:World}{v:Value}{c:aj}{l:List aj}(h:ay w v (c::l)):∃b off cap,v=Jj (I ⟨b,off,O⟩) (l.length+1) cap/\l.length+1<=cap/\
 (∀(j:Nat) u,c.vals[j]?=I u->w.cell? ⟨b,off+j,O⟩=I u)/\(∀ad,(l=[]\/ad=I ⟨b,off+7,O⟩)->ay w (Jj ad l.length (cap-1)) l):=by
 obtain⟨ad,cap,h1,h2,h3⟩:=h.shape
 rcases h3 with h3 | ⟨b,off,h3,h4⟩
 . cases h3
 . subst h3
   have hc:bz (c::l)=c.vals.toList++bz l:=rfl
   refine⟨b,off,cap,h1,h2,fun j u hu=> ?_,fun ad G2=>⟨ad,cap-1,rfl,by simp at h2;omega,?_⟩⟩
   . refine h4 j u ?_
     have hj:=(Array.getElem?_eq_some_iff.1 hu).1
     rw[hc,List.getElem?_append_left (by simpa using hj)]
     simpa using hu
   . rcases G2 with G2 | G2
     . exact .inl G2
     . refine .inr ⟨b,off+7,G2,fun j u hu=> ?_⟩
       have:=h4 (7+j) u (by
        rw[hc,List.getElem?_append_right (by show 7<=7+j;omega)]
        show (bz l)[7+j-7]?=_
        rw[Nat.add_sub_cancel_left]
        exact hu)
       rw[show off+7+j=off+(7+j) by omega]
       exact this
def eH:Value:=.nilIface
structure lQ (w:World)(b off:Nat)(c:aj):Prop where
 q0:w.cell? ⟨b,off,O⟩=I (J Jq c.depth)
 q1:w.cell? ⟨b,off+1,O⟩=I (J Jq c.kind)
 q2:w.cell? ⟨b,off+2,O⟩=I (J Jq c.x)
 q3:w.cell? ⟨b,off+3,O⟩=I (J Jq c.y)
 q4:w.cell? ⟨b,off+4,O⟩=I (J Jq c.w)
 q5:w.cell? ⟨b,off+5,O⟩=I (J Jq c.h)
 q6:w.cell? ⟨b,off+6,O⟩=I (J Jq c.p)
theorem lQ.of {w:World}{b off:Nat}{c:aj}(h:∀(j:Nat) u,c.vals[j]?=I u->w.cell? ⟨b,off+j,O⟩=I u):lQ w b off c:=
 ⟨h 0 _ rfl,h 1 _ rfl,h 2 _ rfl,h 3 _ rfl,h 4 _ rfl,h 5 _ rfl,h 6 _ rfl⟩
theorem CS (v:Value)(l:List aj)(d:Int)(w:World)(h:ay w v l)(hb:l=[]\/∃c r,l=c::r/\c.depth≠d):
 Calls prog 69 #[v,J Jq d] w fun e w'=>e=Jz (.tuple #[eH,v])/\w=w':=by
 rcases hb with rfl | ⟨c,r,rfl,hd⟩
 . obtain⟨ad,cap,rfl⟩:=h.nil
   clear h
   go_enter func69,ntmps69
   go_wp2
   all_goals go_ret2
   all_goals exact⟨rfl,rfl⟩
 . obtain⟨b,off,cap,rfl,cG,dp,_⟩:=h.cons
   obtain⟨q0,q1,q2,q3,q4,q5,q6⟩:=lQ.of dp
   clear h dp
   obtain⟨n,hn⟩:∃n,r.length+1=n:=⟨_,rfl⟩
   rw[hn]
   have du:0 < n:=by omega
   have mU:((n:Int)==0)=false:=by simp;omega
   have hdn:(c.depth != d)=true:=by simpa using hd
   clear hn cG
   go_enter func69,ntmps69
   go_wp2
   all_goals go_ret2
   all_goals exact⟨rfl,rfl⟩
theorem Ie (v:Value)(c:aj)(l:List aj)(w:World)(h:ay w v (c::l))(hk:¬c.kind=1/\¬c.kind=2/\¬c.kind=3):
 Calls prog 69 #[v,J Jq c.depth] w fun e w'=>e=Jz (.tuple #[eH,v])/\Below w.heap.size w w':=by
 obtain⟨b,off,cap,rfl,cG,dp,_⟩:=h.cons
 obtain⟨q0,q1,q2,q3,q4,q5,q6⟩:=lQ.of dp
 clear h dp
 obtain⟨n,hn⟩:∃n,l.length+1=n:=⟨_,rfl⟩
 rw[hn]
 have du:0 < n:=by omega
 have mU:((n:Int)==0)=false:=by simp;omega
 have k1:(c.kind==1)=false:=by simpa using hk.1
 have k2:(c.kind==2)=false:=by simpa using hk.2.1
 have k3:(c.kind==3)=false:=by simpa using hk.2.2
 clear hn cG hk
 go_enter func69,ntmps69
 go_wp2
 all_goals go_ret2
 all_goals exact⟨rfl,((Below.refl _ _).alloc (Nat.le_refl _) _).alloc (by simp) _⟩
theorem jR (X:World)(N:Nat)(hN:X.heap.size=N)(vs:Array Value)(T:TypeId):(X.alloc (.cells vs T)).heap[N]?=I (.cells vs T (0,0)):=by
 subst hN
 exact heap_alloc_new X _
theorem xU (w:World)(o1 o2 o3:Obj):Below w.heap.size w (((w.alloc o1).alloc o2).drew.alloc o3):=(((Below.refl _ _).alloc (Nat.le_refl _) _).alloc (by simp) _).drew.alloc (by simp;omega) _
theorem ay.empty (w:World)(ad:Option Addr)(cap:Nat)(l:List aj)(h:l.length=0):ay w (Jj ad 0 cap) l:=by
 have:=List.length_eq_zero_iff.1 h
 subst this
 exact⟨ad,cap,rfl,Nat.zero_le _,.inl rfl⟩
theorem J7 (v:Value)(c:aj)(l:List aj)(W0 w:World)(hW:Below W0.heap.size W0 w)(h:ay W0 v (c::l))(hk:c.kind=1):
 Calls prog 69 #[v,J Jq c.depth] w fun e w'=>∃g v',e=Jz (.tuple #[aZ g,v'])/\w.heap.size<=g/\bD w' g c.box c.p/\ay W0 v' l/\Below w.heap.size w w':=by
 obtain⟨b,off,cap,rfl,cG,dp,iv⟩:=h.cons
 obtain⟨q0,q1,q2,q3,q4,q5,q6⟩:=lQ.of (fun j u hu=>(hW.cell (p:=⟨b,off+j,O⟩) (World.block_lt_of_cell? W0 _ (dp j u hu))).trans (dp j u hu))
 have HR:=zh iv
 clear h dp iv hW
 have HN:=zh cG
 obtain⟨n,hn⟩:∃n,l.length+1=n:=⟨_,rfl⟩
 rw[hn] at cG ⊢
 have du:0 < n:=by omega
 have mU:((n:Int)==0)=false:=by simp;omega
 have Hn:=zh hn
 rw[hk] at q1
 have fe:(1:Int)<=(n:Int):=by omega
 have rl:(n:Int)<=(cap:Int):=by omega
 have Wl:1<=n:=du
 clear hn hk
 by_cases mx:cap=1
 . subst mx
   have Wm:n=1:=by omega
   subst Wm
   clear cG du mU fe rl Wl
   go_enter func69,ntmps69
   go_wp2
   go_region
   all_goals go_wp2
   all_goals go_ret2
   all_goals refine⟨w.heap.size+1+1,_,rfl,by omega,?_,ay.empty _ _ _ _ (by have:=Hn.out;omega),xU _ _ _ _⟩
   all_goals exact jR _ _ (by simp) _ _
 . have my:(cap==1)=false:=by simpa using mx
   go_enter func69,ntmps69
   go_wp2
   go_region
   all_goals go_wp2
   all_goals go_ret2
   all_goals have e1:n-1=l.length:=by have:=Hn.out;omega
   all_goals rw[e1]
   all_goals refine⟨w.heap.size+1+1,_,rfl,by omega,?_,HR.out _ (.inr rfl),xU _ _ _ _⟩
   all_goals exact jR _ _ (by simp) _ _
theorem kT:∀(n:Nat),(∀l d t r,qp n l d=I (t,r)->r.length < l.length)/\(∀l d,(fV n l d).2.length<=l.length)
 | 0=>by
   refine⟨fun l d t r h=> ?_,fun l d=> ?_⟩
   . unfold qp at h;cases h
   . unfold fV;exact Nat.le_refl _
 | n+1=>by
   obtain⟨ih1,ih2⟩:=kT n
   refine⟨fun l d t r h=> ?_,fun l d=> ?_⟩
   . cases l with
     | nil=>unfold qp at h;cases h
     | cons c l=>
       unfold qp at h
       split at h
       . split at h
         . cases h;exact Nat.lt_succ_self _
         . split at h
           . cases h
             exact Nat.lt_succ_of_le (ih2 l (d+1))
           . cases h
       . cases h
   . unfold fV
     split
     . exact Nat.le_refl _
     . rename_i t r h
       exact Nat.le_trans (ih2 r d) (Nat.le_of_lt (ih1 l d t r h))
theorem zu:∀(m:Nat),(∀n n' l d,l.length < m->2*l.length+1<=n->2*l.length+1<=n'->qp n l d=qp n' l d)/\(∀n n' l d,l.length < m->2*l.length+2<=n->2*l.length+2<=n'->fV n l d=fV n' l d)
 | 0=>⟨fun _ _ _ _ h=>by omega,fun _ _ _ _ h=>by omega⟩
 | m+1=>by
   obtain⟨ih1,ih2⟩:=zu m
   have one:∀n n' l d,l.length < m+1->2*l.length+1<=n->2*l.length+1<=n'->qp n l d=qp n' l d:=by
    intro n n' l d hl hn eV
    obtain⟨k,rfl⟩:∃k,n=k+1:=⟨n-1,by omega⟩
    obtain⟨k',rfl⟩:∃k',n'=k'+1:=⟨n'-1,by omega⟩
    cases l with
    | nil=>unfold qp;rfl
    | cons c l=>
      rw[List.length_cons] at hl hn eV
      have:=ih2 k k' l (d+1) (by omega) (by omega) (by omega)
      unfold qp
      rw[this]
   refine⟨one,fun n n' l d hl hn eV=> ?_⟩
   obtain⟨k,rfl⟩:∃k,n=k+1:=⟨n-1,by omega⟩
   obtain⟨k',rfl⟩:∃k',n'=k'+1:=⟨n'-1,by omega⟩
   have h1:=one k k' l d hl (by omega) (by omega)
   unfold fV
   rw[h1]
   cases h:qp k' l d with
   | none=>rfl
   | some p=>
     obtain⟨t,r⟩:=p
     have hr:=(kT k').1 l d t r h
     have h2:=ih2 k k' r d (by omega) (by omega) (by omega)
     show (t::(fV k r d).1,(fV k r d).2)=_
     rw[h2]
def jO (l:List aj)(d:Int):Option (Tree × List aj):=qp (2*l.length+1) l d
def di (l:List aj)(d:Int):List Tree × List aj:=fV (2*l.length+2) l d
theorem iy (d:Int):jO [] d=O:=by unfold jO qp;rfl
theorem jG (c:aj)(l:List aj)(d:Int):jO (c::l) d=
 if c.depth=d then
  if c.kind=1 then I (.leaf c.box c.p,l)
  else if c.kind=2\/c.kind=3 then I (.split c.box c.kind (di l (d+1)).1,(di l (d+1)).2)
  else O
 else O:=by
 unfold jO di
 rw[show 2*(c::l).length+1=(2*l.length+2)+1 by simp;omega]
 conv=>lhs;unfold qp
theorem iC (l:List aj)(d:Int):di l d=match jO l d with
 | none=>([],l)
 | some (t,r)=>(t::(di r d).1,(di r d).2):=by
 unfold jO
 conv=>lhs;unfold di fV
 cases h:qp (2*l.length+1) l d with
 | none=>rfl
 | some p=>
   obtain⟨t,r⟩:=p
   have hr:=(kT _).1 l d t r h
   have h2:=(zu (r.length+1)).2 (2*l.length+1) (2*r.length+2) r d (by omega) (by omega) (by omega)
   show (t::(fV (2*l.length+1) r d).1,(fV (2*l.length+1) r d).2)=_
   rw[h2]
   rfl
theorem kH (l:List aj)(d:Int)(t:Tree)(r:List aj)(h:jO l d=I (t,r)):r.length < l.length:=(kT _).1 l d t r h
end Go.Proofs.YtejlincnnonhaaaGreat
