import Derived.Test.YtejlincnnonhaaaGreatP9
import Derived.Laws.OwnMore
namespace Go.Proofs.YtejlincnnonhaaaGreat
open Go.RowKit Go.Proofs.Tryz
open Value renaming int->J,slice->Jj,pointer->JJ
open IntKind renaming i64->Jq
open Option renaming none->O,some->I
open Ending renaming returned->Jz
open Obj renaming cells->JZ
set_option linter.unusedVariables false
set_option maxRecDepth 100000
set_option maxHeartbeats 16000000
structure Ew (w:World)(q:Node)(sq:Value)(k wd ht:Int)(sl:Value)(X:World):Prop where
 snd:X.heap[w.heap.size+1]?=I (.cells (aC q sq) 53 (0,0))
 res:X.heap[w.heap.size+1+1]?=I (.cells aU 53 (0,0))
 new:X.heap[w.heap.size+1+1+1]?=I (JZ #[J Jq k,J Jq wd,J Jq ht,J Jq 0,sl] 53 (0,0))
 below:Below w.heap.size w X
theorem uM (w:World)(o0 o1 o2 o3:Obj):(((((w.alloc o0).alloc o1).alloc o2).alloc o3).heap.size=w.heap.size+4)/\Below w.heap.size w ((((w.alloc o0).alloc o1).alloc o2).alloc o3)/\((((w.alloc o0).alloc o1).alloc o2).alloc o3).heap[w.heap.size+1]?=I o1/\((((w.alloc o0).alloc o1).alloc o2).alloc o3).heap[w.heap.size+1+1]?=I o2/\((((w.alloc o0).alloc o1).alloc o2).alloc o3).heap[w.heap.size+1+1+1]?=I o3:=by
 have s1:(w.alloc o0).heap.size=w.heap.size+1:=by simp
 have s2:((w.alloc o0).alloc o1).heap.size=w.heap.size+1+1:=by simp
 have s3:(((w.alloc o0).alloc o1).alloc o2).heap.size=w.heap.size+1+1+1:=by simp
 refine⟨by simp,((((Below.refl _ _).alloc (Nat.le_refl _) _).alloc (by omega) _).alloc (by omega) _).alloc (by omega) _,?_,?_,?_⟩
 . have h:=heap_alloc_new (w.alloc o0) o1
   rw[s1] at h
   exact (Below.heap_alloc _ _ _ (by omega)).trans ((Below.heap_alloc _ _ _ (by omega)).trans h)
 . have h:=heap_alloc_new ((w.alloc o0).alloc o1) o2
   rw[s2] at h
   exact (Below.heap_alloc _ _ _ (by omega)).trans h
 . have h:=heap_alloc_new (((w.alloc o0).alloc o1).alloc o2) o3
   rw[s3] at h
   exact h
theorem Ew.below' {w:World}{q:Node}{sq:Value}{k wd ht:Int}{sl:Value}{X Y:World}(h:Ew w q sq k wd ht sl X)(hb:Below (w.heap.size+4) X Y):Ew w q sq k wd ht sl Y:=
 ⟨(hb.block _ (by omega)).trans h.snd,(hb.block _ (by omega)).trans h.res,(hb.block _ (by omega)).trans h.new,⟨hb.os.trans h.below.os,hb.tape.trans h.below.tape,hb.output.trans h.below.output,Nat.le_trans h.below.size hb.size,fun j hj=>(hb.block j (by omega)).trans (h.below.block j hj)⟩⟩
theorem Ew.put {w:World}{q:Node}{sq:Value}{k wd ht:Int}{sl:Value}{X:World}(h:Ew w q sq k wd ht sl X)(v:Value):Ew w q sq k wd ht v (X.setCell ⟨w.heap.size+1+1+1,4,O⟩ v):=
 ⟨(Below.heap_setCell _ _ _ _ (by show w.heap.size+1≠w.heap.size+1+1+1;omega)).trans h.snd,(Below.heap_setCell _ _ _ _ (by show w.heap.size+1+1≠w.heap.size+1+1+1;omega)).trans h.res,rQ h.new v,below_grown h.below (grownBy_set _ _ _ _) (by omega)⟩
def rU (n':Node)(S:List Nat)(w:World)(e:Ending)(w':World):Prop:=∃sa sn sc fp',e=Jz (.agg (aC n' (Jj sa sn sc)))/\n'.In w' (Jj sa sn sc) fp'/\(∀q∈fp',q∈S\/w.heap.size<=q)/\Below w.heap.size w w'
theorem vX {w X:World}{q:Node}{sq:Value}{k wd ht:Int}{sa:Option Addr}{sn sc:Nat}{ns:List Node}{S:List Nat}(hM:Ew w q sq k wd ht (Jj sa sn sc) X)(hO:bG X (w.heap.size+4) (Jj sa sn sc) ns S)(hS:∀q∈S,q < w.heap.size)(v0 v1 v2 v3 v4:Value):
 rU (.mk k wd ht 0 ns) S w (Jz (.agg #[J Jq k,J Jq wd,J Jq ht,J Jq 0,Jj sa sn sc])) (fB X (w.heap.size+1+1) v0 v1 v2 v3 v4):=by
 have hO':=hO.keep (w':=fB X (w.heap.size+1+1) v0 v1 v2 v3 v4) fun q hq _=>fD _ _ _ _ _ _ _ q (by
  rcases hq with h | h
  . omega
  . have:=hS q h
    omega)
 obtain⟨cs,fs,h1,h2,h3⟩:=hO'.row
 have h0:(fB X (w.heap.size+1+1) v0 v1 v2 v3 v4).ownsRow 0 53 5 (Jj sa sn sc) ns.length cs:=by
  rcases h1 with ⟨a,b | ⟨g,cap,cur,e,_,c⟩⟩
  . exact⟨a,.inl b⟩
  . exact⟨a,.inr ⟨g,cap,cur,e,Nat.zero_le _,c⟩⟩
 refine⟨sa,sn,sc,(Value.slice sa sn sc).ownBlock.toList++fs,rfl,⟨cs,fs,h0,h2,rfl⟩,fun q hq=> ?_,bC hM.below _ (by omega) _ _ _ _ _⟩
 rcases List.mem_append.1 hq with h | h
 . have:=(World.ownsRow.lt h1 q (by simpa using h)).1
   exact .inr (by omega)
 . exact .inl (h3 q h)
theorem xI (a b:Node)(aa:Option Addr)(an ac:Nat)(ba:Option Addr)(bn bc:Nat)(fa fb:List Nat)(w:World)(ha:a.In w (Jj aa an ac) fa)(hb:b.In w (Jj ba bn bc) fb)(la:a.ks.length<=500)(lb:b.ks.length<=500)(na:(0<=a.w/\a.w<=1000)/\(0<=a.h/\a.h<=1000))(nb:(0<=b.w/\b.w<=1000)/\(0<=b.h/\b.h<=1000)):
 Calls prog 62 #[J Jq 2,.agg (aC a (Jj aa an ac)),.agg (aC b (Jj ba bn bc)),.bool false] w (rU (.mk 2 (a.w+b.w+1) a.h 0 (bU 2 a++bU 2 b)) (fa++fb) w):=by
 have hS:∀q∈fa++fb,q < w.heap.size:=fun q hq=>by
  rcases List.mem_append.1 hq with h | h
  . exact ha.lt q h
  . exact hb.lt q h
 have li:(bU 2 a).length<=501:=by
  unfold bU
  split
  . omega
  . simp
 have se:Hid (Ew w b (Jj ba bn bc) 2 (a.w+b.w+1) a.h (Jj O 0 0) ((((w.alloc (JZ #[J Jq a.k,J Jq a.w,J Jq a.h,J Jq a.i,Jj aa an ac] 53)).alloc (JZ #[J Jq b.k,J Jq b.w,J Jq b.h,J Jq b.i,Jj ba bn bc] 53)).alloc (.cells aU 53)).alloc (JZ #[J Jq 2,J Jq (a.w+b.w+1),J Jq a.h,J Jq 0,Jj O 0 0] 53))):=by
  obtain⟨_,h1,h2,h3,h4⟩:=uM w (JZ #[J Jq a.k,J Jq a.w,J Jq a.h,J Jq a.i,Jj aa an ac] 53) (JZ #[J Jq b.k,J Jq b.w,J Jq b.h,J Jq b.i,Jj ba bn bc] 53) (.cells aU 53) (JZ #[J Jq 2,J Jq (a.w+b.w+1),J Jq a.h,J Jq 0,Jj O 0 0] 53)
  exact⟨h2,h3,h4,h1⟩
 have px:Hid (Calls prog 85 #[Jj O 0 0,J Jq 2,.agg #[J Jq a.k,J Jq a.w,J Jq a.h,J Jq a.i,Jj aa an ac]] ((((w.alloc (JZ #[J Jq a.k,J Jq a.w,J Jq a.h,J Jq a.i,Jj aa an ac] 53)).alloc (JZ #[J Jq b.k,J Jq b.w,J Jq b.h,J Jq b.i,Jj ba bn bc] 53)).alloc (.cells aU 53)).alloc (JZ #[J Jq 2,J Jq (a.w+b.w+1),J Jq a.h,J Jq 0,Jj O 0 0] 53)) fun e w'=>∃ra rn rc,e=Jz (Jj ra rn rc)/\bG w' (w.heap.size+4) (Jj ra rn rc) (bU 2 a) (fa++fb)/\Below (w.heap.size+4) ((((w.alloc (JZ #[J Jq a.k,J Jq a.w,J Jq a.h,J Jq a.i,Jj aa an ac] 53)).alloc (JZ #[J Jq b.k,J Jq b.w,J Jq b.h,J Jq b.i,Jj ba bn bc] 53)).alloc (.cells aU 53)).alloc (JZ #[J Jq 2,J Jq (a.w+b.w+1),J Jq a.h,J Jq 0,Jj O 0 0] 53)) w'):=by
  obtain⟨hsz,h1,_⟩:=uM w (JZ #[J Jq a.k,J Jq a.w,J Jq a.h,J Jq a.i,Jj aa an ac] 53) (JZ #[J Jq b.k,J Jq b.w,J Jq b.h,J Jq b.i,Jj ba bn bc] 53) (.cells aU 53) (JZ #[J Jq 2,J Jq (a.w+b.w+1),J Jq a.h,J Jq 0,Jj O 0 0] 53)
  exact jh 2 a _ _ _ fa (fa++fb) (w.heap.size+4) (Jj O 0 0) [] _ ⟨[],[],World.ownsRow_nil _ _ _ _,⟨rfl,rfl⟩,fun q hq=>by cases hq⟩ (ha.below h1) (fun q hq=>List.mem_append_left _ hq) (fun q hq=>by have:=hS q hq;omega) (by omega) (by simp) (by omega)
 have ix:Hid (∀X ra rn rc,Below w.heap.size w X->w.heap.size+4<=X.heap.size->bG X (w.heap.size+4) (Jj ra rn rc) (bU 2 a) (fa++fb)->Calls prog 85 #[Jj ra rn rc,J Jq 2,.agg #[J Jq b.k,J Jq b.w,J Jq b.h,J Jq b.i,Jj ba bn bc]] X fun e w'=>∃ua un uc,e=Jz (Jj ua un uc)/\bG w' (w.heap.size+4) (Jj ua un uc) (bU 2 a++bU 2 b) (fa++fb)/\Below (w.heap.size+4) X w'):=fun X ra rn rc hX hsz hO=>jh 2 b _ _ _ fb (fa++fb) (w.heap.size+4) (Jj ra rn rc) (bU 2 a) X hO (hb.below hX) (fun q hq=>List.mem_append_right _ hq) (fun q hq=>by have:=hS q hq;omega) hsz (by omega) (by omega)
 have bA:Hid (∀X ua un uc,Ew w b (Jj ba bn bc) 2 (a.w+b.w+1) a.h (Jj ua un uc) X->bG X (w.heap.size+4) (Jj ua un uc) (bU 2 a++bU 2 b) (fa++fb)->∀v0 v1 v2 v3 v4,rU (.mk 2 (a.w+b.w+1) a.h 0 (bU 2 a++bU 2 b)) (fa++fb) w (Jz (.agg #[J Jq 2,J Jq (a.w+b.w+1),J Jq a.h,J Jq 0,Jj ua un uc])) (fB X (w.heap.size+1+1) v0 v1 v2 v3 v4)):=fun X ua un uc h1 h2 v0 v1 v2 v3 v4=>vX h1 h2 hS v0 v1 v2 v3 v4
 have ln:Hid (∀X sl v ns,bG X (w.heap.size+4) sl ns (fa++fb)->bG (X.setCell ⟨w.heap.size+1+1+1,4,O⟩ v) (w.heap.size+4) sl ns (fa++fb)):=fun X sl v ns hO=>hO.keep fun q hq _=>Below.heap_setCell _ _ _ _ (by
  show q≠w.heap.size+1+1+1
  rcases hq with h | h
  . omega
  . have:=hS q h
    omega)
 obtain⟨R,hR⟩:∃R,(Node.mk 2 (a.w+b.w+1) a.h 0 (bU 2 a++bU 2 b))=R:=⟨_,rfl⟩
 rw[hR] at bA ⊢
 obtain⟨S,B8⟩:∃S,fa++fb=S:=⟨_,rfl⟩
 rw[B8] at bA px ix ln ⊢
 obtain⟨R1,B9⟩:∃R,bU 2 a=R:=⟨_,rfl⟩
 obtain⟨R2,Ca⟩:∃R,R1++bU 2 b=R:=⟨_,rfl⟩
 rw[B9] at px ix bA
 rw[Ca] at ix bA
 have w1:IntKind.i64.wrap (a.w+b.w)=a.w+b.w:=by rw[IntKind.wrap_i64];omega
 have w2:IntKind.i64.wrap (a.w+b.w+1)=a.w+b.w+1:=by rw[IntKind.wrap_i64];omega
 have w3:IntKind.i64.wrap (a.h+b.h)=a.h+b.h:=by rw[IntKind.wrap_i64];omega
 have w4:IntKind.i64.wrap (a.h+b.h+1)=a.h+b.h+1:=by rw[IntKind.wrap_i64];omega
 show Calls prog 62 #[J Jq 2,.agg #[J Jq a.k,J Jq a.w,J Jq a.h,J Jq a.i,Jj aa an ac],.agg #[J Jq b.k,J Jq b.w,J Jq b.h,J Jq b.i,Jj ba bn bc],.bool false] w _
 clear ha hb la lb na nb hS li hR B8 B9 Ca
 go_enter func62,ntmps62
 go_wp2_with fail
 refine px.out.mono ?_
 rintro e x1 ⟨ra,rn,rc,rfl,rk,bj⟩
 have ef:=se.out.below' bj
 have c4:x1.cell? ⟨w.heap.size+1+1+1,4,O⟩=I (Jj O 0 0):=ae ef.new 4
 have f4:x1.frozen? ⟨w.heap.size+1+1+1,4,O⟩=false:=ai ef.new 4
 have bS:=ef.put (Jj ra rn rc)
 have nB:=ln.out x1 _ (Jj ra rn rc) _ rk
 obtain⟨X1,od⟩:∃X,x1.setCell ⟨w.heap.size+1+1+1,4,O⟩ (Jj ra rn rc)=X:=⟨_,rfl⟩
 rw[od] at bS nB
 have mC:w.heap.size+4<=X1.heap.size:=by have:=lt_of_block bS.new;omega
 have nL:=zh (ix.out X1 ra rn rc bS.below mC nB)
 have gx:=zh bS
 have pu:=zh od
 have d0:X1.cell? ⟨w.heap.size+1,0,O⟩=I (J Jq b.k):=ae bS.snd 0
 have d1:X1.cell? ⟨w.heap.size+1,1,O⟩=I (J Jq b.w):=ae bS.snd 1
 have d2:X1.cell? ⟨w.heap.size+1,2,O⟩=I (J Jq b.h):=ae bS.snd 2
 have d3:X1.cell? ⟨w.heap.size+1,3,O⟩=I (J Jq b.i):=ae bS.snd 3
 have d4:X1.cell? ⟨w.heap.size+1,4,O⟩=I (Jj ba bn bc):=ae bS.snd 4
 have d5:X1.cell? ⟨w.heap.size+1+1+1,4,O⟩=I (Jj ra rn rc):=ae bS.new 4
 clear rk bj ef bS nB od mC px ix se
 go_upto_region 8 with fail
 rw[pu.out]
 clear c4 f4
 go_wp2_with fail
 refine nL.out.mono ?_
 rintro e x2 ⟨ua,un,uc,rfl,si,aM⟩
 have da:=gx.out.below' aM
 have c4:x2.cell? ⟨w.heap.size+1+1+1,4,O⟩=I (Jj ra rn rc):=ae da.new 4
 have f4:x2.frozen? ⟨w.heap.size+1+1+1,4,O⟩=false:=ai da.new 4
 have b9:=da.put (Jj ua un uc)
 have uR:=ln.out x2 _ (Jj ua un uc) _ si
 obtain⟨X2,oR⟩:∃X,x2.setCell ⟨w.heap.size+1+1+1,4,O⟩ (Jj ua un uc)=X:=⟨_,rfl⟩
 rw[oR] at b9 uR
 have HF:=zh (bA.out X2 ua un uc b9 uR)
 have eW:=zh oR
 have n0:X2.cell? ⟨w.heap.size+1+1+1,0,O⟩=I (J Jq 2):=ae b9.new 0
 have n1:X2.cell? ⟨w.heap.size+1+1+1,1,O⟩=I (J Jq (a.w+b.w+1)):=ae b9.new 1
 have n2:X2.cell? ⟨w.heap.size+1+1+1,2,O⟩=I (J Jq a.h):=ae b9.new 2
 have n3:X2.cell? ⟨w.heap.size+1+1+1,3,O⟩=I (J Jq 0):=ae b9.new 3
 have n4:X2.cell? ⟨w.heap.size+1+1+1,4,O⟩=I (Jj ua un uc):=ae b9.new 4
 have r0:X2.cell? ⟨w.heap.size+1+1,0,O⟩=I (J Jq 0):=ae b9.res 0
 have r1:X2.cell? ⟨w.heap.size+1+1,1,O⟩=I (J Jq 0):=ae b9.res 1
 have r2:X2.cell? ⟨w.heap.size+1+1,2,O⟩=I (J Jq 0):=ae b9.res 2
 have r3:X2.cell? ⟨w.heap.size+1+1,3,O⟩=I (J Jq 0):=ae b9.res 3
 have r4:X2.cell? ⟨w.heap.size+1+1,4,O⟩=I (Jj O 0 0):=ae b9.res 4
 have g0:=ai b9.res 0
 have g1:=ai b9.res 1
 have g2:=ai b9.res 2
 have g3:=ai b9.res 3
 have g4:=ai b9.res 4
 clear si aM da b9 uR oR nL gx bA ln d0 d1 d2 d3 d4 d5
 go_upto_region 9 with fail
 rw[eW.out]
 clear c4 f4
 go_wp2
 exact bodyPost_ret (v:=.agg #[J Jq 2,J Jq (a.w+b.w+1),J Jq a.h,J Jq 0,Jj ua un uc]) (by simp[results,results62,go_sem,r0,r1,r2,r3,r4]) rfl (HF.out _ _ _ _ _)
theorem xJ (a b:Node)(aa:Option Addr)(an ac:Nat)(ba:Option Addr)(bn bc:Nat)(fa fb:List Nat)(w:World)(ha:a.In w (Jj aa an ac) fa)(hb:b.In w (Jj ba bn bc) fb)(la:a.ks.length<=500)(lb:b.ks.length<=500)(na:(0<=a.w/\a.w<=1000)/\(0<=a.h/\a.h<=1000))(nb:(0<=b.w/\b.w<=1000)/\(0<=b.h/\b.h<=1000)):
 Calls prog 62 #[J Jq 3,.agg (aC a (Jj aa an ac)),.agg (aC b (Jj ba bn bc)),.bool false] w (rU (.mk 3 a.w (a.h+b.h+1) 0 (bU 3 a++bU 3 b)) (fa++fb) w):=by
 have hS:∀q∈fa++fb,q < w.heap.size:=fun q hq=>by
  rcases List.mem_append.1 hq with h | h
  . exact ha.lt q h
  . exact hb.lt q h
 have li:(bU 3 a).length<=501:=by
  unfold bU
  split
  . omega
  . simp
 have se:Hid (Ew w b (Jj ba bn bc) 3 a.w (a.h+b.h+1) (Jj O 0 0) ((((w.alloc (JZ #[J Jq a.k,J Jq a.w,J Jq a.h,J Jq a.i,Jj aa an ac] 53)).alloc (JZ #[J Jq b.k,J Jq b.w,J Jq b.h,J Jq b.i,Jj ba bn bc] 53)).alloc (.cells aU 53)).alloc (JZ #[J Jq 3,J Jq a.w,J Jq (a.h+b.h+1),J Jq 0,Jj O 0 0] 53))):=by
  obtain⟨_,h1,h2,h3,h4⟩:=uM w (JZ #[J Jq a.k,J Jq a.w,J Jq a.h,J Jq a.i,Jj aa an ac] 53) (JZ #[J Jq b.k,J Jq b.w,J Jq b.h,J Jq b.i,Jj ba bn bc] 53) (.cells aU 53) (JZ #[J Jq 3,J Jq a.w,J Jq (a.h+b.h+1),J Jq 0,Jj O 0 0] 53)
  exact⟨h2,h3,h4,h1⟩
 have px:Hid (Calls prog 85 #[Jj O 0 0,J Jq 3,.agg #[J Jq a.k,J Jq a.w,J Jq a.h,J Jq a.i,Jj aa an ac]] ((((w.alloc (JZ #[J Jq a.k,J Jq a.w,J Jq a.h,J Jq a.i,Jj aa an ac] 53)).alloc (JZ #[J Jq b.k,J Jq b.w,J Jq b.h,J Jq b.i,Jj ba bn bc] 53)).alloc (.cells aU 53)).alloc (JZ #[J Jq 3,J Jq a.w,J Jq (a.h+b.h+1),J Jq 0,Jj O 0 0] 53)) fun e w'=>∃ra rn rc,e=Jz (Jj ra rn rc)/\bG w' (w.heap.size+4) (Jj ra rn rc) (bU 3 a) (fa++fb)/\Below (w.heap.size+4) ((((w.alloc (JZ #[J Jq a.k,J Jq a.w,J Jq a.h,J Jq a.i,Jj aa an ac] 53)).alloc (JZ #[J Jq b.k,J Jq b.w,J Jq b.h,J Jq b.i,Jj ba bn bc] 53)).alloc (.cells aU 53)).alloc (JZ #[J Jq 3,J Jq a.w,J Jq (a.h+b.h+1),J Jq 0,Jj O 0 0] 53)) w'):=by
  obtain⟨hsz,h1,_⟩:=uM w (JZ #[J Jq a.k,J Jq a.w,J Jq a.h,J Jq a.i,Jj aa an ac] 53) (JZ #[J Jq b.k,J Jq b.w,J Jq b.h,J Jq b.i,Jj ba bn bc] 53) (.cells aU 53) (JZ #[J Jq 3,J Jq a.w,J Jq (a.h+b.h+1),J Jq 0,Jj O 0 0] 53)
  exact jh 3 a _ _ _ fa (fa++fb) (w.heap.size+4) (Jj O 0 0) [] _ ⟨[],[],World.ownsRow_nil _ _ _ _,⟨rfl,rfl⟩,fun q hq=>by cases hq⟩ (ha.below h1) (fun q hq=>List.mem_append_left _ hq) (fun q hq=>by have:=hS q hq;omega) (by omega) (by simp) (by omega)
 have ix:Hid (∀X ra rn rc,Below w.heap.size w X->w.heap.size+4<=X.heap.size->bG X (w.heap.size+4) (Jj ra rn rc) (bU 3 a) (fa++fb)->Calls prog 85 #[Jj ra rn rc,J Jq 3,.agg #[J Jq b.k,J Jq b.w,J Jq b.h,J Jq b.i,Jj ba bn bc]] X fun e w'=>∃ua un uc,e=Jz (Jj ua un uc)/\bG w' (w.heap.size+4) (Jj ua un uc) (bU 3 a++bU 3 b) (fa++fb)/\Below (w.heap.size+4) X w'):=fun X ra rn rc hX hsz hO=>jh 3 b _ _ _ fb (fa++fb) (w.heap.size+4) (Jj ra rn rc) (bU 3 a) X hO (hb.below hX) (fun q hq=>List.mem_append_right _ hq) (fun q hq=>by have:=hS q hq;omega) hsz (by omega) (by omega)
 have bA:Hid (∀X ua un uc,Ew w b (Jj ba bn bc) 3 a.w (a.h+b.h+1) (Jj ua un uc) X->bG X (w.heap.size+4) (Jj ua un uc) (bU 3 a++bU 3 b) (fa++fb)->∀v0 v1 v2 v3 v4,rU (.mk 3 a.w (a.h+b.h+1) 0 (bU 3 a++bU 3 b)) (fa++fb) w (Jz (.agg #[J Jq 3,J Jq a.w,J Jq (a.h+b.h+1),J Jq 0,Jj ua un uc])) (fB X (w.heap.size+1+1) v0 v1 v2 v3 v4)):=fun X ua un uc h1 h2 v0 v1 v2 v3 v4=>vX h1 h2 hS v0 v1 v2 v3 v4
 have ln:Hid (∀X sl v ns,bG X (w.heap.size+4) sl ns (fa++fb)->bG (X.setCell ⟨w.heap.size+1+1+1,4,O⟩ v) (w.heap.size+4) sl ns (fa++fb)):=fun X sl v ns hO=>hO.keep fun q hq _=>Below.heap_setCell _ _ _ _ (by
  show q≠w.heap.size+1+1+1
  rcases hq with h | h
  . omega
  . have:=hS q h
    omega)
 obtain⟨R,hR⟩:∃R,(Node.mk 3 a.w (a.h+b.h+1) 0 (bU 3 a++bU 3 b))=R:=⟨_,rfl⟩
 rw[hR] at bA ⊢
 obtain⟨S,B8⟩:∃S,fa++fb=S:=⟨_,rfl⟩
 rw[B8] at bA px ix ln ⊢
 obtain⟨R1,B9⟩:∃R,bU 3 a=R:=⟨_,rfl⟩
 obtain⟨R2,Ca⟩:∃R,R1++bU 3 b=R:=⟨_,rfl⟩
 rw[B9] at px ix bA
 rw[Ca] at ix bA
 have w1:IntKind.i64.wrap (a.w+b.w)=a.w+b.w:=by rw[IntKind.wrap_i64];omega
 have w2:IntKind.i64.wrap (a.w+b.w+1)=a.w+b.w+1:=by rw[IntKind.wrap_i64];omega
 have w3:IntKind.i64.wrap (a.h+b.h)=a.h+b.h:=by rw[IntKind.wrap_i64];omega
 have w4:IntKind.i64.wrap (a.h+b.h+1)=a.h+b.h+1:=by rw[IntKind.wrap_i64];omega
 show Calls prog 62 #[J Jq 3,.agg #[J Jq a.k,J Jq a.w,J Jq a.h,J Jq a.i,Jj aa an ac],.agg #[J Jq b.k,J Jq b.w,J Jq b.h,J Jq b.i,Jj ba bn bc],.bool false] w _
 clear ha hb la lb na nb hS li hR B8 B9 Ca
 go_enter func62,ntmps62
 go_wp2_with fail
 refine px.out.mono ?_
 rintro e x1 ⟨ra,rn,rc,rfl,rk,bj⟩
 have ef:=se.out.below' bj
 have c4:x1.cell? ⟨w.heap.size+1+1+1,4,O⟩=I (Jj O 0 0):=ae ef.new 4
 have f4:x1.frozen? ⟨w.heap.size+1+1+1,4,O⟩=false:=ai ef.new 4
 have bS:=ef.put (Jj ra rn rc)
 have nB:=ln.out x1 _ (Jj ra rn rc) _ rk
 obtain⟨X1,od⟩:∃X,x1.setCell ⟨w.heap.size+1+1+1,4,O⟩ (Jj ra rn rc)=X:=⟨_,rfl⟩
 rw[od] at bS nB
 have mC:w.heap.size+4<=X1.heap.size:=by have:=lt_of_block bS.new;omega
 have nL:=zh (ix.out X1 ra rn rc bS.below mC nB)
 have gx:=zh bS
 have pu:=zh od
 have d0:X1.cell? ⟨w.heap.size+1,0,O⟩=I (J Jq b.k):=ae bS.snd 0
 have d1:X1.cell? ⟨w.heap.size+1,1,O⟩=I (J Jq b.w):=ae bS.snd 1
 have d2:X1.cell? ⟨w.heap.size+1,2,O⟩=I (J Jq b.h):=ae bS.snd 2
 have d3:X1.cell? ⟨w.heap.size+1,3,O⟩=I (J Jq b.i):=ae bS.snd 3
 have d4:X1.cell? ⟨w.heap.size+1,4,O⟩=I (Jj ba bn bc):=ae bS.snd 4
 have d5:X1.cell? ⟨w.heap.size+1+1+1,4,O⟩=I (Jj ra rn rc):=ae bS.new 4
 clear rk bj ef bS nB od mC px ix se
 go_upto_region 8 with fail
 rw[pu.out]
 clear c4 f4
 go_wp2_with fail
 refine nL.out.mono ?_
 rintro e x2 ⟨ua,un,uc,rfl,si,aM⟩
 have da:=gx.out.below' aM
 have c4:x2.cell? ⟨w.heap.size+1+1+1,4,O⟩=I (Jj ra rn rc):=ae da.new 4
 have f4:x2.frozen? ⟨w.heap.size+1+1+1,4,O⟩=false:=ai da.new 4
 have b9:=da.put (Jj ua un uc)
 have uR:=ln.out x2 _ (Jj ua un uc) _ si
 obtain⟨X2,oR⟩:∃X,x2.setCell ⟨w.heap.size+1+1+1,4,O⟩ (Jj ua un uc)=X:=⟨_,rfl⟩
 rw[oR] at b9 uR
 have HF:=zh (bA.out X2 ua un uc b9 uR)
 have eW:=zh oR
 have n0:X2.cell? ⟨w.heap.size+1+1+1,0,O⟩=I (J Jq 3):=ae b9.new 0
 have n1:X2.cell? ⟨w.heap.size+1+1+1,1,O⟩=I (J Jq a.w):=ae b9.new 1
 have n2:X2.cell? ⟨w.heap.size+1+1+1,2,O⟩=I (J Jq (a.h+b.h+1)):=ae b9.new 2
 have n3:X2.cell? ⟨w.heap.size+1+1+1,3,O⟩=I (J Jq 0):=ae b9.new 3
 have n4:X2.cell? ⟨w.heap.size+1+1+1,4,O⟩=I (Jj ua un uc):=ae b9.new 4
 have r0:X2.cell? ⟨w.heap.size+1+1,0,O⟩=I (J Jq 0):=ae b9.res 0
 have r1:X2.cell? ⟨w.heap.size+1+1,1,O⟩=I (J Jq 0):=ae b9.res 1
 have r2:X2.cell? ⟨w.heap.size+1+1,2,O⟩=I (J Jq 0):=ae b9.res 2
 have r3:X2.cell? ⟨w.heap.size+1+1,3,O⟩=I (J Jq 0):=ae b9.res 3
 have r4:X2.cell? ⟨w.heap.size+1+1,4,O⟩=I (Jj O 0 0):=ae b9.res 4
 have g0:=ai b9.res 0
 have g1:=ai b9.res 1
 have g2:=ai b9.res 2
 have g3:=ai b9.res 3
 have g4:=ai b9.res 4
 clear si aM da b9 uR oR nL gx bA ln d0 d1 d2 d3 d4 d5
 go_upto_region 9 with fail
 rw[eW.out]
 clear c4 f4
 go_wp2
 exact bodyPost_ret (v:=.agg #[J Jq 3,J Jq a.w,J Jq (a.h+b.h+1),J Jq 0,Jj ua un uc]) (by simp[results,results62,go_sem,r0,r1,r2,r3,r4]) rfl (HF.out _ _ _ _ _)
theorem Cc (a b:Node)(aa:Option Addr)(an ac:Nat)(ba:Option Addr)(bn bc:Nat)(fa fb:List Nat)(w:World)(ha:a.In w (Jj aa an ac) fa)(hb:b.In w (Jj ba bn bc) fb)(la:a.ks.length<=500)(lb:b.ks.length<=500)(na:(0<=a.w/\a.w<=1000)/\(0<=a.h/\a.h<=1000))(nb:(0<=b.w/\b.w<=1000)/\(0<=b.h/\b.h<=1000)):
 Calls prog 62 #[J Jq 2,.agg (aC a (Jj aa an ac)),.agg (aC b (Jj ba bn bc)),.bool true] w (rU (.mk 2 (b.w+a.w+1) b.h 0 (bU 2 b++bU 2 a)) (fa++fb) w):=by
 have hS:∀q∈fa++fb,q < w.heap.size:=fun q hq=>by
  rcases List.mem_append.1 hq with h | h
  . exact ha.lt q h
  . exact hb.lt q h
 have li:(bU 2 b).length<=501:=by
  unfold bU
  split
  . omega
  . simp
 have se:Hid (Ew w a (Jj aa an ac) 2 (b.w+a.w+1) b.h (Jj O 0 0) ((((w.alloc (JZ #[J Jq b.k,J Jq b.w,J Jq b.h,J Jq b.i,Jj ba bn bc] 53)).alloc (JZ #[J Jq a.k,J Jq a.w,J Jq a.h,J Jq a.i,Jj aa an ac] 53)).alloc (.cells aU 53)).alloc (JZ #[J Jq 2,J Jq (b.w+a.w+1),J Jq b.h,J Jq 0,Jj O 0 0] 53))):=by
  obtain⟨_,h1,h2,h3,h4⟩:=uM w (JZ #[J Jq b.k,J Jq b.w,J Jq b.h,J Jq b.i,Jj ba bn bc] 53) (JZ #[J Jq a.k,J Jq a.w,J Jq a.h,J Jq a.i,Jj aa an ac] 53) (.cells aU 53) (JZ #[J Jq 2,J Jq (b.w+a.w+1),J Jq b.h,J Jq 0,Jj O 0 0] 53)
  exact⟨h2,h3,h4,h1⟩
 have px:Hid (Calls prog 85 #[Jj O 0 0,J Jq 2,.agg #[J Jq b.k,J Jq b.w,J Jq b.h,J Jq b.i,Jj ba bn bc]] ((((w.alloc (JZ #[J Jq b.k,J Jq b.w,J Jq b.h,J Jq b.i,Jj ba bn bc] 53)).alloc (JZ #[J Jq a.k,J Jq a.w,J Jq a.h,J Jq a.i,Jj aa an ac] 53)).alloc (.cells aU 53)).alloc (JZ #[J Jq 2,J Jq (b.w+a.w+1),J Jq b.h,J Jq 0,Jj O 0 0] 53)) fun e w'=>∃ra rn rc,e=Jz (Jj ra rn rc)/\bG w' (w.heap.size+4) (Jj ra rn rc) (bU 2 b) (fa++fb)/\Below (w.heap.size+4) ((((w.alloc (JZ #[J Jq b.k,J Jq b.w,J Jq b.h,J Jq b.i,Jj ba bn bc] 53)).alloc (JZ #[J Jq a.k,J Jq a.w,J Jq a.h,J Jq a.i,Jj aa an ac] 53)).alloc (.cells aU 53)).alloc (JZ #[J Jq 2,J Jq (b.w+a.w+1),J Jq b.h,J Jq 0,Jj O 0 0] 53)) w'):=by
  obtain⟨hsz,h1,_⟩:=uM w (JZ #[J Jq b.k,J Jq b.w,J Jq b.h,J Jq b.i,Jj ba bn bc] 53) (JZ #[J Jq a.k,J Jq a.w,J Jq a.h,J Jq a.i,Jj aa an ac] 53) (.cells aU 53) (JZ #[J Jq 2,J Jq (b.w+a.w+1),J Jq b.h,J Jq 0,Jj O 0 0] 53)
  exact jh 2 b _ _ _ fb (fa++fb) (w.heap.size+4) (Jj O 0 0) [] _ ⟨[],[],World.ownsRow_nil _ _ _ _,⟨rfl,rfl⟩,fun q hq=>by cases hq⟩ (hb.below h1) (fun q hq=>List.mem_append_right _ hq) (fun q hq=>by have:=hS q hq;omega) (by omega) (by simp) (by omega)
 have ix:Hid (∀X ra rn rc,Below w.heap.size w X->w.heap.size+4<=X.heap.size->bG X (w.heap.size+4) (Jj ra rn rc) (bU 2 b) (fa++fb)->Calls prog 85 #[Jj ra rn rc,J Jq 2,.agg #[J Jq a.k,J Jq a.w,J Jq a.h,J Jq a.i,Jj aa an ac]] X fun e w'=>∃ua un uc,e=Jz (Jj ua un uc)/\bG w' (w.heap.size+4) (Jj ua un uc) (bU 2 b++bU 2 a) (fa++fb)/\Below (w.heap.size+4) X w'):=fun X ra rn rc hX hsz hO=>jh 2 a _ _ _ fa (fa++fb) (w.heap.size+4) (Jj ra rn rc) (bU 2 b) X hO (ha.below hX) (fun q hq=>List.mem_append_left _ hq) (fun q hq=>by have:=hS q hq;omega) hsz (by omega) (by omega)
 have bA:Hid (∀X ua un uc,Ew w a (Jj aa an ac) 2 (b.w+a.w+1) b.h (Jj ua un uc) X->bG X (w.heap.size+4) (Jj ua un uc) (bU 2 b++bU 2 a) (fa++fb)->∀v0 v1 v2 v3 v4,rU (.mk 2 (b.w+a.w+1) b.h 0 (bU 2 b++bU 2 a)) (fa++fb) w (Jz (.agg #[J Jq 2,J Jq (b.w+a.w+1),J Jq b.h,J Jq 0,Jj ua un uc])) (fB X (w.heap.size+1+1) v0 v1 v2 v3 v4)):=fun X ua un uc h1 h2 v0 v1 v2 v3 v4=>vX h1 h2 hS v0 v1 v2 v3 v4
 have ln:Hid (∀X sl v ns,bG X (w.heap.size+4) sl ns (fa++fb)->bG (X.setCell ⟨w.heap.size+1+1+1,4,O⟩ v) (w.heap.size+4) sl ns (fa++fb)):=fun X sl v ns hO=>hO.keep fun q hq _=>Below.heap_setCell _ _ _ _ (by
  show q≠w.heap.size+1+1+1
  rcases hq with h | h
  . omega
  . have:=hS q h
    omega)
 obtain⟨R,hR⟩:∃R,(Node.mk 2 (b.w+a.w+1) b.h 0 (bU 2 b++bU 2 a))=R:=⟨_,rfl⟩
 rw[hR] at bA ⊢
 obtain⟨S,B8⟩:∃S,fa++fb=S:=⟨_,rfl⟩
 rw[B8] at bA px ix ln ⊢
 obtain⟨R1,B9⟩:∃R,bU 2 b=R:=⟨_,rfl⟩
 obtain⟨R2,Ca⟩:∃R,R1++bU 2 a=R:=⟨_,rfl⟩
 rw[B9] at px ix bA
 rw[Ca] at ix bA
 have w1:IntKind.i64.wrap (b.w+a.w)=b.w+a.w:=by rw[IntKind.wrap_i64];omega
 have w2:IntKind.i64.wrap (b.w+a.w+1)=b.w+a.w+1:=by rw[IntKind.wrap_i64];omega
 have w3:IntKind.i64.wrap (b.h+a.h)=b.h+a.h:=by rw[IntKind.wrap_i64];omega
 have w4:IntKind.i64.wrap (b.h+a.h+1)=b.h+a.h+1:=by rw[IntKind.wrap_i64];omega
 show Calls prog 62 #[J Jq 2,.agg #[J Jq a.k,J Jq a.w,J Jq a.h,J Jq a.i,Jj aa an ac],.agg #[J Jq b.k,J Jq b.w,J Jq b.h,J Jq b.i,Jj ba bn bc],.bool true] w _
 clear ha hb la lb na nb hS li hR B8 B9 Ca
 go_enter func62,ntmps62
 go_wp2_with fail
 refine px.out.mono ?_
 rintro e x1 ⟨ra,rn,rc,rfl,rk,bj⟩
 have ef:=se.out.below' bj
 have c4:x1.cell? ⟨w.heap.size+1+1+1,4,O⟩=I (Jj O 0 0):=ae ef.new 4
 have f4:x1.frozen? ⟨w.heap.size+1+1+1,4,O⟩=false:=ai ef.new 4
 have bS:=ef.put (Jj ra rn rc)
 have nB:=ln.out x1 _ (Jj ra rn rc) _ rk
 obtain⟨X1,od⟩:∃X,x1.setCell ⟨w.heap.size+1+1+1,4,O⟩ (Jj ra rn rc)=X:=⟨_,rfl⟩
 rw[od] at bS nB
 have mC:w.heap.size+4<=X1.heap.size:=by have:=lt_of_block bS.new;omega
 have nL:=zh (ix.out X1 ra rn rc bS.below mC nB)
 have gx:=zh bS
 have pu:=zh od
 have d0:X1.cell? ⟨w.heap.size+1,0,O⟩=I (J Jq a.k):=ae bS.snd 0
 have d1:X1.cell? ⟨w.heap.size+1,1,O⟩=I (J Jq a.w):=ae bS.snd 1
 have d2:X1.cell? ⟨w.heap.size+1,2,O⟩=I (J Jq a.h):=ae bS.snd 2
 have d3:X1.cell? ⟨w.heap.size+1,3,O⟩=I (J Jq a.i):=ae bS.snd 3
 have d4:X1.cell? ⟨w.heap.size+1,4,O⟩=I (Jj aa an ac):=ae bS.snd 4
 have d5:X1.cell? ⟨w.heap.size+1+1+1,4,O⟩=I (Jj ra rn rc):=ae bS.new 4
 clear rk bj ef bS nB od mC px ix se
 go_upto_region 8 with fail
 rw[pu.out]
 clear c4 f4
 go_wp2_with fail
 refine nL.out.mono ?_
 rintro e x2 ⟨ua,un,uc,rfl,si,aM⟩
 have da:=gx.out.below' aM
 have c4:x2.cell? ⟨w.heap.size+1+1+1,4,O⟩=I (Jj ra rn rc):=ae da.new 4
 have f4:x2.frozen? ⟨w.heap.size+1+1+1,4,O⟩=false:=ai da.new 4
 have b9:=da.put (Jj ua un uc)
 have uR:=ln.out x2 _ (Jj ua un uc) _ si
 obtain⟨X2,oR⟩:∃X,x2.setCell ⟨w.heap.size+1+1+1,4,O⟩ (Jj ua un uc)=X:=⟨_,rfl⟩
 rw[oR] at b9 uR
 have HF:=zh (bA.out X2 ua un uc b9 uR)
 have eW:=zh oR
 have n0:X2.cell? ⟨w.heap.size+1+1+1,0,O⟩=I (J Jq 2):=ae b9.new 0
 have n1:X2.cell? ⟨w.heap.size+1+1+1,1,O⟩=I (J Jq (b.w+a.w+1)):=ae b9.new 1
 have n2:X2.cell? ⟨w.heap.size+1+1+1,2,O⟩=I (J Jq b.h):=ae b9.new 2
 have n3:X2.cell? ⟨w.heap.size+1+1+1,3,O⟩=I (J Jq 0):=ae b9.new 3
 have n4:X2.cell? ⟨w.heap.size+1+1+1,4,O⟩=I (Jj ua un uc):=ae b9.new 4
 have r0:X2.cell? ⟨w.heap.size+1+1,0,O⟩=I (J Jq 0):=ae b9.res 0
 have r1:X2.cell? ⟨w.heap.size+1+1,1,O⟩=I (J Jq 0):=ae b9.res 1
 have r2:X2.cell? ⟨w.heap.size+1+1,2,O⟩=I (J Jq 0):=ae b9.res 2
 have r3:X2.cell? ⟨w.heap.size+1+1,3,O⟩=I (J Jq 0):=ae b9.res 3
 have r4:X2.cell? ⟨w.heap.size+1+1,4,O⟩=I (Jj O 0 0):=ae b9.res 4
 have g0:=ai b9.res 0
 have g1:=ai b9.res 1
 have g2:=ai b9.res 2
 have g3:=ai b9.res 3
 have g4:=ai b9.res 4
 clear si aM da b9 uR oR nL gx bA ln d0 d1 d2 d3 d4 d5
 go_upto_region 9 with fail
 rw[eW.out]
 clear c4 f4
 go_wp2
 exact bodyPost_ret (v:=.agg #[J Jq 2,J Jq (b.w+a.w+1),J Jq b.h,J Jq 0,Jj ua un uc]) (by simp[results,results62,go_sem,r0,r1,r2,r3,r4]) rfl (HF.out _ _ _ _ _)
theorem Ce (a b:Node)(aa:Option Addr)(an ac:Nat)(ba:Option Addr)(bn bc:Nat)(fa fb:List Nat)(w:World)(ha:a.In w (Jj aa an ac) fa)(hb:b.In w (Jj ba bn bc) fb)(la:a.ks.length<=500)(lb:b.ks.length<=500)(na:(0<=a.w/\a.w<=1000)/\(0<=a.h/\a.h<=1000))(nb:(0<=b.w/\b.w<=1000)/\(0<=b.h/\b.h<=1000)):
 Calls prog 62 #[J Jq 3,.agg (aC a (Jj aa an ac)),.agg (aC b (Jj ba bn bc)),.bool true] w (rU (.mk 3 b.w (b.h+a.h+1) 0 (bU 3 b++bU 3 a)) (fa++fb) w):=by
 have hS:∀q∈fa++fb,q < w.heap.size:=fun q hq=>by
  rcases List.mem_append.1 hq with h | h
  . exact ha.lt q h
  . exact hb.lt q h
 have li:(bU 3 b).length<=501:=by
  unfold bU
  split
  . omega
  . simp
 have se:Hid (Ew w a (Jj aa an ac) 3 b.w (b.h+a.h+1) (Jj O 0 0) ((((w.alloc (JZ #[J Jq b.k,J Jq b.w,J Jq b.h,J Jq b.i,Jj ba bn bc] 53)).alloc (JZ #[J Jq a.k,J Jq a.w,J Jq a.h,J Jq a.i,Jj aa an ac] 53)).alloc (.cells aU 53)).alloc (JZ #[J Jq 3,J Jq b.w,J Jq (b.h+a.h+1),J Jq 0,Jj O 0 0] 53))):=by
  obtain⟨_,h1,h2,h3,h4⟩:=uM w (JZ #[J Jq b.k,J Jq b.w,J Jq b.h,J Jq b.i,Jj ba bn bc] 53) (JZ #[J Jq a.k,J Jq a.w,J Jq a.h,J Jq a.i,Jj aa an ac] 53) (.cells aU 53) (JZ #[J Jq 3,J Jq b.w,J Jq (b.h+a.h+1),J Jq 0,Jj O 0 0] 53)
  exact⟨h2,h3,h4,h1⟩
 have px:Hid (Calls prog 85 #[Jj O 0 0,J Jq 3,.agg #[J Jq b.k,J Jq b.w,J Jq b.h,J Jq b.i,Jj ba bn bc]] ((((w.alloc (JZ #[J Jq b.k,J Jq b.w,J Jq b.h,J Jq b.i,Jj ba bn bc] 53)).alloc (JZ #[J Jq a.k,J Jq a.w,J Jq a.h,J Jq a.i,Jj aa an ac] 53)).alloc (.cells aU 53)).alloc (JZ #[J Jq 3,J Jq b.w,J Jq (b.h+a.h+1),J Jq 0,Jj O 0 0] 53)) fun e w'=>∃ra rn rc,e=Jz (Jj ra rn rc)/\bG w' (w.heap.size+4) (Jj ra rn rc) (bU 3 b) (fa++fb)/\Below (w.heap.size+4) ((((w.alloc (JZ #[J Jq b.k,J Jq b.w,J Jq b.h,J Jq b.i,Jj ba bn bc] 53)).alloc (JZ #[J Jq a.k,J Jq a.w,J Jq a.h,J Jq a.i,Jj aa an ac] 53)).alloc (.cells aU 53)).alloc (JZ #[J Jq 3,J Jq b.w,J Jq (b.h+a.h+1),J Jq 0,Jj O 0 0] 53)) w'):=by
  obtain⟨hsz,h1,_⟩:=uM w (JZ #[J Jq b.k,J Jq b.w,J Jq b.h,J Jq b.i,Jj ba bn bc] 53) (JZ #[J Jq a.k,J Jq a.w,J Jq a.h,J Jq a.i,Jj aa an ac] 53) (.cells aU 53) (JZ #[J Jq 3,J Jq b.w,J Jq (b.h+a.h+1),J Jq 0,Jj O 0 0] 53)
  exact jh 3 b _ _ _ fb (fa++fb) (w.heap.size+4) (Jj O 0 0) [] _ ⟨[],[],World.ownsRow_nil _ _ _ _,⟨rfl,rfl⟩,fun q hq=>by cases hq⟩ (hb.below h1) (fun q hq=>List.mem_append_right _ hq) (fun q hq=>by have:=hS q hq;omega) (by omega) (by simp) (by omega)
 have ix:Hid (∀X ra rn rc,Below w.heap.size w X->w.heap.size+4<=X.heap.size->bG X (w.heap.size+4) (Jj ra rn rc) (bU 3 b) (fa++fb)->Calls prog 85 #[Jj ra rn rc,J Jq 3,.agg #[J Jq a.k,J Jq a.w,J Jq a.h,J Jq a.i,Jj aa an ac]] X fun e w'=>∃ua un uc,e=Jz (Jj ua un uc)/\bG w' (w.heap.size+4) (Jj ua un uc) (bU 3 b++bU 3 a) (fa++fb)/\Below (w.heap.size+4) X w'):=fun X ra rn rc hX hsz hO=>jh 3 a _ _ _ fa (fa++fb) (w.heap.size+4) (Jj ra rn rc) (bU 3 b) X hO (ha.below hX) (fun q hq=>List.mem_append_left _ hq) (fun q hq=>by have:=hS q hq;omega) hsz (by omega) (by omega)
 have bA:Hid (∀X ua un uc,Ew w a (Jj aa an ac) 3 b.w (b.h+a.h+1) (Jj ua un uc) X->bG X (w.heap.size+4) (Jj ua un uc) (bU 3 b++bU 3 a) (fa++fb)->∀v0 v1 v2 v3 v4,rU (.mk 3 b.w (b.h+a.h+1) 0 (bU 3 b++bU 3 a)) (fa++fb) w (Jz (.agg #[J Jq 3,J Jq b.w,J Jq (b.h+a.h+1),J Jq 0,Jj ua un uc])) (fB X (w.heap.size+1+1) v0 v1 v2 v3 v4)):=fun X ua un uc h1 h2 v0 v1 v2 v3 v4=>vX h1 h2 hS v0 v1 v2 v3 v4
 have ln:Hid (∀X sl v ns,bG X (w.heap.size+4) sl ns (fa++fb)->bG (X.setCell ⟨w.heap.size+1+1+1,4,O⟩ v) (w.heap.size+4) sl ns (fa++fb)):=fun X sl v ns hO=>hO.keep fun q hq _=>Below.heap_setCell _ _ _ _ (by
  show q≠w.heap.size+1+1+1
  rcases hq with h | h
  . omega
  . have:=hS q h
    omega)
 obtain⟨R,hR⟩:∃R,(Node.mk 3 b.w (b.h+a.h+1) 0 (bU 3 b++bU 3 a))=R:=⟨_,rfl⟩
 rw[hR] at bA ⊢
 obtain⟨S,B8⟩:∃S,fa++fb=S:=⟨_,rfl⟩
 rw[B8] at bA px ix ln ⊢
 obtain⟨R1,B9⟩:∃R,bU 3 b=R:=⟨_,rfl⟩
 obtain⟨R2,Ca⟩:∃R,R1++bU 3 a=R:=⟨_,rfl⟩
 rw[B9] at px ix bA
 rw[Ca] at ix bA
 have w1:IntKind.i64.wrap (b.w+a.w)=b.w+a.w:=by rw[IntKind.wrap_i64];omega
 have w2:IntKind.i64.wrap (b.w+a.w+1)=b.w+a.w+1:=by rw[IntKind.wrap_i64];omega
 have w3:IntKind.i64.wrap (b.h+a.h)=b.h+a.h:=by rw[IntKind.wrap_i64];omega
 have w4:IntKind.i64.wrap (b.h+a.h+1)=b.h+a.h+1:=by rw[IntKind.wrap_i64];omega
 show Calls prog 62 #[J Jq 3,.agg #[J Jq a.k,J Jq a.w,J Jq a.h,J Jq a.i,Jj aa an ac],.agg #[J Jq b.k,J Jq b.w,J Jq b.h,J Jq b.i,Jj ba bn bc],.bool true] w _
 clear ha hb la lb na nb hS li hR B8 B9 Ca
 go_enter func62,ntmps62
 go_wp2_with fail
 refine px.out.mono ?_
 rintro e x1 ⟨ra,rn,rc,rfl,rk,bj⟩
 have ef:=se.out.below' bj
 have c4:x1.cell? ⟨w.heap.size+1+1+1,4,O⟩=I (Jj O 0 0):=ae ef.new 4
 have f4:x1.frozen? ⟨w.heap.size+1+1+1,4,O⟩=false:=ai ef.new 4
 have bS:=ef.put (Jj ra rn rc)
 have nB:=ln.out x1 _ (Jj ra rn rc) _ rk
 obtain⟨X1,od⟩:∃X,x1.setCell ⟨w.heap.size+1+1+1,4,O⟩ (Jj ra rn rc)=X:=⟨_,rfl⟩
 rw[od] at bS nB
 have mC:w.heap.size+4<=X1.heap.size:=by have:=lt_of_block bS.new;omega
 have nL:=zh (ix.out X1 ra rn rc bS.below mC nB)
 have gx:=zh bS
 have pu:=zh od
 have d0:X1.cell? ⟨w.heap.size+1,0,O⟩=I (J Jq a.k):=ae bS.snd 0
 have d1:X1.cell? ⟨w.heap.size+1,1,O⟩=I (J Jq a.w):=ae bS.snd 1
 have d2:X1.cell? ⟨w.heap.size+1,2,O⟩=I (J Jq a.h):=ae bS.snd 2
 have d3:X1.cell? ⟨w.heap.size+1,3,O⟩=I (J Jq a.i):=ae bS.snd 3
 have d4:X1.cell? ⟨w.heap.size+1,4,O⟩=I (Jj aa an ac):=ae bS.snd 4
 have d5:X1.cell? ⟨w.heap.size+1+1+1,4,O⟩=I (Jj ra rn rc):=ae bS.new 4
 clear rk bj ef bS nB od mC px ix se
 go_upto_region 8 with fail
 rw[pu.out]
 clear c4 f4
 go_wp2_with fail
 refine nL.out.mono ?_
 rintro e x2 ⟨ua,un,uc,rfl,si,aM⟩
 have da:=gx.out.below' aM
 have c4:x2.cell? ⟨w.heap.size+1+1+1,4,O⟩=I (Jj ra rn rc):=ae da.new 4
 have f4:x2.frozen? ⟨w.heap.size+1+1+1,4,O⟩=false:=ai da.new 4
 have b9:=da.put (Jj ua un uc)
 have uR:=ln.out x2 _ (Jj ua un uc) _ si
 obtain⟨X2,oR⟩:∃X,x2.setCell ⟨w.heap.size+1+1+1,4,O⟩ (Jj ua un uc)=X:=⟨_,rfl⟩
 rw[oR] at b9 uR
 have HF:=zh (bA.out X2 ua un uc b9 uR)
 have eW:=zh oR
 have n0:X2.cell? ⟨w.heap.size+1+1+1,0,O⟩=I (J Jq 3):=ae b9.new 0
 have n1:X2.cell? ⟨w.heap.size+1+1+1,1,O⟩=I (J Jq b.w):=ae b9.new 1
 have n2:X2.cell? ⟨w.heap.size+1+1+1,2,O⟩=I (J Jq (b.h+a.h+1)):=ae b9.new 2
 have n3:X2.cell? ⟨w.heap.size+1+1+1,3,O⟩=I (J Jq 0):=ae b9.new 3
 have n4:X2.cell? ⟨w.heap.size+1+1+1,4,O⟩=I (Jj ua un uc):=ae b9.new 4
 have r0:X2.cell? ⟨w.heap.size+1+1,0,O⟩=I (J Jq 0):=ae b9.res 0
 have r1:X2.cell? ⟨w.heap.size+1+1,1,O⟩=I (J Jq 0):=ae b9.res 1
 have r2:X2.cell? ⟨w.heap.size+1+1,2,O⟩=I (J Jq 0):=ae b9.res 2
 have r3:X2.cell? ⟨w.heap.size+1+1,3,O⟩=I (J Jq 0):=ae b9.res 3
 have r4:X2.cell? ⟨w.heap.size+1+1,4,O⟩=I (Jj O 0 0):=ae b9.res 4
 have g0:=ai b9.res 0
 have g1:=ai b9.res 1
 have g2:=ai b9.res 2
 have g3:=ai b9.res 3
 have g4:=ai b9.res 4
 clear si aM da b9 uR oR nL gx bA ln d0 d1 d2 d3 d4 d5
 go_upto_region 9 with fail
 rw[eW.out]
 clear c4 f4
 go_wp2
 exact bodyPost_ret (v:=.agg #[J Jq 3,J Jq b.w,J Jq (b.h+a.h+1),J Jq 0,Jj ua un uc]) (by simp[results,results62,go_sem,r0,r1,r2,r3,r4]) rfl (HF.out _ _ _ _ _)
theorem pY (g pg L cap at_:Nat)(w:World)(h5:w.cell? ⟨g,5,O⟩=I (Jj (I ⟨pg,0,O⟩) L cap))(hL:2<=L)(rL:L<=1000)(G1:at_ < L):Calls prog 50 #[.agg #[JJ (I ⟨g,0,O⟩),J Jq at_]] w fun e w'=>e=Jz (J Jq ((min at_ (L-2):Nat):Int))/\Below w.heap.size w w':=by
 obtain⟨W,hW⟩:∃W,w.alloc (JZ #[JJ (I ⟨g,0,O⟩),J Jq at_] 88)=W:=⟨_,rfl⟩
 have ap:Below w.heap.size w W:=by rw[<- hW];exact (Below.refl _ _).alloc (Nat.le_refl _) _
 have hM:W.heap[w.heap.size]?=I (JZ #[JJ (I ⟨g,0,O⟩),J Jq at_] 88 (0,0)):=by rw[<- hW];exact heap_alloc_new _ _
 have hg:g < w.heap.size:=World.block_lt_of_cell? w _ h5
 have HC:Hid (∀X,Below W.heap.size W X->X.cell? ⟨w.heap.size,0,O⟩=I (JJ (I ⟨g,0,O⟩))/\X.cell? ⟨w.heap.size,1,O⟩=I (J Jq at_)/\X.cell? ⟨g,5,O⟩=I (Jj (I ⟨pg,0,O⟩) L cap)):=fun X hX=>by
  have h:=(hX.block _ (lt_of_block hM)).trans hM
  have hb:=af ap hX
  exact⟨ae h 0,ae h 1,(hb.cell (p:=⟨g,5,O⟩) hg).trans h5⟩
 have HW:=zh hW
 have bR:=zh ap
 have hw:IntKind.i64.wrap ((L:Int)-2)=(L:Int)-2:=by rw[IntKind.wrap_i64];omega
 have Lv:Hid (min (at_:Int) ((L:Int)-2)=((min at_ (L-2):Nat):Int)):=by
  show _=_
  omega
 obtain⟨m,hm⟩:∃m,min at_ (L-2)=m:=⟨_,rfl⟩
 rw[hm] at Lv ⊢
 clear hW ap hM hg h5 rL G1 hm
 go_enter func50,ntmps50
 go_wp2_with fail
 rw[HW.out]
 refine aQ (fun X=>Below W.heap.size W X) (by kernel_rfl) (by kernel_rfl) (Below.refl _ _).drew ?_
 repeat (
  refine dJ (v:= ?_) (by rfl) (fun X hX=> ?_) ?_
  rotate_left
  . obtain⟨c0,c1,c5⟩:=HC.out X hX
    go_simp
    all_goals with_reducible rfl
  intro K hK
  go_simp
  refine hK.out _ ?_
  clear hK K)
 refine fK ?_
 intro w4 eI
 have gr:=zh (af bR.out eI)
 clear eI
 try rw[Lv.out]
 go_wp2
 go_ret
 exact⟨by first | rfl | (rw[Lv.out];rfl),gr.out⟩
theorem not_nil (pg n cap:Nat)(W:World):(binOp .eql 85 (Jj (I ⟨pg,0,O⟩) n cap) (Jj O 0 0)).run prog W=.ok (.bool false) W:=by kernel_rfl
theorem clone_any (pg n cap:Nat)(xs:List Value)(w:World)(h:w.ownsRow 0 70 1 (Jj (I ⟨pg,0,O⟩) n cap) n xs)(co:∀x∈xs,x.oneCell'=true)(hn:n<=1000)(h1:1<=n):Calls prog 77 #[Jj (I ⟨pg,0,O⟩) n cap] w fun e w'=>∃g c,e=Jz (Jj (I ⟨g,0,O⟩) n c)/\w'.ownsRow w.heap.size 70 1 (Jj (I ⟨g,0,O⟩) n c) n xs/\Below w.heap.size w w':=by
 have eN:Hid (∀o,(w.alloc o).ownsRow 0 70 1 (Jj (I ⟨pg,0,O⟩) n cap) n xs):=fun o=>h.alloc o
 have HO0:Hid ((w.alloc (JZ #[] 70)).ownsRow w.heap.size 70 1 (Jj (I ⟨w.heap.size,0,O⟩) 0 0) 0 []):=World.ownsRow_lit w #[] 0 (Nat.le_refl _) (by decide) (by simp)
 have cB:=zh co
 have bA:Hid (∀v' w',w'.ownsRow w.heap.size 70 1 v' n xs->(w.alloc (JZ #[] 70)).grownBy w' (I w.heap.size)->∃g c,v'=Jj (I ⟨g,0,O⟩) n c/\w'.ownsRow w.heap.size 70 1 (Jj (I ⟨g,0,O⟩) n c) n xs/\Below w.heap.size w w'):=fun v' w' a1 a2=>by
  rcases a1.2 with ⟨_,h0⟩ | ⟨g,c,cur,rfl,r⟩
  . omega
  . exact⟨g,c,rfl,a1,below_grown ((Below.refl _ _).alloc (Nat.le_refl _) _) a2 (Nat.le_refl _)⟩
 have eqn:=not_nil pg n cap
 clear h co
 go_enter func77,ntmps77
 go_wp2_with (at_builtin;refine aW _ rfl (.tmp 5) (.tmp 6) 85 70 rfl .nilIface 1 16 underlying85 kN rfl (by decide) (by decide) w.heap.size (Jj (I ⟨w.heap.size,0,O⟩) 0 0) 0 [] ?y1 HO0.out 0 (Jj (I ⟨pg,0,O⟩) n cap) n xs rfl (eN.out _) cB.out ?x1 ?x2 ?_;(case y1=>simp[Act.eval]);(case x1=>omega);(case x2=>simp);intro v' w6 a1 a2;rw[Nat.zero_add,List.nil_append] at a1;have he:=bA.out v' w6 a1 a2;obtain⟨g,c,il,ho,hb⟩:=he;subst il;have HE:Hid (w6.ownsRow w.heap.size 70 1 (Jj (I ⟨g,0,O⟩) n c) n xs/\Below w.heap.size w w6):=⟨ho,hb⟩;clear a1 a2 ho hb)
 go_ret
 exact⟨_,_,rfl,HE.out.1,HE.out.2⟩
def FH (xs ys:List Value)(i:Nat):Prop:=ys.length=xs.length/\∀q,q < xs.length->ys[q]?=if q < i\/xs.length<=q+i then xs[xs.length-1-q]? else xs[q]?
theorem FH.step {xs ys:List Value}{i:Nat}(h:FH xs ys i)(hi:2*i+1 < xs.length){a b:Value}(ha:ys[i]?=I a)(hb:ys[xs.length-1-i]?=I b):FH xs ((ys.set i b).set (xs.length-1-i) a) (i+1):=by
 obtain⟨h1,h2⟩:=h
 have ea:=h2 i (by omega)
 have eb:=h2 (xs.length-1-i) (by omega)
 rw[if_neg (by omega)] at ea
 rw[if_neg (by omega)] at eb
 refine⟨by rw[List.length_set,List.length_set];exact h1,fun q hq=> ?_⟩
 by_cases e1:q=xs.length-1-i
 . subst e1
   rw[List.getElem?_set_self (by rw[List.length_set];omega),if_pos (.inr (by omega)),<- ha,ea]
   congr 1
   omega
 . rw[List.getElem?_set_ne (Ne.symm e1)]
   by_cases e2:q=i
   . subst e2
     rw[List.getElem?_set_self (by omega),if_pos (.inl (by omega)),<- hb,eb]
   . rw[List.getElem?_set_ne (Ne.symm e2),h2 q hq]
     by_cases h3:q < i\/xs.length<=q+i
     . rw[if_pos h3,if_pos (by omega)]
     . rw[if_neg h3,if_neg (by omega)]
theorem FH.done {xs ys:List Value}{i:Nat}(h:FH xs ys i)(hi:xs.length<=2*i+1):ys=xs.reverse:=by
 obtain⟨h1,h2⟩:=h
 apply List.ext_getElem?
 intro q
 by_cases hq:q < xs.length
 . rw[h2 q hq,List.getElem?_reverse hq]
   by_cases h3:q < i\/xs.length<=q+i
   . rw[if_pos h3]
   . rw[if_neg h3]
     congr 1
     omega
 . rw[List.getElem?_eq_none (by omega),List.getElem?_eq_none (by rw[List.length_reverse];omega)]
theorem Es (g n cap B:Nat)(xs:List Value)(w:World)(h:w.ownsRow B 70 1 (Jj (I ⟨g,0,O⟩) n cap) n xs)(hx:xs.length=n)(hn:n<=1000)(ZO:∀(q:Nat) x,xs[q]?=I x->∃T gi,x=.iface T (JJ (I ⟨gi,0,O⟩))):Calls prog 78 #[Jj (I ⟨g,0,O⟩) n cap] w fun e w'=>e=Jz (.tuple #[])/\w'.ownsRow B 70 1 (Jj (I ⟨g,0,O⟩) n cap) n xs.reverse/\But [g] w w':=by
 have HO:=zh h
 have HX:=zh hx
 have ZP:=zh ZO
 have hw:IntKind.i64.wrap ((n:Int)-1)=(n:Int)-1:=by rw[IntKind.wrap_i64];omega
 clear h hx ZO
 go_enter func78,ntmps78
 go_wp2
 go_loopw [2,3] (fun vi vj wr=>∃(i:Nat) (ys:List Value),vi=J Jq i/\vj=J Jq ((n:Int)-1-i)/\2*i<=n+1/\Hid (FH xs ys i/\wr.ownsRow B 70 1 (Jj (I ⟨g,0,O⟩) n cap) n ys/\But [g] w wr)) (fun vi _ _=>2000-(intOf vi).toNat)
 case atStart=>exact⟨0,xs,rfl,by simp,by omega,⟨⟨rfl,fun q hq=>by rw[if_neg (by omega)]⟩,HO.out,But.refl _ _⟩⟩
 case round=>
  obtain⟨i,ys,rfl,rfl,hi,HR⟩:=hrel
  clear HO
  by_cases am:2*i+1 < n
  . obtain⟨vt,bm,dT⟩:=HR.out
    have hyl:ys.length=n:=vt.1.trans HX.out
    obtain⟨a,ha⟩:∃a,ys[i]?=I a:=⟨_,List.getElem?_eq_getElem (by omega)⟩
    obtain⟨b,hb⟩:∃b,ys[n-1-i]?=I b:=⟨_,List.getElem?_eq_getElem (by omega)⟩
    have ea:=vt.2 i (by rw[HX.out];omega)
    have eb:=vt.2 (n-1-i) (by rw[HX.out];omega)
    rw[if_neg (by rw[HX.out];omega),ha] at ea
    rw[if_neg (by rw[HX.out];omega),hb] at eb
    obtain⟨Ta,ga,hae⟩:=ZP.out _ _ ea.symm
    obtain⟨Tb,gb,BS⟩:=ZP.out _ _ eb.symm
    subst hae BS
    clear ea eb
    have q1:wr.cell? ⟨g,i,O⟩=I (.iface Ta (JJ (I ⟨ga,0,O⟩))):=(World.ownsRow.cellAt bm i (by omega)).trans ha
    obtain⟨j,hj⟩:∃j:Nat,n-1-i=j:=⟨_,rfl⟩
    rw[hj] at hb
    have q2:wr.cell? ⟨g,j,O⟩=I (.iface Tb (JJ (I ⟨gb,0,O⟩))):=(World.ownsRow.cellAt bm j (by omega)).trans hb
    have dl:(n:Int)-1-i=(j:Int):=by omega
    have f1:=World.ownsRow.frozenAt bm i
    have f2:=World.ownsRow.frozenAt bm j
    have a7:i≠j:=by omega
    have rN:(i:Int) < (j:Int):=by omega
    have Mw:j < n:=by omega
    have bE:i < n:=by omega
    have kx:Hid (FH xs ((ys.set i (.iface Tb (JJ (I ⟨gb,0,O⟩)))).set j (.iface Ta (JJ (I ⟨ga,0,O⟩)))) (i+1)/\((wr.setCell ⟨g,i,O⟩ (.iface Tb (JJ (I ⟨gb,0,O⟩)))).setCell ⟨g,j,O⟩ (.iface Ta (JJ (I ⟨ga,0,O⟩)))).drew.ownsRow B 70 1 (Jj (I ⟨g,0,O⟩) n cap) n ((ys.set i (.iface Tb (JJ (I ⟨gb,0,O⟩)))).set j (.iface Ta (JJ (I ⟨ga,0,O⟩))))/\But [g] w ((wr.setCell ⟨g,i,O⟩ (.iface Tb (JJ (I ⟨gb,0,O⟩)))).setCell ⟨g,j,O⟩ (.iface Ta (JJ (I ⟨ga,0,O⟩)))).drew):=by
     have h1:=vt.step (by rw[HX.out];exact am) ha (by rw[HX.out,hj];exact hb)
     rw[HX.out,hj] at h1
     have h2:=World.ownsRow.stored bm i (.iface Tb (JJ (I ⟨gb,0,O⟩)))
     have h3:=World.ownsRow.stored h2.1 j (.iface Ta (JJ (I ⟨ga,0,O⟩)))
     exact⟨h1,own_below h3.1 (Below.refl _ _).drew,((dT.trans (But.grown h2.2)).trans (But.grown h3.2)).drew⟩
    have HJ:=zh hj.symm
    rw[dl]
    clear vt bm dT hyl ha hb hj dl HR
    go_wp2_with fail
    go_region
    all_goals (
     have y1:IntKind.i64.wrap ((j:Int)-1)=(j:Int)-1:=by rw[IntKind.wrap_i64];omega
     clear q1 q2 f1 f2
     go_wp2
     go_roundw
     case rel=>exact⟨i+1,_,by go_num,by have:=HJ.out;congr 1;omega,by omega,kx⟩
     case measure=>simp[intOf];omega)
  . have HE:Hid (wr.ownsRow B 70 1 (Jj (I ⟨g,0,O⟩) n cap) n xs.reverse/\But [g] w wr):=by
     obtain⟨vt,bm,dT⟩:=HR.out
     rw[<- vt.done (by rw[HX.out];omega)]
     exact⟨bm,dT⟩
    have be:¬(i:Int) < (n:Int)-1-i:=by omega
    clear HR
    go_wp2
    exact⟨rfl,.tuple #[],(by simp[results,results78,go_sem]),rfl,HE.out.1,HE.out.2⟩
structure jw (w:World)(g:Nat)(b:Box)(k:Int)(pg L cap:Nat)(vs:List Value)(fs:List Nat)(B:Nat)(ts:List Tree):Prop where
 own:aX w g b k (Jj (I ⟨pg,0,O⟩) L cap)
 row:w.ownsRow B 70 1 (Jj (I ⟨pg,0,O⟩) L cap) vs.length vs
 parts:aB w B ts vs fs
 nd:(g::((Value.slice (I ⟨pg,0,O⟩) L cap).ownBlock.toList++fs)).Nodup
 len:ts.length=L
theorem jw.below {w X:World}{g:Nat}{b:Box}{k:Int}{pg L cap:Nat}{vs:List Value}{fs:List Nat}{B:Nat}{ts:List Tree}(h:jw w g b k pg L cap vs fs B ts)(hb:Below w.heap.size w X):jw X g b k pg L cap vs fs B ts:=⟨h.own.below hb,own_below h.row hb,h.parts.below hb,h.nd,h.len⟩
theorem jw.Qn {w:World}{g:Nat}{b:Box}{k:Int}{pg L cap:Nat}{vs:List Value}{fs:List Nat}{B:Nat}{ts:List Tree}(h:jw w g b k pg L cap vs fs B ts):vs.length=L:=h.parts.length.trans h.len
theorem jw.stands {w:World}{g:Nat}{b:Box}{k:Int}{pg L cap:Nat}{vs:List Value}{fs:List Nat}{B:Nat}{ts:List Tree}(h:jw w g b k pg L cap vs fs B ts):dm w g b k (Jj (I ⟨pg,0,O⟩) L cap) vs fs B ts w:=⟨h.own,h.row,h.parts,But.refl _ _⟩
theorem jw.cell {w:World}{g:Nat}{b:Box}{k:Int}{pg L cap:Nat}{vs:List Value}{fs:List Nat}{B:Nat}{ts:List Tree}(h:jw w g b k pg L cap vs fs B ts){X:World}(hX:But (g::fs) w X)(j:Nat)(v:Value)(hj:vs[j]?=I v):X.cell? ⟨pg,j,O⟩=I v:=by
 have am:j < vs.length:=(List.getElem?_eq_some_iff.1 hj).1
 have hv:=h.Qn
 have hr:=h.row
 rw[hv] at hr
 have h1:=World.ownsRow.cellAt hr j (by omega)
 obtain⟨n1,n2⟩:=List.nodup_cons.1 h.nd
 obtain⟨n3,n4,n5⟩:=List.nodup_append.1 n2
 have B6:pg ∉ g::fs:=fun e=>by
  rcases List.mem_cons.1 e with e | e
  . exact n1 (List.mem_append_left _ (by simp[Value.ownBlock,e]))
  . exact n5 pg (by simp[Value.ownBlock]) pg e rfl
 have hb:=hX.block pg (World.ownsRow.lt hr pg (by simp[Value.ownBlock])).2 B6
 rw[show X.cell? ⟨pg,j,O⟩=w.cell? ⟨pg,j,O⟩ by unfold World.cell?;rw[hb],h1,hj]
theorem jw.iface {w:World}{g:Nat}{b:Box}{k:Int}{pg L cap:Nat}{vs:List Value}{fs:List Nat}{B:Nat}{ts:List Tree}(h:jw w g b k pg L cap vs fs B ts)(j:Nat)(v:Value)(hj:vs[j]?=I v):∃T gi,v=.iface T (JJ (I ⟨gi,0,O⟩)):=by
 have am:j < vs.length:=(List.getElem?_eq_some_iff.1 hj).1
 have hv:=h.Qn
 obtain⟨t,ht⟩:∃t,ts[j]?=I t:=⟨_,List.getElem?_eq_getElem (by have:=h.len;omega)⟩
 obtain⟨v',f,e1,e2,_⟩:=aB.get h.parts j t ht
 rw[hj] at e1
 obtain rfl:=Option.some.inj e1
 obtain⟨gi,ud,_⟩:=e2.own
 rcases ud with rfl | rfl
 . exact⟨_,_,rfl⟩
 . exact⟨_,_,rfl⟩
theorem MW (g:Nat)(b:Box)(k:Int)(pg L cap:Nat)(vs:List Value)(fs:List Nat)(B:Nat)(ts rs:List Tree)(at_ c:Nat)(n got:Int)(w:World)(hI:jw w g b k pg L cap vs fs B ts)(hL:2<=L)(rL:L<=1000)(cG:L<=cap)(G1:at_ < L)(hc:c=min at_ (L-2))(hn:0<=n/\n<=9223372036854775807)(gh:rs.length=L)(hD:Me k c (List.range' (c+1) (L-1-c)) n ts rs got):
 Calls prog 49 #[.agg #[JJ (I ⟨g,0,O⟩),J Jq at_],J Jq n] w fun e w'=>e=Jz (J Jq got)/\dm w g b k (Jj (I ⟨pg,0,O⟩) L cap) vs fs B rs w':=by
 obtain⟨W,hW⟩:∃W,w.alloc (JZ #[JJ (I ⟨g,0,O⟩),J Jq at_] 88)=W:=⟨_,rfl⟩
 have ap:Below w.heap.size w W:=by rw[<- hW];exact (Below.refl _ _).alloc (Nat.le_refl _) _
 have hM:W.heap[w.heap.size]?=I (JZ #[JJ (I ⟨g,0,O⟩),J Jq at_] 88 (0,0)):=by rw[<- hW];exact heap_alloc_new _ _
 have dk:=hI.Qn
 obtain⟨vc,xd⟩:∃v,vs[c]?=I v:=⟨_,List.getElem?_eq_getElem (by omega)⟩
 obtain⟨Tc,gc,My⟩:=hI.iface c vc xd
 subst My
 have HC:Hid (∀X,Below W.heap.size W X->X.cell? ⟨w.heap.size,0,O⟩=I (JJ (I ⟨g,0,O⟩))/\X.cell? ⟨w.heap.size,1,O⟩=I (J Jq at_)/\X.cell? ⟨g,4,O⟩=I (J Jq k)/\X.cell? ⟨g,5,O⟩=I (Jj (I ⟨pg,0,O⟩) L cap)/\X.cell? ⟨pg,c,O⟩=I (.iface Tc (JJ (I ⟨gc,0,O⟩)))):=fun X hX=>by
  have h:=(hX.block _ (lt_of_block hM)).trans hM
  have lA:=hI.below (af ap hX)
  exact⟨ae h 0,ae h 1,ae lA.own 4,ae lA.own 5,lA.cell (But.refl _ _) c _ xd⟩
 have kA:Hid (∀X,Below W.heap.size W X->Calls prog 50 #[.agg #[JJ (I ⟨g,0,O⟩),J Jq at_]] X fun e w'=>e=Jz (J Jq c)/\Below W.heap.size W w'):=fun X hX=>by
  have h:=pY g pg L cap at_ X (HC.out X hX).2.2.2.1 hL rL G1
  rw[<- hc] at h
  exact h.mono fun e w' h=>⟨h.1,af hX h.2⟩
 have Rp:Hid (∀X,Below W.heap.size W X->Calls prog 76 #[.iface Tc (JJ (I ⟨gc,0,O⟩)),Jj (I ⟨pg,c+1,O⟩) (L-(c+1)) (cap-(c+1)),J Jq k,J Jq n] X fun e w'=>e=Jz (J Jq got)/\dm w g b k (Jj (I ⟨pg,0,O⟩) L cap) vs fs B rs w'):=fun X hX=>by
  have cK:=af ap hX
  have lA:=hI.below cK
  have pZ:(List.range' (c+1) (L-1-c)).length=L-(c+1):=by
   rw[List.length_range']
   omega
  have h:=F8 g b k (Jj (I ⟨pg,0,O⟩) L cap) vs fs B (sizes ts) c ts rs (List.range' (c+1) (L-1-c)) n got X Tc gc pg (c+1) (cap-(c+1)) hI.nd xd hn (by omega) (fun Y hY i j v rN hj=>by
   have hi:i < L-1-c:=by
    have:=(List.getElem?_eq_some_iff.1 rN).1
    rw[List.length_range'] at this
    exact this
   rw[List.getElem?_range' hi] at rN
   have dl:j=c+1+i:=by
    have:=Option.some.inj rN
    omega
   subst dl
   exact lA.cell hY _ v hj) ⟨hD,lA.stands,fun t ht=>by
    obtain⟨i,hi⟩:=List.getElem?_of_mem ht
    exact bI ts i t hi,by rw[gh];exact hI.len,by have:=hI.len;omega⟩
  rw[pZ] at h
  refine h.mono fun e w' h2=>⟨h2.1,h2.2.own,h2.2.row,h2.2.parts,But.trans ⟨cK.os,cK.tape,cK.output,cK.size,fun q hq _=>cK.block q hq⟩ h2.2.but⟩
 have HW:=zh hW
 have kr:IntKind.i64.wrap ((c:Int)+1)=(c:Int)+1:=by rw[IntKind.wrap_i64];omega
 have mU:(0:Int)<=n:=hn.1
 have mx:c+1<=L:=by omega
 have my:c+1<=cap:=by omega
 have GF:c < c+1:=Nat.lt_succ_self c
 have s1:((0:Int)<=(c:Int)+1/\(c:Int)+1<=(cap:Int))=True:=by simp;omega
 have s2:((0:Int)<=(c:Int)+1/\(c:Int)+1<=(L:Int))=True:=by simp;omega
 have s3:(cap=c+1)=False:=by simp;omega
 clear hI hD xd dk hM ap hW gh G1 hn hL hc
 go_enter func49,ntmps49
 go_wp2_with fail
 rw[HW.out]
 refine aQ (fun X=>Below W.heap.size W X) (by kernel_rfl) (by kernel_rfl) (Below.refl _ _).drew ?_
 repeat (
  refine dJ (v:= ?_) (by rfl) (fun X hX=> ?_) ?_
  rotate_left
  . obtain⟨c0,c1,c4,c5,cc⟩:=HC.out X hX
    go_simp
    all_goals first | with_reducible rfl | with_reducible exact kA.out X hX
  intro K hK
  go_simp
  refine hK.out _ ?_
  clear hK K)
 refine fK ?_
 intro w4 eI
 go_wp2_with fail
 refine aQ (fun X=>Below W.heap.size W X) (by kernel_rfl) (by kernel_rfl) eI.drew ?_
 repeat (
  refine dJ (v:= ?_) (by rfl) (fun X hX=> ?_) ?_
  rotate_left
  . obtain⟨c0,c1,c4,c5,cc⟩:=HC.out X hX
    go_simp
    all_goals with_reducible rfl
  intro K hK
  go_simp
  refine hK.out _ ?_
  clear hK K)
 refine fK ?_
 intro w5 ue
 obtain⟨c0,c1,c4,c5,cc⟩:=HC.out w5 ue
 go_wp2_with fail
 refine (Rp.out w5 ue).mono ?_
 rintro e w6 ⟨rfl,hS⟩
 have HS:=zh hS
 clear hS eI ue c0 c1 c4 c5 cc
 go_wp2
 go_ret
 exact⟨rfl,HS.out⟩
theorem MX (g:Nat)(b:Box)(k:Int)(pg L cap:Nat)(vs:List Value)(fs:List Nat)(B:Nat)(ts rs:List Tree)(at_ c:Nat)(n got:Int)(w:World)(hI:jw w g b k pg L cap vs fs B ts)(hL:2<=L)(rL:L<=1000)(cG:L<=cap)(G1:at_ < L)(hc:c=min at_ (L-2))(hn:n < 0)(gh:rs.length=L)(rR:0<=got/\got<=1000000)(hD:Me k (c+1) (List.range (c+1)).reverse (-(max n (-1000))) ts rs got):
 Calls prog 49 #[.agg #[JJ (I ⟨g,0,O⟩),J Jq at_],J Jq n] w fun e w'=>e=Jz (J Jq (-got))/\dm w g b k (Jj (I ⟨pg,0,O⟩) L cap) vs fs B rs w':=by
 obtain⟨W,hW⟩:∃W,w.alloc (JZ #[JJ (I ⟨g,0,O⟩),J Jq at_] 88)=W:=⟨_,rfl⟩
 have ap:Below w.heap.size w W:=by rw[<- hW];exact (Below.refl _ _).alloc (Nat.le_refl _) _
 have hM:W.heap[w.heap.size]?=I (JZ #[JJ (I ⟨g,0,O⟩),J Jq at_] 88 (0,0)):=by rw[<- hW];exact heap_alloc_new _ _
 have dk:=hI.Qn
 obtain⟨vc,xd⟩:∃v,vs[c+1]?=I v:=⟨_,List.getElem?_eq_getElem (by omega)⟩
 obtain⟨Tc,gc,My⟩:=hI.iface (c+1) vc xd
 subst My
 have HC:Hid (∀X,Below W.heap.size W X->X.cell? ⟨w.heap.size,0,O⟩=I (JJ (I ⟨g,0,O⟩))/\X.cell? ⟨w.heap.size,1,O⟩=I (J Jq at_)/\X.cell? ⟨g,4,O⟩=I (J Jq k)/\X.cell? ⟨g,5,O⟩=I (Jj (I ⟨pg,0,O⟩) L cap)/\X.cell? ⟨pg,c+1,O⟩=I (.iface Tc (JJ (I ⟨gc,0,O⟩)))):=fun X hX=>by
  have h:=(hX.block _ (lt_of_block hM)).trans hM
  have lA:=hI.below (af ap hX)
  exact⟨ae h 0,ae h 1,ae lA.own 4,ae lA.own 5,lA.cell (But.refl _ _) (c+1) _ xd⟩
 have kA:Hid (∀X,Below W.heap.size W X->Calls prog 50 #[.agg #[JJ (I ⟨g,0,O⟩),J Jq at_]] X fun e w'=>e=Jz (J Jq c)/\Below W.heap.size W w'):=fun X hX=>by
  have h:=pY g pg L cap at_ X (HC.out X hX).2.2.2.1 hL rL G1
  rw[<- hc] at h
  exact h.mono fun e w' h=>⟨h.1,af hX h.2⟩
 obtain⟨N,hN⟩:∃N,max n (-1000)=N:=⟨_,rfl⟩
 have hNb: -1000<=N/\N < 0:=by omega
 rw[hN] at hD
 have SL:Hid (∀X,Below W.heap.size W X->Calls prog 77 #[Jj (I ⟨pg,0,O⟩) (c+1) cap] X fun e w'=>∃g2 c2,e=Jz (Jj (I ⟨g2,0,O⟩) (c+1) c2)/\Below W.heap.size W w'/\Calls prog 78 #[Jj (I ⟨g2,0,O⟩) (c+1) c2] w' fun e w''=>e=Jz (.tuple #[])/\Below W.heap.size W w''/\Calls prog 76 #[.iface Tc (JJ (I ⟨gc,0,O⟩)),Jj (I ⟨g2,0,O⟩) (c+1) c2,J Jq k,J Jq (-N)] w'' fun e w3=>e=Jz (J Jq got)/\dm w g b k (Jj (I ⟨pg,0,O⟩) L cap) vs fs B rs w3):=fun X hX=>by
  have cK:=af ap hX
  have lA:=hI.below cK
  have hpre:X.ownsRow 0 70 1 (Jj (I ⟨pg,0,O⟩) (c+1) cap) (c+1) (vs.take (c+1)):=by
   have hr:=lA.row
   rcases hr.2 with ⟨h0,_⟩ | ⟨g0,cap0,cur,e,hb0,Rj,h1,h2,h3,h4⟩
   . cases h0
   . cases e
     refine⟨by rw[List.length_take];omega,.inr ⟨pg,cap,cur,rfl,Nat.zero_le _,Rj,by omega,h2,h3,?_⟩⟩
     rw[<- h4,List.take_take]
     congr 1
     omega
  have co:∀x∈vs.take (c+1),x.oneCell'=true:=fun x hx=>by
   obtain⟨q,hq⟩:=List.getElem?_of_mem (List.mem_of_mem_take hx)
   obtain⟨T,gi,rfl⟩:=hI.iface q x hq
   rfl
  have hlen:(vs.take (c+1)).length=c+1:=by rw[List.length_take];omega
  refine (clone_any pg (c+1) cap (vs.take (c+1)) X hpre co (by omega) (by omega)).mono ?_
  rintro e w' ⟨g2,c2,he,ho,cC⟩
  have eO:X.heap.size<=g2:=(World.ownsRow.lt ho g2 (by simp[Value.ownBlock])).1
  refine⟨g2,c2,he,af hX cC,?_⟩
  refine (Es g2 (c+1) c2 _ (vs.take (c+1)) w' ho hlen (by omega) (fun q x hx=>hI.iface q x (by
   have hq:q < c+1:=by have:=(List.getElem?_eq_some_iff.1 hx).1;omega
   rw[List.getElem?_take_of_lt hq] at hx
   exact hx))).mono ?_
  rintro e2 w'' ⟨jx,Rq,ly⟩
  have nF:Below W.heap.size W w'':=gX (af hX cC) ly (fun q hq=>by
   have:q=g2:=by simpa using hq
   have:=hX.size
   omega)
  refine⟨jx,nF,?_⟩
  have b7:=af ap nF
  have hI3:=hI.below b7
  have pZ:(List.range (c+1)).reverse.length=c+1:=by simp
  have Wc:g2 ∉ g::fs:=fun e=>by
   have h1:=hX.size
   have h2:=ap.size
   rcases List.mem_cons.1 e with e | e
   . have:=lt_of_block hI.own
     omega
   . have:=hI.parts.lt g2 e
     omega
  have h:=F8 g b k (Jj (I ⟨pg,0,O⟩) L cap) vs fs B (sizes ts) (c+1) ts rs (List.range (c+1)).reverse (-N) got w'' Tc gc g2 0 c2 hI.nd xd (by omega) (by omega) (fun Y hY i j v rN hj=>by
   have hi:i < c+1:=by
    have:=(List.getElem?_eq_some_iff.1 rN).1
    omega
   have dl:j=c-i:=by
    rw[List.getElem?_reverse (by simpa using hi),List.length_range,List.getElem?_range (by omega)] at rN
    have:=Option.some.inj rN
    omega
   subst dl
   rw[Nat.zero_add]
   have dt:Y.cell? ⟨g2,i,O⟩=w''.cell? ⟨g2,i,O⟩:=by
    have aM:=hY.block g2 (World.ownsRow.lt Rq g2 (by simp[Value.ownBlock])).2 Wc
    unfold World.cell?
    rw[aM]
   rw[dt,World.ownsRow.cellAt Rq i (by omega),List.getElem?_reverse (by omega),hlen,List.getElem?_take_of_lt (by omega),<- hj]
   congr 1
   ) ⟨hD,hI3.stands,fun t ht=>by
     obtain⟨i,hi⟩:=List.getElem?_of_mem ht
     exact bI ts i t hi,by rw[gh];exact hI.len,by have:=hI.len;omega⟩
  rw[pZ] at h
  exact h.mono fun e w' h2=>⟨h2.1,h2.2.own,h2.2.row,h2.2.parts,But.trans ⟨b7.os,b7.tape,b7.output,b7.size,fun q hq _=>b7.block q hq⟩ h2.2.but⟩
 have HW:=zh hW
 have kr:IntKind.i64.wrap ((c:Int)+1)=(c:Int)+1:=by rw[IntKind.wrap_i64];omega
 have mU:¬(0:Int)<=n:=by omega
 have HMx:=zh hN
 have y2:IntKind.i64.wrap (-(max n (-1000)))= -(max n (-1000)):=by rw[hN,IntKind.wrap_i64];omega
 have hgb:0<=got/\got<=1000000:=rR
 have y3:IntKind.i64.wrap (-got)= -got:=by rw[IntKind.wrap_i64];omega
 have hb0:0 < L-(c+1):=by omega
 have mx:c+1<=L:=by omega
 have my:c+1<=cap:=by omega
 have GF:c < c+1:=Nat.lt_succ_self c
 have s1:((0:Int)<=(c:Int)+1/\(c:Int)+1<=(cap:Int))=True:=by simp;omega
 have s2:((0:Int)<=(c:Int)+1/\(c:Int)+1<=(L:Int))=True:=by simp;omega
 have s3:(cap=c+1)=False:=by simp;omega
 clear hI hD xd dk hM ap hW gh G1 hn hL hc hN hgb rR
 go_enter func49,ntmps49
 go_wp2_with fail
 rw[HW.out]
 refine aQ (fun X=>Below W.heap.size W X) (by kernel_rfl) (by kernel_rfl) (Below.refl _ _).drew ?_
 repeat (
  refine dJ (v:= ?_) (by rfl) (fun X hX=> ?_) ?_
  rotate_left
  . obtain⟨c0,c1,c4,c5,cc⟩:=HC.out X hX
    go_simp
    all_goals first | with_reducible rfl | with_reducible exact kA.out X hX
  intro K hK
  go_simp
  refine hK.out _ ?_
  clear hK K)
 refine fK ?_
 intro w4 eI
 go_wp2_with fail
 refine aQ (fun X=>Below W.heap.size W X) (by kernel_rfl) (by kernel_rfl) eI.drew ?_
 repeat (
  refine dJ (v:= ?_) (by rfl) (fun X hX=> ?_) ?_
  rotate_left
  . obtain⟨c0,c1,c4,c5,cc⟩:=HC.out X hX
    go_simp
    all_goals with_reducible rfl
  intro K hK
  go_simp
  refine hK.out _ ?_
  clear hK K)
 refine fK ?_
 intro w5 ue
 obtain⟨c0,c1,c4,c5,cc⟩:=HC.out w5 ue
 go_wp2_with fail
 refine (SL.out w5 ue).mono ?_
 rintro e w6 ⟨g2,c2,rfl,eM,hR⟩
 have YF:=zh hR
 clear hR eM eI ue c0 c1 c4 c5 cc
 go_wp2_with fail
 refine YF.out.mono ?_
 rintro e w7 ⟨rfl,j7,YG⟩
 have U0:=zh YG
 obtain⟨c0,c1,c4,c5,cc⟩:=HC.out w7 j7
 clear YG j7 YF
 go_wp2_with fail
 rw[HMx.out]
 refine U0.out.mono ?_
 rintro e w6 ⟨rfl,hS⟩
 have HS:=zh hS
 clear hS c0 c1 c4 c5 cc
 go_wp2
 go_ret
 exact⟨rfl,HS.out⟩
theorem MP (v:Value)(l:List aj)(a b:Int)(w:World)(h:ay w v l):Calls prog 32 #[v,J Jq a,J Jq b] w fun e w'=>∃u,e=Jz (.tuple #[u,J Jq (lV l a b)])/\az w' w.heap.size u (kE l a b)/\Below w.heap.size w w':=by
 have HT:=zh (Ac v l w h)
 have HV:=zh h
 clear h
 go_enter func32,ntmps32
 go_wp2_with fail
 refine HT.out.mono ?_
 rintro e w1 ⟨hb,⟨hr,rfl⟩ | ⟨t,sa,sn,sc,fp,hr,rfl,ab⟩⟩
 . have HE:Hid (lV l a b=40/\kE l a b=[]):=Bv a b hr
   have HB:Hid (∀o,Below w.heap.size w (w1.alloc o)):=fun o=>af hb ((Below.refl _ _).alloc (Nat.le_refl _) o)
   unfold aU
   clear hr hb
   go_wp2
   go_ret2
   exact⟨_,by rw[HE.out.1];rfl,by rw[HE.out.2];exact World.ownsRow_nil _ _ _ _,HB.out _⟩
 . obtain⟨g1,g2,g3,g4,g5⟩:=jr hr
   have HB:Hid (∀o,Below w.heap.size w (w1.alloc o)):=fun o=>af hb ((Below.refl _ _).alloc (Nat.le_refl _) o)
   obtain⟨ko,a7⟩:=iM (by rw[hr];rfl:(aT l).isSome=true)
   obtain⟨bk,off,cap,ev,_,tO⟩:=HV.out.seen a7
   obtain⟨n,hn⟩:∃n,l.length=n:=⟨_,rfl⟩
   rw[hn] at ev ko
   subst ev
   have HN:=zh hn
   have q8:Hid (∀X,Below w.heap.size w X->gW X bk off l):=fun X hX=>tO.below hX
   obtain⟨nn,aR⟩:∃x,ag t=x:=⟨_,rfl⟩
   rw[aR] at ab g1 g5 ⊢
   have bv:Hid (∀o,Calls prog 54 #[.agg #[J Jq nn.k,J Jq nn.w,J Jq nn.h,J Jq nn.i,Jj sa sn sc]] (w1.alloc o) fun e w'=>∃u,e=Jz u/\dD w' w.heap.size u (aH l)/\Below w.heap.size w w'):=fun o=>by
    refine (dF nn g5 _ fp (w1.alloc o) (ab.below ((Below.refl _ _).alloc (Nat.le_refl _) o))).mono ?_
    rintro e w' ⟨u,rfl,h1,h2⟩
    rw[g1] at h1
    exact⟨u,rfl,h1.lower (HB.out o).size,af (HB.out o) h2⟩
   have rB:Hid (¬(a∈aH l/\b∈aH l)->lV l a b=42/\kE l a b=[]):=fun k=>wH a b hr k
   have wm:Hid (a∈aH l->b∈aH l->lV l a b=0/\kE l a b=l.map (jI a b)):=fun k1 k2=>wI a b hr k1 k2
   have nW:Hid ((aH l).length<=1000/\aH l≠[]):=⟨by omega,by intro e;rw[e] at g2;simp at g2⟩
   unfold aC
   clear hr hb ab g1 g2 g3 g4 g5 aR hn tO a7 HV HB
   go_wp2_with fail
   refine (bv.out _).mono ?_
   rintro e w2 ⟨u,rfl,h1,al⟩
   have iu:Hid (Calls prog 55 #[u,J Jq a] w2 fun e w'=>e=Jz (.bool (decide (a∈aH l)))/\w2=w'):=iK u _ _ a w2 h1 nW.out.1 nW.out.2
   have vD:Hid (Calls prog 55 #[u,J Jq b] w2 fun e w'=>e=Jz (.bool (decide (b∈aH l)))/\w2=w'):=iK u _ _ b w2 h1 nW.out.1 nW.out.2
   have aD:=zh al
   obtain⟨ra,hra⟩:∃r,decide (a∈aH l)=r:=⟨_,rfl⟩
   obtain⟨rb,rI⟩:∃r,decide (b∈aH l)=r:=⟨_,rfl⟩
   rw[hra] at iu
   rw[rI] at vD
   have V3:=zh hra
   have Rk:=zh rI
   clear h1 al bv hra rI
   cases ra
   . have HE:Hid (lV l a b=42/\kE l a b=[]):=rB.out fun k=>of_decide_eq_false V3.out k.1
     clear rB wm vD
     go_wp2_with fail
     refine iu.out.mono ?_
     rintro e w3 ⟨rfl,rfl⟩
     go_wp2
     go_ret2
     exact⟨_,by rw[HE.out.1];rfl,by rw[HE.out.2];exact World.ownsRow_nil _ _ _ _,aD.out⟩
   . go_wp2_with fail
     refine iu.out.mono ?_
     rintro e w3 ⟨rfl,rfl⟩
     go_wp2_with fail
     refine vD.out.mono ?_
     rintro e w3 ⟨rfl,rfl⟩
     cases rb
     . have HE:Hid (lV l a b=42/\kE l a b=[]):=rB.out fun k=>of_decide_eq_false Rk.out k.2
       clear rB wm vD iu
       go_wp2
       go_ret2
       exact⟨_,by rw[HE.out.1];rfl,by rw[HE.out.2];exact World.ownsRow_nil _ _ _ _,aD.out⟩
     . have HE:Hid (lV l a b=0/\kE l a b=l.map (jI a b)):=wm.out (of_decide_eq_true V3.out) (of_decide_eq_true Rk.out)
       clear rB wm vD iu V3 Rk
       go_wp2
       go_loopw [11,12] (fun vo v wr=>∃i sa sn sc,i<=n/\vo=Jj sa sn sc/\v=J Jq (i:Nat)/\Hid (az wr w.heap.size (Jj sa sn sc) ((l.take i).map (jI a b)))/\Hid (Below w.heap.size w wr)) (fun _ v _=>n-(intOf v).toNat)
       case atStart=>exact⟨0,O,0,0,Nat.zero_le _,rfl,rfl,World.ownsRow_nil _ _ _ _,aD⟩
       case round=>
        obtain⟨i,sa,sn,sc,hi,rfl,rfl,eN,bB⟩:=hrel
        by_cases am:i < n
        . obtain⟨z,hz⟩:∃z,l[i]?=I z:=⟨_,List.getElem?_eq_getElem (by rw[HN.out];exact am)⟩
          obtain⟨q0,q1,q2,q3,q4,q5,q6⟩:=(q8.out wr bB.out) i z hz
          have HO:Hid (∀o,az (wr.alloc o) w.heap.size (Jj sa sn sc) ((l.take i).map (jI a b))):=fun o=>World.ownsRow.alloc eN.out _
          have tg:Hid (∀o,Below w.heap.size w (wr.alloc o)):=fun o=>af bB.out ((Below.refl _ _).alloc (Nat.le_refl _) o)
          have fg:Hid (∀o,w.heap.size<=(wr.alloc o).heap.size):=fun o=>(tg.out o).size
          have Km:Hid (((l.take i).map (jI a b)).length<=16777216):=by show _<=_;rw[List.length_map,List.length_take];omega
          have nf:Hid ((l.take (i+1)).map (jI a b)=(l.take i).map (jI a b)++[jI a b z]):=by show _=_;rw[List.take_add_one,hz,List.map_append];rfl
          obtain⟨cur,B5⟩:∃c,(l.take i).map (jI a b)=c:=⟨_,rfl⟩
          rw[B5] at HO Km nf
          clear hz B5 eN
          by_cases ea:z.p=a
          . have e1:(z.p==a)=true:=by simpa using ea
            have Sv:Hid (jI a b z=⟨z.depth,z.kind,z.x,z.y,z.w,z.h,b⟩):=by show _=_;unfold jI vH;rw[if_pos ea]
            rw[Sv.out] at nf
            clear ea
            go_wp2_with (at_builtin;refine jZ (wr.alloc (JZ #[J Jq z.depth,J Jq z.kind,J Jq z.x,J Jq z.y,J Jq z.w,J Jq z.h,J Jq b] 41)) rfl (.tmp 55) (.tmp 57) rfl w.heap.size (Jj sa sn sc) cur ⟨z.depth,z.kind,z.x,z.y,z.w,z.h,b⟩ ?x1 ?x2 ?x3 ?x4 ?x5 ?x6)
            case x1=>rfl
            case x2=>exact HO.out _
            case x3=>simp[Act.eval]
            case x4=>exact Km.out
            case x5=>exact fg.out _
            case x6=>
             intro u' w4 a1 a2
             have gr:Hid (Below w.heap.size w w4):=az.JH a2 (HO.out _) w (tg.out _) (fg.out _)
             have Sw:Hid (az w4 w.heap.size u' ((l.take (i+1)).map (jI a b))):=by
              show az _ _ _ _
              rw[nf.out]
              exact a1
             have av:∃x y z,u'=Jj x y z:=(dG a1).elim fun x hx=>hx.elim fun y hy=>⟨x,_,y,hy⟩
             clear a1 a2
             obtain⟨sb,sm,sd,cq⟩:=av
             subst cq
             go_wp2
             go_roundw
             case rel=>exact⟨i+1,_,_,_,by omega,rfl,by go_num,Sw,gr⟩
             case measure=>simp[intOf];omega
          . have e1:(z.p==a)=false:=by simpa using ea
            by_cases eb:z.p=b
            . have e2:(z.p==b)=true:=by simpa using eb
              have Sv:Hid (jI a b z=⟨z.depth,z.kind,z.x,z.y,z.w,z.h,a⟩):=by show _=_;unfold jI vH;rw[if_neg ea,if_pos eb]
              rw[Sv.out] at nf
              clear ea eb
              go_wp2_with (at_builtin;refine jZ (wr.alloc (JZ #[J Jq z.depth,J Jq z.kind,J Jq z.x,J Jq z.y,J Jq z.w,J Jq z.h,J Jq a] 41)) rfl (.tmp 55) (.tmp 57) rfl w.heap.size (Jj sa sn sc) cur ⟨z.depth,z.kind,z.x,z.y,z.w,z.h,a⟩ ?x1 ?x2 ?x3 ?x4 ?x5 ?x6)
              case x1=>rfl
              case x2=>exact HO.out _
              case x3=>simp[Act.eval]
              case x4=>exact Km.out
              case x5=>exact fg.out _
              case x6=>
               intro u' w4 a1 a2
               have gr:Hid (Below w.heap.size w w4):=az.JH a2 (HO.out _) w (tg.out _) (fg.out _)
               have Sw:Hid (az w4 w.heap.size u' ((l.take (i+1)).map (jI a b))):=by
                show az _ _ _ _
                rw[nf.out]
                exact a1
               have av:∃x y z,u'=Jj x y z:=(dG a1).elim fun x hx=>hx.elim fun y hy=>⟨x,_,y,hy⟩
               clear a1 a2
               obtain⟨sb,sm,sd,cq⟩:=av
               subst cq
               go_wp2
               go_roundw
               case rel=>exact⟨i+1,_,_,_,by omega,rfl,by go_num,Sw,gr⟩
               case measure=>simp[intOf];omega
            . have e2:(z.p==b)=false:=by simpa using eb
              have Sv:Hid (jI a b z=⟨z.depth,z.kind,z.x,z.y,z.w,z.h,z.p⟩):=by show _=_;unfold jI vH;rw[if_neg ea,if_neg eb]
              rw[Sv.out] at nf
              clear ea eb
              go_wp2_with (at_builtin;refine jZ (wr.alloc (JZ #[J Jq z.depth,J Jq z.kind,J Jq z.x,J Jq z.y,J Jq z.w,J Jq z.h,J Jq z.p] 41)) rfl (.tmp 55) (.tmp 57) rfl w.heap.size (Jj sa sn sc) cur ⟨z.depth,z.kind,z.x,z.y,z.w,z.h,z.p⟩ ?x1 ?x2 ?x3 ?x4 ?x5 ?x6)
              case x1=>rfl
              case x2=>exact HO.out _
              case x3=>simp[Act.eval]
              case x4=>exact Km.out
              case x5=>exact fg.out _
              case x6=>
               intro u' w4 a1 a2
               have gr:Hid (Below w.heap.size w w4):=az.JH a2 (HO.out _) w (tg.out _) (fg.out _)
               have Sw:Hid (az w4 w.heap.size u' ((l.take (i+1)).map (jI a b))):=by
                show az _ _ _ _
                rw[nf.out]
                exact a1
               have av:∃x y z,u'=Jj x y z:=(dG a1).elim fun x hx=>hx.elim fun y hy=>⟨x,_,y,hy⟩
               clear a1 a2
               obtain⟨sb,sm,sd,cq⟩:=av
               subst cq
               go_wp2
               go_roundw
               case rel=>exact⟨i+1,_,_,_,by omega,rfl,by go_num,Sw,gr⟩
               case measure=>simp[intOf];omega
        . have bE:i=n:=by omega
          subst bE
          have HL:Hid ((l.take i).map (jI a b)=kE l a b):=by show _=_;rw[HE.out.2,List.take_of_length_le (by rw[HN.out];exact Nat.le_refl _)]
          go_wp2
          go_ret2
          exact⟨_,by rw[HE.out.1];rfl,by rw[<- HL.out];exact eN.out,bB.out⟩
end Go.Proofs.YtejlincnnonhaaaGreat
