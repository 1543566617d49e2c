import Derived.Test.YtejlincnnonhaaaGreatP12
import Derived.Test.YtejlincnnonhaaaGreatP14
namespace Go.Proofs.YtejlincnnonhaaaGreat
open Go.RowKit Go.Proofs.Tryz
open Value renaming int->J,slice->Jj,pointer->JJ
open IntKind renaming i64->Jq
open Option renaming none->O,some->I
open Ending renaming returned->Jz
open Obj renaming cells->JZ
set_option linter.unusedVariables false
set_option maxRecDepth 100000
set_option maxHeartbeats 16000000
open Go.RowKit Go.Lib
theorem Ef (root:Value)(wg wo wn wc g i:Nat)(b:Box)(k:Int)(pg L cap:Nat)(vs:List Value)(s:Tree)(v:Value)(us:List Value)(w:World)(Q0:w.cell? ⟨wg,wo,O⟩=I (JJ (I ⟨g,0,O⟩)))(kr:w.cell? ⟨wg,wo+1,O⟩=I (J Jq i))(Fo:1<=wn)(hS:aX w g b k (Jj (I ⟨pg,0,O⟩) L cap))(hR:w.ownsRow 0 70 1 (Jj (I ⟨pg,0,O⟩) L cap) L vs)(hi:i < L)(hL:L<=1000)(hF:FV w k s v us)(yo:g≠pg)(L1:s.bY k=true)(Si:∀gi g' c',v=dA gi->w.cell? ⟨gi,5,O⟩=I (Jj (I ⟨g',0,O⟩) us.length c')->g'≠pg/\gi≠pg)(hm:2<=us.length)(bS:us.length<=1000)(co:∀u∈us,u.oneCell'=true)(kg:∀u∈vs,u.oneCell'=true):
 Calls prog 42 #[root,Jj (I ⟨wg,wo,O⟩) wn wc,v] w (tJ g i b k pg L vs us root w):=by
 obtain⟨T,gi,Fs,Fa,HP⟩:=hF.part
 obtain⟨gi',g',c',e1,e2,e3⟩:=hF.yes L1
 have hv:=HP.val
 rw[e1] at hv
 cases hv
 obtain⟨a7,Sj⟩:=Si gi g' c' e1 e2
 subst e1
 obtain⟨m,ir⟩:∃m,us.length=m:=⟨_,rfl⟩
 rw[ir] at e2 e3 hm bS
 have q4:w.cell? ⟨g,4,O⟩=I (J Jq k):=ae hS 4
 have q5:w.cell? ⟨g,5,O⟩=I (Jj (I ⟨pg,0,O⟩) L cap):=ae hS 5
 have m1:=HP.mA
 have m2:=HP.fA
 have m3:=HP.nA
 have iu:Hid (∀n,Calls prog Fa #[JJ (I ⟨gi,0,O⟩),J Jq k] ((w.alloc (JZ #[JJ (I ⟨g,0,O⟩),J Jq i] 88)).drewN n) fun e w'=>e=Jz (JJ (I ⟨gi,0,O⟩))/\(w.alloc (JZ #[JJ (I ⟨g,0,O⟩),J Jq i] 88)).drewN n=w'):=fun n=>by
  have sX:=HP.cA k _ (below_drewN ((Below.refl _ _).alloc (Nat.le_refl _) (JZ #[JJ (I ⟨g,0,O⟩),J Jq i] 88)) n)
  rw[L1] at sX
  exact sX
 have HR:Hid (∀X,Below w.heap.size w X->Calls prog 74 #[Jj (I ⟨pg,0,O⟩) L cap,J Jq (i:Int),J Jq ((i:Int)+1),Jj (I ⟨g',0,O⟩) m c'] X (kL pg L m (vs.take i++(us++vs.drop (i+1))) X)):=by
  intro X hX
  have r1:=own_below hR hX
  have r2:=own_below e3 hX
  by_cases hl:i+1=L
  . have:=Em pg L cap g' m c' vs us X r1 r2 co hm bS (by omega) hL
    rw[show ((L-1:Nat):Int)=(i:Int) by omega,show (L:Int)=(i:Int)+1 by omega,show L-1=i by omega] at this
    rw[show vs.drop (i+1)=[] from List.drop_eq_nil_of_le (by have:=hR.1;omega),List.append_nil]
    exact this
  . by_cases hc:L-1+m<=cap
    . exact BG pg L cap g' m c' i vs us X r1 r2 (Ne.symm a7) co kg hm bS (by omega) hL hc
    . exact BH pg L cap g' m c' i vs us X r1 r2 co kg hm bS (by omega) hL (by omega)
 have sY:g < w.heap.size:=lt_of_block hS
 have HE:Hid (∀X Y e,Below w.heap.size w X->kL pg L m (vs.take i++(us++vs.drop (i+1))) X e Y->∃g'' c'',e=Jz (Jj (I ⟨g'',0,O⟩) (L-1+m) c'')/\Y.cell? ⟨g,5,O⟩=I (Jj (I ⟨pg,0,O⟩) L cap)/\Y.frozen? ⟨g,5,O⟩=false/\(∀a,a.block < X.heap.size->a.block≠pg->Y.cell? a=X.cell? a)/\tJ g i b k pg L vs us root w (Jz root) (Y.setCell ⟨g,5,O⟩ (Jj (I ⟨g'',0,O⟩) (L-1+m) c''))):=by
  intro X Y e hX UQ
  obtain⟨g'',c'',rfl,ho,hg,hb⟩:=UQ
  have L2:aX Y g b k (Jj (I ⟨pg,0,O⟩) L cap):=(hb.block g (Nat.lt_of_lt_of_le sY hX.size) (by simpa using yo)).trans (hS.below hX)
  have UR:g''≠g:=by
   rcases hg with h | h
   . rw[h];exact Ne.symm yo
   . have:=hX.size
     omega
  refine⟨g'',c'',rfl,ae L2 5,ai L2 5,fun a ha hn=>World.cell?_of_block (hb.block a.block ha (by simpa using hn)),rfl,g'',c'',?_,?_,?_,?_⟩
  . rw[ir]
    exact L2.Jr _
  . rw[ir]
    refine dU ho fun q hq=>Below.heap_setCell _ _ _ _ ?_
    have:q=g'':=by simpa [Value.ownBlock] using hq
    rw[this]
    exact UR
  . rcases hg with h | h
    . exact .inl h
    . exact .inr (Nat.le_trans hX.size h)
  . have h1:But [g,pg] w X:=⟨hX.os,hX.tape,hX.output,hX.size,fun q hq _=>hX.block q hq⟩
    exact (h1.trans (hb.mono (by simp))).trans ((But.grown (grownBy_set Y g 5 _)).mono (by simp))
 have q4a:∀o,(w.alloc o).cell? ⟨g,4,O⟩=I (J Jq k):=fun o=>cell?_alloc_some o q4
 have q5a:∀o,(w.alloc o).cell? ⟨g,5,O⟩=I (Jj (I ⟨pg,0,O⟩) L cap):=fun o=>cell?_alloc_some o q5
 have q6a:∀o,(w.alloc o).cell? ⟨gi,5,O⟩=I (Jj (I ⟨g',0,O⟩) m c'):=fun o=>cell?_alloc_some o e2
 have vR:pg < w.heap.size:=by
  obtain⟨cur,hg,_⟩:=kM hR
  exact lt_of_block hg
 have Yr:=zh vR
 have hng1:¬w.heap.size=g:=by omega
 have hng2:¬g=w.heap.size:=by omega
 have Dm:Hid (∀n,Below w.heap.size w ((w.alloc (JZ #[JJ (I ⟨g,0,O⟩),J Jq i] 88)).drewN n)/\w.heap.size < ((w.alloc (JZ #[JJ (I ⟨g,0,O⟩),J Jq i] 88)).drewN n).heap.size/\((w.alloc (JZ #[JJ (I ⟨g,0,O⟩),J Jq i] 88)).drewN n).cell? ⟨w.heap.size,0,O⟩=I (JJ (I ⟨g,0,O⟩))/\((w.alloc (JZ #[JJ (I ⟨g,0,O⟩),J Jq i] 88)).drewN n).cell? ⟨w.heap.size,1,O⟩=I (J Jq i)):=fun n=>by
  refine⟨below_drewN ((Below.refl _ _).alloc (Nat.le_refl _) _) n,?_,?_,?_⟩
  . show w.heap.size < (w.alloc _).heap.size
    simp
  . show (w.alloc _).cell? ⟨w.heap.size,0,O⟩=_
    rw[dW]
    rfl
  . show (w.alloc _).cell? ⟨w.heap.size,1,O⟩=_
    rw[dW]
    rfl
 have hw1':IntKind.i64.wrap ((i:Int)+1)=(i:Int)+1:=by rw[IntKind.wrap_i64];omega
 clear HP hF hS hR L1 yo co kg e3 Si sY ir vR
 unfold dA
 go_enter func42,ntmps42
 go_wp2_with fail
 refine wp_region_quiet_lit (by kernel_rfl) (by kernel_rfl) ?_
 repeat (quiet_step ((exact Calls.quiet_of_same ((iu.out _).mono fun e w' h=>⟨h.1,h.2.symm⟩))))
 refine wpQuiet_nil ?_
 intro _ AD
 obtain⟨nq,Ma⟩:=AD
 subst Ma
 obtain⟨W,hW⟩:∃W,(w.alloc (JZ #[JJ (I ⟨g,0,O⟩),J Jq i] 88)).drewN nq=W:=⟨_,rfl⟩
 obtain⟨US,am,c0,c1⟩:=Dm.out nq
 have c5:W.cell? ⟨g,5,O⟩=I (Jj (I ⟨pg,0,O⟩) L cap):=by rw[<- hW];exact q5a _
 have c6:W.cell? ⟨gi,5,O⟩=I (Jj (I ⟨g',0,O⟩) m c'):=by rw[<- hW];exact q6a _
 rw[hW] at US am c0 c1 ⊢
 have HC:Hid (Calls prog 74 #[Jj (I ⟨pg,0,O⟩) L cap,J Jq (i:Int),J Jq ((i:Int)+1),Jj (I ⟨g',0,O⟩) m c'] W.drew fun e Y=>∃g'' c'',e=Jz (Jj (I ⟨g'',0,O⟩) (L-1+m) c'')/\Y.cell? ⟨g,5,O⟩=I (Jj (I ⟨pg,0,O⟩) L cap)/\Y.frozen? ⟨g,5,O⟩=false/\Y.cell? ⟨w.heap.size,0,O⟩=I (JJ (I ⟨g,0,O⟩))/\Y.cell? ⟨w.heap.size,1,O⟩=I (J Jq i)/\Y.cell? ⟨gi,5,O⟩=I (Jj (I ⟨g',0,O⟩) m c')/\tJ g i b k pg L vs us root w (Jz root) (Y.setCell ⟨g,5,O⟩ (Jj (I ⟨g'',0,O⟩) (L-1+m) c''))):=by
  refine (HR.out W.drew US.drew).mono fun e Y h=> ?_
  obtain⟨g'',c'',he,h1,h2,h3,h4⟩:=HE.out W.drew Y e US.drew h
  refine⟨g'',c'',he,h1,h2,?_,?_,?_,h4⟩
  . rw[h3 ⟨w.heap.size,0,O⟩ am (Nat.ne_of_gt Yr.out)]
    exact c0
  . rw[h3 ⟨w.heap.size,1,O⟩ am (Nat.ne_of_gt Yr.out)]
    exact c1
  . rw[h3 ⟨gi,5,O⟩ (World.block_lt_of_cell? W _ c6) Sj]
    exact c6
 clear Sj hW US am q4a q5a q6a HR HE Dm iu m1 m2 m3
 go_wp2_with fail
 refine wp_region_noPanic ?_
 refine wp_region_held_drew (S:=(fun X=>X.cell? ⟨w.heap.size,0,O⟩=I (JJ (I ⟨g,0,O⟩))/\X.cell? ⟨w.heap.size,1,O⟩=I (J Jq i))) (by kernel_rfl) ?_ (fun hHeld=> ?_)
 . go_keep
 refine wpAnyH_take (i:=0) (v:= ?v0) (by simp only[List.getElem?_toArray,List.getElem?_cons_zero];rfl) (by kernel_rfl) (by kernel_rfl) (by kernel_rfl) (fun _ _ _ h=>h) (Or.inl ⟨by rfl,?hy0⟩) (by assumption) ?rest0
 case hy0=>
  intro w ic
  try dsimp only at ic
  go_simp
  try with_reducible rfl
 try simp only[Act.put,List.setIfInBounds_toArray,List.set_cons_zero,List.set_cons_succ]
 refine wpAnyH_take (i:=1) (v:= ?v1) (by simp only[List.getElem?_toArray,List.getElem?_cons_succ,List.getElem?_cons_zero];rfl) (by kernel_rfl) (by kernel_rfl) (by kernel_rfl) (fun _ _ _ h=>h) (Or.inl ⟨by rfl,?hy1⟩) (by assumption) ?rest1
 case hy1=>
  intro w ic
  try dsimp only at ic
  go_simp
  try with_reducible rfl
 try simp only[Act.put,List.setIfInBounds_toArray,List.set_cons_zero,List.set_cons_succ]
 refine wpAnyH_take (i:=2) (v:= ?v2) (by simp only[List.getElem?_toArray,List.getElem?_cons_succ,List.getElem?_cons_zero];rfl) (by kernel_rfl) (by kernel_rfl) (by kernel_rfl) (fun _ _ _ h=>h) (Or.inl ⟨by rfl,?hy2⟩) (by assumption) ?rest2
 case hy2=>
  intro w ic
  try dsimp only at ic
  go_simp
  try with_reducible rfl
 try simp only[Act.put,List.setIfInBounds_toArray,List.set_cons_zero,List.set_cons_succ]
 refine wpAnyH_take (i:=3) (v:= ?v3) (by simp only[List.getElem?_toArray,List.getElem?_cons_succ,List.getElem?_cons_zero];rfl) (by kernel_rfl) (by kernel_rfl) (by kernel_rfl) (fun _ _ _ h=>h) (Or.inl ⟨by rfl,?hy3⟩) (by assumption) ?rest3
 case hy3=>
  intro w ic
  try dsimp only at ic
  go_simp
  try with_reducible rfl
 try simp only[Act.put,List.setIfInBounds_toArray,List.set_cons_zero,List.set_cons_succ]
 refine wpAnyH_take (i:=4) (v:= ?v4) (by simp only[List.getElem?_toArray,List.getElem?_cons_succ,List.getElem?_cons_zero];rfl) (by kernel_rfl) (by kernel_rfl) (by kernel_rfl) (fun _ _ _ h=>h) (Or.inl ⟨by rfl,?hy4⟩) (by assumption) ?rest4
 case hy4=>
  intro w ic
  try dsimp only at ic
  go_simp
  try with_reducible rfl
 try simp only[Act.put,List.setIfInBounds_toArray,List.set_cons_zero,List.set_cons_succ]
 refine wpAnyH_take (i:=5) (v:= ?v5) (by simp only[List.getElem?_toArray,List.getElem?_cons_succ,List.getElem?_cons_zero];rfl) (by kernel_rfl) (by kernel_rfl) (by kernel_rfl) (fun _ _ _ h=>h) (Or.inl ⟨by rfl,?hy5⟩) (by assumption) ?rest5
 case hy5=>
  intro w ic
  try dsimp only at ic
  go_simp
  try with_reducible rfl
 try simp only[Act.put,List.setIfInBounds_toArray,List.set_cons_zero,List.set_cons_succ]
 refine wpAnyH_take (i:=7) (v:= ?v7) (by simp only[List.getElem?_toArray,List.getElem?_cons_succ,List.getElem?_cons_zero];rfl) (by kernel_rfl) (by kernel_rfl) (by kernel_rfl) (fun _ _ _ h=>h) (Or.inl ⟨by rfl,?hy7⟩) (by assumption) ?rest7
 case hy7=>
  intro w ic
  try dsimp only at ic
  go_simp
  try with_reducible rfl
 try simp only[Act.put,List.setIfInBounds_toArray,List.set_cons_zero,List.set_cons_succ]
 refine wpAnyH_take (i:=8) (v:= ?v8) (by simp only[List.getElem?_toArray,List.getElem?_cons_succ,List.getElem?_cons_zero];rfl) (by kernel_rfl) (by kernel_rfl) (by kernel_rfl) (fun _ _ _ h=>h) (Or.inl ⟨by rfl,?hy8⟩) (by assumption) ?rest8
 case hy8=>
  intro w ic
  try dsimp only at ic
  go_simp
  try with_reducible rfl
 try simp only[Act.put,List.setIfInBounds_toArray,List.set_cons_zero,List.set_cons_succ]
 refine wpAnyH_take (i:=9) (v:= ?v9) (by simp only[List.getElem?_toArray,List.getElem?_cons_succ,List.getElem?_cons_zero];rfl) (by kernel_rfl) (by kernel_rfl) (by kernel_rfl) (fun _ _ _ h=>h) (Or.inl ⟨by rfl,?hy9⟩) (by assumption) ?rest9
 case hy9=>
  intro w ic
  try dsimp only at ic
  go_simp
  try with_reducible rfl
 try simp only[Act.put,List.setIfInBounds_toArray,List.set_cons_zero,List.set_cons_succ]
 refine wpAnyH_take (i:=10) (v:= ?v10) (by simp only[List.getElem?_toArray,List.getElem?_cons_succ,List.getElem?_cons_zero];rfl) (by kernel_rfl) (by kernel_rfl) (by kernel_rfl) (fun _ _ _ h=>h) (Or.inl ⟨by rfl,?hy10⟩) (by assumption) ?rest10
 case hy10=>
  intro w ic
  try dsimp only at ic
  go_simp
  try with_reducible rfl
 try simp only[Act.put,List.setIfInBounds_toArray,List.set_cons_zero,List.set_cons_succ]
 refine wpAnyH_take (i:=11) (v:= ?v11) (by simp only[List.getElem?_toArray,List.getElem?_cons_succ,List.getElem?_cons_zero];rfl) (by kernel_rfl) (by kernel_rfl) (by kernel_rfl) (fun _ _ _ h=>h) (Or.inl ⟨by rfl,?hy11⟩) (by assumption) ?rest11
 case hy11=>
  intro w ic
  try dsimp only at ic
  go_simp
  try with_reducible rfl
 try simp only[Act.put,List.setIfInBounds_toArray,List.set_cons_zero,List.set_cons_succ]
 refine wpAnyH_take (i:=12) (v:= ?v12) (by simp only[List.getElem?_toArray,List.getElem?_cons_succ,List.getElem?_cons_zero];rfl) (by kernel_rfl) (by kernel_rfl) (by kernel_rfl) (fun _ _ _ h=>h) (Or.inl ⟨by rfl,?hy12⟩) (by assumption) ?rest12
 case hy12=>
  intro w ic
  try dsimp only at ic
  go_simp
  try with_reducible rfl
 try simp only[Act.put,List.setIfInBounds_toArray,List.set_cons_zero,List.set_cons_succ]
 refine wpAnyH_take (i:=13) (v:= ?v13) (by simp only[List.getElem?_toArray,List.getElem?_cons_succ,List.getElem?_cons_zero];rfl) (by kernel_rfl) (by kernel_rfl) (by kernel_rfl) (fun _ _ _ h=>h) (Or.inl ⟨by rfl,?hy13⟩) (by assumption) ?rest13
 case hy13=>
  intro w ic
  try dsimp only at ic
  go_simp
  try with_reducible rfl
 try simp only[Act.put,List.setIfInBounds_toArray,List.set_cons_zero,List.set_cons_succ]
 refine wpAnyH_take (i:=14) (v:= ?v14) (by simp only[List.getElem?_toArray,List.getElem?_cons_succ,List.getElem?_cons_zero];rfl) (by kernel_rfl) (by kernel_rfl) (by kernel_rfl) (fun _ _ _ h=>h) (Or.inl ⟨by rfl,?hy14⟩) (by assumption) ?rest14
 case hy14=>
  intro w ic
  try dsimp only at ic
  go_simp
  try with_reducible rfl
 try simp only[Act.put,List.setIfInBounds_toArray,List.set_cons_zero,List.set_cons_succ]
 refine wpAnyH_ready (rs:=[6,15]) (by kernel_rfl) (by simp) ?_
 refine AllReadyH.cons (by simp only[List.getElem?_toArray,List.getElem?_cons_succ,List.getElem?_cons_zero];rfl) (fun K hK=> ?_) (AllReadyH.cons (by simp only[List.getElem?_toArray,List.getElem?_cons_succ,List.getElem?_cons_zero];rfl) (fun K hK=> ?_) AllReadyH.nil)
 . go_simp
   refine hK.out _ _ ?_ (fun Mb=> ?_)
   . go_keep
   clear hK K
   try simp only[Act.put,List.setIfInBounds_toArray,List.set_cons_zero,List.set_cons_succ]
   refine wpAnyH_ready (rs:=[15]) (by kernel_rfl) (by simp) ?_
   refine AllReadyH.cons (by simp only[List.getElem?_toArray,List.getElem?_cons_succ,List.getElem?_cons_zero];rfl) (fun K hK=> ?_) AllReadyH.nil
   go_simp
   refine hK.out _ _ ?_ (fun F3=> ?_)
   . go_keep
   clear hK K
   try simp only[Act.put,List.setIfInBounds_toArray,List.set_cons_zero,List.set_cons_succ]
   refine wpAnyH_ready (rs:=[16]) (by kernel_rfl) (by simp) ?_
   refine AllReadyH.cons (by simp only[List.getElem?_toArray,List.getElem?_cons_succ,List.getElem?_cons_zero];rfl) (fun K hK=> ?_) AllReadyH.nil
   go_simp
   go_at_call 74
   refine HC.out.mono ?_
   rintro e Y ⟨g'',c'',rfl,hy5,Kg,hy0,hy1,hy6,hG⟩
   have HG:=zh hG
   clear hG
   go_wp2_with fail
   refine hK.out _ _ ?_ (fun F4=> ?_)
   . go_keep
   clear hK K
   try simp only[Act.put,List.setIfInBounds_toArray,List.set_cons_zero,List.set_cons_succ]
   refine wpAnyH_take (i:=17) (v:= ?v17x15) (by simp only[List.getElem?_toArray,List.getElem?_cons_succ,List.getElem?_cons_zero];rfl) (by kernel_rfl) (by kernel_rfl) (by kernel_rfl) (fun _ _ _ h=>h) (Or.inl ⟨by rfl,?hy17x15⟩) (by assumption) ?rest17x15
   case hy17x15=>
    intro w ic
    try dsimp only at ic
    go_simp
    try with_reducible rfl
   try simp only[Act.put,List.setIfInBounds_toArray,List.set_cons_zero,List.set_cons_succ]
   refine wpAnyH_take (i:=18) (v:= ?v18x15) (by simp only[List.getElem?_toArray,List.getElem?_cons_succ,List.getElem?_cons_zero];rfl) (by kernel_rfl) (by kernel_rfl) (by kernel_rfl) (fun _ _ _ h=>h) (Or.inl ⟨by rfl,?hy18x15⟩) (by assumption) ?rest18x15
   case hy18x15=>
    intro w ic
    try dsimp only at ic
    go_simp
    try with_reducible rfl
   try simp only[Act.put,List.setIfInBounds_toArray,List.set_cons_zero,List.set_cons_succ]
   refine wpAnyH_ready (rs:=[19]) (by kernel_rfl) (by simp) ?_
   refine AllReadyH.cons (by simp only[List.getElem?_toArray,List.getElem?_cons_succ,List.getElem?_cons_zero];rfl) (fun K hK=> ?_) AllReadyH.nil
   go_simp
   refine hK.out _ _ ?_ (fun Ga=> ?_)
   . go_keep
   clear hK K
   try simp only[Act.put,List.setIfInBounds_toArray,List.set_cons_zero,List.set_cons_succ]
   refine wpAnyH_done (by kernel_rfl) ?_ _
   refine NoPanic.normal ?_
   go_wp2
   go_ret
   exact HG.out
 . go_simp
   refine hK.out _ _ ?_ (fun F3=> ?_)
   . go_keep
   clear hK K
   try simp only[Act.put,List.setIfInBounds_toArray,List.set_cons_zero,List.set_cons_succ]
   refine wpAnyH_ready (rs:=[6]) (by kernel_rfl) (by simp) ?_
   refine AllReadyH.cons (by simp only[List.getElem?_toArray,List.getElem?_cons_succ,List.getElem?_cons_zero];rfl) (fun K hK=> ?_) AllReadyH.nil
   go_simp
   refine hK.out _ _ ?_ (fun Mb=> ?_)
   . go_keep
   clear hK K
   try simp only[Act.put,List.setIfInBounds_toArray,List.set_cons_zero,List.set_cons_succ]
   refine wpAnyH_ready (rs:=[16]) (by kernel_rfl) (by simp) ?_
   refine AllReadyH.cons (by simp only[List.getElem?_toArray,List.getElem?_cons_succ,List.getElem?_cons_zero];rfl) (fun K hK=> ?_) AllReadyH.nil
   go_simp
   go_at_call 74
   refine HC.out.mono ?_
   rintro e Y ⟨g'',c'',rfl,hy5,Kg,hy0,hy1,hy6,hG⟩
   have HG:=zh hG
   clear hG
   go_wp2_with fail
   refine hK.out _ _ ?_ (fun F4=> ?_)
   . go_keep
   clear hK K
   try simp only[Act.put,List.setIfInBounds_toArray,List.set_cons_zero,List.set_cons_succ]
   refine wpAnyH_take (i:=17) (v:= ?v17x6) (by simp only[List.getElem?_toArray,List.getElem?_cons_succ,List.getElem?_cons_zero];rfl) (by kernel_rfl) (by kernel_rfl) (by kernel_rfl) (fun _ _ _ h=>h) (Or.inl ⟨by rfl,?hy17x6⟩) (by assumption) ?rest17x6
   case hy17x6=>
    intro w ic
    try dsimp only at ic
    go_simp
    try with_reducible rfl
   try simp only[Act.put,List.setIfInBounds_toArray,List.set_cons_zero,List.set_cons_succ]
   refine wpAnyH_take (i:=18) (v:= ?v18x6) (by simp only[List.getElem?_toArray,List.getElem?_cons_succ,List.getElem?_cons_zero];rfl) (by kernel_rfl) (by kernel_rfl) (by kernel_rfl) (fun _ _ _ h=>h) (Or.inl ⟨by rfl,?hy18x6⟩) (by assumption) ?rest18x6
   case hy18x6=>
    intro w ic
    try dsimp only at ic
    go_simp
    try with_reducible rfl
   try simp only[Act.put,List.setIfInBounds_toArray,List.set_cons_zero,List.set_cons_succ]
   refine wpAnyH_ready (rs:=[19]) (by kernel_rfl) (by simp) ?_
   refine AllReadyH.cons (by simp only[List.getElem?_toArray,List.getElem?_cons_succ,List.getElem?_cons_zero];rfl) (fun K hK=> ?_) AllReadyH.nil
   go_simp
   refine hK.out _ _ ?_ (fun Ga=> ?_)
   . go_keep
   clear hK K
   try simp only[Act.put,List.setIfInBounds_toArray,List.set_cons_zero,List.set_cons_succ]
   refine wpAnyH_done (by kernel_rfl) ?_ _
   refine NoPanic.normal ?_
   go_wp2
   go_ret
   exact HG.out
def PE (t':Tree)(v:Value)(fp fS:List Nat)(W:World)(e:Ending)(W':World):Prop:=e=Jz v/\∃fp',t'.At W' 0 v fp'/\fp'.Nodup/\(∀q∈fp',q∈fp\/q∈fS\/W.heap.size<=q)/\But fp W W'
theorem ry (t:Tree)(v:Value)(fp qs:List Nat)(b:Box)(k:Int)(ts:List Tree)(g pg L cap i:Nat)(vs:List Value)(f1 f2 R:List Nat)(s:Tree)(vS:Value)(fS:List Nat)(wg wo wn wc:Nat)(W:World)
 (Q0:W.cell? ⟨wg,wo,O⟩=I (JJ (I ⟨g,0,O⟩))) (kr:W.cell? ⟨wg,wo+1,O⟩=I (J Jq i)) (Fo:1<=wn)
 (hS:aX W g b k (Jj (I ⟨pg,0,O⟩) L cap)) (hR:W.ownsRow 0 70 1 (Jj (I ⟨pg,0,O⟩) L cap) L vs) (hi:i < L) (hL:L<=900)
 (h1:aB W 0 (ts.take i) (vs.take i) f1) (h2:aB W 0 (ts.drop (i+1)) (vs.drop (i+1)) f2) (co:∀u∈vs,u.oneCell'=true)
 (l6:∀W' s' f'',s'.At W' 0 (dA g) f''->(∀q∈R,W'.heap[q]?=W.heap[q]?)->∃fp',(t.putAt qs s').At W' 0 v fp'/\fp'.Perm (f''++R)) (Ym:∀q∈R,q < W.heap.size)
 (hs:s.At W 0 vS fS) (Q1:s.sound=true) (Sa:s.fine) (hsz:s.size<=900) (c8:(g::pg::(f1++(fS++(f2++R)))).Nodup) (cf:∀q,q=g\/q=pg\/q∈f1\/q∈f2\/q∈R->q∈fp):
 Calls prog 42 #[v,Jj (I ⟨wg,wo,O⟩) wn wc,vS] W (PE (t.putAt qs (.split b k (dK k ts i s))) v fp fS W):=by
 obtain⟨us,f,hF,hP,aL⟩:=wP (k:=k) hs Sa Q1
 obtain⟨a1,a2⟩:=List.nodup_cons.1 c8
 obtain⟨a3,a4⟩:=List.nodup_cons.1 a2
 have yo:g≠pg:=fun e=>a1 (by simp[e])
 have Yn:pg ∉ fS:=fun e=>a3 (by simp[e])
 have j2:=hP.length
 have hflen:(iw k s).length<=900:=by
  cases s with
  | leaf b' p=>simp[iw]
  | split b' k' ts'=>
    show (if k'=k then ts' else [.split b' k' ts']).length<=900
    have:=aI ts'
    change 1+sizes ts'<=900 at hsz
    split
    . omega
    . simp
 have hG:Calls prog 42 #[v,Jj (I ⟨wg,wo,O⟩) wn wc,vS] W (tJ g i b k pg L vs us v W):=by
  cases hk:s.bY k with
  | false=>exact G6 v wg wo wn wc g i b k pg L cap vs s vS us W Q0 kr Fo hS hR hi (by omega) hF yo hk
  | true=>
    refine Ef v wg wo wn wc g i b k pg L cap vs s vS us W Q0 kr Fo hS hR hi (by omega) hF yo hk ?_ ?_ (by omega) hP.one_cell co
    . intro gi g' c' e1 e2
      cases s with
      | leaf b' p=>cases hk
      | split b' k' ts'=>
        obtain⟨g0,sl,vs',fs,e3,k2,k3,k4,rfl⟩:=hs
        rw[e1] at e3
        cases e3
        have h5:=ae k2 5
        rw[e2] at h5
        have av:sl=Jj (I ⟨g',0,O⟩) us.length c':=(Option.some.inj h5).symm
        subst av
        refine⟨fun e=>Yn ?_,fun e=>Yn ?_⟩
        . rw[<- e]
          simp[Value.ownBlock]
        . rw[<- e]
          simp
    . rw[j2]
      cases s with
      | leaf b' p=>cases hk
      | split b' k' ts'=>
        have l8:k'=k:=by simpa [Tree.bY] using hk
        show 2<=(if k'=k then ts' else [.split b' k' ts']).length
        rw[if_pos l8]
        unfold Tree.sound at Q1
        simp only[Bool.and_eq_true,decide_eq_true_eq] at Q1
        exact Q1.1.1
 refine hG.mono ?_
 rintro e W' ⟨rfl,g',c',hS',hR',me,hb⟩
 have eA:∀q,q < W.heap.size->q≠g->q≠pg->W'.heap[q]?=W.heap[q]?:=fun q hq n1 n2=>hb.block q hq (by simp[n1,n2])
 have bE:∀q,q∈f1\/q∈f\/q∈f2\/q∈R->q∈f1++(fS++(f2++R)):=fun q hq=>by
  simp only[List.mem_append]
  rcases hq with h | h | h | h
  . exact .inl h
  . exact .inr (.inl (aL.subset h))
  . exact .inr (.inr (.inl h))
  . exact .inr (.inr (.inr h))
 have a7:∀q,q∈f1\/q∈f\/q∈f2\/q∈R->q≠g/\q≠pg:=fun q hq=>⟨fun e=>a1 (List.mem_cons_of_mem _ (e ▸ bE q hq)),fun e=>a3 (e ▸ bE q hq)⟩
 have am:∀q,q∈f1\/q∈f\/q∈f2\/q∈R->q < W.heap.size:=fun q hq=>by
  rcases hq with h | h | h | h
  . exact h1.lt q h
  . exact hP.lt q h
  . exact h2.lt q h
  . exact Ym q h
 have kl:∀q,q∈f1\/q∈f\/q∈f2\/q∈R->W'.heap[q]?=W.heap[q]?:=fun q hq=>eA q (am q hq) (a7 q hq).1 (a7 q hq).2
 have dk:vs.length=L:=by simpa using hR.1
 have tG:aB W' 0 (dK k ts i s) (vs.take i++(us++vs.drop (i+1))) (f1++(f++f2)):=
  (h1.keep fun q hq=>kl q (.inl hq)).append ((hP.keep fun q hq=>kl q (.inr (.inl hq))).append (h2.keep fun q hq=>kl q (.inr (.inr (.inl hq)))))
 have hlen:(vs.take i++(us++vs.drop (i+1))).length=L-1+us.length:=by
  rw[List.length_append,List.length_append,List.length_take,List.length_drop]
  omega
 have ce:(Tree.split b k (dK k ts i s)).At W' 0 (dA g) (g::((Value.slice (I ⟨g',0,O⟩) (L-1+us.length) c').ownBlock.toList++(f1++(f++f2)))):=⟨g,_,_,_,rfl,hS',by rw[hlen];exact hR',tG,rfl⟩
 obtain⟨fp',bq,j8⟩:=l6 W' _ _ ce (fun q hq=>kl q (.inr (.inr (.inr hq))))
 have Sb:(g::((Value.slice (I ⟨g',0,O⟩) (L-1+us.length) c').ownBlock.toList++(f1++(f++f2))))++R=g::g'::(f1++(f++(f2++R))):=by simp[Value.ownBlock]
 rw[Sb] at j8
 have av:List.Sublist (f1++(f++(f2++R))) (f1++(fS++(f2++R))):=(List.Sublist.refl _).append (aL.append (List.Sublist.refl _))
 have Fu:∀q,q∈f1++(f++(f2++R))->q∈f1\/q∈f\/q∈f2\/q∈R:=fun q hq=>by simpa only[List.mem_append] using hq
 refine⟨rfl,fp',bq,j8.nodup_iff.2 (List.nodup_cons.2 ⟨fun h=> ?_,List.nodup_cons.2 ⟨fun h=> ?_,av.nodup a4⟩⟩),fun q hq=> ?_,hb.mono fun q hq=> ?_⟩
 . rcases List.mem_cons.1 h with h | h
   . rcases me with h' | h'
     . exact yo (h.trans h')
     . have:=lt_of_block hS
       omega
   . exact (a7 g (Fu g h)).1 rfl
 . rcases me with h' | h'
   . exact (a7 g' (Fu g' h)).2 h'
   . have:=am g' (Fu g' h)
     omega
 . have Dd:=j8.mem_iff.1 hq
   rcases List.mem_cons.1 Dd with h | h
   . exact .inl (cf q (.inl h))
   . rcases List.mem_cons.1 h with h | h
     . rcases me with h' | h'
       . exact .inl (cf q (.inr (.inl (h.trans h'))))
       . exact .inr (.inr (by omega))
     . rcases Fu q h with h | h | h | h
       . exact .inl (cf q (.inr (.inr (.inl h))))
       . exact .inr (.inl (aL.subset h))
       . exact .inl (cf q (.inr (.inr (.inr (.inl h)))))
       . exact .inl (cf q (.inr (.inr (.inr (.inr h)))))
 . have:q=g\/q=pg:=by simpa using hq
   rcases this with h | h
   . exact cf q (.inl h)
   . exact cf q (.inr (.inl h))
structure O8 (w:World)(t:Tree)(v:Value)(fp qs:List Nat)(a:Nat)(b:Box)(k:Int)(ts:List Tree)(bl:Box)(q:Int)(g gl pg cap:Nat)(vs:List Value)(f1 f2 R:List Nat):Prop where
 sub:t.cO qs=I (.split b k ts)
 leaf:ts[a]?=I (.leaf bl q)
 own:aX w g b k (Jj (I ⟨pg,0,O⟩) ts.length cap)
 row:w.ownsRow 0 70 1 (Jj (I ⟨pg,0,O⟩) ts.length cap) ts.length vs
 at_:vs[a]?=I (aZ gl)
 lf:bD w gl bl q
 ahead:aB w 0 (ts.take a) (vs.take a) f1
 behind:aB w 0 (ts.drop (a+1)) (vs.drop (a+1)) f2
 one:∀u∈vs,u.oneCell'=true
 enc:∃aa:List (Option (TypeId × Nat)),vs=aa.map Na
 nd:(g::pg::gl::(f1++(f2++R))).Nodup
 perm:fp.Perm (g::pg::gl::(f1++(f2++R)))
 put:∀W' s' f'',s'.At W' 0 (dA g) f''->(∀q∈R,W'.heap[q]?=w.heap[q]?)->∃fp',(t.putAt qs s').At W' 0 v fp'/\fp'.Perm (f''++R)
theorem Qh {w:World}{t:Tree}{v:Value}{fp qs:List Nat}{a:Nat}{b:Box}{k:Int}{ts:List Tree}{bl:Box}{q:Int}{gl:Nat}{st:List (Nat × Nat)}(hA:t.At w 0 v fp)(aE:fp.Nodup)(hr:Reach w v (qs++[a]) (aZ gl) st)(aL:t.cO qs=I (.split b k ts))(hl:ts[a]?=I (.leaf bl q)):
 ∃g st' pg cap vs f1 f2 R,st=(g,a)::st'/\Reach w v qs (dA g) st'/\O8 w t v fp qs a b k ts bl q g gl pg cap vs f1 f2 R:=by
 obtain⟨g,st',h1,rfl,h2⟩:=Reach.split qs a hr
 obtain⟨s,f',R,hS⟩:=Tree.At.reach qs hA h1
 have hs:s=.split b k ts:=by
  have:=hS.sub
  rw[aL] at this
  exact (Option.some.inj this).symm
 subst hs
 obtain⟨n1,n2,n3,n4,n5⟩:=hS.nd aE
 obtain⟨g',sl,vs,fs,e,k2,k3,k4,hf⟩:=hS.here
 cases e
 obtain⟨g'',pg,n,cap,vi,st'',e1,e2,e3,e4,e5,_⟩:=h2
 cases e1
 obtain⟨rfl,_⟩:=e5
 have av:sl=Jj (I ⟨pg,0,O⟩) n cap:=by
  have:=ae k2 5
  rw[e2] at this
  exact (Option.some.inj this).symm
 subst av
 obtain⟨Hh,S0⟩:=EI k3
 have dk:=k4.length
 have hn:n=ts.length:=by omega
 subst hn
 obtain⟨v1,fl,f1,f2,x1,x2,x3,x4,x5,x6⟩:=k4.mid a _ hl
 have S5:v1=aZ gl:=by
  have:=S0 a _ e3 e4
  rw[x1] at this
  exact Option.some.inj this
 subst S5
 obtain⟨gl',y1,y2,y3⟩:=x2
 cases y1
 subst y3
 have qq:f'=g::pg::(f1++(gl::f2)):=by
  rw[hf,x5]
  simp[Value.ownBlock]
 have j8:fp.Perm (g::pg::gl::(f1++(f2++R))):=by
  refine List.perm_iff_count.2 fun q=> ?_
  have hc:=List.perm_iff_count.1 hS.perm q
  rw[qq] at hc
  simp only[List.count_cons,List.count_append] at hc ⊢
  omega
 refine⟨g,st',pg,cap,vs,f1,f2,R,rfl,h1,aL,hl,k2,by rw[Hh] at k3;exact k3,x1,y2,x3,x4,k4.one_cell,k4.enc,j8.nodup_iff.1 aE,j8,hS.put⟩
theorem O8.lt {w:World}{t:Tree}{v:Value}{fp qs:List Nat}{a:Nat}{b:Box}{k:Int}{ts:List Tree}{bl:Box}{q:Int}{g gl pg cap:Nat}{vs:List Value}{f1 f2 R:List Nat}(h:O8 w t v fp qs a b k ts bl q g gl pg cap vs f1 f2 R)(hA:t.At w 0 v fp):∀x∈g::pg::gl::(f1++(f2++R)),x < w.heap.size:=fun x hx=>hA.lt x (h.perm.mem_iff.2 hx)
theorem O8.below {w X:World}{t:Tree}{v:Value}{fp qs:List Nat}{a:Nat}{b:Box}{k:Int}{ts:List Tree}{bl:Box}{q:Int}{g gl pg cap:Nat}{vs:List Value}{f1 f2 R:List Nat}(h:O8 w t v fp qs a b k ts bl q g gl pg cap vs f1 f2 R)(hA:t.At w 0 v fp)(hb:Below w.heap.size w X):O8 X t v fp qs a b k ts bl q g gl pg cap vs f1 f2 R:=by
 have am:=h.lt hA
 refine⟨h.sub,h.leaf,h.own.below hb,own_below h.row hb,h.at_,h.lf.below hb,h.ahead.below hb,h.behind.below hb,h.one,h.enc,h.nd,h.perm,fun W' s' f'' hs hk=>h.put W' s' f'' hs fun q hq=> ?_⟩
 rw[hk q hq]
 exact hb.block q (am q (by simp[hq]))
structure FB (w:World)(b:Box)(k:Int)(us:List Tree)(bl:Box)(q:Int)(g gl pg L cap:Nat)(vs:List Value)(f1 f2:List Nat)(Y:World):Prop where
 own:aX Y g b k (Jj (I ⟨pg,0,O⟩) L cap)
 row:Y.ownsRow 0 70 1 (Jj (I ⟨pg,0,O⟩) L cap) L vs
 parts:aB Y 0 us vs (f1++f2)
 lf:bD Y gl bl q
 but:But (g::pg::(f1++f2)) w Y
theorem LD {w Y:World}{t:Tree}{v:Value}{fp qs:List Nat}{a:Nat}{b:Box}{k:Int}{ts:List Tree}{bl:Box}{q:Int}{g gl pg cap:Nat}{vs:List Value}{f1 f2 R:List Nat}(h:O8 w t v fp qs a b k ts bl q g gl pg cap vs f1 f2 R)(hA:t.At w 0 v fp)(ho:Y.ownsRow 0 70 1 (Jj (I ⟨pg,0,O⟩) (ts.length-1) cap) (ts.length-1) (vs.eraseIdx a))(hb:But [pg] w Y):
 Y.cell? ⟨g,5,O⟩=I (Jj (I ⟨pg,0,O⟩) ts.length cap)/\Y.frozen? ⟨g,5,O⟩=false/\FB w b k (ts.eraseIdx a) bl q g gl pg (ts.length-1) cap (vs.eraseIdx a) f1 f2 (Y.setCell ⟨g,5,O⟩ (Jj (I ⟨pg,0,O⟩) (ts.length-1) cap)):=by
 have am:=h.lt hA
 obtain⟨a1,a2⟩:=List.nodup_cons.1 h.nd
 obtain⟨a3,a4⟩:=List.nodup_cons.1 a2
 obtain⟨a5,a6⟩:=List.nodup_cons.1 a4
 have yo:g≠pg:=fun e=>a1 (by simp[e])
 have L2:aX Y g b k (Jj (I ⟨pg,0,O⟩) ts.length cap):=(hb.block g (am g (by simp)) (by simpa using yo)).trans h.own
 have hk:∀x,x∈gl::(f1++f2)->(Y.setCell ⟨g,5,O⟩ (Jj (I ⟨pg,0,O⟩) (ts.length-1) cap)).heap[x]?=w.heap[x]?:=fun x hx=>by
  have I2:x∈gl::(f1++(f2++R)):=by
   rcases List.mem_cons.1 hx with e | e
   . rw[e];simp
   . rcases List.mem_append.1 e with e | e
     . simp[e]
     . simp[e]
  have n1:x≠g:=fun e=>a1 (List.mem_cons_of_mem _ (e ▸ I2))
  have n2:x≠pg:=fun e=>a3 (e ▸ I2)
  exact (Below.heap_setCell _ _ _ _ n1).trans (hb.block x (am x (List.mem_cons_of_mem _ (List.mem_cons_of_mem _ I2))) (by simpa using n2))
 refine⟨ae L2 5,ai L2 5,L2.Jr _,dU ho fun x hx=>Below.heap_setCell _ _ _ _ ?_,?_,(hk gl (by simp)).trans h.lf,?_⟩
 . have:x=pg:=by simpa [Value.ownBlock] using hx
   rw[this]
   exact Ne.symm yo
 . rw[List.eraseIdx_eq_take_drop_succ,List.eraseIdx_eq_take_drop_succ]
   exact (h.ahead.keep fun x hx=>hk x (by simp[hx])).append (h.behind.keep fun x hx=>hk x (by simp[hx]))
 . exact (hb.mono (by simp)).trans ((But.grown (grownBy_set Y g 5 _)).mono (by simp))
theorem FC {w Y:World}{b:Box}{k:Int}{us:List Tree}{bl:Box}{q:Int}{g gl pg L cap:Nat}{vs:List Value}{f1 f2:List Nat}(h:FB w b k us bl q g gl pg L cap vs f1 f2 Y)(aE:(g::pg::gl::(f1++f2)).Nodup){c:Nat}{x u:Tree}{n:Int}(hc:us[c]?=I x)(cg:Str x k n u):
 ∃ T gi Fx, vs[c]? = I (.iface T (JJ (I ⟨gi, 0, O⟩))) ∧ (∀ W, (method 286 T (JJ (I ⟨gi, 0, O⟩)) "mullion/layout.stretch").run prog W = .ok (Fx, JJ (I ⟨gi, 0, O⟩)) W) ∧ (∀ W, (nilAhead 286 T (JJ (I ⟨gi, 0, O⟩)) "mullion/layout.stretch").run prog W = .ok (I false) W) ∧ (∀ a c d W, (callFunc Fx #[a, c, d]).run prog W = .ok (.enter Fx #[a, c, d]) W) ∧
   ∀X,Below Y.heap.size Y X->Calls prog Fx #[JJ (I ⟨gi,0,O⟩),J Jq k,J Jq n] X fun e Z=>e=Jz (.tuple #[])/\FB w b k (us.set c u) bl q g gl pg L cap vs f1 f2 Z:=by
 obtain⟨n1,n2⟩:=List.nodup_cons.1 aE
 obtain⟨n3,n4⟩:=List.nodup_cons.1 n2
 obtain⟨n5,n6⟩:=List.nodup_cons.1 n4
 obtain⟨vc,f,e1,e2,e3,e4,e5⟩:=h.parts.one n6 c x hc
 obtain⟨T,gi,Fx,hX⟩:=x.stretches 0 vc f Y e2 e3
 have hv:=hX.val
 subst hv
 refine⟨T,gi,Fx,e1,hX.mX,hX.nX,hX.fX,fun X hb=>(hX.cX X k n u (e2.below hb) cg).mono fun e Z hZ=>⟨hZ.1,?_⟩⟩
 have hB:But f Y Z:=(But.trans (S:=f) ⟨hb.os,hb.tape,hb.output,hb.size,fun r hr _=>hb.block r hr⟩ hZ.2.2)
 have hk:∀r,r ∉ f1++f2->r < Y.heap.size->Z.heap[r]?=Y.heap[r]?:=fun r hr hl=>hB.block r hl fun e=>hr (e4 r e)
 refine⟨(hk g (fun e=>n1 (List.mem_cons_of_mem _ (List.mem_cons_of_mem _ e))) (lt_of_block h.own)).trans h.own,dU h.row fun r hr=>hk r ?_ (oZ h.row r hr),e5 Z u hB hZ.2.1,(hk gl n5 (lt_of_block h.lf)).trans h.lf,h.but.trans (hB.mono fun r hr=> ?_)⟩
 . have:r=pg:=by simpa [Value.ownBlock] using hr
   rw[this]
   exact fun e=>n3 (List.mem_cons_of_mem _ e)
 . exact List.mem_cons_of_mem _ (List.mem_cons_of_mem _ (e4 r hr))
theorem LJ (v:Value)(l:List aj)(q:Int)(w:World)(h:ay w v l)(hF:aT l=O):Calls prog 20 #[v,J Jq q] w (dZ 40 [] w):=by
 have HR:=zh (wG v l w h hF)
 clear h hF
 go_enter func20,ntmps20
 go_wp2_with fail
 refine HR.out.mono ?_
 rintro e w1 ⟨rfl,hb⟩
 unfold eH
 go_wp2
 go_ret2
 exact⟨_,rfl,World.ownsRow_nil _ _ _ _,hb⟩
theorem nV {t : Tree} {w : World} {T : TypeId} {g : Nat} {fp : List Nat} (hA : t.At w 0 (.iface T (JJ (I ⟨g, 0, O⟩))) fp) (hs : t.sound = true) (hz : t.size ≤ 900) (q : Int) : ∃ Fw, (∀ W, (method 286 T (JJ (I ⟨g, 0, O⟩)) "mullion/layout.way").run prog W = .ok (Fw, JJ (I ⟨g, 0, O⟩)) W) ∧ (∀ a c W, (callFunc Fw #[a, c]).run prog W = .ok (.enter Fw #[a, c]) W) ∧ ∀ X, Below w.heap.size w X → Calls prog Fw #[JJ (I ⟨g, 0, O⟩), J Jq q] X (ng w (.iface T (JJ (I ⟨g, 0, O⟩))) t q X) := by
 obtain⟨T',gi,Fw,hW⟩:=hA.GN hs (by omega)
 have hv:=hW.val
 cases hv
 exact⟨Fw,hW.mW,hW.fW,fun X hX=>hW.cW q X hX⟩
theorem LK (v:Value)(l:List aj)(q:Int)(w:World)(h:ay w v l){t:Tree}(hF:aT l=I t)(hp:t.path q=O):Calls prog 20 #[v,J Jq q] w (dZ 42 [] w):=by
 have HR:=zh (dQ v l w h hF)
 have hl:=aV hF
 have hz:=lay_size hl
 have HW : Hid (∀ T g fp w1, t.At w1 0 (.iface T (JJ (I ⟨g, 0, O⟩))) fp → ∃ Fw, (∀ W, (method 286 T (JJ (I ⟨g, 0, O⟩)) "mullion/layout.way").run prog W = .ok (Fw, JJ (I ⟨g, 0, O⟩)) W) ∧ (∀ a c W, (callFunc Fw #[a, c]).run prog W = .ok (.enter Fw #[a, c]) W) ∧ Calls prog Fw #[JJ (I ⟨g, 0, O⟩), J Jq q] w1 fun e w' => Below w1.heap.size w1 w' ∧ e = Jz (.tuple #[Jj O 0 0, JJ O])) := fun T g fp w1 hA => by
  obtain⟨Fw,m1,m2,hc⟩:=nV hA hl.sound (by omega) q
  refine⟨Fw,m1,m2,(hc w1 (Below.refl _ _)).mono fun e w' h=> ?_⟩
  obtain⟨hb,⟨_,he⟩ | ⟨ps,gl,st,sa,sn,sc,h1,_⟩⟩:=h
  . exact⟨hb,he⟩
  . rw[hp] at h1
    cases h1
 clear h hF hl hz hp
 go_enter func20,ntmps20
 go_wp2_with fail
 refine HR.out.mono ?_
 rintro e w1 ⟨T,g,fp,rfl,bq,aE,be,hb⟩
 have HB:=zh hb
 obtain⟨Fw,m1,m2,hc⟩:=HW.out T g fp w1 bq
 have HC:=zh hc
 clear bq aE be hb hc HR HW
 go_wp2_with fail
 refine HC.out.mono ?_
 rintro e w2 ⟨al,rfl⟩
 have aD:=zh (af HB.out al)
 clear al HC
 go_wp2
 go_ret2
 exact⟨_,rfl,World.ownsRow_nil _ _ _ _,aD.out⟩
theorem LM (v:Value)(l:List aj)(q:Int)(w:World)(h:ay w v l){t:Tree}(hF:aT l=I t)(hp:t.path q=I []):Calls prog 20 #[v,J Jq q] w (dZ 46 [] w):=by
 have HR:=zh (dQ v l w h hF)
 have hl:=aV hF
 have hz:=lay_size hl
 have HW : Hid (∀ T g fp w1, t.At w1 0 (.iface T (JJ (I ⟨g, 0, O⟩))) fp → ∃ Fw, (∀ W, (method 286 T (JJ (I ⟨g, 0, O⟩)) "mullion/layout.way").run prog W = .ok (Fw, JJ (I ⟨g, 0, O⟩)) W) ∧ (∀ a c W, (callFunc Fw #[a, c]).run prog W = .ok (.enter Fw #[a, c]) W) ∧ Calls prog Fw #[JJ (I ⟨g, 0, O⟩), J Jq q] w1 fun e w' => Below w1.heap.size w1 w' ∧ ∃ gl sa sc, e = Jz (.tuple #[Jj sa 0 sc, JJ (I ⟨gl, 0, O⟩)])) := fun T g fp w1 hA => by
  obtain⟨Fw,m1,m2,hc⟩:=nV hA hl.sound (by omega) q
  refine⟨Fw,m1,m2,(hc w1 (Below.refl _ _)).mono fun e w' h=> ?_⟩
  obtain⟨hb,⟨h1,_⟩ | ⟨ps,gl,st,sa,sn,sc,h1,h2,he,h3⟩⟩:=h
  . rw[hp] at h1
    cases h1
  . rw[hp] at h1
    cases h1
    obtain⟨_,rfl⟩:=h2
    obtain⟨a',c',e0⟩:=dG h3
    cases e0
    exact⟨hb,gl,sa,sc,he⟩
 clear h hF hl hz hp
 go_enter func20,ntmps20
 go_wp2_with fail
 refine HR.out.mono ?_
 rintro e w1 ⟨T,g,fp,rfl,bq,aE,be,hb⟩
 have HB:=zh hb
 obtain⟨Fw,m1,m2,hc⟩:=HW.out T g fp w1 bq
 have HC:=zh hc
 clear bq aE be hb hc HR HW
 go_wp2_with fail
 refine HC.out.mono ?_
 rintro e w2 ⟨al,gl,sa,sc,rfl⟩
 have aD:=zh (af HB.out al)
 clear al HC
 go_wp2
 go_ret2
 exact⟨_,rfl,World.ownsRow_nil _ _ _ _,aD.out⟩
def Fin (r:List aj)(w:World)(e:Ending)(w':World):Prop:=∃u,e=Jz u/\az w' w.heap.size u r/\Below w.heap.size w w'
structure J3 (w:World)(T':List aj)(w2:World)(r:Value)(gl wg wn wc:Nat)(g a:Nat)(k:Int)(pg M cap:Nat)(Tc:TypeId)(gi:Nat)(Fx:FuncId)(E:Int)(P1 P2:World->Prop):Prop where
 len:1<=wn/\wn<=1000/\wn<=wc/\wc<=9223372036854775807
 up:w2.cell? ⟨wg,0,O⟩=I (JJ (I ⟨g,0,O⟩))/\w2.cell? ⟨wg,1,O⟩=I (J Jq a)
 parts:w2.cell? ⟨g,5,O⟩=I (Jj (I ⟨pg,0,O⟩) (M+1) cap)
 lt:a < M+1/\1<=M/\M<=900/\M+1<=cap/\cap<=9223372036854775807
 del:∀X,Below w2.heap.size w2 X->Calls prog 46 #[Jj (I ⟨pg,0,O⟩) (M+1) cap,J Jq a,J Jq ((a:Int)+1)] X fun e Y=>e=Jz (Jj (I ⟨pg,0,O⟩) M cap)/\Y.cell? ⟨g,5,O⟩=I (Jj (I ⟨pg,0,O⟩) (M+1) cap)/\Y.frozen? ⟨g,5,O⟩=false/\P1 (Y.setCell ⟨g,5,O⟩ (Jj (I ⟨pg,0,O⟩) M cap))
 one:∀Y,P1 Y->Y.cell? ⟨g,4,O⟩=I (J Jq k)/\Y.cell? ⟨g,5,O⟩=I (Jj (I ⟨pg,0,O⟩) M cap)/\Y.cell? ⟨pg,a-1,O⟩=I (.iface Tc (JJ (I ⟨gi,0,O⟩)))
 ext:∀Y m,P1 Y->Calls prog 38 #[JJ (I ⟨gl,0,O⟩),J Jq k] (Y.drewN m) fun e w'=>e=Jz (J Jq E)/\Y.drewN m=w'
 lim:1<=E/\E<=1000
 mX : ∀ W, (method 286 Tc (JJ (I ⟨gi, 0, O⟩)) "mullion/layout.stretch").run prog W = .ok (Fx, JJ (I ⟨gi, 0, O⟩)) W
 nX : ∀ W, (nilAhead 286 Tc (JJ (I ⟨gi, 0, O⟩)) "mullion/layout.stretch").run prog W = .ok (I false) W
 fX:∀a c d W,(callFunc Fx #[a,c,d]).run prog W=.ok (.enter Fx #[a,c,d]) W
 cX:∀Y m,P1 Y->Calls prog Fx #[JJ (I ⟨gi,0,O⟩),J Jq k,J Jq (E+1)] (Y.drewN m) fun e Z=>e=Jz (.tuple #[])/\P2 Z
 two:∀Z,P2 Z->Z.cell? ⟨g,5,O⟩=I (Jj (I ⟨pg,0,O⟩) M cap)
 many:∀Z,P2 Z->M≠1->Calls prog 15 #[r] Z (Fin T' w)
 alone:∀Z,P2 Z->M=1->∃Tu gu,Z.cell? ⟨pg,0,O⟩=I (.iface Tu (JJ (I ⟨gu,0,O⟩)))/\∀m,Calls prog 42 #[r,Jj (I (if wc=1 then ⟨wg,0,O⟩ else ⟨wg,2,O⟩)) (wn-1) (wc-1),.iface Tu (JJ (I ⟨gu,0,O⟩))] (Z.drewN m) fun e Z'=>∃T3 g3,e=Jz (.iface T3 (JJ (I ⟨g3,0,O⟩)))/\Calls prog 15 #[.iface T3 (JJ (I ⟨g3,0,O⟩))] Z' (Fin T' w)
theorem JY (v:Value)(l:List aj)(q:Int)(w:World)(h:ay w v l){t:Tree}(hF:aT l=I t)(T':List aj)
 (hD : ∀ T g0 fp w1, t.At w1 0 (.iface T (JJ (I ⟨g0, 0, O⟩))) fp → fp.Nodup → (∀ x ∈ fp, w.heap.size ≤ x) → Below w.heap.size w w1 → ∃ Fw, (∀ W, (method 286 T (JJ (I ⟨g0, 0, O⟩)) "mullion/layout.way").run prog W = .ok (Fw, JJ (I ⟨g0, 0, O⟩)) W) ∧ (∀ a c W, (callFunc Fw #[a, c]).run prog W = .ok (.enter Fw #[a, c]) W) ∧ Calls prog Fw #[JJ (I ⟨g0, 0, O⟩), J Jq q] w1 fun e w2 => ∃ gl wg wn wc g a k pg M cap Tc gi Fx E P1 P2, e = Jz (.tuple #[Jj (I ⟨wg, 0, O⟩) wn wc, JJ (I ⟨gl, 0, O⟩)]) ∧ J3 w T' w2 (.iface T (JJ (I ⟨g0, 0, O⟩))) gl wg wn wc g a k pg M cap Tc gi Fx E P1 P2) :
 Calls prog 20 #[v,J Jq q] w (dZ 0 T' w):=by
 have HR:=zh (dQ v l w h hF)
 have HD:=zh hD
 clear h hF hD
 go_enter func20,ntmps20
 go_wp2_with fail
 refine HR.out.mono ?_
 rintro e w1 ⟨T,g0,fp,rfl,bq,aE,be,hb⟩
 obtain⟨Fw,m1,m2,hc⟩:=HD.out T g0 fp w1 bq aE be hb
 have HC:=zh hc
 clear bq aE be hb hc HR HD
 go_wp2_with fail
 refine HC.out.mono ?_
 rintro e w2 ⟨gl,wg,wn,wc,g,a,k,pg,M,cap,Tc,gi,Fx,E,P1,P2,rfl,hd⟩
 have HD:=zh hd
 obtain⟨l1,l2,l3,l4⟩:=hd.len
 obtain⟨u0,u1⟩:=hd.up
 have u5:=hd.parts
 obtain⟨d1,d2,d3,d4,d5⟩:=hd.lt
 have UH:=zh hd.del
 have Vx:IntKind.i64.wrap ((a:Int)+1)=(a:Int)+1:=by rw[IntKind.wrap_i64];omega
 clear hd HC m1 m2
 go_wp2_with fail
 go_region
 go_wp2_with fail
 refine (UH.out _ (Below.refl _ _).drew).mono ?_
 rintro e Y ⟨rfl,y5,yf,P3⟩
 obtain⟨Y1,E1⟩:∃Y1,Y.setCell ⟨g,5,O⟩ (Jj (I ⟨pg,0,O⟩) M cap)=Y1:=⟨_,rfl⟩
 have Lx:=zh E1
 rw[E1] at P3
 have E7:=zh P3
 clear E1 P3 u0 u1 u5 UH Vx
 go_wp2_with fail
 rw[Lx.out]
 clear y5 yf Lx
 obtain⟨y4,y5,y6⟩:=HD.out.one Y1 E7.out
 have m1:=HD.out.mX
 have m2:=HD.out.nX
 have m3:=HD.out.fX
 obtain⟨e1,e2⟩:=HD.out.lim
 have HE:Hid (∀m,Calls prog 38 #[JJ (I ⟨gl,0,O⟩),J Jq k] (Y1.drewN m) fun e w'=>e=Jz (J Jq E)/\Y1.drewN m=w'):=fun m=>HD.out.ext Y1 m E7.out
 have HX:Hid (∀m,Calls prog Fx #[JJ (I ⟨gi,0,O⟩),J Jq k,J Jq (E+1)] (Y1.drewN m) fun e Z=>e=Jz (.tuple #[])/\P2 Z):=fun m=>HD.out.cX Y1 m E7.out
 have hwE:IntKind.i64.wrap (E+1)=E+1:=by rw[IntKind.wrap_i64];omega
 have Kl:a=0\/∃c,a=c+1:=by
  cases a with
  | zero=>exact .inl rfl
  | succ c=>exact .inr ⟨c,rfl⟩
 rcases Kl with rfl | ⟨c,rfl⟩
 all_goals simp only[Nat.zero_sub,Nat.add_sub_cancel] at y6
 all_goals have hM0:(0:Int) < (M:Int):=by omega
 all_goals have hM00:0 < M:=by omega
 all_goals try have hcM:(c:Int) < (M:Int):=by omega
 all_goals have hmx0:max (IntKind.i64.wrap (-1)) 0=0:=by rw[IntKind.wrap_i64];decide
 all_goals try have hmxw:max (IntKind.i64.wrap (c:Int)) 0=(c:Int):=by rw[IntKind.wrap_i64];omega
 all_goals try have hmxc:max (c:Int) 0=(c:Int):=by omega
 all_goals try have hmxd:max ((c:Int)+1-1) 0=(c:Int):=by omega
 all_goals refine bQ 24 _ (by rfl) (by rfl) (by kernel_rfl) (by kernel_rfl) (by kernel_rfl) ?_
 all_goals simp only[List.take_succ_cons,List.take_zero]
 all_goals (repeat (quiet_step ((go_at_call 38;exact Calls.quiet_of_same ((HE.out _).mono fun e w' h=>⟨h.1,h.2.symm⟩)))))
 all_goals refine wpQuiet_nil ?_
 all_goals intro m7 K hK
 all_goals go_simp
 all_goals refine (HX.out m7).mono ?_
 all_goals rintro e Z ⟨rfl,Yf⟩
 all_goals refine hK _ _ ?_
 all_goals clear hK
 all_goals clear K
 all_goals have Ab:Hid (P2 Z):=Yf
 all_goals have z5:=HD.out.two Z Yf
 all_goals clear Yf y4 y5 y6 m1 m2 m3 HE HX E7
 all_goals by_cases AN:M=1
 . obtain⟨Tu,gu,zc,jN⟩:=HD.out.alone Z Ab.out AN
   subst AN
   by_cases EA:wc=1
   . rw[if_pos EA] at jN
     have Fo:wn=1:=by omega
     subst Fo EA
     have vA:=zh (jN 1)
     clear HD Ab jN
     go_wp2_with fail
     go_region_with (go_at_call 42;refine vA.out.mono ?_;rintro e Z' ⟨T3,g3,rfl,hL⟩;have HL:Hid (Calls prog 15 #[.iface T3 (JJ (I ⟨g3,0,O⟩))] Z' (Fin T' w)):=hL;clear hL)
     all_goals (
      go_wp2_with fail
      refine HL.out.mono ?_
      rintro e w9 ⟨u,rfl,hu,ez⟩
      have HU:=zh hu
      have pC:=zh ez
      clear hu ez HL
      go_wp2
      go_ret2
      exact⟨u,rfl,HU.out,pC.out⟩)
   . rw[if_neg EA] at jN
     have vA:=zh (jN 1)
     have ye:(1:Int)<=(wn:Int):=by omega
     clear HD Ab jN
     go_wp2_with fail
     go_region_with (go_at_call 42;refine vA.out.mono ?_;rintro e Z' ⟨T3,g3,rfl,hL⟩;have HL:Hid (Calls prog 15 #[.iface T3 (JJ (I ⟨g3,0,O⟩))] Z' (Fin T' w)):=hL;clear hL)
     all_goals (
      go_wp2_with fail
      refine HL.out.mono ?_
      rintro e w9 ⟨u,rfl,hu,ez⟩
      have HU:=zh hu
      have pC:=zh ez
      clear hu ez HL
      go_wp2
      go_ret2
      exact⟨u,rfl,HU.out,pC.out⟩)
 . have HL:Hid (Calls prog 15 #[.iface T (JJ (I ⟨g0,0,O⟩))] Z (Fin T' w)):=HD.out.many Z Ab.out AN
   have ie:¬((M:Int)=1):=by omega
   clear HD Ab
   go_wp2_with fail
   refine HL.out.mono ?_
   rintro e w9 ⟨u,rfl,hu,ez⟩
   have HU:=zh hu
   have pC:=zh ez
   clear hu ez HL
   go_wp2
   go_ret2
   exact⟨u,rfl,HU.out,pC.out⟩
 . obtain⟨Tu,gu,zc,jN⟩:=HD.out.alone Z Ab.out AN
   subst AN
   by_cases EA:wc=1
   . rw[if_pos EA] at jN
     have Fo:wn=1:=by omega
     subst Fo EA
     have vA:=zh (jN 1)
     clear HD Ab jN
     go_wp2_with fail
     go_region_with (go_at_call 42;refine vA.out.mono ?_;rintro e Z' ⟨T3,g3,rfl,hL⟩;have HL:Hid (Calls prog 15 #[.iface T3 (JJ (I ⟨g3,0,O⟩))] Z' (Fin T' w)):=hL;clear hL)
     all_goals (
      go_wp2_with fail
      refine HL.out.mono ?_
      rintro e w9 ⟨u,rfl,hu,ez⟩
      have HU:=zh hu
      have pC:=zh ez
      clear hu ez HL
      go_wp2
      go_ret2
      exact⟨u,rfl,HU.out,pC.out⟩)
   . rw[if_neg EA] at jN
     have vA:=zh (jN 1)
     have ye:(1:Int)<=(wn:Int):=by omega
     clear HD Ab jN
     go_wp2_with fail
     go_region_with (go_at_call 42;refine vA.out.mono ?_;rintro e Z' ⟨T3,g3,rfl,hL⟩;have HL:Hid (Calls prog 15 #[.iface T3 (JJ (I ⟨g3,0,O⟩))] Z' (Fin T' w)):=hL;clear hL)
     all_goals (
      go_wp2_with fail
      refine HL.out.mono ?_
      rintro e w9 ⟨u,rfl,hu,ez⟩
      have HU:=zh hu
      have pC:=zh ez
      clear hu ez HL
      go_wp2
      go_ret2
      exact⟨u,rfl,HU.out,pC.out⟩)
 . have HL:Hid (Calls prog 15 #[.iface T (JJ (I ⟨g0,0,O⟩))] Z (Fin T' w)):=HD.out.many Z Ab.out AN
   have ie:¬((M:Int)=1):=by omega
   clear HD Ab
   go_wp2_with fail
   refine HL.out.mono ?_
   rintro e w9 ⟨u,rfl,hu,ez⟩
   have HU:=zh hu
   have pC:=zh ez
   clear hu ez HL
   go_wp2
   go_ret2
   exact⟨u,rfl,HU.out,pC.out⟩
theorem Ic {w w1 w2:World}{T':List aj}{r:Value}{gl wg wn wc g a:Nat}{b:Box}{k:Int}{ts:List Tree}{bl:Box}{q:Int}{x u:Tree}{us:List Tree}{fj:List Nat}(r7:(Tree.split b k ts).At w1 0 (dA g) fj)(td:fj.Nodup)(hra:Reach w1 (dA g) [a] (aZ gl) [(g,a)])(hG:Gone k ts a bl q x u us)(ar:(Tree.split b k ts).sound=true)(io:(Tree.split b k ts).kinds)(hz:(Tree.split b k ts).size<=100)(al:Below w1.heap.size w1 w2)(hlen:1<=wn/\wn<=1000/\wn<=wc/\wc<=9223372036854775807)(Hd:w2.cell? ⟨wg,0,O⟩=I (JJ (I ⟨g,0,O⟩))/\w2.cell? ⟨wg,1,O⟩=I (J Jq a))
 (xF:2<=us.length->∀X Z f'',Below w2.heap.size w2 X->But fj X Z->(Tree.split b k us).At Z 0 (dA g) f''->f''.Nodup->(∀y∈f'',y∈fj)->Calls prog 15 #[r] Z (Fin T' w))
 (Pr:us=[u]->∀X Z Tu gu fu,Below w2.heap.size w2 X->But fj X Z->u.At Z 0 (.iface Tu (JJ (I ⟨gu,0,O⟩))) fu->fu.Nodup->(∀y∈fu,y∈fj)->∀m,Calls prog 42 #[r,Jj (I (if wc=1 then ⟨wg,0,O⟩ else ⟨wg,2,O⟩)) (wn-1) (wc-1),.iface Tu (JJ (I ⟨gu,0,O⟩))] (Z.drewN m) fun e Z'=>∃T3 g3,e=Jz (.iface T3 (JJ (I ⟨g3,0,O⟩)))/\Calls prog 15 #[.iface T3 (JJ (I ⟨g3,0,O⟩))] Z' (Fin T' w)):
 ∃pg M cap Tc gi Fx E P1 P2,J3 w T' w2 r gl wg wn wc g a k pg M cap Tc gi Fx E P1 P2:=by
 obtain⟨g',st',pg,cap,vs,f1,f2,R,e0,_,hI⟩:=Qh (qs:=[]) r7 td hra rfl hG.leaf
 cases e0
 have hO:=wK ar io hG
 have lA:=hI.below r7 al
 have AM:=r7.below al
 obtain⟨M,hM⟩:∃M,ts.length=M+1:=by
  have:=hO.len
  exact⟨us.length,this.symm⟩
 have hMu:us.length=M:=by have:=hO.len;omega
 have h2:2<=ts.length:=by
  have:=ar
  unfold Tree.sound at this
  simp only[Bool.and_eq_true,decide_eq_true_eq] at this
  exact this.1.1
 have gd:=aI ts
 have Kb:1+sizes ts<=100:=hz
 have zb:a < ts.length:=(List.getElem?_eq_some_iff.1 hG.leaf).1
 have aL:∀y,y∈g::pg::(f1++f2)->y∈fj:=fun y hy=>hI.perm.mem_iff.2 (by
  rcases List.mem_cons.1 hy with h | h
  . simp[h]
  . rcases List.mem_cons.1 h with h | h
    . simp[h]
    . rcases List.mem_append.1 h with h | h <;> simp[h])
 have Ur:(g::pg::gl::(f1++f2)).Nodup:=by
  have h:=hI.nd
  rw[<- List.append_assoc] at h
  have av:List.Sublist (g::pg::gl::(f1++f2)) (g::pg::gl::(f1++f2++R)):=by
   refine List.Sublist.cons_cons _ (List.Sublist.cons_cons _ (List.Sublist.cons_cons _ ?_))
   exact List.sublist_append_left _ _
  exact av.nodup h
 have Cs:(g::pg::(f1++f2)).Nodup:=by
  have av:List.Sublist (g::pg::(f1++f2)) (g::pg::gl::(f1++f2)):=List.Sublist.cons_cons _ (List.Sublist.cons_cons _ (List.sublist_cons_self _ _))
  exact av.nodup Ur
 obtain⟨cur,B5,c1,c2,c3,c4,c5⟩:=kM lA.row
 obtain⟨aa,haa⟩:=hI.enc
 have iv:=rest_of ar io hG.leaf
 have Mp:(Tree.leaf bl q).sound=true:=by
  have:=ar
  unfold Tree.sound at this
  simp only[Bool.and_eq_true] at this
  have:=aO ts b k a _ hG.leaf this.2.1
  simp only[Bool.and_eq_true] at this
  exact this.1
 have pe:=df bl k ((Tree.leaf bl q).aF Mp)
 have Us:aB w2 0 (ts.eraseIdx a) (vs.eraseIdx a) (f1++f2):=by
  rw[List.eraseIdx_eq_take_drop_succ,List.eraseIdx_eq_take_drop_succ]
  exact lA.ahead.append lA.behind
 obtain⟨vc,fc,d1,d2,d3,d4,_⟩:=Us.one (List.nodup_cons.1 (List.nodup_cons.1 Cs).2).2 (a-1) x hG.near
 obtain⟨Tc,gi,Fx,hX⟩:=x.stretches 0 vc fc w2 d2 d3
 have hv:=hX.val
 subst hv
 have zE:∀X Y,FB X b k (ts.eraseIdx a) bl q g gl pg M cap (vs.eraseIdx a) f1 f2 Y->∀m,Calls prog Fx #[JJ (I ⟨gi,0,O⟩),J Jq k,J Jq (bl.ext k+1)] (Y.drewN m) fun e Z=>e=Jz (.tuple #[])/\FB X b k us bl q g gl pg M cap (vs.eraseIdx a) f1 f2 Z:=by
  intro X Y hY m
  obtain⟨T2,g2,F2,e1,e2,e3,e4,e5⟩:=FC hY Ur hG.near hG.str
  rw[d1] at e1
  cases e1
  have hF:Fx=F2:=by
   have h6:=(hX.mX w).symm.trans (e2 w)
   injection h6 with h6 _
   injection h6
  subst hF
  have:=e5 (Y.drewN m) (below_drewN (Below.refl _ _) m)
  rw[<- hG.list] at this
  exact this
 refine⟨pg,M,cap,Tc,gi,Fx,bl.ext k,fun Y=>∃X,Below w2.heap.size w2 X/\FB X b k (ts.eraseIdx a) bl q g gl pg M cap (vs.eraseIdx a) f1 f2 Y,fun Z=>∃X,Below w2.heap.size w2 X/\FB X b k us bl q g gl pg M cap (vs.eraseIdx a) f1 f2 Z,hlen,Hd,?_,⟨by omega,by omega,by omega,by omega,c2⟩,?_,?_,?_,pe,hX.mX,hX.nX,hX.fX,?_,?_,?_,?_⟩
 . rw[<- hM]
   exact ae lA.own 5
 . intro X sM
   have Z5:=lA.below AM sM
   have br:=Z5.row
   rw[hM] at br
   have hd:=H9 pg (M+1) cap a vs aa X haa br (by omega)
   rw[show ((a+1:Nat):Int)=(a:Int)+1 by omega] at hd
   refine hd.mono fun e Y h=> ?_
   obtain⟨he,ho,nh⟩:=h
   rw[Nat.add_sub_cancel] at he ho
   obtain⟨o1,o2,o3⟩:=LD Z5 (AM.below sM) (by rw[hM,Nat.add_sub_cancel];exact ho) nh
   rw[hM,Nat.add_sub_cancel] at o3
   rw[hM] at o1
   exact⟨he,o1,o2,X,sM,o3⟩
 . rintro Y ⟨X,sM,hY⟩
   refine⟨ae hY.own 4,ae hY.own 5,jU hY.row _ _ d1⟩
 . rintro Y m ⟨X,sM,hY⟩
   exact dC gl bl k (Y.drewN m) (hY.lf.below (below_drewN (Below.refl _ _) m)).box
 . rintro Y m ⟨X,sM,hY⟩
   exact (zE X Y hY m).mono fun e Z h=>⟨h.1,X,sM,h.2⟩
 . rintro Z ⟨X,sM,hZ⟩
   exact ae hZ.own 5
 . rintro Z ⟨X,sM,hZ⟩ AN
   refine xF (by omega) X Z (g::((Value.slice (I ⟨pg,0,O⟩) M cap).ownBlock.toList++(f1++f2))) sM (hZ.but.mono aL) ⟨g,_,_,_,rfl,hZ.own,?_,hZ.parts,rfl⟩ (by simpa [Value.ownBlock] using Cs) (fun y hy=>aL y (by simpa [Value.ownBlock] using hy))
   have:=hZ.parts.length
   rw[this,hMu]
   exact hZ.row
 . rintro Z ⟨X,sM,hZ⟩ AN
   have C7:us=[u]:=by
    have bE:=hO.in_
    have ye:us.length=1:=by omega
    match us,ye,bE with
    | [c],_,bE=>
      have:u=c:=by simpa using bE
      rw[this]
   have Z6:=hZ.parts
   rw[C7] at Z6
   obtain⟨vu,vs',fu,fr,e1,e2,⟨e3,e4⟩,e5⟩:=Z6
   subst e3 e4
   rw[List.append_nil] at e5
   obtain⟨gu,hvu,_⟩:=e2.own
   have XW:∃Tu,vu=.iface Tu (JJ (I ⟨gu,0,O⟩)):=by
    rcases hvu with h | h
    . exact⟨_,h⟩
    . exact⟨_,h⟩
   obtain⟨Tu,rfl⟩:=XW
   refine⟨Tu,gu,jU hZ.row 0 _ (by rw[e1];rfl),Pr C7 X Z Tu gu fu sM (hZ.but.mono aL) e2 ?_ (fun y hy=>aL y ?_)⟩
   . rw[<- e5]
     exact (List.nodup_cons.1 (List.nodup_cons.1 Cs).2).2
   . rw[<- e5] at hy
     exact List.mem_cons_of_mem _ (List.mem_cons_of_mem _ hy)
theorem jA:∀(qs:List Nat) (t s:Tree),t.cO qs=I s->t.sound=true->t.kinds->s.sound=true/\s.kinds/\s.size<=t.size
 | [],t,s,h,hs,hk=>by
   have:t=s:=by simpa [Tree.cO] using h
   subst this
   exact⟨hs,hk,Nat.le_refl _⟩
 | i::qs,.leaf b p,s,h,hs,hk=>by simp[Tree.cO] at h
 | i::qs,.split b k ts,s,h,hs,hk=>by
   cases hi:ts[i]? with
   | none=>simp[Tree.cO,hi] at h
   | some u=>
     have h':u.cO qs=I s:=by simpa [Tree.cO,hi] using h
     unfold Tree.sound at hs
     simp only[Bool.and_eq_true,decide_eq_true_eq] at hs
     have ar:=aO ts b k i u hi hs.2.1
     simp only[Bool.and_eq_true] at ar
     have ih:=jA qs u s h' ar.1 (bF ts i u hi hk.2)
     have hz:=bI ts i u hi
     refine⟨ih.1,ih.2.1,?_⟩
     show s.size<=1+sizes ts
     have:=ih.2.2
     omega
theorem nU:∀(rs:List Nat) (t:Tree) (b:Box) (k:Int) (ts:List Tree) (j:Nat) (s:Tree),t.cO rs=I (.split b k ts)->ts[j]?=I s->t.cO (rs++[j])=I s
 | [],t,b,k,ts,j,s,h,hj=>by
   have:t=.split b k ts:=by simpa [Tree.cO] using h
   subst this
   simp[Tree.cO,hj]
 | i::rs,.leaf b' p,b,k,ts,j,s,h,hj=>by simp[Tree.cO] at h
 | i::rs,.split b' k' ts',b,k,ts,j,s,h,hj=>by
   cases hi:ts'[i]? with
   | none=>simp[Tree.cO,hi] at h
   | some u=>
     have h':u.cO rs=I (.split b k ts):=by simpa [Tree.cO,hi] using h
     have:=nU rs u b k ts j s h' hj
     show (Tree.split b' k' ts').cO (i::(rs++[j]))=I s
     simp only[Tree.cO,hi]
     exact this
theorem step_cells {w:World}{B:Nat}{v:Value}{st:List (Nat × Nat)}(h:Steps w B v st)(a7:st≠[]):∃wg wc,v=Jj (I ⟨wg,0,O⟩) st.length wc/\B<=wg/\wg < w.heap.size/\st.length<=wc/\wc<=9223372036854775807/\∀i s,st[i]?=I s->w.cell? ⟨wg,i*2,O⟩=I (JJ (I ⟨s.1,0,O⟩))/\w.cell? ⟨wg,i*2+1,O⟩=I (J Jq s.2):=by
 have hl:∀(st:List (Nat × Nat)) (i:Nat) (s:Nat × Nat),st[i]?=I s->(xO st)[i*2]?=I (JJ (I ⟨s.1,0,O⟩))/\(xO st)[i*2+1]?=I (J Jq s.2):=by
  intro st
  induction st with
  | nil=>intro i s hi;simp at hi
  | cons a st ih=>
    intro i s hi
    cases i with
    | zero=>
      simp at hi
      subst hi
      exact⟨rfl,rfl⟩
    | succ i=>
      have:=ih i s (by simpa using hi)
      rw[show (i+1)*2=i*2+2 by omega,show i*2+2+1=i*2+1+2 by omega]
      exact this
 have h':w.ownsRow B 88 2 v st.length (xO st):=h
 rcases h'.2 with ⟨_,h0⟩ | ⟨wg,cap,cur,rfl,hb,hg,r1,r2,r3,r4⟩
 . exact absurd (List.length_eq_zero_iff.1 h0) a7
 . refine⟨wg,cap,rfl,hb,lt_of_block hg,r1,r2,fun i s hi=> ?_⟩
   have am:=(List.getElem?_eq_some_iff.1 hi).1
   obtain⟨e1,e2⟩:=hl st i s hi
   have x1:=World.ownsRow.cellAt h' (i*2) (by omega)
   have x2:=World.ownsRow.cellAt h' (i*2+1) (by omega)
   rw[x1,x2]
   exact⟨e1,e2⟩
theorem xP {t:Tree}{v:Value}{fp:List Nat}{w Z:World}(hZ:Below w.heap.size w Z)(be:∀q∈fp,w.heap.size<=q)(aE:fp.Nodup)(hA:t.At Z 0 v fp)(hs:t.sound=true)(hk:t.kinds)(hz:t.size<=200):Calls prog 15 #[v] Z (Fin (cZ t) w):=wW hZ (But.refl _ _) be aE hA hs hk hz
theorem Nj (v:Value)(l:List aj)(q:Int)(w:World)(h:ay w v l){t t':Tree}(hF:aT l=I t){ps:List Nat}(hp:t.path q=I ps)(hCT:qx q t ps t')(Wo:t'.sound=true)(Wq:t'.kinds)(cJ:t'.size<=200):Calls prog 20 #[v,J Jq q] w (dZ 0 (cZ t') w):=by
 have hl:=aV hF
 have hz:=lay_size hl
 have vR:=rX t q ps hp
 refine JY v l q w h hF (cZ t') (fun T g0 fp w1 hA aE be hb=> ?_)
 obtain⟨Fw,m1,m2,hc⟩:=nV hA hl.sound (by omega) q
 refine⟨Fw,m1,m2,(hc w1 (Below.refl _ _)).mono fun e w2 hw=> ?_⟩
 obtain⟨al,⟨h1,_⟩ | ⟨ps',gl,st,sa,sn,sc,h1,hr,he,cg⟩⟩:=hw
 . rw[hp] at h1
   cases h1
 rw[hp] at h1
 cases h1
 have av:=hr.len
 have nF:Below w.heap.size w w2:=af hb al
 have key:∀(qs:List Nat) (a:Nat) (b:Box) (k:Int) (ts:List Tree) (bl:Box) (x u:Tree) (us:List Tree) (g:Nat) (st':List (Nat × Nat)) (fj:List Nat),ps=qs++[a]->st=(g,a)::st'->(Tree.split b k ts).At w1 0 (dA g) fj->fj.Nodup->Reach w1 (dA g) [a] (aZ gl) [(g,a)]->t.cO qs=I (.split b k ts)->Gone k ts a bl q x u us->
  (∀wg wc,(Jj sa sn sc:Value)=Jj (I ⟨wg,0,O⟩) st.length wc->w1.heap.size<=wg->wg < w2.heap.size->st.length<=wc->wc<=9223372036854775807->(∀i s,st[i]?=I s->w2.cell? ⟨wg,i*2,O⟩=I (JJ (I ⟨s.1,0,O⟩))/\w2.cell? ⟨wg,i*2+1,O⟩=I (J Jq s.2))->
    (2<=us.length->∀X Z f'',Below w2.heap.size w2 X->But fj X Z->(Tree.split b k us).At Z 0 (dA g) f''->f''.Nodup->(∀y∈f'',y∈fj)->Calls prog 15 #[.iface T (JJ (I ⟨g0,0,O⟩))] Z (Fin (cZ t') w))/\
    (us=[u]->∀X Z Tu gu fu,Below w2.heap.size w2 X->But fj X Z->u.At Z 0 (.iface Tu (JJ (I ⟨gu,0,O⟩))) fu->fu.Nodup->(∀y∈fu,y∈fj)->∀m,Calls prog 42 #[.iface T (JJ (I ⟨g0,0,O⟩)),Jj (I (if wc=1 then ⟨wg,0,O⟩ else ⟨wg,2,O⟩)) (st.length-1) (wc-1),.iface Tu (JJ (I ⟨gu,0,O⟩))] (Z.drewN m) fun e Z'=>∃T3 g3,e=Jz (.iface T3 (JJ (I ⟨g3,0,O⟩)))/\Calls prog 15 #[.iface T3 (JJ (I ⟨g3,0,O⟩))] Z' (Fin (cZ t') w)))->
  ∃gl wg wn wc g a k pg L cap Tc gi Fx E P1 P2,e=Jz (.tuple #[Jj (I ⟨wg,0,O⟩) wn wc,JJ (I ⟨gl,0,O⟩)])/\J3 w (cZ t') w2 (.iface T (JJ (I ⟨g0,0,O⟩))) gl wg wn wc g a k pg L cap Tc gi Fx E P1 P2:=by
  intro qs a b k ts bl x u us g st' fj e1 e2 r7 td hra aL hG iv
  obtain⟨wg,wc,e3,s1,s2,s3,s4,s5⟩:=step_cells cg (by rw[e2];simp)
  obtain⟨r1,r2⟩:=iv wg wc e3 s1 s2 s3 s4 s5
  obtain⟨n1,n2,n3⟩:=jA qs t _ aL hl.sound hl.kinds
  have Hd:=s5 0 (g,a) (by rw[e2];rfl)
  have A5:1<=st.length:=by rw[e2];simp
  obtain⟨pg,M,cap,Tc,gi,Fx,E,P1,P2,hD⟩:=Ic (w:=w) (T':=cZ t') (r:=.iface T (JJ (I ⟨g0,0,O⟩))) r7 td hra hG n1 n2 (by omega) al (wn:=st.length) (wc:=wc) ⟨A5,by omega,s3,s4⟩ Hd r1 r2
  exact⟨gl,wg,st.length,wc,g,a,k,pg,M,cap,Tc,gi,Fx,E,P1,P2,by rw[he,e3],hD⟩
 cases hCT with
 | many qs a b k ts bl x u us x1 x2 x3=>
   obtain⟨g,st',y1,y2,y3⟩:=Reach.split qs a hr
   obtain⟨s,fj,R,hS⟩:=Tree.At.reach qs hA y1
   have hs:s=.split b k ts:=by
    have:=hS.sub
    rw[x1] at this
    exact (Option.some.inj this).symm
   subst hs
   obtain⟨n1,n2,n3,n4,n5⟩:=hS.nd aE
   refine key qs a b k ts bl x u us g st' fj rfl y2 hS.here n1 y3 x1 x2 (fun wg wc _ _ _ _ _ _=>⟨fun _ X Z f'' hX nh bq td Ex=> ?_,fun e=>by rw[e] at x3;simp at x3⟩)
   have so:Below w1.heap.size w1 X:=af al hX
   obtain⟨fp',SZ,j8⟩:=hS.put Z _ f'' bq (fun y hy=>by
    have am:=hA.lt y (n5 y hy)
    rw[nh.block y (Nat.lt_of_lt_of_le am so.size) (fun Kg=>n3 y Kg hy)]
    exact so.block y am)
   have bE:∀y∈fp',y∈fp:=fun y hy=>by
    rcases List.mem_append.1 (j8.mem_iff.1 hy) with h | h
    . exact n4 y (Ex y h)
    . exact n5 y h
   refine xP (gX (af hb so) nh (fun y hy=>be y (n4 y hy))) (fun y hy=>be y (bE y hy)) ?_ SZ Wo Wq cJ
   exact j8.nodup_iff.2 (List.nodup_append.2 ⟨td,n2,fun a1 h1 b1 h2 e=>n3 a1 (Ex a1 h1) (e ▸ h2)⟩)
 | root a b k ts bl x _ x1 x2=>
   subst x1
   obtain⟨g,st',y1,y2,y3⟩:=Reach.split [] a hr
   obtain⟨y4,y5⟩:=y1
   rw[<- y4] at hA
   refine key [] a b k ts bl x t' [t'] g st' fp rfl y2 hA aE y3 rfl x2 (fun wg wc _ _ _ _ _ _=>⟨fun h2=>by simp at h2,fun _ X Z Tu gu fu hX nh bq td Ex m=> ?_⟩)
   have hlen:st.length-1=0:=by rw[y2,y5];rfl
   rw[hlen]
   refine (oW _ _ _ _ _).mono ?_
   rintro e Z' ⟨rfl,rfl⟩
   have cK:Below w.heap.size w X:=af nF hX
   have eK:Below w.heap.size w Z:=gX cK nh be
   exact⟨Tu,gu,rfl,xP (below_drewN eK m) (fun y hy=>be y (Ex y hy)) td (bq.below (below_drewN (Below.refl _ _) m)) Wo Wq cJ⟩
 | up rs j a b2 k2 ts2 b k ts bl x u x1 x2 x3=>
   obtain⟨g,st',y1,y2,y3⟩:=Reach.split (rs++[j]) a hr
   obtain⟨g2,st2,y4,y5,y6⟩:=Reach.split rs j y1
   obtain⟨s,f',R,hS⟩:=Tree.At.reach rs hA y4
   have hs:s=.split b2 k2 ts2:=by
    have:=hS.sub
    rw[x1] at this
    exact (Option.some.inj this).symm
   subst hs
   obtain⟨n1,n2,n3,n4,n5⟩:=hS.nd aE
   obtain⟨s1,s2,s3⟩:=jA rs t _ x1 hl.sound hl.kinds
   obtain⟨g',sl,vs,fs,e0,k2',k3,k4,hf⟩:=hS.here
   cases e0
   obtain⟨g'',pg,n,cap,vi,st'',e1,e2,e3,e4,e5,_⟩:=y6
   cases e1
   obtain⟨rfl,_⟩:=e5
   have Wr:sl=Jj (I ⟨pg,0,O⟩) n cap:=by
    have:=ae k2' 5
    rw[e2] at this
    exact (Option.some.inj this).symm
   subst Wr
   obtain⟨Hh,S0⟩:=EI k3
   obtain⟨v1,fj,f1,f2,z1,z2,z3,z4,z5,z6⟩:=k4.mid j _ x2
   have S5:v1=dA g:=by
    have:=S0 j _ e3 e4
    rw[z1] at this
    exact Option.some.inj this
   subst S5
   have M5:f'=g2::pg::(f1++(fj++f2)):=by
    rw[hf,z5]
    simp[Value.ownBlock]
   have jz:(g2::pg::(f1++(fj++(f2++R)))).Nodup:=by
    have h8:=hS.perm.nodup_iff.1 aE
    rw[M5] at h8
    simpa [List.append_assoc] using h8
   obtain⟨a1,a2⟩:=List.nodup_cons.1 jz
   obtain⟨a3,a4⟩:=List.nodup_cons.1 a2
   obtain⟨b1,b2',b3⟩:=List.nodup_append.1 a4
   obtain⟨b4,b5,b6⟩:=List.nodup_append.1 b2'
   have Ws:∀y∈fj,y∈f':=fun y hy=>by rw[M5];simp[hy]
   refine key (rs++[j]) a b k ts bl x u [u] g st' fj rfl y2 z2 b4 y3 (nU rs t b2 k2 ts2 j _ x1 x2) x3 (fun wg wc q1 q2 q3 q4 q5 q6=>⟨fun h2=>by simp at h2,fun _ X Z Tu gu fu hX nh bq td Ex m=> ?_⟩)
   have qT:2<=st.length:=by rw[y2,y5];simp
   have EA:¬wc=1:=by omega
   rw[if_neg EA]
   have so:Below w1.heap.size w1 X:=af al hX
   have eK:Below w.heap.size w Z:=gX (af hb so) nh (fun y hy=>be y (n4 y (Ws y hy)))
   have eA:∀y,y∈fp->y ∉ fj->Z.heap[y]?=w1.heap[y]?:=fun y hy hn=>by
    have am:=hA.lt y hy
    rw[nh.block y (Nat.lt_of_lt_of_le am so.size) hn]
    exact so.block y am
   have ir:∀y,y∈g2::pg::(f1++(f2++R))->y∈fp/\y ∉ fj:=fun y hy=>by
    have bE:y∈fp:=hS.perm.mem_iff.2 (by
     rw[M5]
     rcases List.mem_cons.1 hy with h | h
     . simp[h]
     . rcases List.mem_cons.1 h with h | h
       . simp[h]
       . rcases List.mem_append.1 h with h | h
         . simp[h]
         . rcases List.mem_append.1 h with h | h <;> simp[h])
    refine⟨bE,fun Kg=> ?_⟩
    rcases List.mem_cons.1 hy with h | h
    . exact a1 (by rw[<- h];simp[Kg])
    . rcases List.mem_cons.1 h with h | h
      . exact a3 (by rw[<- h];simp[Kg])
      . rcases List.mem_append.1 h with h | h
        . exact b3 y h y (by simp[Kg]) rfl
        . exact b6 y Kg y h rfl
   have Cl:∀y,y∈g2::pg::(f1++(f2++R))->(Z.drewN m).heap[y]?=w1.heap[y]?:=fun y hy=>eA y (ir y hy).1 (ir y hy).2
   have Cn:∀o,(Z.drewN m).cell? ⟨wg,o,O⟩=w2.cell? ⟨wg,o,O⟩:=fun o=>by
    have h7:Z.heap[wg]?=w2.heap[wg]?:=by
     rw[nh.block wg (Nat.lt_of_lt_of_le q3 hX.size) (fun e=>by have:=hA.lt wg (n4 wg (Ws wg e));omega)]
     exact hX.block wg q3
    exact World.cell?_of_block (w':=Z.drewN m) (w:=w2) (a:=⟨wg,o,O⟩) h7
   have Hd:=q6 1 (g2,j) (by rw[y2,y5];rfl)
   have Co:=aI ts2
   have U6:1+sizes ts2<=63:=by
    have:(Tree.split b2 k2 ts2).size<=t.size:=s3
    change 1+sizes ts2<=t.size at this
    omega
   have dk:=k4.length
   have hgo:=wK (jA (rs++[j]) t _ (nU rs t b2 k2 ts2 j _ x1 x2) hl.sound hl.kinds).1 (jA (rs++[j]) t _ (nU rs t b2 k2 ts2 j _ x1 x2) hl.sound hl.kinds).2.1 x3
   obtain⟨o1,o2,o3,o4⟩:=FN (jA (rs++[j]) t _ (nU rs t b2 k2 ts2 j _ x1 x2) hl.sound hl.kinds).2.1.1 hgo
   have Ao:=(jA (rs++[j]) t _ (nU rs t b2 k2 ts2 j _ x1 x2) hl.sound hl.kinds).2.2
   change 1+sizes ts<=t.size at Ao
   have pr:=ry t (.iface T (JJ (I ⟨g0,0,O⟩))) fp rs b2 k2 ts2 g2 pg n cap j vs f1 f2 R u (.iface Tu (JJ (I ⟨gu,0,O⟩))) fu wg 2 (st.length-1) (wc-1) (Z.drewN m)
    (by rw[Cn];exact Hd.1) (by rw[Cn];exact Hd.2) (by omega)
    ((Cl g2 (by simp)).trans k2') (dU (by rw[Hh] at k3;exact k3) fun y hy=>Cl y (by
      have:y=pg:=by simpa [Value.ownBlock] using hy
      simp[this])) e3 (by omega)
    (z3.keep fun y hy=>Cl y (by simp[hy])) (z4.keep fun y hy=>Cl y (by simp[hy])) k4.one_cell
    (fun W' s' f'' ej rS=>hS.put W' s' f'' ej fun y hy=>(rS y hy).trans (Cl y (by simp[hy])))
    (fun y hy=>Nat.lt_of_lt_of_le (hA.lt y (n5 y hy)) (Nat.le_trans so.size nh.size))
    (bq.below (below_drewN (Below.refl _ _) m)) o1 (jH u o2 (by omega)) (by omega)
    (by
      refine List.nodup_cons.2 ⟨fun h=>a1 ?_,List.nodup_cons.2 ⟨fun h=>a3 ?_,List.nodup_append.2 ⟨b1,List.nodup_append.2 ⟨td,b5,fun c1 mx c2 my e=>b6 c1 (Ex c1 mx) c2 my e⟩,fun c1 mx c2 my e=>b3 c1 mx c2 ?_ e⟩⟩⟩
      . rcases List.mem_cons.1 h with h | h
        . simp[h]
        . rcases List.mem_append.1 h with h | h
          . simp[h]
          . rcases List.mem_append.1 h with h | h
            . simp[Ex _ h]
            . rcases List.mem_append.1 h with h | h <;> simp[h]
      . rcases List.mem_append.1 h with h | h
        . simp[h]
        . rcases List.mem_append.1 h with h | h
          . simp[Ex _ h]
          . rcases List.mem_append.1 h with h | h <;> simp[h]
      . rcases List.mem_append.1 my with h | h
        . simp[Ex _ h]
        . rcases List.mem_append.1 h with h | h <;> simp[h])
    (fun y hy=>by
      rcases hy with h | h | h | h | h
      . exact (ir y (by simp[h])).1
      . exact (ir y (by simp[h])).1
      . exact (ir y (by simp[h])).1
      . exact (ir y (by simp[h])).1
      . exact (ir y (by simp[h])).1)
   refine pr.mono ?_
   rintro e Z' ⟨rfl,fp',SZ,eV,M6,M7⟩
   have S6:Below w.heap.size w (Z.drewN m):=below_drewN eK m
   refine⟨T,g0,rfl,xP (gX S6 M7 be) (fun y hy=> ?_) eV SZ Wo Wq cJ⟩
   rcases M6 y hy with h | h | h
   . exact be y h
   . exact be y (n4 y (Ws y (Ex y h)))
   . exact Nat.le_trans S6.size h
theorem OL (v:Value)(l:List aj)(q:Int)(w:World)(h:ay w v l){t t':Tree}(hF:aT l=I t){ps:List Nat}(hp:t.path q=I ps)(hC:Jh q t ps t'):Calls prog 20 #[v,J Jq q] w (dZ 0 (cZ t') w):=Nj v l q w h hF hp hC.close hC.sound hC.kinds (by have:=hC.size;have:=lay_size (aV hF);omega)
end Go.Proofs.YtejlincnnonhaaaGreat
