import Derived.Test.YtejlincnnonhaaaGreatP9
namespace Go.Proofs.YtejlincnnonhaaaGreat
open Go.RowKit Go.Proofs.Tryz
open Value renaming int->J,slice->Jj,pointer->JJ
open IntKind renaming i64->Jq
open Option renaming none->O,some->I
open Ending renaming returned->Jz
open Obj renaming cells->JZ
set_option linter.unusedVariables false
set_option maxRecDepth 100000
set_option maxHeartbeats 16000000
open Go.RowKit Go.Lib
theorem wB:(prog.info? 70).map (·.size)=I 1:=by
 obtain⟨i0,AH,eh,db,cJ⟩:=bH kN
 rw[AH]
 simp[db]
theorem zK (w:World)(g:Nat)(cs:Array Value):But [g] w (w.setRow g cs):=⟨rfl,rfl,rfl,by simp[World.setRow],fun k hk hn=>setRow_other w g k cs (by simpa using hn)⟩
theorem But.Oh {S:List Nat}{w w':World}(h:But S w.drew w'):But S w w':=⟨h.os,h.tape,h.output,h.size,h.block⟩
theorem BG (pg L cap pg2 m c2 i:Nat)(vs us:List Value)(w:World)(h:w.ownsRow 0 70 1 (Jj (I ⟨pg,0,O⟩) L cap) L vs)(h2:w.ownsRow 0 70 1 (Jj (I ⟨pg2,0,O⟩) m c2) m us)(a7:pg≠pg2)(co:∀u∈us,u.oneCell'=true)(kg:∀u∈vs,u.oneCell'=true)(hm:2<=m)(bS:m<=1000)(hi:i+1 < L)(rL:L<=1000)(eL:L-1+m<=cap):
 Calls prog 74 #[Jj (I ⟨pg,0,O⟩) L cap,J Jq (i:Int),J Jq ((i:Int)+1),Jj (I ⟨pg2,0,O⟩) m c2] w (kL pg L m (vs.take i++(us++vs.drop (i+1))) w):=by
 obtain⟨cur,hg,a1,a2,a3,a4,a5⟩:=kM h
 obtain⟨cur2,eO,b1,b2,b3,b4,b5⟩:=kM h2
 obtain⟨k,hk⟩:∃k,L=i+1+k:=⟨L-(i+1),by omega⟩
 subst hk
 have zP:(vs.drop (i+1)).length=k:=by rw[List.length_drop,a5];omega
 obtain⟨tl,Co⟩:∃tl,vs.drop (i+1)=tl:=⟨_,rfl⟩
 rw[Co] at zP ⊢
 have zR:i+1+k-1+m=i+m+k:=by omega
 have hov:∀lb cb,(callFunc 92 #[Jj (I ⟨pg,i+m,O⟩) lb cb,Jj (I ⟨pg2,0,O⟩) m c2]).run prog w.drew=.ok (.value (.bool false)) w.drew:=fun lb cb=>by
  rw[run_callFunc_extern func92 (by kernel_rfl) (by kernel_rfl) (by kernel_rfl) (e:=Extern.SlicesOverlaps.overlaps #[85,85] #[4]) (by kernel_rfl),
   Lib.run_overlaps_apart w.drew 85 4 70 underlying85 1 sizeOf70 ⟨pg,i+m,O⟩ ⟨pg2,0,O⟩ lb cb m c2 a7 70 70 cur.size cur2.size (by show w.shape? pg=_;simp[World.shape?,hg]) (by show w.shape? pg2=_;simp[World.shape?,eO]) (by omega) (by show w.frozen? _=_;simp[World.frozen?,hg]) (by show w.frozen? _=_;simp[World.frozen?,hg])]
  rfl
 obtain⟨A1,hA1⟩:∃A1:Array Value,A1=(cur.toList.take (i+m)++tl++cur.toList.drop (i+m+tl.length)).toArray:=⟨_,rfl⟩
 have N5:A1.size=cap:=by rw[hA1];simp;omega
 have Lo:∀j v,tl[j]?=I v->w.drew.drew.cell? ((⟨pg,i+1,O⟩:Addr).add j)=I v:=fun j v hj=>by
  rw[Addr.add_lit]
  exact jU h (i+1+j) v (by rw[<- Co,List.getElem?_drop] at hj;exact hj)
 have sB:∀u∈tl,u.oneCell'=true:=fun u hu=>kg u (by rw[<- Co] at hu;exact List.mem_of_mem_drop hu)
 have TB:∀ty dc sc,(Builtin.copy_ #[85,85] ty #[Jj (I ⟨pg,i+m,O⟩) k dc,Jj (I ⟨pg,i+1,O⟩) k sc]).run prog w.drew.drew=.ok (goInt tl.length) (w.drew.drew.setRow pg A1):=fun ty dc sc=>by
  rw[hA1]
  exact run_copy_row prog w.drew.drew _ _ ty 70 pg (i+m) _ dc ⟨pg,i+1,O⟩ _ sc cur 70 tl underlying85 wB hg (by rw[zP];simp only[Nat.min_def];split <;> omega) Lo (by omega) sB
 obtain⟨W1,AK⟩:∃W1,W1=w.drew.drew.setRow pg A1:=⟨_,rfl⟩
 have gw:W1.heap[pg]?=I (.cells A1 70 (0,0)):=by rw[AK];exact setRow_heap w.drew.drew pg _ _ 70 _ hg
 have bj:But [pg] w W1:=by rw[AK];exact (zK w.drew.drew pg A1).Oh.Oh
 obtain⟨A2,AM⟩:∃A2:Array Value,A2=(A1.toList.take i++us++A1.toList.drop (i+us.length)).toArray:=⟨_,rfl⟩
 have WN:∀n,m<=n->∀ty dc,(Builtin.copy_ #[85,85] ty #[Jj (I ⟨pg,i,O⟩) n dc,Jj (I ⟨pg2,0,O⟩) m c2]).run prog W1=.ok (goInt us.length) (W1.setRow pg A2):=fun n hn ty dc=>by
  rw[AM]
  refine run_copy_row prog W1 _ _ ty 70 pg i _ dc ⟨pg2,0,O⟩ _ c2 A1 70 us underlying85 wB gw (by rw[b5];simp only[Nat.min_def];split <;> omega) (fun j v hj=> ?_) (by omega) co
  rw[Addr.add_lit,Nat.zero_add]
  have:=jU h2 j v hj
  rw[World.cell?_of_block (w':=W1) (w:=w) (a:=⟨pg2,j,O⟩) (bj.block pg2 (lt_of_block eO) (by simpa using Ne.symm a7))]
  exact this
 have HE:Hid (kL pg (i+1+k) m (vs.take i++(us++tl)) w (Jz (Jj (I ⟨pg,0,O⟩) (i+m+k) cap)) (W1.setRow pg A2)):=by
  refine⟨pg,cap,by rw[zR],?_,.inl rfl,bj.trans (zK W1 pg A2)⟩
  rw[zR]
  refine AV (setRow_heap W1 pg _ _ 70 _ gw) (by omega) a2 ?_ ?_
  . rw[AM]
    simp
    omega
  . rw[AM,hA1]
    have e1:cur.toList.take i=vs.take i:=by rw[<- a4,List.take_take,Nat.min_eq_left (by omega)]
    have sj:cur.toList.length=cap:=by simpa using a3
    have e2:(cur.toList.take (i+m)++tl++cur.toList.drop (i+m+tl.length)).take i=vs.take i:=by
     rw[List.append_assoc,List.take_append_of_le_length (by rw[List.length_take];omega),List.take_take,Nat.min_eq_left (by omega),e1]
    have e3:(cur.toList.take (i+m)++tl++cur.toList.drop (i+m+tl.length)).drop (i+us.length)=tl++cur.toList.drop (i+m+tl.length):=by
     rw[List.append_assoc,b5,List.drop_left' (by rw[List.length_take];omega)]
    simp only at*
    rw[e2,e3,List.append_assoc,<- List.append_assoc us,<- List.append_assoc (vs.take i),List.take_left' (by rw[List.length_append,List.length_append,List.length_take,a5,b5,zP];omega)]
 rw[<- AK] at TB
 have TC:cap<=9223372036854775807:=a2
 have cJ:¬((i:Int)+1=(i:Int)+1+(k:Int)):=by omega
 have kr:IntKind.i64.wrap ((i:Int)+(m:Int))=(i:Int)+(m:Int):=by rw[IntKind.wrap_i64];omega
 have WO:(0:Int)<=(i:Int)+(m:Int):=by omega
 have htn:((i:Int)+(m:Int)).toNat=i+m:=by omega
 have hb2':¬(cap=i+m):=by omega
 have cv:¬(cap=i):=by omega
 have tB:(0<=(i:Int)+1/\(i:Int)+1<=(cap:Int))=True:=eq_true (by omega)
 have hq2:(0<=(i:Int)+1/\(i:Int)+1<=((i+1+k:Nat):Int))=True:=eq_true (by omega)
 have U1:(cap=i+1)=False:=eq_false (by omega)
 have Da:((i:Int)+1).toNat=i+1:=by omega
 have Ni:(0<=(i:Int)+(m:Int)/\(i:Int)+(m:Int)<=(i:Int)+(m:Int)+(k:Int))=True:=eq_true (by omega)
 have hq6:(0<=(i:Int)+1/\(i:Int)+1<=(i:Int)+1+(k:Int))=True:=eq_true (by omega)
 have hq8:(i:Int)+(m:Int)<=(i:Int)+(m:Int)+(k:Int):=by omega
 have hq9:(i:Int)+1<=(i:Int)+1+(k:Int):=by omega
 have WP:(0:Int)<=(i:Int)+1:=by omega
 have hq7:(cap=i+m)=False:=eq_false (by omega)
 have mixed:prog.follows .mixedOrders=true:=by kernel_rfl
 clear h h2 hg eO a2 a3 a4 a5 b1 b2 b3 b4 b5 co kg hA1 N5 Lo sB gw bj AM AK Co zP
 go_enter func74,ntmps74
 go_wp2
 go_region
 go_wp2_with (simp only[hov])
 go_region_law_o (refine step_copy_runI rfl _ _ 85 85 rfl _ _ (by simp[Act.eval,Act.put]) (by simp[Act.eval,Act.put]) (TB _ _ _) ?_)
 have my:=WN (i+m+k-i) (by omega) 3 (cap-i)
 go_wp2
 all_goals go_ret
 all_goals exact HE.out
theorem BH (pg L cap pg2 m c2 i:Nat)(vs us:List Value)(w:World)(h:w.ownsRow 0 70 1 (Jj (I ⟨pg,0,O⟩) L cap) L vs)(h2:w.ownsRow 0 70 1 (Jj (I ⟨pg2,0,O⟩) m c2) m us)(co:∀u∈us,u.oneCell'=true)(kg:∀u∈vs,u.oneCell'=true)(hm:2<=m)(bS:m<=1000)(hi:i+1 < L)(rL:L<=1000)(eL:cap < L-1+m):
 Calls prog 74 #[Jj (I ⟨pg,0,O⟩) L cap,J Jq (i:Int),J Jq ((i:Int)+1),Jj (I ⟨pg2,0,O⟩) m c2] w (kL pg L m (vs.take i++(us++vs.drop (i+1))) w):=by
 obtain⟨cur,hg,a1,a2,a3,a4,a5⟩:=kM h
 obtain⟨cur2,eO,b1,b2,b3,b4,b5⟩:=kM h2
 obtain⟨k,hk⟩:∃k,L=i+1+k:=⟨L-(i+1),by omega⟩
 subst hk
 have zP:(vs.drop (i+1)).length=k:=by rw[List.length_drop,a5];omega
 obtain⟨tl,Co⟩:∃tl,vs.drop (i+1)=tl:=⟨_,rfl⟩
 rw[Co] at zP ⊢
 have zR:i+1+k-1+m=i+m+k:=by omega
 rw[zR] at eL
 obtain⟨i0,AH,eh,Ao,WQ⟩:=bH kN
 have am:=lt_of_block hg
 have ub:=lt_of_block eO
 obtain⟨X,hX⟩:∃X,X=w.drew:=⟨_,rfl⟩
 have RH:X.heap=w.heap:=by rw[hX];rfl
 have hXg:X.heap[pg]?=I (.cells cur 70 (0,0)):=by rw[RH];exact hg
 have Zg:∀j v,vs[j]?=I v->X.cell? ⟨pg,j,O⟩=I v:=fun j v hj=>by
  rw[World.cell?_of_block (w':=X) (w:=w) (a:=⟨pg,j,O⟩) (by rw[RH])]
  exact jU h j v hj
 have hold:(Builtin.firstCells i0.size i (Jj (I ⟨pg,0,O⟩) i cap)).run prog X.drew=.ok (vs.take i).toArray X.drew:=by
  rw[Ao]
  exact run_firstCells_some X.drew 1 i ⟨pg,0,O⟩ i cap (vs.take i) (by rw[List.length_take];omega) (fun j v hj=>by
   rw[Addr.add_lit,Nat.zero_add]
   rw[List.getElem?_take] at hj
   split at hj
   . exact Zg j v hj
   . cases hj)
 have Zh:i+(m+k)=i+m+k:=by omega
 obtain⟨G,hG⟩:∃G,G=grownCap X (i+m+k) cap 70:=⟨_,rfl⟩
 obtain⟨ROW,Is⟩:∃ROW:Array Value,ROW=(vs.take i).toArray++Builtin.zeroCells (Value.nilIface).cells (m+k)++Builtin.zeroCells (Value.nilIface).cells (G-(i+m+k)):=⟨_,rfl⟩
 have WR:∀ty,(Builtin.append_ #[85,3] ty #[Jj (I ⟨pg,0,O⟩) i cap,J Jq ((m+k:Nat):Int)]).run prog X=
  .ok (Jj (I ⟨w.heap.size,0,O⟩) (i+m+k) G) (X.drew.alloc (.cells ROW 70)):=fun ty=>by
  have h:=Lib.run_append_grow_zeros X 85 3 ty 70 i0 _ .i64 .i64 underlying85 underlying3 AH eh (I ⟨pg,0,O⟩) i cap (vs.take i) hold (m+k) (by omega) (by omega) (by omega) (by omega) (by rw[WQ];omega) (by rw[WQ,Zh];exact growslice_fits eL (by omega))
  rw[Zh,<- hG,<- Is,show X.heap.size=w.heap.size by rw[RH]] at h
  exact h
 have Zi:i+m+k<=G:=by rw[hG];exact grownCap_ge X _ _ _
 have N6:G<=maxLen:=by rw[hG];exact grownCap_le_maxLen X _ cap 70 (by unfold maxLen;omega)
 have Zj:ROW.size=G:=by
  rw[Is]
  simp[Builtin.zeroCells,Value.cells]
  omega
 have Zk:ROW.toList.take i=vs.take i:=by
  rw[Is]
  simp only[Array.toList_append,List.append_assoc]
  rw[List.take_left' (by simp;omega)]
 obtain⟨W1,AK⟩:∃W1,W1=X.drew.alloc (.cells ROW 70):=⟨_,rfl⟩
 have gw:W1.heap[w.heap.size]?=I (.cells ROW 70 (0,0)):=by
  rw[AK]
  have:=heap_alloc_new X.drew (.cells ROW 70)
  rw[show X.drew.heap.size=w.heap.size by show X.heap.size=_;rw[RH]] at this
  exact this
 have bj:Below w.heap.size w W1:=by
  have h0:Below w.heap.size w X:=by rw[hX];exact (Below.refl _ _).drew
  rw[AK]
  exact (h0.drew).alloc (by show _<=X.heap.size;rw[RH];exact Nat.le_refl _) _
 obtain⟨A1,hA1⟩:∃A1:Array Value,A1=(ROW.toList.take i++us++ROW.toList.drop (i+us.length)).toArray:=⟨_,rfl⟩
 have N5:A1.size=G:=by rw[hA1];simp;omega
 obtain⟨A2,AM⟩:∃A2:Array Value,A2=(A1.toList.take (i+m)++tl++A1.toList.drop (i+m+tl.length)).toArray:=⟨_,rfl⟩
 have WS:∀n,m<=n->∀(W:World),W.heap=W1.heap->∀ty dc,(Builtin.copy_ #[85,85] ty #[Jj (I ⟨w.heap.size,i,O⟩) n dc,Jj (I ⟨pg2,0,O⟩) m c2]).run prog W=.ok (goInt us.length) (W.setRow w.heap.size A1):=fun n hn W hW ty dc=>by
  rw[hA1]
  refine run_copy_row prog W _ _ ty 70 w.heap.size i _ dc ⟨pg2,0,O⟩ _ c2 ROW 70 us underlying85 wB (by rw[hW];exact gw) (by rw[b5];simp only[Nat.min_def];split <;> omega) (fun j v hj=> ?_) (by omega) co
  rw[Addr.add_lit,Nat.zero_add,World.cell?_of_block (w':=W) (w:=w) (a:=⟨pg2,j,O⟩) (by rw[hW];exact bj.block pg2 ub)]
  exact jU h2 j v hj
 have sB:∀u∈tl,u.oneCell'=true:=fun u hu=>kg u (by rw[<- Co] at hu;exact List.mem_of_mem_drop hu)
 have WT:∀(W:World),W.heap=(W1.setRow w.heap.size A1).heap->∀ty dc sc,(Builtin.copy_ #[85,85] ty #[Jj (I ⟨w.heap.size,i+m,O⟩) k dc,Jj (I ⟨pg,i+1,O⟩) k sc]).run prog W=.ok (goInt tl.length) (W.setRow w.heap.size A2):=fun W hW ty dc sc=>by
  rw[AM]
  refine run_copy_row prog W _ _ ty 70 w.heap.size (i+m) _ dc ⟨pg,i+1,O⟩ _ sc A1 70 tl underlying85 wB (by rw[hW];exact setRow_heap W1 w.heap.size _ _ 70 _ gw) (by rw[zP];simp only[Nat.min_def];split <;> omega) (fun j v hj=> ?_) (by omega) sB
  rw[Addr.add_lit,World.cell?_of_block (w':=W) (w:=w) (a:=⟨pg,i+1+j,O⟩) (by rw[hW,setRow_other W1 w.heap.size pg A1 (by omega)];exact bj.block pg am)]
  exact jU h (i+1+j) v (by rw[<- Co,List.getElem?_drop] at hj;exact hj)
 have HE:Hid (∀W:World,W.heap=((W1.setRow w.heap.size A1).setRow w.heap.size A2).heap->W.os=w.os->W.tape=w.tape->W.output=w.output->kL pg (i+1+k) m (vs.take i++(us++tl)) w (Jz (Jj (I ⟨w.heap.size,0,O⟩) (i+m+k) G)) W):=by
  intro W hW e1 e2 e3
  refine⟨w.heap.size,G,by rw[zR],?_,.inr (Nat.le_refl _),e1,e2,e3,?_,fun q hq _=> ?_⟩
  . rw[zR]
    have hf:W.heap[w.heap.size]?=I (.cells A2 70 (0,0)):=by
     rw[hW]
     exact setRow_heap _ w.heap.size _ _ 70 _ (setRow_heap W1 w.heap.size _ _ 70 _ gw)
    refine AV hf Zi N6 ?_ ?_
    . rw[AM]
      simp
      omega
    . rw[AM,hA1]
      have Ym:ROW.toList.length=G:=by simpa using Zj
      have e4:(ROW.toList.take i++us++ROW.toList.drop (i+us.length)).take (i+m)=vs.take i++us:=by
       rw[List.take_left' (by rw[List.length_append,List.length_take,b5];omega),Zk]
      simp only
      rw[e4,List.append_assoc (vs.take i),List.append_assoc (vs.take i),<- List.append_assoc (vs.take i),List.take_left' (by rw[List.length_append,List.length_append,List.length_take,a5,b5,zP];omega)]
  . rw[hW]
    simp only[World.setRow,Array.size_modify]
    exact bj.size
  . rw[hW,setRow_other _ w.heap.size q A2 (by omega),setRow_other _ w.heap.size q A1 (by omega)]
    exact bj.block q hq
 have TC:cap<=9223372036854775807:=a2
 have hG64:G<=9223372036854775807:=N6
 have cJ:¬((i:Int)+1=(i:Int)+1+(k:Int)):=by omega
 have U6:(cap:Int) < (i:Int)+(m:Int)+(k:Int):=by omega
 have kr:IntKind.i64.wrap ((i:Int)+(m:Int))=(i:Int)+(m:Int):=by rw[IntKind.wrap_i64];omega
 have rj:(i:Int)+(m:Int)+(k:Int)-(i:Int)=((m+k:Nat):Int):=by omega
 have WO:(0:Int)<=(i:Int)+(m:Int):=by omega
 have htn:((i:Int)+(m:Int)).toNat=i+m:=by omega
 have tB:(0<=(i:Int)+1/\(i:Int)+1<=(cap:Int))=True:=eq_true (by omega)
 have hq2:(0<=(i:Int)+1/\(i:Int)+1<=((i+1+k:Nat):Int))=True:=eq_true (by omega)
 have U1:(cap=i+1)=False:=eq_false (by omega)
 have Da:((i:Int)+1).toNat=i+1:=by omega
 have hq8:(i:Int)+(m:Int)<=(i:Int)+(m:Int)+(k:Int):=by omega
 have hq9:(i:Int)+1<=(i:Int)+1+(k:Int):=by omega
 have WP:(0:Int)<=(i:Int)+1:=by omega
 have hq7:(G=i+m)=False:=eq_false (by omega)
 have hq6:(G=i)=False:=eq_false (by omega)
 have hq11:(cap=i)=False:=eq_false (by omega)
 have mixed:prog.follows .mixedOrders=true:=by kernel_rfl
 rw[<- AK] at WR
 rw[hX] at WR
 have HW:Hid (W1.os=w.os/\W1.tape=w.tape/\W1.output=w.output):=⟨bj.os,bj.tape,bj.output⟩
 clear h h2 hg eO a2 a3 a4 a5 b1 b2 b3 b4 b5 co kg hA1 N5 sB gw bj AM AK Co zP hold hG Is Zi N6 Zj Zk AH eh Ao WQ RH hXg Zg hX am ub
 go_enter func74,ntmps74
 go_wp2
 go_region
 have mx:=WS (i+m+k-i) (by omega) W1 rfl 3 (G-i)
 go_wp2_with (at_builtin;refine Lib.wpList_append_run _ rfl _ _ _ _ rfl _ _ rfl rfl _ _ (WR _) ?_)
 have GF:=WT ((W1.setRow w.heap.size A1).drew) rfl 3 (G-(i+m)) (cap-(i+1))
 go_region
 go_wp2
 all_goals go_ret
 all_goals exact HE.out _ rfl HW.out.1 HW.out.2.1 HW.out.2.2
theorem uC {α:Type}{ts:List α}{i:Nat}{t:α}(hi:ts[i]?=I t):ts=ts.take i++(t::ts.drop (i+1)):=by
 have am:=(List.getElem?_eq_some_iff.1 hi).1
 have h1:ts.drop i=ts[i]::ts.drop (i+1):=List.drop_eq_getElem_cons am
 have h2:ts[i]=t:=(List.getElem?_eq_some_iff.1 hi).2
 rw[h2] at h1
 rw[<- h1,List.take_append_drop]
theorem aB.append {W:World}{B:Nat}:∀{ts:List Tree} {vs:List Value} {fp:List Nat} {us:List Tree} {ws:List Value} {gp:List Nat},aB W B ts vs fp->aB W B us ws gp->aB W B (ts++us) (vs++ws) (fp++gp)
 | [],vs,fp,us,ws,gp,h,h2=>by
   obtain⟨rfl,rfl⟩:=h
   exact h2
 | t::ts,vs,fp,us,ws,gp,h,h2=>by
   obtain⟨v,vs',f,f',rfl,h3,h4,rfl⟩:=h
   exact⟨v,vs'++ws,f,f'++gp,by simp,h3,aB.append h4 h2,by simp⟩
theorem aB.parted {W:World}{B:Nat}:∀{ts us:List Tree} {vs:List Value} {fp:List Nat},aB W B (ts++us) vs fp->∃v1 v2 f1 f2,vs=v1++v2/\fp=f1++f2/\aB W B ts v1 f1/\aB W B us v2 f2
 | [],us,vs,fp,h=>⟨[],vs,[],fp,rfl,rfl,⟨rfl,rfl⟩,h⟩
 | t::ts,us,vs,fp,h=>by
   obtain⟨v,vs',f,f',rfl,h2,h3,rfl⟩:=h
   obtain⟨v1,v2,f1,f2,rfl,rfl,h4,h5⟩:=aB.parted h3
   exact⟨v::v1,v2,f++f1,f2,rfl,by simp,⟨v,v1,f,f1,rfl,h2,h4,rfl⟩,h5⟩
theorem aB.mid {W:World}{B:Nat}{ts:List Tree}{vs:List Value}{fp:List Nat}(h:aB W B ts vs fp)(i:Nat)(t:Tree)(hi:ts[i]?=I t):
 ∃v f f1 f2,vs[i]?=I v/\t.At W B v f/\aB W B (ts.take i) (vs.take i) f1/\aB W B (ts.drop (i+1)) (vs.drop (i+1)) f2/\fp=f1++(f++f2)/\vs=vs.take i++(v::vs.drop (i+1)):=by
 have am:=(List.getElem?_eq_some_iff.1 hi).1
 have e:=uC hi
 rw[e] at h
 obtain⟨v1,v2,f1,f2,rfl,rfl,h1,h2⟩:=h.parted
 obtain⟨v,vs',f,f',rfl,h3,h4,rfl⟩:=h2
 have hl:v1.length=i:=by rw[h1.length,List.length_take];omega
 have ht:(v1++v::vs').take i=v1:=by rw[<- hl,List.take_left]
 have hd:(v1++v::vs').drop (i+1)=vs':=by
  rw[show v1++v::vs'=(v1++[v])++vs' by simp,show i+1=(v1++[v]).length by simp[hl],List.drop_left]
 refine⟨v,f,f1,f',?_,h3,?_,?_,rfl,?_⟩
 . rw[List.getElem?_append_right (by omega),hl,Nat.sub_self];rfl
 . rw[ht];exact h1
 . rw[hd];exact h4
 . rw[ht,hd]
theorem Reach.split {W:World}:∀(qs:List Nat) (i:Nat) {v v':Value} {st:List (Nat × Nat)},Reach W v (qs++[i]) v' st->∃g st',Reach W v qs (dA g) st'/\st=(g,i)::st'/\Reach W (dA g) [i] v' [(g,i)]
 | [],i,v,v',st,h=>by
   have h0:=h
   obtain⟨g,pg,n,cap,vi,st',rfl,h1,h2,h3,h4,rfl⟩:=h
   obtain⟨rfl,rfl⟩:=h4
   exact⟨g,[],⟨rfl,rfl⟩,rfl,h0⟩
 | j::qs,i,v,v',st,h=>by
   obtain⟨g,pg,n,cap,vi,st',rfl,h1,h2,h3,h4,rfl⟩:=h
   obtain⟨g1,st1,h5,rfl,h6⟩:=Reach.split qs i h4
   exact⟨g1,st1++[(g,j)],⟨g,pg,n,cap,vi,st1,rfl,h1,h2,h3,h5,rfl⟩,rfl,h6⟩
theorem EI {W:World}{B pg n cap:Nat}{vs:List Value}(h:W.ownsRow B 70 1 (Jj (I ⟨pg,0,O⟩) n cap) vs.length vs):vs.length=n/\∀(i:Nat) v,i < n->W.cell? ⟨pg,i,O⟩=I v->vs[i]?=I v:=by
 have Hh:vs.length=n:=by
  rcases h.2 with ⟨e,_⟩ | ⟨g0,cap0,cur,e,_⟩
  . cases e
  . injection e with _ e2 _
    exact e2.symm
 refine⟨Hh,fun i v hi hc=> ?_⟩
 have hr:=h
 rw[Hh] at hr
 have:=World.ownsRow.cellAt hr i (by omega)
 rw[hc] at this
 exact this.symm
structure O6 (W:World)(B:Nat)(t:Tree)(v:Value)(fp:List Nat)(qs:List Nat)(s:Tree)(v':Value)(f' R:List Nat):Prop where
 sub:t.cO qs=I s
 here:s.At W B v' f'
 perm:fp.Perm (f'++R)
 put:∀W' s' f'',s'.At W' B v' f''->(∀q∈R,W'.heap[q]?=W.heap[q]?)->∃fp',(t.putAt qs s').At W' B v fp'/\fp'.Perm (f''++R)
theorem Tree.At.reach {W:World}{B:Nat}:∀(qs:List Nat) {t:Tree} {v v':Value} {fp:List Nat} {st:List (Nat × Nat)},t.At W B v fp->Reach W v qs v' st->∃s f' R,O6 W B t v fp qs s v' f' R
 | [],t,v,v',fp,st,h,hr=>by
   obtain⟨rfl,_⟩:=hr
   exact⟨t,fp,[],by simp[Tree.cO],h,by simp,fun W' s' f'' h' _=>⟨f'',by simpa [Tree.putAt] using h',by simp⟩⟩
 | i::qs,.leaf b p,v,v',fp,st,h,hr=>by
   obtain⟨g,pg,n,cap,vi,st',rfl,_⟩:=hr
   obtain⟨g',e,_⟩:=h
   cases e
 | i::qs,.split b k ts,v,v',fp,st,h,hr=>by
   obtain⟨g,pg,n,cap,vi,st',rfl,h1,h2,h3,h4,rfl⟩:=hr
   obtain⟨g',sl,vs,fs,e,k2,k3,k4,rfl⟩:=h
   cases e
   have av:sl=Jj (I ⟨pg,0,O⟩) n cap:=by
    have:=ae k2 5
    rw[h1] at this
    exact (Option.some.inj this).symm
   subst av
   obtain⟨Hh,S0⟩:=EI k3
   have dk:=k4.length
   obtain⟨u,hu⟩:∃u,ts[i]?=I u:=⟨_,List.getElem?_eq_getElem (by omega)⟩
   obtain⟨v1,f1,fa,fc,e1,e2,e3,e4,e5,e6⟩:=k4.mid i u hu
   have Ax:vi=v1:=by
    have:=S0 i vi h2 h3
    rw[e1] at this
    exact (Option.some.inj this).symm
   subst Ax
   obtain⟨s,f',R,hS⟩:=Tree.At.reach qs e2 h4
   refine⟨s,f',g::((Value.slice (I ⟨pg,0,O⟩) n cap).ownBlock.toList++(fa++(R++fc))),?_,hS.here,?_,fun W' s' f'' ej hk=> ?_⟩
   . simp only[Tree.cO,hu]
     exact hS.sub
   . rw[e5]
     have:=hS.perm
     refine List.perm_iff_count.2 fun q=> ?_
     have hc:=List.perm_iff_count.1 this q
     simp only[List.count_cons,List.count_append] at hc ⊢
     omega
   . have l6:(Tree.split b k ts).putAt (i::qs) s'=.split b k (ts.set i (u.putAt qs s')):=by simp[Tree.putAt,hu]
     rw[l6]
     obtain⟨f1',a1,a2⟩:=hS.put W' s' f'' ej (fun q hq=>hk q (by simp[hq]))
     refine⟨g::((Value.slice (I ⟨pg,0,O⟩) n cap).ownBlock.toList++(fa++(f1'++fc))),⟨g,_,vs,fa++(f1'++fc),rfl,(hk g (by simp)).trans k2,dU k3 fun q hq=>hk q (by simp only[List.mem_cons,List.mem_append];exact .inr (.inl hq)),?_,rfl⟩,?_⟩
     . have hs:ts.set i (u.putAt qs s')=ts.take i++(u.putAt qs s'::ts.drop (i+1)):=by
        rw[List.set_eq_take_append_cons_drop,if_pos (List.getElem?_eq_some_iff.1 hu).1]
       rw[hs,e6]
       refine (e3.keep fun q hq=>hk q (by simp[hq])).append ⟨vi,_,f1',fc,rfl,a1,e4.keep fun q hq=>hk q (by simp[hq]),rfl⟩
     . refine List.perm_iff_count.2 fun q=> ?_
       have hc:=List.perm_iff_count.1 a2 q
       simp only[List.count_cons,List.count_append] at hc ⊢
       omega
theorem O6.nd {W:World}{B:Nat}{t:Tree}{v:Value}{fp:List Nat}{qs:List Nat}{s:Tree}{v':Value}{f' R:List Nat}(h:O6 W B t v fp qs s v' f' R)(hn:fp.Nodup):f'.Nodup/\R.Nodup/\(∀q∈f',q ∉ R)/\(∀q∈f',q∈fp)/\(∀q∈R,q∈fp):=by
 have h1:=h.perm.nodup_iff.1 hn
 obtain⟨a,b,c⟩:=List.nodup_append.1 h1
 exact⟨a,b,fun q hq hr=>c q hq q hr rfl,fun q hq=>h.perm.mem_iff.2 (List.mem_append_left _ hq),fun q hq=>h.perm.mem_iff.2 (List.mem_append_right _ hq)⟩
structure Fits (s s':Tree):Prop where
 sound:s.sound=true->s'.sound=true
 box:s'.box.w=s.box.w/\s'.box.h=s.box.h
 kind:∀q,s'.bY q=s.bY q
 kinds:s.kinds->s'.kinds
theorem Box.Ol {b b':Box}(h:b'.w=b.w/\b'.h=b.h)(k:Int):b'.ext k=b.ext k:=by
 unfold Box.ext
 rw[h.1,h.2]
theorem wR (u u':Tree):∀(ts:List Tree) (i:Nat),ts[i]?=I u->sizes (ts.set i u')+u.size=sizes ts+u'.size
 | [],i,h=>by simp at h
 | a::ts,0,h=>by
   simp at h
   subst h
   show u'.size+sizes ts+a.size=a.size+sizes ts+u'.size
   omega
 | a::ts,i+1,h=>by
   have:=wR u u' ts i (by simpa using h)
   show a.size+sizes (ts.set i u')+u.size=a.size+sizes ts+u'.size
   omega
def dK (k:Int)(ts:List Tree)(i:Nat)(s:Tree):List Tree:=ts.take i++(iw k s++ts.drop (i+1))
theorem wM {k:Int}{ts:List Tree}{i:Nat}{s:Tree}(hs:s.bY k=false)(hi:i < ts.length):dK k ts i s=ts.set i s:=by
 unfold dK
 rw[vO hs,List.set_eq_take_append_cons_drop,if_pos hi]
 rfl
theorem dV (b:Box)(k:Int):∀(ts us:List Tree),au (ts++us) b k=(au ts b k&&au us b k)
 | [],us=>by simp[au]
 | t::ts,us=>by
   show (_&&au (ts++us) b k)=_
   rw[dV b k ts us]
   show _=((_&&au ts b k)&&au us b k)
   simp only[Bool.and_assoc]
theorem iG (k:Int):∀(ts us:List Tree),aN (ts++us) k=aN ts k+1+aN us k
 | [],us=>by
   show aN us k= -1+1+aN us k
   omega
 | t::ts,us=>by
   show t.box.ext k+1+aN (ts++us) k=t.box.ext k+1+aN ts k+1+aN us k
   rw[iG k ts us]
   omega
theorem fZ:∀(ts us:List Tree),bi (ts++us)↔bi ts/\bi us
 | [],us=>by simp[bi]
 | t::ts,us=>by
   show (t.kinds/\bi (ts++us))↔(t.kinds/\bi ts)/\bi us
   rw[fZ ts us,and_assoc]
theorem dw:∀(ts us:List Tree),sizes (ts++us)=sizes ts+sizes us
 | [],us=>by
   show sizes us=0+sizes us
   omega
 | t::ts,us=>by
   show t.size+sizes (ts++us)=t.size+sizes ts+sizes us
   rw[dw ts us]
   omega
theorem qG:∀(ts us:List Tree),kF (ts++us)=kF ts++kF us
 | [],us=>rfl
 | t::ts,us=>by
   show t.idl++kF (ts++us)=(t.idl++kF ts)++kF us
   rw[qG ts us,List.append_assoc]
theorem wL (b:Box)(k:Int)(ts:List Tree)(i:Nat)(u s:Tree)(hi:ts[i]?=I u)(Q1:s.sound=true)(Od:s.kinds)(hb:s.box.w=u.box.w/\s.box.h=u.box.h)(l8:k=2\/k=3)(ar:(Tree.split b k ts).sound=true):Fits (.split b k ts) (.split b k (dK k ts i s))/\(Tree.split b k (dK k ts i s)).size+u.size<=(Tree.split b k ts).size+s.size:=by
 have pf:=ar
 unfold Tree.sound at ar
 simp only[Bool.and_eq_true,decide_eq_true_eq] at ar
 have he:=uC hi
 have h1:=ar.2.1
 rw[he,dV] at h1
 have h2:=ar.2.2
 rw[he,iG] at h2
 simp only[Bool.and_eq_true] at h1
 obtain⟨h3,h4⟩:=h1
 unfold au at h4
 simp only[Bool.and_eq_true,decide_eq_true_eq] at h4
 have hf:=Jv s k l8 Q1 Od b (by rw[Box.Ol hb];exact h4.1.2.2.symm)
 change aN (ts.take i) k+1+(u.box.ext k+1+aN (ts.drop (i+1)) k)=b.ext k at h2
 have hlen:2<=(dK k ts i s).length:=by
  have h5:=ar.1.1
  have h6:=(List.getElem?_eq_some_iff.1 hi).1
  unfold dK
  have:=hf.ne
  rw[List.length_append,List.length_append,List.length_take,List.length_drop]
  omega
 refine⟨⟨fun _=> ?_,⟨rfl,rfl⟩,fun q=>rfl,fun hk=>⟨hk.1,?_⟩⟩,?_⟩
 . unfold Tree.sound
   simp only[Bool.and_eq_true,decide_eq_true_eq]
   refine⟨⟨hlen,ar.1.2⟩,?_,?_⟩
   . unfold dK
     rw[dV,dV,h3,hf.sound,h4.2]
     rfl
   . unfold dK
     rw[iG,iG,hf.ext,Box.Ol hb]
     omega
 . have h5:=hk.2
   rw[he,fZ] at h5
   unfold dK
   rw[fZ,fZ]
   exact⟨h5.1,hf.kinds,h5.2.2⟩
 . show 1+sizes (dK k ts i s)+u.size<=1+sizes ts+s.size
   have h5:sizes ts=sizes (ts.take i)+(u.size+sizes (ts.drop (i+1))):=by
    conv=>lhs;rw[he]
    rw[dw]
    rfl
   unfold dK
   rw[dw,dw]
   have:=hf.size
   omega
def Pz (b:Box)(k:Int):List Tree->Tree
 | [u]=>u
 | us=>.split b k us
theorem Bz {b:Box}{k:Int}{us:List Tree}(h:2<=us.length):Pz b k us=.split b k us:=by
 match us,h with
 | a::c::r,_=>rfl
structure Gone (k:Int)(ts:List Tree)(a:Nat)(bl:Box)(q:Int)(x u:Tree)(us:List Tree):Prop where
 leaf:ts[a]?=I (.leaf bl q)
 near:(ts.eraseIdx a)[a-1]?=I x
 str:Str x k (bl.ext k+1) u
 grew:Grew x k (bl.ext k+1) u
 list:us=(ts.eraseIdx a).set (a-1) u
structure Rest (b:Box)(k:Int)(ts:List Tree)(a:Nat)(bl:Box):Prop where
 sound:au (ts.eraseIdx a) b k=true
 kinds:bi (ts.eraseIdx a)
 ext:aN (ts.eraseIdx a) k+(bl.ext k+1)=b.ext k
 size:sizes (ts.eraseIdx a)+1=sizes ts
 len:(ts.eraseIdx a).length+1=ts.length
theorem rest_of {b:Box}{k:Int}{ts:List Tree}{a:Nat}{bl:Box}{q:Int}(hs:(Tree.split b k ts).sound=true)(hk:(Tree.split b k ts).kinds)(hl:ts[a]?=I (.leaf bl q)):Rest b k ts a bl:=by
 have he:=uC hl
 have am:=(List.getElem?_eq_some_iff.1 hl).1
 have hx:=List.eraseIdx_eq_take_drop_succ ts a
 unfold Tree.sound at hs
 simp only[Bool.and_eq_true,decide_eq_true_eq] at hs
 have h1:=hs.2.1
 have h2:=hs.2.2
 have h3:=hk.2
 rw[he,dV] at h1
 rw[he,iG] at h2
 rw[he,fZ] at h3
 simp only[Bool.and_eq_true] at h1
 obtain⟨h4,h5⟩:=h1
 unfold au at h5
 simp only[Bool.and_eq_true,decide_eq_true_eq] at h5
 change aN (ts.take a) k+1+(bl.ext k+1+aN (ts.drop (a+1)) k)=b.ext k at h2
 refine⟨?_,?_,?_,?_,?_⟩
 . rw[hx,dV,h4,h5.2]
   rfl
 . rw[hx,fZ]
   exact⟨h3.1,h3.2.2⟩
 . rw[hx,iG]
   omega
 . have h6:sizes ts=sizes (ts.take a)+(1+sizes (ts.drop (a+1))):=by
    conv=>lhs;rw[he]
    rw[dw]
    rfl
   rw[hx,dw]
   omega
 . rw[List.length_eraseIdx_of_lt am]
   omega
theorem MG {b:Box}{k:Int}{ts:List Tree}{a:Nat}{bl:Box}{q:Int}(hs:(Tree.split b k ts).sound=true)(hk:(Tree.split b k ts).kinds)(hz:(Tree.split b k ts).size<=900)(hl:ts[a]?=I (.leaf bl q)):∃x u us,Gone k ts a bl q x u us:=by
 have R:=rest_of hs hk hl
 have am:=(List.getElem?_eq_some_iff.1 hl).1
 have ar:=(Tree.split b k ts).aF hs
 change (1<=b.w/\b.w<=1000)/\(1<=b.h/\b.h<=1000) at ar
 have hb:=df b k ar
 have h2:2<=ts.length:=by
  unfold Tree.sound at hs
  simp only[Bool.and_eq_true,decide_eq_true_eq] at hs
  exact hs.1.1
 change 1+sizes ts<=900 at hz
 have hr:=R.len
 obtain⟨x,hx⟩:∃x,(ts.eraseIdx a)[a-1]?=I x:=⟨_,List.getElem?_eq_getElem (by omega)⟩
 have pQ:=aO _ b k (a-1) x hx R.sound
 simp only[Bool.and_eq_true,decide_eq_true_eq] at pQ
 have hxe:=BA _ b k (a-1) x hx R.sound
 have hxz:=bI _ (a-1) x hx
 have hsz:=R.size
 have LI:=bT x k pQ.1
 have pd:(Tree.leaf bl q).sound=true:=by
  have:=aO ts b k a _ hl (by unfold Tree.sound at hs;simp only[Bool.and_eq_true] at hs;exact hs.2.1)
  simp only[Bool.and_eq_true] at this
  exact this.1
 have pe:=df bl k ((Tree.leaf bl q).aF pd)
 have hex:=R.ext
 obtain⟨u,h3,h4⟩:=tu x k (bl.ext k+1) hk.1 pQ.1 (bF _ (a-1) x hx R.kinds) (by omega) (by omega) (by omega)
 exact⟨x,u,_,hl,hx,h3,h4,rfl⟩
structure Jf (b:Box)(k:Int)(ts:List Tree)(u:Tree)(us:List Tree):Prop where
 sound:au us b k=true
 kinds:bi us
 ext:aN us k=b.ext k
 size:sizes us+1=sizes ts
 len:us.length+1=ts.length
 in_:u∈us
theorem wK {b:Box}{k:Int}{ts:List Tree}{a:Nat}{bl:Box}{q:Int}{x u:Tree}{us:List Tree}(hs:(Tree.split b k ts).sound=true)(hk:(Tree.split b k ts).kinds)(h:Gone k ts a bl q x u us):Jf b k ts u us:=by
 have R:=rest_of hs hk h.leaf
 have S:=tC x u b k _ hk.1 h.grew _ (a-1) h.near R.sound R.kinds
 have am:=(List.getElem?_eq_some_iff.1 h.near).1
 rw[h.list]
 refine⟨S.sound,S.kinds,?_,?_,?_,?_⟩
 . rw[S.ext]
   exact R.ext
 . rw[S.sizes]
   exact R.size
 . rw[S.len]
   exact R.len
 . exact List.mem_iff_getElem?.2 ⟨a-1,by rw[List.getElem?_set];simp[am]⟩
theorem Jg {b:Box}{k:Int}{ts:List Tree}{u:Tree}{us:List Tree}(h:Jf b k ts u us)(h2:2<=us.length):Fits (.split b k ts) (.split b k us)/\(Tree.split b k us).size<=(Tree.split b k ts).size:=by
 refine⟨⟨fun hs=> ?_,⟨rfl,rfl⟩,fun q=>rfl,fun hk=>⟨hk.1,h.kinds⟩⟩,?_⟩
 . unfold Tree.sound at hs ⊢
   simp only[Bool.and_eq_true,decide_eq_true_eq] at hs ⊢
   exact⟨⟨h2,hs.1.2⟩,h.sound,h.ext⟩
 . show 1+sizes us<=1+sizes ts
   have:=h.size
   omega
theorem FN {b:Box}{k:Int}{ts:List Tree}{u:Tree}(hk:k=2\/k=3)(h:Jf b k ts u [u]):u.sound=true/\u.kinds/\(u.box.w=b.w/\u.box.h=b.h)/\u.size<=sizes ts:=by
 have h1:=h.sound
 unfold au at h1
 simp only[Bool.and_eq_true,decide_eq_true_eq] at h1
 have h2:=h.ext
 change u.box.ext k+1+ -1=b.ext k at h2
 have h3:=h1.1.2.2
 have h4:=h.size
 change u.size+0+1=sizes ts at h4
 refine⟨h1.1.1,h.kinds.1,?_,by omega⟩
 rcases hk with rfl | rfl
 . change u.box.w+1+ -1=b.w at h2
   change u.box.h=b.h at h3
   exact⟨by omega,h3⟩
 . change u.box.h+1+ -1=b.h at h2
   change u.box.w=b.w at h3
   exact⟨h3,by omega⟩
inductive qx (q:Int)(t:Tree):List Nat->Tree->Prop
 | many (qs:List Nat) (a:Nat) (b:Box) (k:Int) (ts:List Tree) (bl:Box) (x u:Tree) (us:List Tree):t.cO qs=I (.split b k ts)->Gone k ts a bl q x u us->2<=us.length->qx q t (qs++[a]) (t.putAt qs (.split b k us))
 | root (a:Nat) (b:Box) (k:Int) (ts:List Tree) (bl:Box) (x u:Tree):t=.split b k ts->Gone k ts a bl q x u [u]->qx q t [a] u
 | up (rs:List Nat) (j a:Nat) (b2:Box) (k2:Int) (ts2:List Tree) (b:Box) (k:Int) (ts:List Tree) (bl:Box) (x u:Tree):t.cO rs=I (.split b2 k2 ts2)->ts2[j]?=I (.split b k ts)->Gone k ts a bl q x u [u]->qx q t (rs++[j]++[a]) (t.putAt rs (.split b2 k2 (dK k2 ts2 j u)))
inductive Shut (q:Int):Tree->Tree->Prop
 | keep (t:Tree):q ∉ t.idl->Shut q t t
 | here (b:Box) (k:Int) (ts:List Tree) (a:Nat) (bl:Box) (x u:Tree) (us:List Tree):Gone k ts a bl q x u us->q ∉ kF us->Shut q (.split b k ts) (Pz b k us)
 | deep (b:Box) (k:Int) (ts:List Tree) (i:Nat) (s s':Tree):ts[i]?=I s->(∃b' k' ts',s=.split b' k' ts')->Shut q s s'->(∀(j:Nat) u,j≠i->ts[j]?=I u->q ∉ u.idl)->Shut q (.split b k ts) (.split b k (dK k ts i s'))
structure Jh (q:Int)(t:Tree)(ps:List Nat)(t':Tree):Prop where
 close:qx q t ps t'
 shut:Shut q t t'
 sound:t'.sound=true
 kinds:t'.kinds
 box:t'.box.w=t.box.w/\t'.box.h=t.box.h
 size:t'.size<=t.size
theorem GY (q:Int)(ts:List Tree)(a:Nat)(bl:Box)(hl:ts[a]?=I (.leaf bl q))(hn:(kF ts).Nodup):q ∉ kF (ts.eraseIdx a):=by
 have he:=uC hl
 rw[he,qG] at hn
 change (kF (ts.take a)++([q]++kF (ts.drop (a+1)))).Nodup at hn
 rw[List.eraseIdx_eq_take_drop_succ,qG]
 obtain⟨n1,n2,n3⟩:=List.nodup_append.1 hn
 obtain⟨n4,n5⟩:=List.nodup_cons.1 n2
 intro h
 rcases List.mem_append.1 h with h | h
 . exact n3 q h q (by simp) rfl
 . exact n4 h
theorem FO {b:Box}{k:Int}{ts:List Tree}{a:Nat}{bl:Box}{q:Int}{x u:Tree}{us:List Tree}(hs:(Tree.split b k ts).sound=true)(hk:(Tree.split b k ts).kinds)(h:Gone k ts a bl q x u us):kF us=kF (ts.eraseIdx a):=by
 have R:=rest_of hs hk h.leaf
 have S:=tC x u b k _ hk.1 h.grew _ (a-1) h.near R.sound R.kinds
 rw[h.list]
 exact S.ids
theorem vK {b:Box}{k:Int}{ts:List Tree}{i:Nat}{s r:Tree}{qs:List Nat}(hi:ts[i]?=I s)(h:s.cO qs=I r):(Tree.split b k ts).cO (i::qs)=I r:=by simp only[Tree.cO,hi];exact h
theorem vM {b:Box}{k:Int}{ts:List Tree}{i:Nat}{s r:Tree}{qs:List Nat}(hi:ts[i]?=I s):(Tree.split b k ts).putAt (i::qs) r=.split b k (ts.set i (s.putAt qs r)):=by simp[Tree.putAt,hi]
theorem Ad:∀(qs:List Nat) (t s s':Tree),t.cO qs=I s->(∀q,s'.bY q=s.bY q)->∀q,(t.putAt qs s').bY q=t.bY q
 | [],t,s,s',h,hk,q=>by
   have:t=s:=by simpa [Tree.cO] using h
   subst this
   exact hk q
 | i::qs,.leaf b p,s,s',h,hk,q=>by simp[Tree.cO] at h
 | i::qs,.split b k ts,s,s',h,hk,q=>by
   cases hi:ts[i]? with
   | none=>simp[Tree.cO,hi] at h
   | some u=>rw[vM hi];rfl
theorem close_any (q:Int):∀(ps:List Nat) (t:Tree),t.sound=true->t.kinds->t.size<=900->t.idl.Nodup->t.path q=I ps->ps≠[]->∃t',Jh q t ps t'
 | [],t,_,_,_,_,_,h=>absurd rfl h
 | i::ps,.leaf b p,hs,hk,hz,hn,hp,_=>by
   unfold Tree.path at hp
   split at hp <;> cases hp
 | i::ps,.split b k ts,hs,hk,hz,hn,hp,_=>by
   unfold Tree.path at hp
   obtain⟨i',s,ps',e,hi,k7⟩:=gG q ts 0 _ hp
   rw[Nat.zero_add] at e
   cases e
   unfold Tree.idl at hn
   have pf:=hs
   unfold Tree.sound at hs
   simp only[Bool.and_eq_true,decide_eq_true_eq] at hs
   have E9:q∈s.idl:=Classical.byContradiction fun h=>by rw[(dR s q).2 h] at k7;cases k7
   have nj:∀(j:Nat) u,j≠i->ts[j]?=I u->q ∉ u.idl:=fun j u hj hu=>mi q ts hn i j s u hi hu (Ne.symm hj) E9
   have ar:=aO ts b k i s hi hs.2.1
   simp only[Bool.and_eq_true,decide_eq_true_eq] at ar
   have dj:=bF ts i s hi hk.2
   have Ao:=bI ts i s hi
   have Kb:1+sizes ts<=900:=hz
   by_cases he:ps=[]
   . subst he
     obtain⟨bl,rfl⟩:∃bl,s=.leaf bl q:=by
      cases s with
      | leaf bl p=>
        unfold Tree.path at k7
        split at k7
        . rename_i e
          exact⟨bl,by rw[e]⟩
        . cases k7
      | split b' k' ts'=>
        unfold Tree.path at k7
        obtain⟨_,_,_,e,_⟩:=gG q ts' 0 _ k7
        cases e
     obtain⟨x,u,us,hG⟩:=MG pf hk hz hi
     have hO:=wK pf hk hG
     have ao:q ∉ kF us:=by
      rw[FO pf hk hG]
      exact GY q ts i bl hi hn
     by_cases h2:2<=us.length
     . obtain⟨hf,cJ⟩:=Jg hO h2
       have hc:=qx.many (q:=q) (t:=.split b k ts) [] i b k ts bl x u us rfl hG h2
       have k9:=Shut.here b k ts i bl x u us hG ao
       rw[Bz h2] at k9
       exact⟨_,hc,k9,hf.sound pf,hf.kinds hk,⟨rfl,rfl⟩,cJ⟩
     . have hlen:=hO.len
       have ye:=hs.1.1
       have C7:us=[u]:=by
        have bE:=hO.in_
        match us,h2,bE with
        | [],_,bE=>cases bE
        | [c],_,bE=>
          have:u=c:=by simpa using bE
          rw[this]
        | a::c::r,h2,_=>exact absurd (by simp) h2
       subst C7
       obtain⟨g1,g2,g3,g4⟩:=FN hk.1 hO
       have hc:=qx.root (q:=q) (t:=.split b k ts) i b k ts bl x u rfl hG
       have k9:Shut q (.split b k ts) u:=Shut.here b k ts i bl x u [u] hG ao
       refine⟨u,hc,k9,g1,g2,g3,?_⟩
       show u.size<=1+sizes ts
       omega
   . obtain⟨s',hS⟩:=close_any q ps s ar.1 dj (by omega) (mr ts hn i s hi) k7 he
     have Fc:∃b' k' ts',s=.split b' k' ts':=by
      cases s with
      | leaf bl p=>
        unfold Tree.path at k7
        split at k7
        . cases k7
          exact absurd rfl he
        . cases k7
      | split b' k' ts'=>exact⟨b',k',ts',rfl⟩
     obtain⟨hf,cJ⟩:=wL b k ts i s s' hi hS.sound hS.kinds hS.box hk.1 pf
     have k9:Shut q (.split b k ts) (.split b k (dK k ts i s')):=Shut.deep b k ts i s s' hi Fc hS.shut nj
     refine⟨.split b k (dK k ts i s'),?_,k9,hf.sound pf,hf.kinds hk,⟨rfl,rfl⟩,by have:=hS.size;omega⟩
     have am:=(List.getElem?_eq_some_iff.1 hi).1
     have LL:s.bY k=false:=by simpa using ar.2.1
     cases hS.close with
     | many qs a b' k' ts' bl x u us h1 h2 h3=>
       have io:(s.putAt qs (.split b' k' us)).bY k=false:=by
        exact (Ad qs s _ (.split b' k' us) h1 (fun q=>rfl) k).trans LL
       have:=qx.many (q:=q) (t:=.split b k ts) (i::qs) a b' k' ts' bl x u us (vK hi h1) h2 h3
       rw[vM hi] at this
       rw[wM io am]
       exact this
     | root a b' k' ts' bl x _ h1 h2=>exact qx.up (q:=q) (t:=.split b k ts) [] i a b k ts b' k' ts' bl x s' rfl (by rw[hi,h1]) h2
     | up rs j a b2 k2 ts2 b' k' ts' bl x u h1 h2 h3=>
       have io:(s.putAt rs (.split b2 k2 (dK k2 ts2 j u))).bY k=false:=by
        exact (Ad rs s _ (.split b2 k2 (dK k2 ts2 j u)) h1 (fun q=>rfl) k).trans LL
       have:=qx.up (q:=q) (t:=.split b k ts) (i::rs) j a b2 k2 ts2 b' k' ts' bl x u (vK hi h1) h2 h3
       rw[vM hi] at this
       rw[wM io am]
       exact this
def qF (t:Tree)(w:World)(e:Ending)(w':World):Prop:=∃sa sn sc fp,e=Jz (.tuple #[.agg (aC (ag t) (Jj sa sn sc)),.bool true])/\(ag t).In w' (Jj sa sn sc) fp/\Below w.heap.size w w'
theorem dI (v:Value)(l:List aj)(w:World)(h:ay w v l){t:Tree}(hF:aT l=I t):Calls prog 53 #[v] w (qF t w):=(Ac v l w h).mono fun e w' h=>by
 obtain⟨hb,⟨h1,_⟩ | ⟨t',sa,sn,sc,fp,h1,h2,h3⟩⟩:=h
 . rw[hF] at h1
   cases h1
 . rw[hF] at h1
   cases h1
   exact⟨sa,sn,sc,fp,h2,h3,hb⟩
theorem tq (v:Value)(l:List aj)(w:World)(h:ay w v l)(hF:aT l=O):Calls prog 53 #[v] w fun e w'=>e=Jz (.tuple #[.agg aU,.bool false])/\Below w.heap.size w w':=(Ac v l w h).mono fun e w' h=>by
 obtain⟨hb,⟨_,h1⟩ | ⟨t',sa,sn,sc,fp,h1,h2,h3⟩⟩:=h
 . exact⟨h1,hb⟩
 . rw[hF] at h1
   cases h1
theorem aK {W w1:World}(h:Below W.heap.size W w1)(o:Obj):Below W.heap.size W (w1.alloc o):=af h ((Below.refl _ _).alloc (Nat.le_refl _) o)
theorem Jd (v:Value)(l:List aj)(a b:Int)(w:World)(h:ay w v l)(hF:aT l=O):Calls prog 29 #[v,J Jq a,J Jq b] w (dZ 40 [] w):=by
 have HT:=zh (tq v l w h hF)
 clear h hF
 go_enter func29,ntmps29
 go_wp2_with fail
 refine HT.out.mono ?_
 rintro e w1 ⟨rfl,hb⟩
 have HB:=zh (aK hb)
 unfold aU
 clear hb
 go_wp2
 go_ret2
 exact⟨_,rfl,World.ownsRow_nil _ _ _ _,HB.out _⟩
theorem GR (v:Value)(l:List aj)(a b:Int)(w:World)(h:ay w v l){t:Tree}(hF:aT l=I t)(a1:a < 1):Calls prog 29 #[v,J Jq a,J Jq b] w (dZ 41 [] w):=by
 have HT:=zh (dI v l w h hF)
 clear h hF
 go_enter func29,ntmps29
 go_wp2_with fail
 refine HT.out.mono ?_
 rintro e w1 ⟨sa,sn,sc,fp,rfl,ab,hb⟩
 have HB:=zh (aK hb)
 obtain⟨nn,aR⟩:∃x,ag t=x:=⟨_,rfl⟩
 rw[aR]
 unfold aC
 clear hb ab aR
 go_wp2
 all_goals go_ret2
 all_goals exact⟨_,rfl,World.ownsRow_nil _ _ _ _,HB.out _⟩
theorem GU (v:Value)(l:List aj)(a b:Int)(w:World)(h:ay w v l){t:Tree}(hF:aT l=I t)(a1:¬a < 1)(a2:1000 < a):Calls prog 29 #[v,J Jq a,J Jq b] w (dZ 41 [] w):=by
 have HT:=zh (dI v l w h hF)
 clear h hF
 go_enter func29,ntmps29
 go_wp2_with fail
 refine HT.out.mono ?_
 rintro e w1 ⟨sa,sn,sc,fp,rfl,ab,hb⟩
 have HB:=zh (aK hb)
 obtain⟨nn,aR⟩:∃x,ag t=x:=⟨_,rfl⟩
 rw[aR]
 unfold aC
 clear hb ab aR
 go_wp2
 all_goals go_ret2
 all_goals exact⟨_,rfl,World.ownsRow_nil _ _ _ _,HB.out _⟩
theorem GV (v:Value)(l:List aj)(a b:Int)(w:World)(h:ay w v l){t:Tree}(hF:aT l=I t)(a1:¬a < 1)(a2:¬ 1000 < a)(a3:b < 1):Calls prog 29 #[v,J Jq a,J Jq b] w (dZ 41 [] w):=by
 have HT:=zh (dI v l w h hF)
 clear h hF
 go_enter func29,ntmps29
 go_wp2_with fail
 refine HT.out.mono ?_
 rintro e w1 ⟨sa,sn,sc,fp,rfl,ab,hb⟩
 have HB:=zh (aK hb)
 obtain⟨nn,aR⟩:∃x,ag t=x:=⟨_,rfl⟩
 rw[aR]
 unfold aC
 clear hb ab aR
 go_wp2
 all_goals go_ret2
 all_goals exact⟨_,rfl,World.ownsRow_nil _ _ _ _,HB.out _⟩
theorem GX (v:Value)(l:List aj)(a b:Int)(w:World)(h:ay w v l){t:Tree}(hF:aT l=I t)(a1:¬a < 1)(a2:¬ 1000 < a)(a3:¬b < 1)(a4:1000 < b):Calls prog 29 #[v,J Jq a,J Jq b] w (dZ 41 [] w):=by
 have HT:=zh (dI v l w h hF)
 clear h hF
 go_enter func29,ntmps29
 go_wp2_with fail
 refine HT.out.mono ?_
 rintro e w1 ⟨sa,sn,sc,fp,rfl,ab,hb⟩
 have HB:=zh (aK hb)
 obtain⟨nn,aR⟩:∃x,ag t=x:=⟨_,rfl⟩
 rw[aR]
 unfold aC
 clear hb ab aR
 go_wp2
 all_goals go_ret2
 all_goals exact⟨_,rfl,World.ownsRow_nil _ _ _ _,HB.out _⟩
theorem Je (v:Value)(l:List aj)(a b:Int)(w:World)(h:ay w v l){t:Tree}(hF:aT l=I t)(pN:¬(aG a=true/\aG b=true)):Calls prog 29 #[v,J Jq a,J Jq b] w (dZ 41 [] w):=by
 simp only[aG,Bool.and_eq_true,decide_eq_true_eq] at pN
 by_cases a1:a < 1
 . exact GR v l a b w h hF a1
 by_cases a2:1000 < a
 . exact GU v l a b w h hF a1 a2
 by_cases a3:b < 1
 . exact GV v l a b w h hF a1 a2 a3
 exact GX v l a b w h hF a1 a2 a3 (by omega)
theorem Eb (v:Value)(l:List aj)(a b:Int)(w:World)(h:ay w v l){t:Tree}(hF:aT l=I t)(ha:aG a=true)(hb:aG b=true)(ck:a < fJ t 2/\fJ t 3<=1000000):Calls prog 29 #[v,J Jq a,J Jq b] w (dZ 44 [] w):=by
 have HT:=zh (dI v l w h hF)
 have dq:=zh (aV hF)
 simp only[aG,Bool.and_eq_true,decide_eq_true_eq] at ha hb
 have a1:¬a < 1:=by omega
 have a2:¬ 1000 < a:=by omega
 have a3:¬b < 1:=by omega
 have a4:¬ 1000 < b:=by omega
 clear h hF ha hb
 go_enter func29,ntmps29
 go_wp2_with fail
 refine HT.out.mono ?_
 rintro e w1 ⟨sa,sn,sc,fp,rfl,ab,hb⟩
 obtain⟨W,hW⟩:∃W,w1.alloc (JZ #[J Jq (ag t).k,J Jq (ag t).w,J Jq (ag t).h,J Jq (ag t).i,Jj sa sn sc] 53)=W:=⟨_,rfl⟩
 have ap:Below w1.heap.size w1 W:=by rw[<- hW];exact (Below.refl _ _).alloc (Nat.le_refl _) _
 have bR:=zh (af hb ap)
 have hM:W.heap[w1.heap.size]?=I (JZ #[J Jq (ag t).k,J Jq (ag t).w,J Jq (ag t).h,J Jq (ag t).i,Jj sa sn sc] 53 (0,0)):=by rw[<- hW];exact heap_alloc_new _ _
 have HX:Hid (∀X,Below W.heap.size W X->X.heap[w1.heap.size]?=I (JZ #[J Jq (ag t).k,J Jq (ag t).w,J Jq (ag t).h,J Jq (ag t).i,Jj sa sn sc] 53 (0,0))):=fun X hX=>(hX.block _ (lt_of_block hM)).trans hM
 have en:Hid (∀X,Below W.heap.size W X->(ag t).In X (Jj sa sn sc) fp):=fun X hX=>(ab.below ap).below hX
 have iS:Hid (∀X d,Below W.heap.size W X->Calls prog 60 #[.agg #[J Jq (ag t).k,J Jq (ag t).w,J Jq (ag t).h,J Jq (ag t).i,Jj sa sn sc],J Jq d] X fun e w'=>e=Jz (J Jq (t.room d))/\Below W.heap.size W w'):=fun X d hX=>(jl t dq.out.kinds dq.out.sound (by have:=lay_size dq.out;omega) _ fp X d (en.out X hX)).mono fun e w' h2=>⟨h2.1,af hX h2.2⟩
 have HW:=zh hW
 have al:=bT t 2 dq.out.sound
 have aM:=bT t 3 dq.out.sound
 have ar:=t.aF dq.out.sound
 have hsz:=lay_size dq.out
 rw[<- bV,<- bW] at ar
 have C4:Hid ((ag t).w=t.box.w/\(ag t).h=t.box.h):=⟨bV t,bW t⟩
 have i7:fJ t 2=(ag t).w-t.room 2:=by rw[bV];rfl
 have C5:fJ t 3=(ag t).h-t.room 3:=by rw[bW];rfl
 rw[i7,C5] at ck
 obtain⟨nn,aR⟩:∃x,ag t=x:=⟨_,rfl⟩
 have pP:=zh aR
 rw[aR] at HX iS HW ar en C4 ck ⊢
 obtain⟨A,hA⟩:∃x,t.room 2=x:=⟨_,rfl⟩
 obtain⟨B,hB⟩:∃x,t.room 3=x:=⟨_,rfl⟩
 have tA:Hid (∀X,Below W.heap.size W X->Calls prog 60 #[.agg #[J Jq nn.k,J Jq nn.w,J Jq nn.h,J Jq nn.i,Jj sa sn sc],J Jq 2] X fun e w'=>e=Jz (J Jq A)/\Below W.heap.size W w'):=fun X hX=>hA ▸ iS.out X 2 hX
 have C6:Hid (∀X,Below W.heap.size W X->Calls prog 60 #[.agg #[J Jq nn.k,J Jq nn.w,J Jq nn.h,J Jq nn.i,Jj sa sn sc],J Jq 3] X fun e w'=>e=Jz (J Jq B)/\Below W.heap.size W w'):=fun X hX=>hB ▸ iS.out X 3 hX
 rw[hA] at al ck
 rw[hB] at aM ck
 have v1:IntKind.i64.wrap (nn.w-A)=nn.w-A:=by rw[IntKind.wrap_i64];omega
 have v2:IntKind.i64.wrap (nn.h-B)=nn.h-B:=by rw[IntKind.wrap_i64];omega
 have d1:decide (a < nn.w-A)=true:=decide_eq_true (by omega)
 unfold aC
 clear hb ab ap hM al aM ar hsz hW aR hA hB iS i7 C5 ck
 go_wp2_with fail
 rw[HW.out]
 refine aQ (fun X=>Below W.heap.size W X) (by kernel_rfl) (by kernel_rfl) (Below.refl _ _).drew ?_
 repeat (
  first
  | (refine dJ (v:= ?_) (by rfl) (fun X hX=> ?_) ?_
     rotate_left
     . have hm:=HX.out X hX
       have m0:X.cell? ⟨w1.heap.size,0,O⟩=I (J Jq nn.k):=ae hm 0
       have m1:X.cell? ⟨w1.heap.size,1,O⟩=I (J Jq nn.w):=ae hm 1
       have m2:X.cell? ⟨w1.heap.size,2,O⟩=I (J Jq nn.h):=ae hm 2
       have m3:X.cell? ⟨w1.heap.size,3,O⟩=I (J Jq nn.i):=ae hm 3
       have m4:X.cell? ⟨w1.heap.size,4,O⟩=I (Jj sa sn sc):=ae hm 4
       clear hm
       go_simp
       all_goals first | with_reducible rfl | with_reducible exact tA.out X hX | with_reducible exact C6.out X hX
     intro K hK
     go_simp
     try simp only[d1]
     refine hK.out _ ?_
     clear hK K)
  | (refine lW (by rfl) ?_
     intro K hK
     go_simp
     refine hK.out _ ?_
     clear hK K))
 refine fK ?_
 intro w4 eI
 have gr:=zh (af bR.out eI)
 clear eI
 go_wp2
 go_ret2
 exact⟨_,rfl,World.ownsRow_nil _ _ _ _,gr.out⟩
theorem Ec (v:Value)(l:List aj)(a b:Int)(w:World)(h:ay w v l){t:Tree}(hF:aT l=I t)(ha:aG a=true)(hb:aG b=true)(ck:¬a < fJ t 2/\b < fJ t 3):Calls prog 29 #[v,J Jq a,J Jq b] w (dZ 44 [] w):=by
 have HT:=zh (dI v l w h hF)
 have dq:=zh (aV hF)
 simp only[aG,Bool.and_eq_true,decide_eq_true_eq] at ha hb
 have a1:¬a < 1:=by omega
 have a2:¬ 1000 < a:=by omega
 have a3:¬b < 1:=by omega
 have a4:¬ 1000 < b:=by omega
 clear h hF ha hb
 go_enter func29,ntmps29
 go_wp2_with fail
 refine HT.out.mono ?_
 rintro e w1 ⟨sa,sn,sc,fp,rfl,ab,hb⟩
 obtain⟨W,hW⟩:∃W,w1.alloc (JZ #[J Jq (ag t).k,J Jq (ag t).w,J Jq (ag t).h,J Jq (ag t).i,Jj sa sn sc] 53)=W:=⟨_,rfl⟩
 have ap:Below w1.heap.size w1 W:=by rw[<- hW];exact (Below.refl _ _).alloc (Nat.le_refl _) _
 have bR:=zh (af hb ap)
 have hM:W.heap[w1.heap.size]?=I (JZ #[J Jq (ag t).k,J Jq (ag t).w,J Jq (ag t).h,J Jq (ag t).i,Jj sa sn sc] 53 (0,0)):=by rw[<- hW];exact heap_alloc_new _ _
 have HX:Hid (∀X,Below W.heap.size W X->X.heap[w1.heap.size]?=I (JZ #[J Jq (ag t).k,J Jq (ag t).w,J Jq (ag t).h,J Jq (ag t).i,Jj sa sn sc] 53 (0,0))):=fun X hX=>(hX.block _ (lt_of_block hM)).trans hM
 have en:Hid (∀X,Below W.heap.size W X->(ag t).In X (Jj sa sn sc) fp):=fun X hX=>(ab.below ap).below hX
 have iS:Hid (∀X d,Below W.heap.size W X->Calls prog 60 #[.agg #[J Jq (ag t).k,J Jq (ag t).w,J Jq (ag t).h,J Jq (ag t).i,Jj sa sn sc],J Jq d] X fun e w'=>e=Jz (J Jq (t.room d))/\Below W.heap.size W w'):=fun X d hX=>(jl t dq.out.kinds dq.out.sound (by have:=lay_size dq.out;omega) _ fp X d (en.out X hX)).mono fun e w' h2=>⟨h2.1,af hX h2.2⟩
 have HW:=zh hW
 have al:=bT t 2 dq.out.sound
 have aM:=bT t 3 dq.out.sound
 have ar:=t.aF dq.out.sound
 have hsz:=lay_size dq.out
 rw[<- bV,<- bW] at ar
 have C4:Hid ((ag t).w=t.box.w/\(ag t).h=t.box.h):=⟨bV t,bW t⟩
 have i7:fJ t 2=(ag t).w-t.room 2:=by rw[bV];rfl
 have C5:fJ t 3=(ag t).h-t.room 3:=by rw[bW];rfl
 rw[i7,C5] at ck
 obtain⟨nn,aR⟩:∃x,ag t=x:=⟨_,rfl⟩
 have pP:=zh aR
 rw[aR] at HX iS HW ar en C4 ck ⊢
 obtain⟨A,hA⟩:∃x,t.room 2=x:=⟨_,rfl⟩
 obtain⟨B,hB⟩:∃x,t.room 3=x:=⟨_,rfl⟩
 have tA:Hid (∀X,Below W.heap.size W X->Calls prog 60 #[.agg #[J Jq nn.k,J Jq nn.w,J Jq nn.h,J Jq nn.i,Jj sa sn sc],J Jq 2] X fun e w'=>e=Jz (J Jq A)/\Below W.heap.size W w'):=fun X hX=>hA ▸ iS.out X 2 hX
 have C6:Hid (∀X,Below W.heap.size W X->Calls prog 60 #[.agg #[J Jq nn.k,J Jq nn.w,J Jq nn.h,J Jq nn.i,Jj sa sn sc],J Jq 3] X fun e w'=>e=Jz (J Jq B)/\Below W.heap.size W w'):=fun X hX=>hB ▸ iS.out X 3 hX
 rw[hA] at al ck
 rw[hB] at aM ck
 have v1:IntKind.i64.wrap (nn.w-A)=nn.w-A:=by rw[IntKind.wrap_i64];omega
 have v2:IntKind.i64.wrap (nn.h-B)=nn.h-B:=by rw[IntKind.wrap_i64];omega
 have d1:decide (a < nn.w-A)=false:=decide_eq_false (by omega)
 have d2:decide (b < nn.h-B)=true:=decide_eq_true (by omega)
 unfold aC
 clear hb ab ap hM al aM ar hsz hW aR hA hB iS i7 C5 ck
 go_wp2_with fail
 rw[HW.out]
 refine aQ (fun X=>Below W.heap.size W X) (by kernel_rfl) (by kernel_rfl) (Below.refl _ _).drew ?_
 repeat (
  first
  | (refine dJ (v:= ?_) (by rfl) (fun X hX=> ?_) ?_
     rotate_left
     . have hm:=HX.out X hX
       have m0:X.cell? ⟨w1.heap.size,0,O⟩=I (J Jq nn.k):=ae hm 0
       have m1:X.cell? ⟨w1.heap.size,1,O⟩=I (J Jq nn.w):=ae hm 1
       have m2:X.cell? ⟨w1.heap.size,2,O⟩=I (J Jq nn.h):=ae hm 2
       have m3:X.cell? ⟨w1.heap.size,3,O⟩=I (J Jq nn.i):=ae hm 3
       have m4:X.cell? ⟨w1.heap.size,4,O⟩=I (Jj sa sn sc):=ae hm 4
       clear hm
       go_simp
       all_goals first | with_reducible rfl | with_reducible exact tA.out X hX | with_reducible exact C6.out X hX
     intro K hK
     go_simp
     try simp only[d1,d2]
     refine hK.out _ ?_
     clear hK K)
  | (refine lW (by rfl) ?_
     intro K hK
     go_simp
     refine hK.out _ ?_
     clear hK K))
 refine fK ?_
 intro w4 eI
 have gr:=zh (af bR.out eI)
 clear eI
 go_wp2
 go_ret2
 exact⟨_,rfl,World.ownsRow_nil _ _ _ _,gr.out⟩
theorem Ot (v:Value)(l:List aj)(a b:Int)(w:World)(h:ay w v l){t t1 t2:Tree}(hF:aT l=I t)(hR:Ed l t t1 t2 a b):Calls prog 29 #[v,J Jq a,J Jq b] w (dZ 0 (cZ t2) w):=by
 have HT:=zh (dI v l w h hF)
 have dq:=zh hR.lay
 have ha:=hR.side.1
 have hb:=hR.side.2
 have ck:=hR.low
 have Ka:=zh hR
 simp only[aG,Bool.and_eq_true,decide_eq_true_eq] at ha hb
 have a1:¬a < 1:=by omega
 have a2:¬ 1000 < a:=by omega
 have a3:¬b < 1:=by omega
 have a4:¬ 1000 < b:=by omega
 have du:=hR.one.ok
 have fe:=hR.two.ok
 have x1:=du.low
 have x2:=du.high
 have x3:=fe.low
 have x4:=fe.high
 rw[<- bV] at x1 x2
 rw[<- bW] at x3 x4
 clear h hF ha hb hR du fe
 go_enter func29,ntmps29
 go_wp2_with fail
 refine HT.out.mono ?_
 rintro e w1 ⟨sa,sn,sc,fp,rfl,ab,hb⟩
 obtain⟨W,hW⟩:∃W,w1.alloc (JZ #[J Jq (ag t).k,J Jq (ag t).w,J Jq (ag t).h,J Jq (ag t).i,Jj sa sn sc] 53)=W:=⟨_,rfl⟩
 have ap:Below w1.heap.size w1 W:=by rw[<- hW];exact (Below.refl _ _).alloc (Nat.le_refl _) _
 have bR:=zh (af hb ap)
 have hM:W.heap[w1.heap.size]?=I (JZ #[J Jq (ag t).k,J Jq (ag t).w,J Jq (ag t).h,J Jq (ag t).i,Jj sa sn sc] 53 (0,0)):=by rw[<- hW];exact heap_alloc_new _ _
 have HX:Hid (∀X,Below W.heap.size W X->X.heap[w1.heap.size]?=I (JZ #[J Jq (ag t).k,J Jq (ag t).w,J Jq (ag t).h,J Jq (ag t).i,Jj sa sn sc] 53 (0,0))):=fun X hX=>(hX.block _ (lt_of_block hM)).trans hM
 have en:Hid (∀X,Below W.heap.size W X->(ag t).In X (Jj sa sn sc) fp):=fun X hX=>(ab.below ap).below hX
 have iS:Hid (∀X d,Below W.heap.size W X->Calls prog 60 #[.agg #[J Jq (ag t).k,J Jq (ag t).w,J Jq (ag t).h,J Jq (ag t).i,Jj sa sn sc],J Jq d] X fun e w'=>e=Jz (J Jq (t.room d))/\Below W.heap.size W w'):=fun X d hX=>(jl t dq.out.kinds dq.out.sound (by have:=lay_size dq.out;omega) _ fp X d (en.out X hX)).mono fun e w' h2=>⟨h2.1,af hX h2.2⟩
 have HW:=zh hW
 have al:=bT t 2 dq.out.sound
 have aM:=bT t 3 dq.out.sound
 have ar:=t.aF dq.out.sound
 have hsz:=lay_size dq.out
 rw[<- bV,<- bW] at ar
 have C4:Hid ((ag t).w=t.box.w/\(ag t).h=t.box.h):=⟨bV t,bW t⟩
 have i7:fJ t 2=(ag t).w-t.room 2:=by rw[bV];rfl
 have C5:fJ t 3=(ag t).h-t.room 3:=by rw[bW];rfl
 rw[i7,C5] at ck
 obtain⟨nn,aR⟩:∃x,ag t=x:=⟨_,rfl⟩
 have pP:=zh aR
 rw[aR] at HX iS HW ar en C4 ck ⊢
 obtain⟨A,hA⟩:∃x,t.room 2=x:=⟨_,rfl⟩
 obtain⟨B,hB⟩:∃x,t.room 3=x:=⟨_,rfl⟩
 have tA:Hid (∀X,Below W.heap.size W X->Calls prog 60 #[.agg #[J Jq nn.k,J Jq nn.w,J Jq nn.h,J Jq nn.i,Jj sa sn sc],J Jq 2] X fun e w'=>e=Jz (J Jq A)/\Below W.heap.size W w'):=fun X hX=>hA ▸ iS.out X 2 hX
 have C6:Hid (∀X,Below W.heap.size W X->Calls prog 60 #[.agg #[J Jq nn.k,J Jq nn.w,J Jq nn.h,J Jq nn.i,Jj sa sn sc],J Jq 3] X fun e w'=>e=Jz (J Jq B)/\Below W.heap.size W w'):=fun X hX=>hB ▸ iS.out X 3 hX
 rw[hA] at al ck
 rw[hB] at aM ck
 have v1:IntKind.i64.wrap (nn.w-A)=nn.w-A:=by rw[IntKind.wrap_i64];omega
 have v2:IntKind.i64.wrap (nn.h-B)=nn.h-B:=by rw[IntKind.wrap_i64];omega
 have d1:decide (a < nn.w-A)=false:=decide_eq_false (by omega)
 have d2:decide (b < nn.h-B)=false:=decide_eq_false (by omega)
 rw[aR] at x1 x2 x3 x4
 have v3:IntKind.i64.wrap (a-nn.w)=a-nn.w:=by rw[IntKind.wrap_i64];omega
 have v4:IntKind.i64.wrap (b-nn.h)=b-nn.h:=by rw[IntKind.wrap_i64];omega
 have yd:Hid (∀X,Below W.heap.size W X->Calls prog 63 #[.agg #[J Jq nn.k,J Jq nn.w,J Jq nn.h,J Jq nn.i,Jj sa sn sc],J Jq 2,J Jq (a-nn.w)] X fun e w'=>∃ta tn tc,e=Jz (.agg (aC (ag t1) (Jj ta tn tc)))/\Below W.heap.size W w'/\∃f,(ag t1).In w' (Jj ta tn tc) f):=fun X hX=>by
  have h:=pR t 2 (a-t.box.w) t1 (Jj sa sn sc) fp X Ka.out.one (by rw[pP.out];exact en.out X hX)
  rw[pP.out,<- C4.out.1] at h
  refine h.mono ?_
  rintro e w' ⟨ta,tn,tc,f,he,h2,_,h3⟩
  exact⟨ta,tn,tc,he,af hX h3,f,h2⟩
 have j6:Hid (∀X f ta tn tc,(ag t1).In X (Jj ta tn tc) f->Calls prog 63 #[.agg (aC (ag t1) (Jj ta tn tc)),J Jq 3,J Jq (b-nn.h)] X fun e w'=>∃ua un uc,e=Jz (.agg (aC (ag t2) (Jj ua un uc)))/\Below X.heap.size X w'/\Calls prog 16 #[.agg (aC (ag t2) (Jj ua un uc))] w' fun e w''=>∃u,e=Jz u/\az w'' w'.heap.size u (cZ t2)/\Below w'.heap.size w' w''):=fun X f ta tn tc hX=>by
  have h:=pR t1 3 (b-t.box.h) t2 (Jj ta tn tc) f X Ka.out.two hX
  rw[<- C4.out.2] at h
  refine h.mono ?_
  rintro e w' ⟨ua,un,uc,f2,he,h2,_,h3⟩
  exact⟨ua,un,uc,he,h3,iW Ka.out.s2 Ka.out.k2 (by rw[Ka.out.z2];have:=lay_size dq.out;omega) h2⟩
 obtain⟨n1,du⟩:∃x,ag t1=x:=⟨_,rfl⟩
 obtain⟨n2,fe⟩:∃x,ag t2=x:=⟨_,rfl⟩
 rw[du] at yd j6
 rw[fe] at j6
 clear du fe x1 x2 x3 x4
 unfold aC
 clear hb ab ap hM al aM ar hsz hW aR hA hB iS i7 C5 ck
 go_wp2_with fail
 rw[HW.out]
 refine aQ (fun X=>Below W.heap.size W X) (by kernel_rfl) (by kernel_rfl) (Below.refl _ _).drew ?_
 repeat (
  first
  | (refine dJ (v:= ?_) (by rfl) (fun X hX=> ?_) ?_
     rotate_left
     . have hm:=HX.out X hX
       have m0:X.cell? ⟨w1.heap.size,0,O⟩=I (J Jq nn.k):=ae hm 0
       have m1:X.cell? ⟨w1.heap.size,1,O⟩=I (J Jq nn.w):=ae hm 1
       have m2:X.cell? ⟨w1.heap.size,2,O⟩=I (J Jq nn.h):=ae hm 2
       have m3:X.cell? ⟨w1.heap.size,3,O⟩=I (J Jq nn.i):=ae hm 3
       have m4:X.cell? ⟨w1.heap.size,4,O⟩=I (Jj sa sn sc):=ae hm 4
       clear hm
       go_simp
       all_goals first | with_reducible rfl | with_reducible exact tA.out X hX | with_reducible exact C6.out X hX
     intro K hK
     go_simp
     try simp only[d1,d2]
     refine hK.out _ ?_
     clear hK K)
  | (refine lW (by rfl) ?_
     intro K hK
     go_simp
     refine hK.out _ ?_
     clear hK K))
 refine fK ?_
 intro w4 eI
 have hm:=HX.out w4 eI
 have m0:w4.cell? ⟨w1.heap.size,0,O⟩=I (J Jq nn.k):=ae hm 0
 have m1:w4.cell? ⟨w1.heap.size,1,O⟩=I (J Jq nn.w):=ae hm 1
 have m2:w4.cell? ⟨w1.heap.size,2,O⟩=I (J Jq nn.h):=ae hm 2
 have m3:w4.cell? ⟨w1.heap.size,3,O⟩=I (J Jq nn.i):=ae hm 3
 have m4:w4.cell? ⟨w1.heap.size,4,O⟩=I (Jj sa sn sc):=ae hm 4
 have gr:=zh eI
 have fN:Hid (∀X,Below W.heap.size W X->X.cell? ⟨w1.heap.size,0,O⟩=I (J Jq nn.k)/\X.cell? ⟨w1.heap.size,1,O⟩=I (J Jq nn.w)/\X.cell? ⟨w1.heap.size,2,O⟩=I (J Jq nn.h)/\X.cell? ⟨w1.heap.size,3,O⟩=I (J Jq nn.i)/\X.cell? ⟨w1.heap.size,4,O⟩=I (Jj sa sn sc)):=fun X hX=>⟨ae (HX.out X hX) 0,ae (HX.out X hX) 1,ae (HX.out X hX) 2,ae (HX.out X hX) 3,ae (HX.out X hX) 4⟩
 have VG:=zh (yd.out w4.drew gr.out.drew)
 unfold aC at j6
 clear hm eI yd tA C6 d1 d2 v1 v2
 go_wp2_with fail
 go_region_held3 (fun W'=>W'.cell? ⟨w1.heap.size,0,O⟩=I (J Jq nn.k)/\W'.cell? ⟨w1.heap.size,1,O⟩=I (J Jq nn.w)/\W'.cell? ⟨w1.heap.size,2,O⟩=I (J Jq nn.h)/\W'.cell? ⟨w1.heap.size,3,O⟩=I (J Jq nn.i)/\W'.cell? ⟨w1.heap.size,4,O⟩=I (Jj sa sn sc)) (go_keep) (first
  | (go_at_call 16;refine HL6.out.mono ?_;rintro e w7 ⟨u,rfl,hu,j7⟩;have HU:Hid (az w7 w.heap.size u (cZ t2)):=hu.lower (af bR.out ov.out).size;have LF:Hid (Below w.heap.size w w7):=af (af bR.out ov.out) j7;obtain⟨m0,m1,m2,m3,m4⟩:=fN.out w7 (af ov.out j7);clear hu j7)
  | (go_at_call 63;refine VH.out.mono ?_;rintro e w6 ⟨ua,un,uc,rfl,eM,Yg⟩;have ov:Hid (Below W.heap.size W w6):=af fY.out eM;have HL6:Hid (Calls prog 16 #[.agg #[J Jq n2.k,J Jq n2.w,J Jq n2.h,J Jq n2.i,Jj ua un uc]] w6 fun e w''=>∃u,e=Jz u/\az w'' w6.heap.size u (cZ t2)/\Below w6.heap.size w6 w''):=Yg;obtain⟨m0,m1,m2,m3,m4⟩:=fN.out w6 ov.out;clear eM Yg)
  | (go_at_call 63;refine VG.out.mono ?_;rintro e w5 ⟨ta,tn,tc,rfl,cd,f5,q7⟩;have fY:Hid (Below W.heap.size W w5):=cd;have VH:Hid (Calls prog 63 #[.agg #[J Jq n1.k,J Jq n1.w,J Jq n1.h,J Jq n1.i,Jj ta tn tc],J Jq 3,J Jq (b-nn.h)] w5 fun e w'=>∃ua un uc,e=Jz (.agg #[J Jq n2.k,J Jq n2.w,J Jq n2.h,J Jq n2.i,Jj ua un uc])/\Below w5.heap.size w5 w'/\Calls prog 16 #[.agg #[J Jq n2.k,J Jq n2.w,J Jq n2.h,J Jq n2.i,Jj ua un uc]] w' fun e w''=>∃u,e=Jz u/\az w'' w'.heap.size u (cZ t2)/\Below w'.heap.size w' w''):=j6.out w5 f5 ta tn tc q7;obtain⟨m0,m1,m2,m3,m4⟩:=fN.out w5 cd;clear cd q7))
 all_goals go_wp2
 all_goals go_ret2
 all_goals exact⟨u,rfl,HU.out,LF.out⟩
def jD (w:World)(B:Nat)(v:Value)(ns:List Node):Prop:=∃cs fs,w.ownsRow B 53 5 v ns.length cs/\aY w ns cs fs/\∀g,v.ownBlock=I g->g ∉ fs
theorem jD.nil (w:World)(B:Nat):jD w B (Jj O 0 0) []:=⟨[],[],World.ownsRow_nil _ _ _ _,⟨rfl,rfl⟩,fun g h=>by simp⟩
theorem jD.below {w w':World}{B:Nat}{v:Value}{ns:List Node}(h:jD w B v ns)(hb:Below w.heap.size w w'):jD w' B v ns:=by
 obtain⟨cs,fs,h1,h2,h3⟩:=h
 exact⟨cs,fs,dE h1 fun q hq=>hb.block q (iD h1 q hq),h2.below hb,h3⟩
theorem jD.sl {w:World}{B:Nat}{v:Value}{ns:List Node}(h:jD w B v ns):∃a c,v=Jj a ns.length c:=by
 obtain⟨cs,fs,h1,_⟩:=h
 exact dG h1
theorem jD.lt {w:World}{B:Nat}{v:Value}{ns:List Node}(h:jD w B v ns):∀g,v.ownBlock=I g->B<=g/\g < w.heap.size:=by
 obtain⟨cs,fs,h1,_⟩:=h
 exact World.ownsRow.lt h1
theorem jD.in_ {w:World}{B:Nat}{v:Value}{ns:List Node}(h:jD w B v ns)(k wd ht i:Int):∃fp,(Node.mk k wd ht i ns).In w v fp:=by
 obtain⟨cs,fs,h1,h2,h3⟩:=h
 refine⟨v.ownBlock.toList++fs,cs,fs,⟨h1.1,?_⟩,h2,rfl⟩
 rcases h1.2 with h0 | ⟨g,cap,cur,rfl,hb,r⟩
 . exact .inl h0
 . exact .inr ⟨g,cap,cur,rfl,Nat.zero_le _,r⟩
theorem jD.grow {w W w':World}{B:Nat}{v v':Value}{ns ms:List Node}(h:jD w B v ns)(hW:Below w.heap.size w W){ds:List Value}{gs:List Nat}(hm:aY w ms ds gs)(hd:∀g,v.ownBlock=I g->g ∉ gs)(h1:∀cs,W.ownsRow B 53 5 v ns.length cs->w'.ownsRow B 53 5 v' (ns.length+ms.length) (cs++ds))(h2:W.grownBy w' v.ownBlock)(h3:v'.ownBlock=v.ownBlock\/∃g,v'.ownBlock=I g/\w.heap.size<=g):jD w' B v' (ns++ms):=by
 obtain⟨cs,fs,a1,a2,a3⟩:=h
 have hk:∀q,q < w.heap.size->I q≠v.ownBlock->w'.heap[q]?=w.heap[q]?:=fun q hq hn=>(h2.block q (Nat.lt_of_lt_of_le hq hW.size) hn).trans (hW.block q hq)
 refine⟨cs++ds,fs++gs,?_,?_,fun g hg bE=> ?_⟩
 . rw[List.length_append]
   exact h1 cs (dE a1 fun q hq=>hW.block q (iD a1 q hq))
 . exact (a2.keep fun q hq=>hk q (a2.lt q hq) fun e=>a3 q e.symm hq).append (hm.keep fun q hq=>hk q (hm.lt q hq) fun e=>hd q e.symm hq)
 . rcases h3 with h3 | ⟨g',h3,be⟩
   . rw[h3] at hg
     rcases List.mem_append.1 bE with h | h
     . exact a3 g hg h
     . exact hd g hg h
   . rw[h3] at hg
     cases hg
     rcases List.mem_append.1 bE with h | h
     . have:=a2.lt g h
       omega
     . have:=hm.lt g h
       omega
theorem Ba {w:World}{B s:Nat}{e:TypeId}{v:Value}{n:Nat}{cs cs':List Value}(h:w.ownsRow B e s v n cs)(h':w.ownsRow B e s v n cs'):cs=cs':=by
 rcases h.2 with ⟨h0,h1⟩ | ⟨g,cap,cur,hv,hb,hg,r1,r2,r3,r4⟩
 . have l1:=h.1
   have l2:=h'.1
   rw[h1,Nat.zero_mul] at l1 l2
   rw[List.length_eq_zero_iff.1 l1,List.length_eq_zero_iff.1 l2]
 . rcases h'.2 with ⟨h0,h1⟩ | ⟨g',cap',cur',il,cC,me,s1,s2,s3,s4⟩
   . rw[hv] at h0
     cases h0
   . rw[hv] at il
     cases il
     rw[hg] at me
     cases me
     rw[<- r4,<- s4]
theorem jd {ops:Array Oper}{rest:List Oper}{o:Oper}{a:Act}{Q:Exit->Act->World->Prop}(w:World)(e9:o.guard=O)(s x:Operand)
 (ho:o.op=.call { callee:=.builtin .append,args:=#[s,x],argTypes:=#[51,51] })
 (B:Nat) (v:Value) (m:Nat) (cs:List Value) (n:Node) (sa:Option Addr) (sn sc:Nat) (hs:a.eval s=v) (bm:w.ownsRow B 53 5 v m cs) (hx:a.eval x=Jj (I ⟨w.heap.size,0,O⟩) 1 1) (hlen:m<=1000000) (hB:B<=w.heap.size)
 (h:∀v' w',(∀cs,(w.alloc (.cells (aC n (Jj sa sn sc)) 53)).ownsRow B 53 5 v m cs->w'.ownsRow B 53 5 v' (m+1) (cs++fQ n (Jj sa sn sc)))->(w.alloc (.cells (aC n (Jj sa sn sc)) 53)).grownBy w' v.ownBlock->(v'.ownBlock=v.ownBlock\/∃g,v'.ownBlock=I g/\w.heap.size<=g)->(∃ra rc,v'=Jj ra (m+1) rc)->wpList prog ops Q rest (a.put o.dst v') w'):wpList prog ops Q (o::rest) a (w.alloc (.cells (aC n (Jj sa sn sc)) 53)):=by
 obtain⟨i0,hi,eh,db,cJ⟩:=bH eX
 refine wpList_append_own_at _ e9 s x 51 ho B 53 i0 _ 5 56 underlying51 hi eh db cJ rfl (by decide) v m cs hs (World.ownsRow.alloc bm _) ⟨w.heap.size,0,O⟩ 1 1 (fQ n (Jj sa sn sc)) hx rfl ?_ ?_ ?_ ?_ ?_ ?_
 . intro j u hu
   rw[show (⟨w.heap.size,0,O⟩:Addr).add j=⟨w.heap.size,j,O⟩ by unfold Addr.add;split <;> simp_all,dW,<- oQ]
   exact hu
 . intro u hu
   have ll:u∈[Value.int .i64 n.k,J Jq n.w,J Jq n.h,J Jq n.i,Jj sa sn sc]:=hu
   simp only[List.mem_cons,List.not_mem_nil,or_false] at ll
   rcases ll with rfl | rfl | rfl | rfl | rfl <;> rfl
 . unfold maxLen;omega
 . omega
 . have:(w.alloc (.cells (aC n (Jj sa sn sc)) 53)).heap.size=w.heap.size+1:=by simp
   omega
 . intro v' w' h2 h3 _ h5
   refine h v' w' (fun cs' Cx=> ?_) h3 ?_ (dG h2)
   . have:=Ba (World.ownsRow.alloc bm _) Cx
     subst this
     exact h2
   . rcases h5 with h5 | h5
     . exact .inl h5
     . exact .inr ⟨_,h5,by simp⟩
theorem qw {ops:Array Oper}{rest:List Oper}{o:Oper}{a:Act}{Q:Exit->Act->World->Prop}(w:World)(e9:o.guard=O)(s x:Operand)
 (ho:o.op=.call { callee:=.builtin .append,args:=#[s,x],argTypes:=#[51,51] })
 (B:Nat) (v:Value) (m:Nat) (cs:List Value) (hs:a.eval s=v) (bm:w.ownsRow B 53 5 v m cs) (u:Value) (l:Nat) (ys:List Value) (hx:a.eval x=u) (b8:w.ownsRow 0 53 5 u l ys) (co:∀y∈ys,y.oneCell'=true) (hlen:m+l<=1000000) (hB:B<=w.heap.size)
 (h:∀v' w',(∀cs,w.ownsRow B 53 5 v m cs->w'.ownsRow B 53 5 v' (m+l) (cs++ys))->w.grownBy w' v.ownBlock->(v'.ownBlock=v.ownBlock\/∃g,v'.ownBlock=I g/\w.heap.size<=g)->(∃ra rc,v'=Jj ra (m+l) rc)->wpList prog ops Q rest (a.put o.dst v') w'):wpList prog ops Q (o::rest) a w:=by
 obtain⟨i0,hi,eh,db,cJ⟩:=bH eX
 rcases b8.2 with ⟨h0,h1⟩ | ⟨g,cap,cur,hu,hb,hg,mx,my,GF,te⟩
 . subst h0 h1
   have hy:ys=[]:=List.length_eq_zero_iff.1 (by have:=b8.1;omega)
   subst hy
   refine wpList_append_own_none e9 s x 51 ho B 53 i0 5 underlying51 hi v m cs hs bm hx ?_
   exact h v w (fun cs' h'=>by simpa using h') ⟨rfl,rfl,rfl,Nat.le_refl _,fun _ _ _=>rfl⟩ (.inl rfl) (dG bm)
 . subst hu
   refine wpList_append_own_at _ e9 s x 51 ho B 53 i0 _ 5 56 underlying51 hi eh db cJ rfl (by decide) v m cs hs bm ⟨g,0,O⟩ l cap ys hx b8.1 (World.ownsRow.cells b8 rfl) co ?_ ?_ hB ?_
   . unfold maxLen;omega
   . omega
   . intro v' w' h2 h3 _ h5
     refine h v' w' (fun cs' Cx=> ?_) h3 ?_ (dG h2)
     . have:=Ba bm Cx
       subst this
       exact h2
     . rcases h5 with h5 | h5
       . exact .inl h5
       . exact .inr ⟨_,h5,Nat.le_refl _⟩
def kV (w:World)(B:Nat)(v:Value)(ns:List Node)(fs:List Nat):Prop:=∃cs,w.ownsRow B 53 5 v ns.length cs/\aY w ns cs fs/\∀g,v.ownBlock=I g->g ∉ fs
theorem kV.nil (w:World)(B:Nat):kV w B (Jj O 0 0) [] []:=⟨[],World.ownsRow_nil _ _ _ _,⟨rfl,rfl⟩,fun g h=>by simp⟩
theorem kV.below {w w':World}{B:Nat}{v:Value}{ns:List Node}{fs:List Nat}(h:kV w B v ns fs)(hb:Below w.heap.size w w'):kV w' B v ns fs:=by
 obtain⟨cs,h1,h2,h3⟩:=h
 exact⟨cs,dE h1 fun q hq=>hb.block q (iD h1 q hq),h2.below hb,h3⟩
theorem kV.lt {w:World}{B:Nat}{v:Value}{ns:List Node}{fs:List Nat}(h:kV w B v ns fs):∀g,v.ownBlock=I g->B<=g/\g < w.heap.size:=by
 obtain⟨cs,h1,_⟩:=h
 exact World.ownsRow.lt h1
theorem kV.in_ {w:World}{B:Nat}{v:Value}{ns:List Node}{fs:List Nat}(h:kV w B v ns fs)(k wd ht i:Int):(Node.mk k wd ht i ns).In w v (v.ownBlock.toList++fs):=by
 obtain⟨cs,h1,h2,h3⟩:=h
 refine⟨cs,fs,⟨h1.1,?_⟩,h2,rfl⟩
 rcases h1.2 with h0 | ⟨g,cap,cur,rfl,hb,r⟩
 . exact .inl h0
 . exact .inr ⟨g,cap,cur,rfl,Nat.zero_le _,r⟩
theorem kV.grow {w W w':World}{B:Nat}{v v':Value}{ns ms:List Node}{fs:List Nat}(h:kV w B v ns fs)(hW:Below w.heap.size w W){ds:List Value}{gs:List Nat}(hm:aY w ms ds gs)(hd:∀g,v.ownBlock=I g->g ∉ gs)(h1:∀cs,W.ownsRow B 53 5 v ns.length cs->w'.ownsRow B 53 5 v' (ns.length+ms.length) (cs++ds))(h2:W.grownBy w' v.ownBlock)(h3:v'.ownBlock=v.ownBlock\/∃g,v'.ownBlock=I g/\w.heap.size<=g):kV w' B v' (ns++ms) (fs++gs):=by
 obtain⟨cs,a1,a2,a3⟩:=h
 have hk:∀q,q < w.heap.size->I q≠v.ownBlock->w'.heap[q]?=w.heap[q]?:=fun q hq hn=>(h2.block q (Nat.lt_of_lt_of_le hq hW.size) hn).trans (hW.block q hq)
 refine⟨cs++ds,?_,?_,fun g hg bE=> ?_⟩
 . rw[List.length_append]
   exact h1 cs (dE a1 fun q hq=>hW.block q (iD a1 q hq))
 . exact (a2.keep fun q hq=>hk q (a2.lt q hq) fun e=>a3 q e.symm hq).append (hm.keep fun q hq=>hk q (hm.lt q hq) fun e=>hd q e.symm hq)
 . rcases h3 with h3 | ⟨g',h3,be⟩
   . rw[h3] at hg
     rcases List.mem_append.1 bE with h | h
     . exact a3 g hg h
     . exact hd g hg h
   . rw[h3] at hg
     cases hg
     rcases List.mem_append.1 bE with h | h
     . have:=a2.lt g h
       omega
     . have:=hm.lt g h
       omega
theorem yw (kd:Int)(n:Node)(sa:Option Addr)(sn sc:Nat)(f:List Nat)(B:Nat)(v:Value)(ns:List Node)(fs:List Nat)(w:World)(hO:kV w B v ns fs)(ab:n.In w (Jj sa sn sc) f)(hd:∀g,v.ownBlock=I g->g ∉ f)(hB:B<=w.heap.size)(hl:ns.length<=1000)(uE:n.ks.length<=1000):
 Calls prog 85 #[v,J Jq kd,.agg (aC n (Jj sa sn sc))] w fun e w'=>∃ra rn rc,e=Jz (Jj ra rn rc)/\(∃gs,(∀y∈gs,y∈f)/\kV w' B (Jj ra rn rc) (ns++bU kd n) (fs++gs))/\Below B w w':=by
 cases n with
 | mk k wd ht i ks=>
   have Ve:=hO
   obtain⟨cs,a1,a2,a3⟩:=hO
   obtain⟨va,vc,hv⟩:=dG a1
   subst hv
   obtain⟨cs2,fs2,b1,b2,b3⟩:=ab
   obtain⟨m,hm⟩:∃m,ns.length=m:=⟨_,rfl⟩
   change ks.length<=1000 at uE
   have am:∀q,(Value.slice va ns.length vc).ownBlock=I q->B<=q:=fun q hq=>(World.ownsRow.lt a1 q hq).1
   have wA:Hid (∀W w',Below w.heap.size w W->W.grownBy w' (Value.slice va ns.length vc).ownBlock->Below B w w'):=fun W w' h0 hg=>by
    exact⟨hg.os.trans h0.os,hg.tape.trans h0.tape,hg.output.trans h0.output,Nat.le_trans h0.size hg.size,fun q hq=>(hg.block q (by have:=h0.size;omega) fun e=>by have:=am q e.symm;omega).trans (h0.block q (by omega))⟩
   obtain⟨R,hR⟩:∃R,bU kd (.mk k wd ht i ks)=R:=⟨_,rfl⟩
   rw[hR]
   show Calls prog 85 #[Jj va ns.length vc,J Jq kd,.agg #[J Jq k,J Jq wd,J Jq ht,J Jq i,Jj sa sn sc]] w fun e w'=>∃ra rn rc,e=Jz (Jj ra rn rc)/\(∃gs,(∀y∈gs,y∈f)/\kV w' B (Jj ra rn rc) (ns++R) (fs++gs))/\Below B w w'
   by_cases hk:k=kd
   . have kl:(k==kd)=true:=by simpa using hk
     obtain⟨L,hL⟩:∃L,ks.length=L:=⟨_,rfl⟩
     rw[hL] at b1 uE
     have eN:Hid (∀o,(w.alloc o).ownsRow B 53 5 (Jj va ns.length vc) ns.length cs/\(w.alloc o).ownsRow 0 53 5 (Jj sa sn sc) L cs2):=fun o=>⟨a1.alloc o,b1.alloc o⟩
     have cB:=zh b2.oneCell
     have bA:Hid (∀o v' w',(∀cs,(w.alloc o).ownsRow B 53 5 (Jj va ns.length vc) ns.length cs->w'.ownsRow B 53 5 v' (ns.length+L) (cs++cs2))->(w.alloc o).grownBy w' (Value.slice va ns.length vc).ownBlock->(v'.ownBlock=(Value.slice va ns.length vc).ownBlock\/∃g,v'.ownBlock=I g/\(w.alloc o).heap.size<=g)->(∃gs,(∀y∈gs,y∈f)/\kV w' B v' (ns++R) (fs++gs))/\Below B w w'):=fun o v' w' h1 h2 h3=>by
      have h0:Below w.heap.size w (w.alloc o):=(Below.refl _ _).alloc (Nat.le_refl _) o
      rw[show R=ks by rw[<- hR];exact if_pos hk]
      refine⟨⟨fs2,fun y hy=>by rw[b3];exact List.mem_append_right _ hy,Ve.grow h0 b2 (fun g hg e=>hd g hg (by rw[b3];exact List.mem_append_right _ e)) (fun cs' h'=>by rw[hL];exact h1 cs' h') h2 ?_⟩,wA.out _ w' h0 h2⟩
      rcases h3 with h3 | ⟨g,h3,be⟩
      . exact .inl h3
      . exact .inr ⟨g,h3,Nat.le_trans h0.size be⟩
     have fg:Hid (∀o,B<=(w.alloc o).heap.size):=fun o=>by
      show B<=_
      have:(w.alloc o).heap.size=w.heap.size+1:=by simp
      omega
     rw[hm] at eN bA hl ⊢
     clear hk a1 a2 a3 b1 b2 b3 Ve hd am hm hL hR wA
     go_enter func85,ntmps85
     go_wp2_with (at_builtin;refine qw _ rfl (.tmp 11) (.tmp 13) rfl B (Jj va m vc) m cs rfl (eN.out _).1 (Jj sa sn sc) L cs2 rfl (eN.out _).2 cB.out ?x1 (fg.out _) ?_;(case x1=>omega);intro v' w6 a1 a2 a3 a4;have he:=bA.out _ v' w6 a1 a2 a3;obtain⟨ra,rc,il⟩:=a4;subst il;have rT:Hid ((∃gs,(∀y∈gs,y∈f)/\kV w6 B (Jj ra (m+L) rc) (ns++R) (fs++gs))/\Below B w w6):=he;clear a1 a2 a3 he)
     go_ret
     exact⟨_,_,_,rfl,rT.out.1,rT.out.2⟩
   . have kl:(k==kd)=false:=by simpa using hk
     have eN:Hid (∀o,(w.alloc o).ownsRow B 53 5 (Jj va ns.length vc) ns.length cs):=fun o=>a1.alloc o
     have fg:Hid (∀o,B<=(w.alloc o).heap.size):=fun o=>by
      show B<=_
      have:(w.alloc o).heap.size=w.heap.size+1:=by simp
      omega
     have bA:Hid (∀o v' w',(∀cs,((w.alloc o).alloc (.cells (aC (.mk k wd ht i ks) (Jj sa sn sc)) 53)).ownsRow B 53 5 (Jj va ns.length vc) ns.length cs->w'.ownsRow B 53 5 v' (ns.length+1) (cs++fQ (.mk k wd ht i ks) (Jj sa sn sc)))->((w.alloc o).alloc (.cells (aC (.mk k wd ht i ks) (Jj sa sn sc)) 53)).grownBy w' (Value.slice va ns.length vc).ownBlock->(v'.ownBlock=(Value.slice va ns.length vc).ownBlock\/∃g,v'.ownBlock=I g/\(w.alloc o).heap.size<=g)->(∃gs,(∀y∈gs,y∈f)/\kV w' B v' (ns++R) (fs++gs))/\Below B w w'):=fun o v' w' h1 h2 h3=>by
      have r7:(w.alloc o).heap.size=w.heap.size+1:=by simp
      have h0:Below w.heap.size w ((w.alloc o).alloc (.cells (aC (.mk k wd ht i ks) (Jj sa sn sc)) 53)):=((Below.refl _ _).alloc (Nat.le_refl _) o).alloc (by omega) _
      rw[show R=[.mk k wd ht i ks] by rw[<- hR];exact if_neg hk]
      have B7:aY w [.mk k wd ht i ks] (fQ (.mk k wd ht i ks) (Jj sa sn sc)) f:=⟨Jj sa sn sc,[],f,[],by simp,⟨cs2,fs2,b1,b2,b3⟩,⟨rfl,rfl⟩,by simp⟩
      refine⟨⟨f,fun y hy=>hy,Ve.grow h0 B7 hd h1 h2 ?_⟩,wA.out _ w' h0 h2⟩
      rcases h3 with h3 | ⟨g,h3,be⟩
      . exact .inl h3
      . exact .inr ⟨g,h3,by omega⟩
     rw[hm] at eN bA hl ⊢
     clear hk a1 a2 a3 b1 b2 b3 Ve hd am hm hR wA
     go_enter func85,ntmps85
     go_wp2_with (at_builtin;refine jd (w.alloc (JZ #[J Jq k,J Jq wd,J Jq ht,J Jq i,Jj sa sn sc] 53)) rfl (.tmp 15) (.tmp 17) rfl B (Jj va m vc) m cs (.mk k wd ht i ks) sa sn sc ?y1 (eN.out _) ?y2 ?x1 (fg.out _) ?_;(case y1=>rfl);(case y2=>simp[Act.eval]);(case x1=>omega);intro v' w6 a1 a2 a3 a4;have he:=bA.out _ v' w6 a1 a2 a3;obtain⟨ra,rc,il⟩:=a4;subst il;have rT:Hid ((∃gs,(∀y∈gs,y∈f)/\kV w6 B (Jj ra (m+1) rc) (ns++R) (fs++gs))/\Below B w w6):=he;clear a1 a2 a3 he)
     go_ret
     exact⟨_,_,_,rfl,rT.out.1,rT.out.2⟩
theorem MK {w w5:World}{v:Value}{fp:List Nat}{l:List aj}{t t1:Tree}{k z n id:Int}{bf:Bool}(hF:wU l t t1 k z n id bf)(hA:t1.At w5 0 v fp)(aE:fp.Nodup)(be:∀q∈fp,w.heap.size<=q)(hb:Below w.heap.size w w5):
 Calls prog 43 #[J Jq k,Jj (I ⟨w5.heap.size+1,0,O⟩) 2 2] ((w5.alloc (.cells (wV (dh t k n) id) 49)).alloc (.cells (if bf then #[aZ w5.heap.size,v] else #[v,aZ w5.heap.size]) 70)) fun e w'=>e=Jz (JJ (I ⟨w5.heap.size+1+1,0,O⟩))/\Calls prog 15 #[dA (w5.heap.size+1+1)] w' fun e w''=>∃u,e=Jz u/\az w'' w.heap.size u (cZ (eF k bf t1 (.leaf (dh t k n) id)))/\Below w.heap.size w w'':=by
 have hB:=hF.beside
 have hz:=lay_size hF.lay
 have db:=hF.z1
 obtain⟨lf,Br⟩:∃x,Tree.leaf (dh t k n) id=x:=⟨_,rfl⟩
 obtain⟨A,Ys⟩:∃o,Obj.cells (wV (dh t k n) id) 49=o:=⟨_,rfl⟩
 obtain⟨C,hC⟩:∃o,Obj.cells (if bf then #[aZ w5.heap.size,v] else #[v,aZ w5.heap.size]) 70=o:=⟨_,rfl⟩
 have s1:(w5.alloc A).heap.size=w5.heap.size+1:=by simp
 have s2:((w5.alloc A).alloc C).heap.size=w5.heap.size+1+1:=by simp
 have b1:Below w5.heap.size w5 (w5.alloc A):=(Below.refl _ _).alloc (Nat.le_refl _) _
 have b2:Below w5.heap.size w5 ((w5.alloc A).alloc C):=b1.alloc (by omega) _
 rw[Ys,hC]
 obtain⟨W,hW⟩:∃W,(w5.alloc A).alloc C=W:=⟨_,rfl⟩
 rw[hW] at s2 b2 ⊢
 have Bs:bD W w5.heap.size (dh t k n) id:=by
  rw[<- hW,bD,Ys]
  exact (Below.heap_alloc _ _ _ (by omega)).trans (heap_alloc_new _ _)
 have br:∀(i:Nat) u,(if bf then [aZ w5.heap.size,v] else [v,aZ w5.heap.size])[i]?=I u->W.cell? ⟨w5.heap.size+1,i,O⟩=I u:=by
  intro i u hu
  have h:=heap_alloc_new (w5.alloc A) C
  rw[s1,hW,<- hC] at h
  rw[ae h]
  cases bf <;> simpa using hu
 have VR:=hA.below b2
 have hLW:(Tree.leaf (dh t k n) id).At W 0 (aZ w5.heap.size) [w5.heap.size]:=⟨_,rfl,Bs,rfl⟩
 have Sl:t1.fine:=jH t1 hF.k1 (by omega)
 obtain⟨u,f,hu,yr,aL⟩:=wP (k:=k) VR Sl hF.s1
 have UT:lf.sound=true:=by
  rw[<- Br]
  exact (nJ (bZ (dB k bf t1 (.leaf (dh t k n) id)) k) k _ (by
   have:=hB.sound
   unfold eF Tree.sound at this
   simp only[Bool.and_eq_true,decide_eq_true_eq] at this
   exact this.2.1) (.leaf (dh t k n) id) (by unfold dB;cases bf <;> simp)).1
 obtain⟨u2,f2,Mg,Mh,_⟩:=wP (k:=k) (t:=.leaf (dh t k n) id) hLW trivial (by rw[Br];exact UT)
 have VS:u2=[aZ w5.heap.size]:=Mg.no rfl
 subst VS
 have hf2:f2=[w5.heap.size]:=by
  obtain⟨v',vs',f',f'',e,⟨g,e1,_,e2⟩,⟨e4,e5⟩,e6⟩:=Mh
  rw[e6,e2,e5]
  cases e
  cases e1
  rfl
 subst hf2
 have Sm:∀{ps bs:List Tree} {xs ys:List Value} {fs gs:List Nat},aB W 0 ps xs fs->aB W 0 bs ys gs->aB W 0 (ps++bs) (xs++ys) (fs++gs):=by
  intro ps
  induction ps with
  | nil=>
    intro bs xs ys fs gs h1 h2
    obtain⟨rfl,rfl⟩:=h1
    exact h2
  | cons a ps ih=>
    intro bs xs ys fs gs h1 h2
    obtain⟨v,vs',f,f',rfl,h3,h4,rfl⟩:=h1
    exact⟨v,vs'++ys,f,f'++gs,rfl,h3,ih h4 h2,by rw[List.append_assoc]⟩
 have Gb:∀q∈f,q < w5.heap.size:=fun q hq=>hA.lt q (aL.subset hq)
 have tG:∃fs,aB W 0 (dB k bf t1 (.leaf (dh t k n) id)) (if bf then [[aZ w5.heap.size],u] else [u,[aZ w5.heap.size]]).flatten fs/\fs.Nodup/\(∀q∈fs,q<=w5.heap.size/\w.heap.size<=q):=by
  have td:f.Nodup:=aL.nodup aE
  have hw5:w.heap.size<=w5.heap.size:=hb.size
  cases bf with
  | true=>
    refine⟨[w5.heap.size]++f,?_,?_,?_⟩
    . show aB W 0 ([.leaf (dh t k n) id]++iw k t1) ([[aZ w5.heap.size],u]).flatten _
      have:=Sm (ps:=[.leaf (dh t k n) id]) (xs:=[aZ w5.heap.size]) Mh yr
      simpa using this
    . refine List.nodup_cons.2 ⟨fun h=> ?_,td⟩
      have:=Gb _ h
      omega
    . intro q hq
      rcases List.mem_append.1 hq with h | h
      . have:q=w5.heap.size:=by simpa using h
        omega
      . have h1:=Gb q h
        have h2:=be q (aL.subset h)
        omega
  | false=>
    refine⟨f++[w5.heap.size],?_,?_,?_⟩
    . show aB W 0 (iw k t1++[.leaf (dh t k n) id]) ([u,[aZ w5.heap.size]]).flatten _
      have:=Sm yr (bs:=[.leaf (dh t k n) id]) (ys:=[aZ w5.heap.size]) Mh
      simpa using this
    . refine List.nodup_append.2 ⟨td,by simp,fun a ha b cC e=> ?_⟩
      have h1:=Gb a ha
      have:b=w5.heap.size:=by simpa using cC
      omega
    . intro q hq
      rcases List.mem_append.1 hq with h | h
      . have h1:=Gb q h
        have h2:=be q (aL.subset h)
        omega
      . have:q=w5.heap.size:=by simpa using h
        omega
 obtain⟨fs,hP,VT,Mi⟩:=tG
 have a7:=hB.ne
 obtain⟨c,cs,Bu⟩:∃c cs,dB k bf t1 (.leaf (dh t k n) id)=c::cs:=by
  cases h:dB k bf t1 (.leaf (dh t k n) id) with
  | nil=>exact absurd h a7
  | cons c cs=>exact⟨c,cs,rfl⟩
 have kq:=hB.small
 have hj:=BI k hF.kind (w5.heap.size+1) 2 2 (if bf then [aZ w5.heap.size,v] else [v,aZ w5.heap.size]) (if bf then [[aZ w5.heap.size],u] else [u,[aZ w5.heap.size]]) fs (if bf then [.leaf (dh t k n) id,t1] else [t1,.leaf (dh t k n) id]) c cs W br (by
  intro i x hx
  cases bf with
  | true=>
    match i,hx with
    | 0,hx=>cases hx;exact⟨_,_,rfl,rfl,Mg⟩
    | 1,hx=>cases hx;exact⟨_,_,rfl,rfl,hu⟩
  | false=>
    match i,hx with
    | 0,hx=>cases hx;exact⟨_,_,rfl,rfl,hu⟩
    | 1,hx=>cases hx;exact⟨_,_,rfl,rfl,Mg⟩) (by rw[<- Bu];exact hP) (by rw[<- Bu];exact kq) (by cases bf <;> rfl) (by cases bf <;> rfl) (by decide)
 rw[s2] at hj
 refine hj.mono ?_
 rintro e w' ⟨sl,he,hS,hO,nF⟩
 refine⟨he,?_⟩
 have cd:Below w.heap.size w w':=af (af hb b2) (nF.mono (by omega))
 rw[<- Bu] at hS
 have Gc:Below W.heap.size W w':=nF.mono (by omega)
 have bq:(eF k bf t1 (.leaf (dh t k n) id)).At w' 0 (dA (w5.heap.size+1+1)) ((w5.heap.size+1+1)::(sl.ownBlock.toList++fs)):=by
  refine⟨w5.heap.size+1+1,sl,_,fs,rfl,hS,?_,hP.below Gc,rfl⟩
  rcases hO with ⟨a,b | ⟨g,cap,cur,e,_,c⟩⟩
  . exact⟨a,.inl b⟩
  . exact⟨a,.inr ⟨g,cap,cur,e,Nat.zero_le _,c⟩⟩
 have bm:∀q∈sl.ownBlock.toList,w5.heap.size+1+1+1<=q:=fun q hq=>(World.ownsRow.lt hO q (by simpa using hq)).1
 refine wW cd (But.refl _ _) (fun q hq=> ?_) ?_ bq hB.sound hB.kinds (by have:=hB.size;omega)
 . have:=hb.size
   rcases List.mem_cons.1 hq with h | h
   . omega
   . rcases List.mem_append.1 h with h | h
     . have:=bm q h
       omega
     . exact (Mi q h).2
 . refine List.nodup_cons.2 ⟨fun h=> ?_,List.nodup_append.2 ⟨?_,VT,fun a ha b cC e=> ?_⟩⟩
   . rcases List.mem_append.1 h with h | h
     . have:=bm _ h
       omega
     . have:=(Mi _ h).1
       omega
   . cases sl.ownBlock <;> simp
   . have h1:=bm a ha
     have h2:=(Mi b cC).1
     omega
theorem Ja (v:Value)(l:List aj)(k z id:Int)(bf:Bool)(w:World)(h:ay w v l)(hF:aT l=O):Calls prog 19 #[v,J Jq k,J Jq z,.bool bf,J Jq id] w (dZ 40 [] w):=by
 have HR:=zh (wG v l w h hF)
 clear h hF
 go_enter func19,ntmps19
 go_wp2_with fail
 refine HR.out.mono ?_
 rintro e w1 ⟨rfl,hb⟩
 unfold eH
 go_wp2
 go_ret2
 exact⟨_,rfl,World.ownsRow_nil _ _ _ _,hb⟩
theorem MB (v:Value)(l:List aj)(k z id:Int)(bf:Bool)(w:World)(h:ay w v l){t:Tree}(hF:aT l=I t)(hk:¬(k=2\/k=3)):Calls prog 19 #[v,J Jq k,J Jq z,.bool bf,J Jq id] w (dZ 1 [] w):=by
 have HR:=zh (dQ v l w h hF)
 have HC:Hid (∀W,Calls prog 36 #[J Jq k] W fun e w'=>e=Jz (.bool false)/\W=w'):=fun W=>(decide_eq_false hk) ▸ fE k W
 clear h hF hk
 go_enter func19,ntmps19
 go_wp2_with fail
 refine HR.out.mono ?_
 rintro e w1 ⟨T,g,fp,rfl,bq,aE,be,hb⟩
 have HB:=zh hb
 clear bq aE be hb HR
 go_wp2_with fail
 refine (HC.out _).mono ?_
 rintro e w2 ⟨rfl,rfl⟩
 go_wp2
 go_ret2
 exact⟨_,rfl,World.ownsRow_nil _ _ _ _,HB.out⟩
theorem Jb (v:Value)(l:List aj)(k z id:Int)(bf:Bool)(w:World)(h:ay w v l){t:Tree}(hF:aT l=I t)(hk:k=2\/k=3)(er:Int)(vB:jF l id=er)(h0:er≠0):Calls prog 19 #[v,J Jq k,J Jq z,.bool bf,J Jq id] w (dZ er [] w):=by
 have HR:=zh (dQ v l w h hF)
 have HC:Hid (∀W,Calls prog 36 #[J Jq k] W fun e w'=>e=Jz (.bool true)/\W=w'):=fun W=>(decide_eq_true hk) ▸ fE k W
 have ko:=(iM (by rw[hF];rfl:(aT l).isSome=true)).1
 have HJ:Hid (∀X,Below w.heap.size w X->Calls prog 37 #[v,J Jq id] X fun e w'=>e=Jz (J Jq er)/\Below X.heap.size X w'):=fun X hX=>vB ▸ iY v l id X (h.below hX) (by omega)
 have E6:(er != 0)=true:=by simpa using h0
 clear h hF hk vB h0 ko
 go_enter func19,ntmps19
 go_wp2_with fail
 refine HR.out.mono ?_
 rintro e w1 ⟨T,g,fp,rfl,bq,aE,be,hb⟩
 have HB:=zh hb
 clear bq aE be hb HR
 go_wp2_with fail
 refine (HC.out _).mono ?_
 rintro e w2 ⟨rfl,rfl⟩
 go_wp2_with fail
 refine (HJ.out _ HB.out).mono ?_
 rintro e w2 ⟨rfl,al⟩
 have aD:=zh (af HB.out al)
 clear al
 go_wp2
 go_ret2
 exact⟨_,rfl,World.ownsRow_nil _ _ _ _,aD.out⟩
theorem GM (v:Value)(l:List aj)(k z id:Int)(bf:Bool)(w:World)(h:ay w v l){t:Tree}(hF:aT l=I t)(hk:k=2\/k=3)(hj:jF l id=0)(hr:t.room k < 2):Calls prog 19 #[v,J Jq k,J Jq z,.bool bf,J Jq id] w (dZ 44 [] w):=by
 have HR:=zh (dQ v l w h hF)
 have HC:Hid (∀W,Calls prog 36 #[J Jq k] W fun e w'=>e=Jz (.bool true)/\W=w'):=fun W=>(decide_eq_true hk) ▸ fE k W
 have ko:=(iM (by rw[hF];rfl:(aT l).isSome=true)).1
 have HJ:Hid (∀X,Below w.heap.size w X->Calls prog 37 #[v,J Jq id] X fun e w'=>e=Jz (J Jq 0)/\Below X.heap.size X w'):=fun X hX=>hj ▸ iY v l id X (h.below hX) (by omega)
 have hl:=aV hF
 have hz:=lay_size hl
 obtain⟨r,kj⟩:∃r,t.room k=r:=⟨_,rfl⟩
 rw[kj] at hr
 have iS : Hid (∀ T g fp W, t.At W 0 (.iface T (JJ (I ⟨g, 0, O⟩))) fp → ∃ Fr, (∀ X, (method 286 T (JJ (I ⟨g, 0, O⟩)) "mullion/layout.room").run prog X = .ok (Fr, JJ (I ⟨g, 0, O⟩)) X) ∧ (∀ a c X, (callFunc Fr #[a, c]).run prog X = .ok (.enter Fr #[a, c]) X) ∧ Calls prog Fr #[JJ (I ⟨g, 0, O⟩), J Jq k] W fun e w' => e = Jz (J Jq r) ∧ W = w') := by
  intro T g fp W hA
  obtain⟨T',gi,Fr,hP⟩:=hA.Ea hl.sound (by omega)
  have hv:=hP.val
  cases hv
  exact⟨Fr,hP.mR,hP.fR,kj ▸ hP.cR k W (Below.refl _ _)⟩
 clear h hF hk hj ko hl hz kj
 go_enter func19,ntmps19
 go_wp2_with fail
 refine HR.out.mono ?_
 rintro e w1 ⟨T,g,fp,rfl,bq,aE,be,hb⟩
 have HB:=zh hb
 have j5:=zh bq
 clear bq aE be hb HR
 go_wp2_with fail
 refine (HC.out _).mono ?_
 rintro e w2 ⟨rfl,rfl⟩
 go_wp2_with fail
 refine (HJ.out _ HB.out).mono ?_
 rintro e w2 ⟨rfl,al⟩
 have aD:=zh (af HB.out al)
 obtain⟨Fr,m1,m2,hc⟩:=iS.out T g fp w2 (j5.out.below al)
 have sR:=zh hc
 clear al hc
 go_wp2_with fail
 refine sR.out.mono ?_
 rintro e w3 ⟨rfl,rfl⟩
 go_wp2
 go_ret2
 exact⟨_,rfl,World.ownsRow_nil _ _ _ _,aD.out⟩
theorem Jc (v:Value)(l:List aj)(a b:Int)(w:World)(h:ay w v l):Calls prog 24 #[v,J Jq a,J Jq b] w fun e w'=>∃u,e=Jz (.tuple #[u,J Jq (lV l a b)])/\az w' w.heap.size u (kE l a b)/\Below w.heap.size w w':=by
 have HR:=zh (pO v l w h)
 clear h
 go_enter func24,ntmps24
 go_wp2_with fail
 refine HR.out.mono ?_
 rintro e w1 (⟨hF,rfl,bj⟩ | ⟨t,T,g,fp,hF,rfl,bq,aE,be,bj⟩)
 . have HE:Hid (lV l a b=40/\kE l a b=[]):=Bv a b hF
   have HB:=zh bj
   unfold eH
   clear hF bj
   go_wp2
   go_ret2
   exact⟨_,by rw[HE.out.1];rfl,by rw[HE.out.2];exact World.ownsRow_nil _ _ _ _,HB.out⟩
 . have hl:=aV hF
   have hz:t.size<=63:=by
    have h1:=t.eu 0
    rw[hl.tell] at h1
    have h2:=(iM (by rw[hF];rfl:(aT l).isSome=true)).1
    omega
   have ao:=lK t 0 hl.kinds
   rw[hl.tell] at ao
   obtain⟨T',gi,Fw,hP⟩:=bq.GN hl.sound (by omega)
   have de:=hP.val
   cases de
   have m1:=hP.mW
   have m2:=hP.fW
   have iu:Hid (Calls prog Fw #[JJ (I ⟨g,0,O⟩),J Jq a] w1 (ng w1 (.iface T (JJ (I ⟨g,0,O⟩))) t a w1)):=hP.cW a w1 (Below.refl _ _)
   have vD:Hid (∀X,Below w1.heap.size w1 X->Calls prog Fw #[JJ (I ⟨g,0,O⟩),J Jq b] X (ng w1 (.iface T (JJ (I ⟨g,0,O⟩))) t b X)):=fun X hX=>hP.cW b X hX
   have VF:Hid (t.path a=O->lV l a b=42/\kE l a b=[]):=fun e=>wH a b hF fun k=>(dR t a).1 e (ao ▸ k.1)
   have UI:Hid (t.path b=O->lV l a b=42/\kE l a b=[]):=fun e=>wH a b hF fun k=>(dR t b).1 e (ao ▸ k.2)
   have bA:Hid (∀W gl1 gl2 ps1 ps2 s1 s2,Below w1.heap.size w1 W->t.path a=I ps1->Reach w1 (.iface T (JJ (I ⟨g,0,O⟩))) ps1 (aZ gl1) s1->t.path b=I ps2->Reach w1 (.iface T (JJ (I ⟨g,0,O⟩))) ps2 (aZ gl2) s2->(∃p,W.cell? ⟨gl1,4,O⟩=I (J Jq p))/\W.frozen? ⟨gl1,4,O⟩=false/\(∃p,(W.setCell ⟨gl1,4,O⟩ (J Jq b)).cell? ⟨gl2,4,O⟩=I (J Jq p))/\W.frozen? ⟨gl2,4,O⟩=false/\Calls prog 15 #[.iface T (JJ (I ⟨g,0,O⟩))] ((W.setCell ⟨gl1,4,O⟩ (J Jq b)).setCell ⟨gl2,4,O⟩ (J Jq a)) fun e w'=>∃u,e=Jz u/\az w' w.heap.size u (kE l a b)/\Below w.heap.size w w'):=fun W gl1 gl2 ps1 ps2 s1 s2 hW p1 r1 p2 r2=>MC hF bq aE be bj hW p1 r1 p2 r2
   have HZ:Hid (t.path a≠O->t.path b≠O->lV l a b=0):=fun k1 k2=>(wI a b hF (ao ▸ Classical.byContradiction fun e=>k1 ((dR t a).2 e)) (ao ▸ Classical.byContradiction fun e=>k2 ((dR t b).2 e))).1
   have cY:=zh bj
   clear hF bq aE be bj hl hz ao hP
   go_wp2_with fail
   refine iu.out.mono ?_
   rintro e w2 ⟨al,⟨hp,rfl⟩ | ⟨ps1,gl1,s1,sa,sn,sc,P3,UJ,rfl,A5⟩⟩
   . have HE:Hid (lV l a b=42/\kE l a b=[]):=VF.out hp
     have aD:=zh al
     clear al hp VF UI bA iu HZ
     go_wp2_with fail
     refine (vD.out _ aD.out).mono ?_
     rintro e w3 ⟨aM,⟨hp,rfl⟩ | ⟨ps2,gl2,s2,sa',sn',sc',j1,im,rfl,qT⟩⟩
     . have cQ:Hid (Below w.heap.size w w3):=af (af cY.out aD.out) aM
       clear aM hp
       go_wp2
       go_ret2
       exact⟨_,by rw[HE.out.1];rfl,by rw[HE.out.2];exact World.ownsRow_nil _ _ _ _,cQ.out⟩
     . have cQ:Hid (Below w.heap.size w w3):=af (af cY.out aD.out) aM
       clear aM j1 im qT
       go_wp2
       go_ret2
       exact⟨_,by rw[HE.out.1];rfl,by rw[HE.out.2];exact World.ownsRow_nil _ _ _ _,cQ.out⟩
   . have aD:Hid (Below w1.heap.size w1 w2):=al
     have E7:Hid (t.path a=I ps1/\Reach w1 (.iface T (JJ (I ⟨g,0,O⟩))) ps1 (aZ gl1) s1):=⟨P3,UJ⟩
     clear al P3 UJ A5 VF iu
     go_wp2_with fail
     refine (vD.out _ aD.out).mono ?_
     rintro e w3 ⟨aM,⟨hp,rfl⟩ | ⟨ps2,gl2,s2,sa',sn',sc',j1,im,rfl,qT⟩⟩
     . have cQ:Hid (Below w.heap.size w w3):=af (af cY.out aD.out) aM
       have HE:=zh (UI.out hp)
       clear aM hp bA HZ UI
       go_wp2
       go_ret2
       exact⟨_,by rw[HE.out.1];rfl,by rw[HE.out.2];exact World.ownsRow_nil _ _ _ _,cQ.out⟩
     . have cQ:Hid (Below w1.heap.size w1 w3):=af aD.out aM
       obtain⟨⟨p,c1⟩,f1,⟨p',c2⟩,f2,eE⟩:=bA.out w3 gl1 gl2 ps1 ps2 s1 s2 cQ.out E7.out.1 E7.out.2 j1 im
       have HL:=zh eE
       have HE:Hid (lV l a b=0):=HZ.out (by rw[E7.out.1];simp) (by rw[j1];simp)
       have f2':(w3.setCell ⟨gl1,4,O⟩ (J Jq b)).frozen? ⟨gl2,4,O⟩=false:=by rw[sZ];exact f2
       clear aM j1 im qT eE bA HZ UI E7 vD aD cQ f2
       go_wp2_with fail
       refine HL.out.mono ?_
       rintro e w4 ⟨u,rfl,hu,cv⟩
       have HU:=zh hu
       clear hu c1 c2 f1 f2' HL
       go_wp2
       go_ret2
       exact⟨u,by rw[HE.out];rfl,HU.out,cv⟩
end Go.Proofs.YtejlincnnonhaaaGreat
