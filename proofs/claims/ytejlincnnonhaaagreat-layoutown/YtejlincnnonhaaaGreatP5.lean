import Derived.Test.YtejlincnnonhaaaGreatP4
import Derived.Test.YtejlincnnonhaaaGreatRows
import Derived.Deep.Slices
import Derived.ChangeArms
import Derived.WideShapes
import Derived.Carry
import Derived.SizedLaws
namespace Go.Proofs.YtejlincnnonhaaaGreat
open Go.RowKit Go.Proofs.Tryz
open Value renaming int->J,slice->Jj,pointer->JJ
open IntKind renaming i64->Jq
open Option renaming none->O,some->I
open Ending renaming returned->Jz
open Obj renaming cells->JZ
set_option linter.unusedVariables false
set_option maxRecDepth 100000
set_option maxHeartbeats 16000000
open Go.RowKit Go.ChangeShapes Go.WideShapes
theorem xK {w:World}{a:Addr}{v:Value}(h:w.cell? a=some v):a.block < w.heap.size:=by
 rcases Nat.lt_or_ge a.block w.heap.size with h1 | h1
 . exact h1
 . simp[World.cell?,Array.getElem?_eq_none h1] at h
theorem vY:laidOutB prog=true:=by kernel_rfl
theorem Cf:prog.cellsOf 41=7:=by kernel_rfl
theorem JU:prog.bytesOf 41=56:=by kernel_rfl
theorem iL:prog.cellsOf 3=1:=by kernel_rfl
theorem H6 : prog.underlying 41 = some (.struct #[⟨"Depth", 3, 0, false, "", "", 0⟩, ⟨"Kind", 3, 1, false, "", "", 8⟩, ⟨"X", 3, 2, false, "", "", 16⟩, ⟨"Y", 3, 3, false, "", "", 24⟩, ⟨"W", 3, 4, false, "", "", 32⟩, ⟨"H", 3, 5, false, "", "", 40⟩, ⟨"Pane", 3, 6, false, "", "", 48⟩]) := by kernel_rfl
theorem ui:prog.underlying 23=some (.slice 41):=by kernel_rfl
theorem jy {n:Int}(h:(Lit.int .i64 n).wf=true): -9223372036854775808<=n/\n<=9223372036854775807:=by
 simp only[Lit.wf,Bool.and_eq_true,decide_eq_true_eq] at h
 have h1:IntKind.i64.min= -9223372036854775808:=by decide
 have h2:IntKind.i64.max=9223372036854775807:=by decide
 omega
def In64 (n:Int):Prop:= -9223372036854775808<=n/\n<=9223372036854775807
structure aj.Ok (c:aj):Prop where
 depth:In64 c.depth
 kind:In64 c.kind
 x:In64 c.x
 y:In64 c.y
 w:In64 c.w
 h:In64 c.h
 p:In64 c.p
set_option maxRecDepth 100000 in
theorem open_cell {H:Type}{enc:TypeId × Value->H}{W:World}{base:Nat}{spare:Nat->Bool}{held:Bool}{fuel:Nat}{cs:List Value}{x:DataW H × List MemPlace}(h:DataW.trod enc prog W base spare held fuel 41 cs=some x):
 ∃o:aj,cs=o.vals.toList/\x.2=[]/\o.Ok:=by
 obtain⟨xs,n,_,hx,hl,hlen,lk⟩:=DataW.trod_struct H6 h
 rw[Cf] at hl
 match cs,hl,xs,hlen with
 | [c0,c1,c2,c3,c4,c5,c6],_,[y0,y1,y2,y3,y4,y5,y6],_=>
   have t0:DataW.trod enc prog W base spare held n 3 [c0]=some y0:=by have h:=lk 0 _ rfl;simpa [iL] using h
   have t1:DataW.trod enc prog W base spare held n 3 [c1]=some y1:=by have h:=lk 1 _ rfl;simpa [iL] using h
   have t2:DataW.trod enc prog W base spare held n 3 [c2]=some y2:=by have h:=lk 2 _ rfl;simpa [iL] using h
   have t3:DataW.trod enc prog W base spare held n 3 [c3]=some y3:=by have h:=lk 3 _ rfl;simpa [iL] using h
   have t4:DataW.trod enc prog W base spare held n 3 [c4]=some y4:=by have h:=lk 4 _ rfl;simpa [iL] using h
   have t5:DataW.trod enc prog W base spare held n 3 [c5]=some y5:=by have h:=lk 5 _ rfl;simpa [iL] using h
   have t6:DataW.trod enc prog W base spare held n 3 [c6]=some y6:=by have h:=lk 6 _ rfl;simpa [iL] using h
   obtain⟨z0,e0,rfl,w0⟩:=DataW.trod_int underlying3 t0
   obtain⟨z1,e1,rfl,w1⟩:=DataW.trod_int underlying3 t1
   obtain⟨z2,e2,rfl,w2⟩:=DataW.trod_int underlying3 t2
   obtain⟨z3,e3,rfl,w3⟩:=DataW.trod_int underlying3 t3
   obtain⟨z4,e4,rfl,w4⟩:=DataW.trod_int underlying3 t4
   obtain⟨z5,e5,rfl,w5⟩:=DataW.trod_int underlying3 t5
   obtain⟨z6,e6,rfl,w6⟩:=DataW.trod_int underlying3 t6
   obtain rfl:=(List.cons.inj e0).1
   obtain rfl:=(List.cons.inj e1).1
   obtain rfl:=(List.cons.inj e2).1
   obtain rfl:=(List.cons.inj e3).1
   obtain rfl:=(List.cons.inj e4).1
   obtain rfl:=(List.cons.inj e5).1
   obtain rfl:=(List.cons.inj e6).1
   exact⟨⟨z0,z1,z2,z3,z4,z5,z6⟩,rfl,by rw[hx];rfl,⟨jy w0,jy w1,jy w2,jy w3,jy w4,jy w5,jy w6⟩⟩
theorem jJ (b o j:Nat):(⟨b,o,none⟩:Addr).add j=⟨b,o+j,none⟩:=by unfold Addr.add;split <;> simp_all
theorem nN (l:List aj):∀(j:Nat) (u:Value),(bz l)[j]?=some u->∃(i:Nat) (c:aj) (o:Nat),l[i]?=some c/\o < 7/\j=i*7+o/\c.vals[o]?=some u:=by
 induction l with
 | nil=>intro j u h;simp[bz] at h
 | cons a l ih=>
   intro j u h
   have hc:bz (a::l)=a.vals.toList++bz l:=rfl
   rw[hc] at h
   by_cases hj:j < 7
   . rw[List.getElem?_append_left (by show j < 7;exact hj)] at h
     exact⟨0,a,j,rfl,hj,by omega,by simpa using h⟩
   . rw[List.getElem?_append_right (by show 7<=j;omega)] at h
     obtain⟨i,c,o,h1,h2,h3,h4⟩:=ih (j-7) u h
     exact⟨i+1,c,o,by simpa using h1,h2,by omega,h4⟩
set_option maxRecDepth 100000 in
theorem H7 {H:Type}{enc:TypeId × Value->H}{W:World}{r:Reach}{b0 base:Nat}{spare:Nat->Bool}{held:Bool}{v:Value}{d:DataW H}{p:List MemPlace}(hv:Value.okWide prog W r b0 23 v)(h:DataW.Trod enc prog W base spare held 23 v d p):
 ∃l:List aj,ay W v l/\(v=.slice none 0 0\/∃a n c,v=.slice (some a) n c)/\(∀o∈l,o.Ok)/\(l=[]\/∃es sp,d=.slice es sp/\es.length=l.length)/\∀x∈p,x.block < W.heap.size:=by
 obtain⟨ad,len,cap,rfl⟩:=okWide_slice ui hv
 obtain⟨fuel,hf⟩:=h
 rcases Deep.open_slice ui hf with ⟨h0,hx⟩ | ⟨a,len',cap',m,n,D,Pl,h0,hb,hl,hm,ir,hx,c8⟩
 . simp[Value.cells] at h0
   obtain⟨rfl,rfl,rfl⟩:=h0
   simp only[Prod.mk.injEq] at hx
   obtain⟨rfl,rfl⟩:=hx
   exact⟨[],⟨_,_,rfl,Nat.le_refl _,.inl rfl⟩,.inl rfl,(fun e he=>absurd he List.not_mem_nil),.inl rfl,(fun x hx=>absurd hx List.not_mem_nil)⟩
 . simp[Value.cells] at h0
   obtain⟨rfl,rfl,rfl⟩:=h0
   simp only[Prod.mk.injEq] at hx
   obtain⟨rfl,rfl⟩:=hx
   have hlm:len<=m:=by rw[ir];split <;> omega
   rw[Cf] at c8 ⊢
   have each:∀i,i < m->∃o:aj,Pl i=[]/\o.Ok/\∀j,j < 7->W.cell? ((a.add (i*7)).add j)=o.vals[j]?:=fun i hi=>by
    obtain⟨cs',h1,h2⟩:=c8 i hi
    obtain⟨_,_,hcell⟩:=World.cells?_some h1
    obtain⟨ev,rfl,hx,hr⟩:=open_cell h2
    exact⟨ev,hx,hr,fun j hj=>by rw[hcell j hj,Array.getElem?_toList]⟩
   have py:∀x∈MemPlace.row a (m*7)++(List.range m).flatMap Pl,x.block < W.heap.size:=fun x hx=>by
    rcases List.mem_append.1 hx with hx | hx
    . obtain⟨i,hi,rfl⟩:=MemPlace.mem_row.1 hx
      obtain⟨ev,_,_,hc⟩:=each 0 (by omega)
      have h0:=xK ((hc 0 (by decide)).trans rfl)
      rw[Deep.add_add] at h0
      show a.block < W.heap.size
      simpa [Addr.add] using h0
    . obtain⟨i,hi,hx⟩:=List.mem_flatMap.1 hx
      obtain⟨ev,hp,_⟩:=each i (List.mem_range.1 hi)
      rw[hp] at hx
      cases hx
   haveI:Inhabited aj:=⟨⟨0,0,0,0,0,0,0⟩⟩
   obtain⟨E,Mz⟩:=Deep.choose_lt each
   have hlen:((List.range len).map E).length=len:=by rw[List.length_map,List.length_range]
   refine⟨(List.range len).map E,?_,.inr ⟨_,_,_,rfl⟩,?_,.inr ⟨_,_,rfl,by simp⟩,py⟩
   . by_cases hz:len=0
     . subst hz
       exact⟨_,_,rfl,Nat.zero_le _,.inl rfl⟩
     . obtain⟨b,off,spot⟩:=a
       have g0:=(Mz 0 (by omega)).2.2 0 (by decide)
       have Cd:spot=none:=by
        have:=World.cell?_spot (g0.trans rfl)
        simpa [Addr.add] using this
       subst Cd
       refine⟨_,_,by rw[hlen],by rw[hlen];omega,.inr ⟨b,off,rfl,fun j u hu=> ?_⟩⟩
       obtain⟨i,c,o,e1,e2,e3,e4⟩:=nN _ j u hu
       have hi:i < len:=by
        have:=(List.getElem?_eq_some_iff.1 e1).1
        rwa [hlen] at this
       have h2:=(Mz i (by omega)).2.2 o e2
       rw[jJ,jJ] at h2
       have hc:c=E i:=by
        have:((List.range len).map E)[i]?=some (E i):=by simp[hi]
        rw[this] at e1
        exact (Option.some.inj e1).symm
       subst hc
       rw[e3,<- Nat.add_assoc,h2,e4]
   . intro e he
     obtain⟨i,hi,rfl⟩:=List.mem_map.1 he
     exact (Mz i (by have:=List.mem_range.1 hi;omega)).2.1
theorem Ey {H:Type}{ts:List TypeId}{ds:List (DataW H)}(h:(DataW.weightsEach prog ts ds).all (·<=reachBytes)=true){l:List aj}{d:DataW H}(ht:ts[0]?=some 23)(hd:ds[0]?=some d)(hl:l=[]\/∃es sp,d=.slice es sp/\es.length=l.length):l.length*56<=140737488351232:=by
 rcases hl with rfl | ⟨es,sp,rfl,he⟩
 . simp
 . have:=sized_slice h ht hd ui
   rw[JU] at this
   simp only[reachBytes] at this
   have h2:l.length*56<=(es.length+sp.length)*56:=Nat.mul_le_mul_right _ (by omega)
   omega
theorem sU:prog.cellsOf 33=5:=by kernel_rfl
theorem oz:prog.cellsOf 4=1:=by kernel_rfl
theorem IV : prog.underlying 33 = I (.struct #[⟨"Pane", 3, 0, false, "", "", 0⟩, ⟨"Kind", 3, 1, false, "", "", 8⟩, ⟨"Size", 3, 2, false, "", "", 16⟩, ⟨"Before", 4, 3, false, "", "", 24⟩, ⟨"Id", 3, 4, false, "", "", 32⟩]) := by kernel_rfl
theorem GI:prog.cellsOf 35=8:=by kernel_rfl
theorem DY : prog.underlying 35 = some (.struct #[⟨"Kind", 3, 0, false, "", "", 0⟩, ⟨"Cut", 33, 1, false, "", "", 8⟩, ⟨"A", 3, 6, false, "", "", 48⟩, ⟨"B", 3, 7, false, "", "", 56⟩]) := by kernel_rfl
structure OpV where
 k:Int
 pane:Int
 kind:Int
 size:Int
 bf:Bool
 id:Int
 a:Int
 b:Int
def OpV.vals (o:OpV):Array Value:=#[.int .i64 o.k,.int .i64 o.pane,.int .i64 o.kind,.int .i64 o.size,.bool o.bf,.int .i64 o.id,.int .i64 o.a,.int .i64 o.b]
structure OpV.Ok (o:OpV):Prop where
 k:In64 o.k
 pane:In64 o.pane
 kind:In64 o.kind
 size:In64 o.size
 id:In64 o.id
 a:In64 o.a
 b:In64 o.b
set_option maxRecDepth 100000 in
theorem GK {H:Type}{enc:TypeId × Value->H}{W:World}{base:Nat}{spare:Nat->Bool}{held:Bool}{fuel:Nat}{cs:List Value}{x:DataW H × List MemPlace}(h:DataW.trod enc prog W base spare held fuel 35 cs=some x):
 ∃o:OpV,cs=o.vals.toList/\x.2=[]/\o.Ok:=by
 obtain⟨xs,n,_,hx,hl,hlen,lk⟩:=DataW.trod_struct DY h
 rw[GI] at hl
 match cs,hl,xs,hlen with
 | [c0,c1,c2,c3,c4,c5,c6,c7],_,[y0,y1,y6,y7],_=>
   have t0:DataW.trod enc prog W base spare held n 3 [c0]=some y0:=by have h:=lk 0 _ rfl;simpa [iL,oz,sU] using h
   have tc:DataW.trod enc prog W base spare held n 33 [c1,c2,c3,c4,c5]=some y1:=by have h:=lk 1 _ rfl;simpa [iL,oz,sU] using h
   have t6:DataW.trod enc prog W base spare held n 3 [c6]=some y6:=by have h:=lk 2 _ rfl;simpa [iL,oz,sU] using h
   have t7:DataW.trod enc prog W base spare held n 3 [c7]=some y7:=by have h:=lk 3 _ rfl;simpa [iL,oz,sU] using h
   obtain⟨ys,n',_,I2,YD,Uw,C3⟩:=DataW.trod_struct IV tc
   match ys,Uw with
   | [u1,u2,u3,u4,u5],_=>
     have t1:DataW.trod enc prog W base spare held n' 3 [c1]=some u1:=by have h:=C3 0 _ rfl;simpa [iL,oz] using h
     have t2:DataW.trod enc prog W base spare held n' 3 [c2]=some u2:=by have h:=C3 1 _ rfl;simpa [iL,oz] using h
     have t3:DataW.trod enc prog W base spare held n' 3 [c3]=some u3:=by have h:=C3 2 _ rfl;simpa [iL,oz] using h
     have t4:DataW.trod enc prog W base spare held n' 4 [c4]=some u4:=by have h:=C3 3 _ rfl;simpa [iL,oz] using h
     have t5:DataW.trod enc prog W base spare held n' 3 [c5]=some u5:=by have h:=C3 4 _ rfl;simpa [iL,oz] using h
     obtain⟨z0,e0,rfl,w0⟩:=DataW.trod_int underlying3 t0
     obtain⟨z1,e1,rfl,w1⟩:=DataW.trod_int underlying3 t1
     obtain⟨z2,e2,rfl,w2⟩:=DataW.trod_int underlying3 t2
     obtain⟨z3,e3,rfl,w3⟩:=DataW.trod_int underlying3 t3
     obtain⟨z4,e4,rfl⟩:=DataW.trod_bool underlying4 t4
     obtain⟨z5,e5,rfl,w5⟩:=DataW.trod_int underlying3 t5
     obtain⟨z6,e6,rfl,w6⟩:=DataW.trod_int underlying3 t6
     obtain⟨z7,e7,rfl,w7⟩:=DataW.trod_int underlying3 t7
     obtain rfl:=(List.cons.inj e0).1
     obtain rfl:=(List.cons.inj e1).1
     obtain rfl:=(List.cons.inj e2).1
     obtain rfl:=(List.cons.inj e3).1
     obtain rfl:=(List.cons.inj e4).1
     obtain rfl:=(List.cons.inj e5).1
     obtain rfl:=(List.cons.inj e6).1
     obtain rfl:=(List.cons.inj e7).1
     have hy:y1.2=[]:=by rw[I2];rfl
     exact⟨⟨z0,z1,z2,z3,z4,z5,z6,z7⟩,rfl,by rw[hx];simp[hy],⟨jy w0,jy w1,jy w2,jy w3,jy w5,jy w6,jy w7⟩⟩
set_option maxRecDepth 100000 in
theorem GG {H:Type}{enc:TypeId × Value->H}{W:World}{r:Reach}{b0 base:Nat}{spare:Nat->Bool}{held:Bool}{v:Value}{d:DataW H}{p:List MemPlace}(hv:Value.okWide prog W r b0 35 v)(h:DataW.Trod enc prog W base spare held 35 v d p):
 ∃o:OpV,v=.agg o.vals/\p=[]/\o.Ok:=by
 obtain⟨cs,rfl,hsz⟩:=okWide_struct DY hv
 obtain⟨fuel,hf⟩:=h
 obtain⟨o,h1,h2,h3⟩:=GK hf
 refine⟨o,?_,h2,h3⟩
 have:cs.toList=o.vals.toList:=by simpa [Value.cells] using h1
 rw[Array.toList_inj.1 this]
theorem xH:prog.underlying 22=some (.slice 35):=by kernel_rfl
def oD (l:List OpV):List Value:=l.flatMap fun o=>o.vals.toList
def MF (w:World)(v:Value)(l:List OpV):Prop:=∃(ad:Option Addr) (cap:Nat),v=.slice ad l.length cap/\l.length<=cap/\(l=[]\/∃(g o:Nat),ad=some ⟨g,o,none⟩/\∀(j:Nat) (u:Value),(oD l)[j]?=some u->w.cell? ⟨g,o+j,none⟩=some u)
theorem Bi (l:List OpV):∀(j:Nat) (u:Value),(oD l)[j]?=some u->∃(i:Nat) (c:OpV) (o:Nat),l[i]?=some c/\o < 8/\j=i*8+o/\c.vals[o]?=some u:=by
 induction l with
 | nil=>intro j u h;simp[oD] at h
 | cons a l ih=>
   intro j u h
   have hc:oD (a::l)=a.vals.toList++oD l:=rfl
   rw[hc] at h
   by_cases hj:j < 8
   . rw[List.getElem?_append_left (by show j < 8;exact hj)] at h
     exact⟨0,a,j,rfl,hj,by omega,by simpa using h⟩
   . rw[List.getElem?_append_right (by show 8<=j;omega)] at h
     obtain⟨i,c,o,h1,h2,h3,h4⟩:=ih (j-8) u h
     exact⟨i+1,c,o,by simpa using h1,h2,by omega,h4⟩
set_option maxRecDepth 100000 in
theorem Lr {H:Type}{enc:TypeId × Value->H}{W:World}{r:Reach}{b0 base:Nat}{spare:Nat->Bool}{held:Bool}{v:Value}{d:DataW H}{p:List MemPlace}(hv:Value.okWide prog W r b0 22 v)(h:DataW.Trod enc prog W base spare held 22 v d p):
 ∃l:List OpV,MF W v l/\(v=.slice none 0 0\/∃a n c,v=.slice (some a) n c)/\(∀o∈l,o.Ok)/\(l=[]\/∃es sp,d=.slice es sp/\es.length=l.length)/\∀x∈p,x.block < W.heap.size:=by
 obtain⟨ad,len,cap,rfl⟩:=okWide_slice xH hv
 obtain⟨fuel,hf⟩:=h
 rcases Deep.open_slice xH hf with ⟨h0,hx⟩ | ⟨a,len',cap',m,n,D,Pl,h0,hb,hl,hm,ir,hx,c8⟩
 . simp[Value.cells] at h0
   obtain⟨rfl,rfl,rfl⟩:=h0
   simp only[Prod.mk.injEq] at hx
   obtain⟨rfl,rfl⟩:=hx
   exact⟨[],⟨_,_,rfl,Nat.le_refl _,.inl rfl⟩,.inl rfl,(fun e he=>absurd he List.not_mem_nil),.inl rfl,(fun x hx=>absurd hx List.not_mem_nil)⟩
 . simp[Value.cells] at h0
   obtain⟨rfl,rfl,rfl⟩:=h0
   simp only[Prod.mk.injEq] at hx
   obtain⟨rfl,rfl⟩:=hx
   have hlm:len<=m:=by rw[ir];split <;> omega
   rw[GI] at c8 ⊢
   have each:∀i,i < m->∃o:OpV,Pl i=[]/\o.Ok/\∀j,j < 8->W.cell? ((a.add (i*8)).add j)=o.vals[j]?:=fun i hi=>by
    obtain⟨cs',h1,h2⟩:=c8 i hi
    obtain⟨_,_,hcell⟩:=World.cells?_some h1
    obtain⟨ev,rfl,hx,hr⟩:=GK h2
    exact⟨ev,hx,hr,fun j hj=>by rw[hcell j hj,Array.getElem?_toList]⟩
   have py:∀x∈MemPlace.row a (m*8)++(List.range m).flatMap Pl,x.block < W.heap.size:=fun x hx=>by
    rcases List.mem_append.1 hx with hx | hx
    . obtain⟨i,hi,rfl⟩:=MemPlace.mem_row.1 hx
      obtain⟨ev,_,_,hc⟩:=each 0 (by omega)
      have h0:=xK ((hc 0 (by decide)).trans rfl)
      rw[Deep.add_add] at h0
      show a.block < W.heap.size
      simpa [Addr.add] using h0
    . obtain⟨i,hi,hx⟩:=List.mem_flatMap.1 hx
      obtain⟨ev,hp,_⟩:=each i (List.mem_range.1 hi)
      rw[hp] at hx
      cases hx
   haveI:Inhabited OpV:=⟨⟨0,0,0,0,false,0,0,0⟩⟩
   obtain⟨E,Mz⟩:=Deep.choose_lt each
   have hlen:((List.range len).map E).length=len:=by rw[List.length_map,List.length_range]
   refine⟨(List.range len).map E,?_,.inr ⟨_,_,_,rfl⟩,?_,.inr ⟨_,_,rfl,by simp⟩,py⟩
   . by_cases hz:len=0
     . subst hz
       exact⟨_,_,rfl,Nat.zero_le _,.inl rfl⟩
     . obtain⟨b,off,spot⟩:=a
       have g0:=(Mz 0 (by omega)).2.2 0 (by decide)
       have Cd:spot=none:=by
        have:=World.cell?_spot (g0.trans rfl)
        simpa [Addr.add] using this
       subst Cd
       refine⟨_,_,by rw[hlen],by rw[hlen];omega,.inr ⟨b,off,rfl,fun j u hu=> ?_⟩⟩
       obtain⟨i,c,o,e1,e2,e3,e4⟩:=Bi _ j u hu
       have hi:i < len:=by
        have:=(List.getElem?_eq_some_iff.1 e1).1
        rwa [hlen] at this
       have h2:=(Mz i (by omega)).2.2 o e2
       rw[jJ,jJ] at h2
       have hc:c=E i:=by
        have:((List.range len).map E)[i]?=some (E i):=by simp[hi]
        rw[this] at e1
        exact (Option.some.inj e1).symm
       subst hc
       rw[e3,<- Nat.add_assoc,h2,e4]
   . intro e he
     obtain⟨i,hi,rfl⟩:=List.mem_map.1 he
     exact (Mz i (by have:=List.mem_range.1 hi;omega)).2.1
theorem MV:prog.bytesOf 35=64:=by kernel_rfl
theorem JR {H:Type}{ts:List TypeId}{ds:List (DataW H)}(h:(DataW.weightsEach prog ts ds).all (·<=reachBytes)=true){l:List OpV}{d:DataW H}{j:Nat}(ht:ts[j]?=some 22)(hd:ds[j]?=some d)(hl:l=[]\/∃es sp,d=.slice es sp/\es.length=l.length):l.length<=140737488351232:=by
 rcases hl with rfl | ⟨es,sp,rfl,he⟩
 . simp
 . have:=sized_slice h ht hd xH
   rw[MV] at this
   simp only[reachBytes] at this
   have h2:l.length*64<=(es.length+sp.length)*64:=Nat.mul_le_mul_right _ (by omega)
   omega
end Go.Proofs.YtejlincnnonhaaaGreat
