import Derived.Test.YtejlincnnonhaaaGreatP21
import Derived.BigQuiet
import Derived.Deep.Cut
namespace Go.Proofs.YtejlincnnonhaaaGreat
open Go.RowKit Go.Proofs.Tryz
open Value renaming int->J,slice->Jj,pointer->JJ
open IntKind renaming i64->Jq
open Option renaming none->O,some->I
open Ending renaming returned->Jz
open Obj renaming cells->JZ
set_option linter.unusedVariables false
set_option maxRecDepth 100000
set_option maxHeartbeats 16000000
theorem iq {w:World}{g:Nat}{o:Obj}(h:w.heap[g]?=I o):g < w.heap.size:=by
 rcases Nat.lt_or_ge g w.heap.size with h1 | h1
 . exact h1
 . rw[Array.getElem?_eq_none (by omega)] at h
   cases h
theorem Dc {w:World}{B s g n cap:Nat}{e:TypeId}{xs:List Value}(h:w.ownsRow B e s (Jj (I ⟨g,0,O⟩) n cap) n xs)(k:Nat)(hk:k < xs.length)(u:Value):(w.setCell ⟨g,k,O⟩ u).ownsRow B e s (Jj (I ⟨g,0,O⟩) n cap) n (xs.set k u):=by
 obtain⟨h0,h1⟩:=h
 refine⟨by rw[List.length_set];exact h0,?_⟩
 rcases h1 with ⟨h2,_⟩ | ⟨g',cap',cur,h2,h3,h4,h5,h6,h7,h8⟩
 . cases h2
 . cases h2
   have am:=iq h4
   have h':w.heap[g]=.cells cur e (0,0):=by simpa [Array.getElem?_eq_getElem am] using h4
   refine .inr ⟨g,cap,cur.setIfInBounds k u,rfl,h3,?_,h5,h6,by simpa using h7,?_⟩
   . show (w.heap.modify g _)[g]?=_
     rw[Array.getElem?_eq_getElem (by simpa using am),Array.getElem_modify_self,h']
     rfl
   . rw[Array.toList_setIfInBounds,List.take_set,h8]
def KD (c:aj)(o:Nat)(x:Int):aj:=match o with
 | 0=>{ c with depth:=x }
 | 1=>{ c with kind:=x }
 | 2=>{ c with x:=x }
 | 3=>{ c with y:=x }
 | 4=>{ c with w:=x }
 | 5=>{ c with h:=x }
 | _=>{ c with p:=x }
theorem NF (c:aj){o:Nat}(ho:o < 7)(x:Int):c.vals.toList.set o (J Jq x)=(KD c o x).vals.toList:=by
 rcases o with _ | _ | _ | _ | _ | _ | _ | o
 all_goals first | rfl | omega
theorem EU (a b:List aj)(c:aj){o:Nat}(ho:o < 7)(x:Int):(bz (a++c::b)).set (a.length*7+o) (J Jq x)=bz (a++KD c o x::b):=by
 rw[gY,gY,List.set_append_right _ _ (by rw[iR];omega),iR]
 congr 1
 rw[show a.length*7+o-a.length*7=o by omega]
 show (c.vals.toList++bz b).set o _=(KD c o x).vals.toList++bz b
 rw[List.set_append_left _ _ (by show o < 7;exact ho),NF c ho]
theorem NG {l:List aj}{i:Nat}{c:aj}(h:l[i]?=I c):l=l.take i++c::l.drop (i+1):=by
 obtain⟨h1,h2⟩:=List.getElem?_eq_some_iff.1 h
 rw[<- h2,List.getElem_cons_drop,List.take_append_drop]
theorem PQ {w:World}{B g n cap k:Nat}{L:List aj}{c:aj}(h:az w B (Jj (I ⟨g,0,O⟩) n cap) L)(hc:L[k]?=I c){o:Nat}(ho:o < 7)(x:Int):az (w.setCell ⟨g,k*7+o,O⟩ (J Jq x)) B (Jj (I ⟨g,0,O⟩) n cap) (L.set k (KD c o x)):=by
 have hk:=(List.getElem?_eq_some_iff.1 hc).1
 have hn:n=L.length:=by
  rcases h.2 with ⟨h2,_⟩ | ⟨g',cap',cur,h2,_⟩
  . cases h2
  . injection h2
 have h':=h
 unfold az at h'
 rw[<- hn] at h'
 have h2:=Dc h' (k*7+o) (by rw[iR];omega) (J Jq x)
 have e1:=NG hc
 have el:(L.take k).length=k:=by rw[List.length_take];omega
 have e2:=EU (L.take k) (L.drop (k+1)) c ho x
 rw[<- e1,el] at e2
 rw[e2] at h2
 unfold az
 rw[List.set_eq_take_append_cons_drop,if_pos hk]
 have e3:(L.take k++KD c o x::L.drop (k+1)).length=n:=by rw[hn];simp;omega
 rw[e3]
 exact h2
theorem fF {w:World}{b:Nat}{cs:Array Value}{t:TypeId}(h:w.heap[b]?=I (.cells cs t (0,0)))(o:Nat):w.cell? ⟨b,o,O⟩=cs[o]?:=by simp[World.cell?,h]
theorem jS {w:World}{B g n cap:Nat}{l:List aj}(h:az w B (Jj (I ⟨g,0,O⟩) n cap) l)(i:Nat)(c:aj)(hi:l[i]?=I c)(o:Nat)(u:Value)(hu:c.vals[o]?=I u):w.cell? ⟨g,i*7+o,O⟩=I u/\w.frozen? ⟨g,i*7+o,O⟩=false:=by
 rcases h.2 with ⟨h2,_⟩ | ⟨g',cap',cur,h2,h3,h4,h5,h6,h7,h8⟩
 . cases h2
 . cases h2
   refine⟨?_,by simp[World.frozen?,h4]⟩
   have bE:=(az.cellsIn h)
   have a7:l≠[]:=by rintro rfl;cases hi
   obtain⟨b',o',cp',e1,_,hs⟩:=bE.seen a7
   cases e1
   have:=lQ.cells (hs i c hi) o u hu
   simpa using this
theorem ay.Qu {w w':World}{v:Value}{L:List aj}(h:ay w v L)(hk:∀g,v.ownBlock=I g->w'.heap[g]?=w.heap[g]?):ay w' v L:=by
 obtain⟨ad,cap,rfl,h2,h3⟩:=h.shape
 refine⟨ad,cap,rfl,h2,h3.imp id ?_⟩
 rintro ⟨b,off,rfl,h4⟩
 exact⟨b,off,rfl,fun j u hu=>(World.cell?_of_block (hk b rfl)).trans (h4 j u hu)⟩
structure Fam (W:World)(B:Nat)(vs:List Value)(Ls:List (List aj)):Prop where
 own:∀(i:Nat) v L,vs[i]?=I v->Ls[i]?=I L->az W B v L
 apart:∀(i j:Nat) u v g,vs[i]?=I u->vs[j]?=I v->u.ownBlock=I g->v.ownBlock=I g->i=j
def mkA (j:Nat):Int:=301+(j:Int)
def mkB (j:Nat):Int:=401+(j:Int)
def yS (i k:Nat)(Ls:List (List aj)):Prop:=∀(j l:Nat) L c,Ls[j]?=I L->L[l]?=I c->(j < i\/j=i/\l < k)->c.p=mkA j
theorem iJ {W:World}{B:Nat}{v:Value}{L:List aj}(h:az W B v L){g:Nat}(hg:v.ownBlock=I g):B<=g/\∃cur,W.heap[g]?=I (.cells cur 41 (0,0)):=by
 rcases h.2 with ⟨rfl,_⟩ | ⟨g',cap,cur,rfl,hb,h4,_⟩
 . cases hg
 . cases hg
   exact⟨hb,cur,h4⟩
theorem EW {W W':World}{B:Nat}{v:Value}{L:List aj}(h:az W B v L)(hk:∀g,v.ownBlock=I g->W'.heap[g]?=W.heap[g]?):az W' B v L:=by
 refine⟨h.1,?_⟩
 rcases h.2 with h0 | ⟨g',cap,cur,rfl,hb,h4,r⟩
 . exact .inl h0
 . exact .inr ⟨g',cap,cur,rfl,hb,(hk g' rfl).trans h4,r⟩
theorem heap_set {W:World}{g o k:Nat}{u:Value}(h:k≠g):(W.setCell ⟨g,o,O⟩ u).heap[k]?=W.heap[k]?:=Below.heap_setCell _ _ _ _ (by simpa using h)
theorem Fam.put {W:World}{B:Nat}{vs:List Value}{Ls:List (List aj)}(h:Fam W B vs Ls){i g n cap k:Nat}{L:List aj}{c:aj}(hv:vs[i]?=I (Jj (I ⟨g,0,O⟩) n cap))(hL:Ls[i]?=I L)(hc:L[k]?=I c){o:Nat}(ho:o < 7)(x:Int):
 Fam (W.setCell ⟨g,k*7+o,O⟩ (J Jq x)) B vs (Ls.set i (L.set k (KD c o x))):=by
 have hi:=(List.getElem?_eq_some_iff.1 hL).1
 refine⟨fun j v M hj hM=> ?_,h.apart⟩
 by_cases dl:j=i
 . subst dl
   rw[hv] at hj
   cases hj
   rw[List.getElem?_set_self hi] at hM
   cases hM
   exact PQ (h.own j _ L hv hL) hc ho x
 . rw[List.getElem?_set_ne (by omega)] at hM
   refine EW (h.own j v M hj hM) fun g' me=>heap_set ?_
   intro e
   subst e
   exact dl (h.apart j i v _ g' hj hv me rfl)
theorem yS.put {i k:Nat}{Ls:List (List aj)}{L:List aj}{c':aj}(h:yS i k Ls)(hL:Ls[i]?=I L)(hk:k < L.length):yS i k (Ls.set i (L.set k c')):=by
 have hi:=(List.getElem?_eq_some_iff.1 hL).1
 intro j l M d hM hd Y9
 by_cases dl:j=i
 . subst dl
   rw[List.getElem?_set_self hi] at hM
   cases hM
   rw[List.getElem?_set_ne (by omega)] at hd
   exact h j l L d hL hd (by omega)
 . rw[List.getElem?_set_ne (by omega)] at hM
   exact h j l M d hM hd (by omega)
theorem yS.mark {i k:Nat}{Ls:List (List aj)}{L:List aj}{c:aj}(h:yS i k Ls)(hL:Ls[i]?=I L)(hc:L[k]?=I c):yS i (k+1) (Ls.set i (L.set k (KD c 6 (mkA i)))):=by
 have hk:=(List.getElem?_eq_some_iff.1 hc).1
 have hi:=(List.getElem?_eq_some_iff.1 hL).1
 intro j l M d hM hd Y9
 by_cases dl:j=i
 . subst dl
   rw[List.getElem?_set_self hi] at hM
   cases hM
   by_cases hlk:l=k
   . subst hlk
     rw[List.getElem?_set_self hk] at hd
     cases hd
     rfl
   . rw[List.getElem?_set_ne (by omega)] at hd
     exact h j l L d hL hd (by omega)
 . rw[List.getElem?_set_ne (by omega)] at hM
   exact h j l M d hM hd (by omega)
theorem yS.next {i k:Nat}{Ls:List (List aj)}{L:List aj}(h:yS i k Ls)(hL:Ls[i]?=I L)(hk:L.length<=k):yS (i+1) 0 Ls:=by
 intro j l M d hM hd Y9
 by_cases dl:j=i
 . subst dl
   rw[hL] at hM
   cases hM
   have:=(List.getElem?_eq_some_iff.1 hd).1
   exact h j l L d hL hd (by omega)
 . exact h j l M d hM hd (by omega)
theorem NH (w:World)(c:aj):(w.alloc (.cells c.vals 41)).heap[w.heap.size]?=I (.cells c.vals 41 (0,0)):=(MapKept.heap_alloc w _).1
theorem ut {ops:Array Oper}{rest:List Oper}{o:Oper}{a:Act}{Q:Exit->Act->World->Prop}(w:World)(e9:o.guard=O)(s x:Operand)
 (ho:o.op=.call { callee:=.builtin .append,args:=#[s,x],argTypes:=#[23,23] })
 (B:Nat) (v:Value) (L:List aj) (c:aj) (hs:a.eval s=v) (bm:az w B v L) (hx:a.eval x=Jj (I ⟨w.heap.size,0,O⟩) 1 1) (hlen:L.length<=1000000) (hB:B<=w.heap.size)
 (h:∀v' w',az w' B v' (L++[c])->w.grownBy w' v.ownBlock->(v'.ownBlock=v.ownBlock\/Below w.heap.size w w'/\∃g,w.heap.size<=g/\v'.ownBlock=I g)->wpList prog ops Q rest (a.put o.dst v') w'):wpList prog ops Q (o::rest) a (w.alloc (.cells c.vals 41)):=by
 obtain⟨i0,hi,eh,db,cJ⟩:=bH xC
 obtain⟨W,hW⟩:∃x,w.alloc (.cells c.vals 41)=x:=⟨_,rfl⟩
 have b8:az W B v L:=by rw[<- hW];exact World.ownsRow.alloc bm _
 have ap:Below w.heap.size w W:=by rw[<- hW];exact (Below.refl _ _).alloc (Nat.le_refl _) _
 have hc:∀j y,(bz [c])[j]?=I y->W.cell? ((⟨w.heap.size,0,O⟩:Addr).add j)=I y:=by
  intro j y hy
  rw[jJ,Nat.zero_add,<- hW,fF (NH w c) j]
  have e:bz [c]=c.vals.toList:=by simp[bz]
  rw[e,Array.getElem?_toList] at hy
  exact hy
 have h1:∀y∈bz [c],y.oneCell'=true:=lu [c]
 have hsz:B<=W.heap.size:=Nat.le_trans hB ap.size
 have sj:(bz [c]).length=1*7:=iR [c]
 obtain⟨v',w',hr,h2,h3,h4⟩:=run_append_own (P:=prog) W B 23 o.type 41 i0 (.agg zeroCell.vals) 7 56 underlying23 hi eh db cJ rfl (by decide) v L.length (bz L) b8 ⟨w.heap.size,0,O⟩ 1 1 (bz [c]) sj hc h1 (by unfold maxLen;omega) (by omega) hsz
 have hg:w.grownBy w' v.ownBlock:=⟨h3.os.trans ap.os,h3.tape.trans ap.tape,h3.output.trans ap.output,Nat.le_trans ap.size h3.size,fun k hk hn=>(h3.block k (Nat.lt_of_lt_of_le hk ap.size) hn).trans (ap.block k hk)⟩
 have Rq:az w' B v' (L++[c]):=by
  unfold az
  rw[gY,List.length_append]
  exact h2
 have Ct:v'.ownBlock=v.ownBlock\/Below w.heap.size w w'/\∃g,w.heap.size<=g/\v'.ownBlock=I g:=by
  rcases b8.2 with ⟨rfl,h0⟩ | ⟨g,cap,cur,rfl,Tl,UR,Rt,tf,Bu,Tm⟩
  . refine .inr ⟨⟨hg.os,hg.tape,hg.output,hg.size,fun g sY=>hg.block g sY (by simp[Value.ownBlock])⟩,?_⟩
    rcases h2.2 with ⟨e0,E6⟩ | ⟨g',cap',cur',rfl,cC,me,_⟩
    . omega
    . refine⟨g',?_,rfl⟩
      have im:=run_append_nil (P:=prog) W 23 o.type 41 i0 (.agg zeroCell.vals) underlying23 hi eh ⟨w.heap.size,0,O⟩ 1 1 (bz [c]) (by rw[db];exact sj) hc (by omega) (by omega) (by rw[cJ];omega)
      rw[im] at hr
      have e1:=(Result.ok.inj hr).1
      have e2:=(Value.slice.inj e1).1
      have e3:W.heap.size=g':=congrArg (fun o=>match o with | some a=>a.block | none=>0) e2
      have:=ap.size
      omega
  . by_cases eL:L.length+1<=cap
    . have im:=run_append_room (P:=prog) W 23 o.type 41 i0 underlying23 hi g L.length cap cur UR ⟨w.heap.size,0,O⟩ 1 1 (bz [c]) (by rw[db];exact sj) hc h1 eL (by rw[db,Bu];omega)
      rw[im] at hr
      have e1:=(Result.ok.inj hr).1
      rw[<- e1]
      exact .inl rfl
    . have holds:∀j u,(bz L)[j]?=I u->W.cell? ((⟨g,0,O⟩:Addr).add j)=I u:=World.ownsRow.cells b8 (g:=g) rfl
      have im:=run_append_grow (P:=prog) W 23 o.type 41 i0 (.agg zeroCell.vals) underlying23 hi eh ⟨g,0,O⟩ L.length cap (bz L) (by rw[db];exact b8.1) holds ⟨w.heap.size,0,O⟩ 1 1 (bz [c]) (by rw[db];exact sj) hc (by omega) (by omega) (growslice_fits (by omega) (by rw[cJ];omega))
      rw[im] at hr
      have e1:=(Result.ok.inj hr).1
      have e2:=(Result.ok.inj hr).2
      refine .inr ⟨?_,?_⟩
      . rw[<- e2]
        have hd:Below w.heap.size w W.drew:=⟨ap.os,ap.tape,ap.output,ap.size,ap.block⟩
        exact hd.alloc ap.size _
      . rw[<- e1]
        exact⟨_,ap.size,rfl⟩
 rw[hW]
 refine wpList_plain e9 fun _ hK=> ?_
 unfold Oper.wp execOp
 simp only[ho,resolve,invoke,builtin,Sem.run_bind,Sem.run_pure,Result.andThen_ok,List.map_toArray,List.map_cons,List.map_nil,hs,hx,hr]
 exact hK _ _ (h v' w' Rq hg Ct)
theorem sH {ops:Array Oper}{rest:List Oper}{o:Oper}{a:Act}{Q:Exit->Act->World->Prop}(w:World)(e9:o.guard=O)(s x:Operand)(t e:TypeId)
 (ho:o.op=.call { callee:=.builtin .append,args:=#[s,x],argTypes:=#[t,t] }) (z:Value) (bytes:Nat) (ht:prog.underlying t=I (.slice e)) (Cu:(prog.info? e).map (fun i=>(i.zero,i.size,i.bytes))=I (I z,1,bytes)) (Ao:z.cells.size=1) (EB:bytes<=24)
 (B:Nat) (v:Value) (k:Nat) (xs:List Value) (u:Value) (hu:u.oneCell'=true) (hs:a.eval s=v) (bm:w.ownsRow B e 1 v k xs) (hx:a.eval x=Jj (I ⟨w.heap.size,0,O⟩) 1 1) (hlen:k<=16777216) (hB:B<=w.heap.size)
 (h:∀v' w',w'.ownsRow B e 1 v' (k+1) (xs++[u])->w.grownBy w' v.ownBlock->(v'.ownBlock=v.ownBlock\/Below w.heap.size w w'/\∃g,w.heap.size<=g/\v'.ownBlock=I g)->wpList prog ops Q rest (a.put o.dst v') w'):wpList prog ops Q (o::rest) a (w.alloc (JZ #[u] e)):=by
 obtain⟨i0,hi,eh,db,cJ⟩:=bH Cu
 obtain⟨W,hW⟩:∃x,w.alloc (JZ #[u] e)=x:=⟨_,rfl⟩
 have b8:W.ownsRow B e 1 v k xs:=by rw[<- hW];exact World.ownsRow.alloc bm _
 have ap:Below w.heap.size w W:=by rw[<- hW];exact (Below.refl _ _).alloc (Nat.le_refl _) _
 have hc:∀j y,[u][j]?=I y->W.cell? ((⟨w.heap.size,0,O⟩:Addr).add j)=I y:=by
  intro j y hy
  rw[<- hW,show (⟨w.heap.size,0,O⟩:Addr).add j=⟨w.heap.size,j,O⟩ by unfold Addr.add;split <;> simp_all,dW]
  simpa using hy
 have h1:∀y∈[u],y.oneCell'=true:=by
  intro y hy
  have:y=u:=by simpa using hy
  rw[this];exact hu
 have hsz:B<=W.heap.size:=Nat.le_trans hB ap.size
 have Za:(k+1)*bytes<=140737488355328:=Nat.le_trans (Nat.mul_le_mul (show k+1<=16777217 by omega) EB) (by decide)
 obtain⟨v',w',hr,h2,h3,h4⟩:=run_append_own (P:=prog) W B t o.type e i0 z 1 bytes ht hi eh db cJ Ao (by decide) v k xs b8 ⟨w.heap.size,0,O⟩ 1 1 [u] rfl hc h1 (by unfold maxLen;omega) Za hsz
 have dT:w.grownBy w' v.ownBlock:=⟨h3.os.trans ap.os,h3.tape.trans ap.tape,h3.output.trans ap.output,Nat.le_trans ap.size h3.size,fun k hk hn=>(h3.block k (Nat.lt_of_lt_of_le hk ap.size) hn).trans (ap.block k hk)⟩
 have Ct:v'.ownBlock=v.ownBlock\/Below w.heap.size w w'/\∃g,w.heap.size<=g/\v'.ownBlock=I g:=by
  rcases b8.2 with ⟨rfl,rfl⟩ | ⟨g,cap,cur,rfl,Tl,hg,Rt,tf,Bu,Tm⟩
  . refine .inr ⟨⟨dT.os,dT.tape,dT.output,dT.size,fun g hg=>dT.block g hg (by simp[Value.ownBlock])⟩,?_⟩
    rcases h2.2 with ⟨e0,h0⟩ | ⟨g',cap',cur',rfl,cC,me,_⟩
    . omega
    . refine⟨g',?_,rfl⟩
      have im:=run_append_nil (P:=prog) W t o.type e i0 z ht hi eh ⟨w.heap.size,0,O⟩ 1 1 [u] (by rw[db];rfl) hc (by omega) (by omega) (by rw[cJ];omega)
      rw[im] at hr
      have e1:=(Result.ok.inj hr).1
      have e2:=(Value.slice.inj e1).1
      have e3:W.heap.size=g':=congrArg (fun o=>match o with | some a=>a.block | none=>0) e2
      have:=ap.size
      omega
  . by_cases eL:k+1<=cap
    . have im:=run_append_room (P:=prog) W t o.type e i0 ht hi g k cap cur hg ⟨w.heap.size,0,O⟩ 1 1 [u] (by rw[db];rfl) hc h1 eL (by rw[db,Bu];simpa using eL)
      rw[im] at hr
      have e1:=(Result.ok.inj hr).1
      rw[<- e1]
      exact .inl rfl
    . have holds:∀j u,xs[j]?=I u->W.cell? ((⟨g,0,O⟩:Addr).add j)=I u:=World.ownsRow.cells b8 (g:=g) rfl
      have im:=run_append_grow (P:=prog) W t o.type e i0 z ht hi eh ⟨g,0,O⟩ k cap xs (by rw[db];exact b8.1) holds ⟨w.heap.size,0,O⟩ 1 1 [u] (by rw[db];rfl) hc (by omega) (by omega) (growslice_fits (by omega) (by rw[cJ];exact Za))
      rw[im] at hr
      have e1:=(Result.ok.inj hr).1
      have e2:=(Result.ok.inj hr).2
      refine .inr ⟨?_,?_⟩
      . rw[<- e2]
        have hd:Below w.heap.size w W.drew:=⟨ap.os,ap.tape,ap.output,ap.size,ap.block⟩
        exact hd.alloc ap.size _
      . rw[<- e1]
        exact⟨_,ap.size,rfl⟩
 rw[hW]
 refine wpList_plain e9 fun _ hK=> ?_
 unfold Oper.wp execOp
 simp only[ho,resolve,invoke,builtin,Sem.run_bind,Sem.run_pure,Result.andThen_ok,List.map_toArray,List.map_cons,List.map_nil,hs,hx,hr]
 exact hK _ _ (h v' w' h2 dT Ct)
theorem PR:(prog.info? 23).map (fun i=>(i.zero,i.size,i.bytes))=I (I (Jj O 0 0),1,24):=by kernel_rfl
structure Gx (w:World)(v:Value)(L:List aj):Prop where
 cells:ay w v L
 base:L≠[]->∃g cap,v=Jj (I ⟨g,0,O⟩) L.length cap
 blk:∀g,v.ownBlock=I g->∃cur,w.heap[g]?=I (.cells cur 41 (0,0))
theorem LZ {w:World}{B:Nat}{v:Value}{L:List aj}(h:az w B v L):Gx w v L:=by
 refine⟨h.cellsIn,fun a7=> ?_,fun g hg=>(iJ h hg).2⟩
 rcases h.2 with ⟨_,h0⟩ | ⟨g,cap,cur,e,_⟩
 . exact absurd (List.length_eq_zero_iff.1 h0) a7
 . exact⟨g,cap,e⟩
theorem Gx.keep {w w':World}{v:Value}{L:List aj}(h:Gx w v L)(hk:∀g,v.ownBlock=I g->g < w.heap.size->w'.heap[g]?=w.heap[g]?):Gx w' v L:=by
 have dt:∀g,v.ownBlock=I g->w'.heap[g]?=w.heap[g]?:=fun g hg=>by
  obtain⟨cur,hc⟩:=h.blk g hg
  exact hk g hg (iq hc)
 refine⟨h.cells.Qu dt,h.base,fun g hg=> ?_⟩
 rw[dt g hg]
 exact h.blk g hg
theorem Gx.type {w w':World}{v:Value}{L:List aj}(h:Gx w v L){o:Option Nat}(hb:w.grownBy w' o)(hS:∀g,o=I g->∃cur,w.heap[g]?=I (.cells cur 23 (0,0))):Gx w' v L:=h.keep fun g hg am=>hb.block g am fun e=>by
 obtain⟨c1,h1⟩:=h.blk g hg
 obtain⟨c2,h2⟩:=hS g e.symm
 rw[h1] at h2
 exact absurd (Obj.cells.inj (Option.some.inj h2)).2.1 (by decide)
theorem Pn {w w':World}{B:Nat}{v:Value}{L:List aj}(h:az w B v L){o:Option Nat}(hb:w.grownBy w' o)(hS:∀g,o=I g->∃cur,w.heap[g]?=I (.cells cur 23 (0,0))):az w' B v L:=EW h fun g hg=>by
 obtain⟨_,c1,h1⟩:=iJ h hg
 refine hb.block g (iq h1) fun e=> ?_
 obtain⟨c2,h2⟩:=hS g e.symm
 rw[h1] at h2
 exact absurd (Obj.cells.inj (Option.some.inj h2)).2.1 (by decide)
theorem Gx.cell {w:World}{v:Value}{L:List aj}(h:Gx w v L){k:Nat}{c:aj}(hc:L[k]?=I c):∃g cap,v=Jj (I ⟨g,0,O⟩) L.length cap/\w.cell? ⟨g,k*7+6,O⟩=I (J Jq c.p):=by
 have a7:L≠[]:=by rintro rfl;simp at hc
 obtain⟨g,cap,e⟩:=h.base a7
 refine⟨g,cap,e,?_⟩
 obtain⟨b,off,cp,e2,_,h3⟩:=h.cells.seen a7
 rw[e] at e2
 cases e2
 have h4:=h3 k c hc
 obtain⟨q0,q1,q2,q3,q4,q5,q6⟩:=h4
 rw[Nat.zero_add] at q6
 exact q6
theorem wC {w:World}{B:Nat}{v:Value}{L:List aj}(h:az w B v L):∃a c,v=Jj a L.length c/\(0 < L.length->∃g,a=I ⟨g,0,O⟩):=by
 rcases h.2 with ⟨e,h0⟩ | ⟨g',cap,cur,e,_⟩
 . exact⟨O,0,by rw[e,h0],fun h=>by omega⟩
 . exact⟨_,_,e,fun _=>⟨_,rfl⟩⟩
theorem mY {w:World}{B:Nat}{v:Value}{L:List aj}(h:az w B v L):∃a n c,v=Jj a n c:=by
 obtain⟨a,c,e,_⟩:=wC h
 exact⟨a,_,c,e⟩
theorem row_block {w:World}{B:Nat}{e:TypeId}{v:Value}{n:Nat}{xs:List Value}(h:w.ownsRow B e 1 v n xs){g:Nat}(hg:v.ownBlock=I g):∃cur,w.heap[g]?=I (.cells cur e (0,0)):=by
 rcases h.2 with ⟨rfl,_⟩ | ⟨g',cap,cur,rfl,hb,me,_⟩
 . cases hg
 . have e0:g'=g:=Option.some.inj hg
   subst e0
   exact⟨cur,me⟩
theorem KZ {w:World}{B:Nat}{e:TypeId}{v:Value}{n:Nat}{xs:List Value}(h:w.ownsRow B e 1 v n xs):∃a c,v=Jj a n c/\(0 < n->∃g,a=I ⟨g,0,O⟩):=by
 rcases h.2 with ⟨e,h0⟩ | ⟨g',cap,cur,e,_⟩
 . exact⟨O,0,by rw[e,h0],fun h=>by omega⟩
 . exact⟨_,_,e,fun _=>⟨_,rfl⟩⟩
theorem Gy {w w':World}{B:Nat}{e:TypeId}{v:Value}{n:Nat}{xs:List Value}(h:w.ownsRow B e 1 v n xs)(hk:∀g cur,v.ownBlock=I g->w.heap[g]?=I (.cells cur e (0,0))->w'.heap[g]?=w.heap[g]?):w'.ownsRow B e 1 v n xs:=by
 refine⟨h.1,?_⟩
 rcases h.2 with h0 | ⟨g,cap,cur,rfl,hb,hg,r⟩
 . exact .inl h0
 . exact .inr ⟨g,cap,cur,rfl,hb,by rw[hk g cur rfl hg];exact hg,r⟩
def vJ (w w':World):Prop:=∀(g:Nat) (cur:Array Value),w.heap[g]?=I (.cells cur 23 (0,0))->w'.heap[g]?=w.heap[g]?
theorem vJ.refl (w:World):vJ w w:=fun _ _ _=>rfl
theorem vJ.row {w w':World}(h:vJ w w'){B:Nat}{v:Value}{n:Nat}{xs:List Value}(ho:w.ownsRow B 23 1 v n xs):w'.ownsRow B 23 1 v n xs:=Gy ho fun g cur _ hg=>h g cur hg
theorem vJ.grown {w w1 w2:World}(h:vJ w w1){o:Option Nat}(hb:w1.grownBy w2 o)(hS:∀g,o=I g->w.heap.size<=g\/∃cur,w1.heap[g]?=I (.cells cur 41 (0,0))):vJ w w2:=fun g cur hg=>by
 have h1:=h g cur hg
 rw[<- h1]
 refine hb.block g (iq (by rw[h1];exact hg)) fun hm=> ?_
 rcases hS g hm.symm with h2 | ⟨c2,h2⟩
 . have:=iq hg
   omega
 . rw[h1,hg] at h2
   exact absurd (Obj.cells.inj (Option.some.inj h2)).2.1 (by decide)
theorem DR (w:World)(g k:Nat)(u:Value):w.grownBy (w.setCell ⟨g,k,O⟩ u) (I g):=by
 have h:Below 0 w (w.setCell ⟨g,k,O⟩ u):=Below.setCell (Below.refl 0 w) (Nat.zero_le _) u
 exact⟨h.os,h.tape,h.output,h.size,fun j hj hn=>heap_set (by rintro rfl;exact hn rfl)⟩
theorem yF {B:Nat}{w0 w w':World}{o:Option Nat}(h:Below B w0 w)(hg:w.grownBy w' o)(hB:B<=w.heap.size)(ho:∀g,o=I g->B<=g):Below B w0 w':=h.grown hg hB ho
def zT (B:Nat)(w1 w5:World)(vs:List Value)(Ns:List Nat)(i k:Nat)(wr:World):Prop:=∃Ls,Fam wr B vs Ls/\Ls.map List.length=Ns/\yS i k Ls/\vJ w5 wr/\Below B w1 wr/\w5.heap.size<=wr.heap.size
theorem wF {Ls:List (List aj)}{Ns:List Nat}(h:Ls.map List.length=Ns){i n:Nat}(hn:Ns[i]?=I n):∃L,Ls[i]?=I L/\L.length=n:=by
 rw[<- h,List.getElem?_map] at hn
 cases hx:Ls[i]? with
 | none=>rw[hx] at hn;cases hn
 | some xs=>rw[hx] at hn;exact⟨xs,rfl,Option.some.inj hn⟩
theorem zT.row {B:Nat}{w1 w5:World}{vs:List Value}{Ns:List Nat}{i k:Nat}{wr:World}(h:zT B w1 w5 vs Ns i k wr){j:Nat}{v:Value}{n:Nat}(hv:vs[j]?=I v)(hn:Ns[j]?=I n):∃L,L.length=n/\az wr B v L:=by
 obtain⟨Ls,hf,hm,_⟩:=h
 obtain⟨L,hx,hl⟩:=wF hm hn
 exact⟨L,hl,hf.own j v L hv hx⟩
theorem zT.put {B:Nat}{w1 w5:World}{vs:List Value}{Ns:List Nat}{i k:Nat}{wr:World}(h:zT B w1 w5 vs Ns i k wr){g n cap:Nat}(hv:vs[i]?=I (Jj (I ⟨g,0,O⟩) n cap))(hn:Ns[i]?=I n)(hk:k < n){o:Nat}(ho:o < 7)(x:Int):zT B w1 w5 vs Ns i k (wr.setCell ⟨g,k*7+o,O⟩ (J Jq x))/\(o=6->x=mkA i->zT B w1 w5 vs Ns i (k+1) (wr.setCell ⟨g,k*7+o,O⟩ (J Jq x))):=by
 obtain⟨Ls,hf,hm,hd,h5,hb,hz⟩:=h
 obtain⟨L,hx,hl⟩:=wF hm hn
 obtain⟨c,hc⟩:∃c,L[k]?=I c:=⟨_,List.getElem?_eq_getElem (by omega)⟩
 obtain⟨hBg,cur,B5⟩:=iJ (hf.own i _ L hv hx) (g:=g) rfl
 have pr:=DR wr g (k*7+o) (J Jq x)
 have e0:(Ls.set i (L.set k (KD c o x))).map List.length=Ns:=by
  rw[<- hm,List.map_set,List.length_set]
  refine List.ext_getElem? fun j=> ?_
  by_cases e:i=j
  . subst e
    have hi:i < (Ls.map List.length).length:=by rw[List.length_map];exact (List.getElem?_eq_some_iff.1 hx).1
    rw[List.getElem?_set_self hi,List.getElem?_map,hx]
    rfl
  . rw[List.getElem?_set_ne e]
 have r:vJ w5 (wr.setCell ⟨g,k*7+o,O⟩ (J Jq x))/\Below B w1 (wr.setCell ⟨g,k*7+o,O⟩ (J Jq x))/\w5.heap.size<=(wr.setCell ⟨g,k*7+o,O⟩ (J Jq x)).heap.size:=⟨h5.grown pr fun g' me=>.inr ⟨cur,by cases me;exact B5⟩,Below.setCell hb hBg _,Nat.le_trans hz pr.size⟩
 refine⟨⟨_,hf.put hv hx hc ho x,e0,hd.put hx (by omega),r⟩,fun h6 hxm=> ?_⟩
 subst h6
 subst hxm
 exact⟨_,hf.put hv hx hc ho _,e0,hd.mark hx hc,r⟩
theorem zT.next {B:Nat}{w1 w5:World}{vs:List Value}{Ns:List Nat}{i k:Nat}{wr:World}(h:zT B w1 w5 vs Ns i k wr){n:Nat}(hn:Ns[i]?=I n)(hk:n<=k):zT B w1 w5 vs Ns (i+1) 0 wr:=by
 obtain⟨Ls,hf,hm,hd,r⟩:=h
 obtain⟨L,hx,hl⟩:=wF hm hn
 exact⟨Ls,hf,hm,hd.next hx (by omega),r⟩
theorem zT.drew {B:Nat}{w1 w5:World}{vs:List Value}{Ns:List Nat}{i k:Nat}{wr:World}(h:zT B w1 w5 vs Ns i k wr)(n:Nat):zT B w1 w5 vs Ns i k (wr.drewN n):=by
 obtain⟨Ls,hf,hm,hd,h5,hb,hz⟩:=h
 exact⟨Ls,⟨hf.own,hf.apart⟩,hm,hd,h5,below_drewN hb n,hz⟩
def Mark (j n:Nat)(L:List aj):Prop:=∀(l:Nat) c,L[l]?=I c->c.p=if l < n then mkA j else mkB j
def KX (H:Nat)(vs:List Value):Prop:=(∀(i j:Nat) u v g,vs[i]?=I u->vs[j]?=I v->u.ownBlock=I g->v.ownBlock=I g->i=j)/\∀(i:Nat) v g,vs[i]?=I v->v.ownBlock=I g->g < H
structure Own2 (B H:Nat)(w1 w5:World)(vs:List Value)(Ns:List Nat)(i:Nat)(us:List Value)(wr:World):Prop where
 old:∀(j:Nat) v n,vs[j]?=I v->Ns[j]?=I n->∃L,L.length=n/\Mark j n L/\Gx wr v L/\(i<=j->az wr B v L)
 len:us.length=i
 new:∀(j:Nat) u v n,us[j]?=I u->vs[j]?=I v->Ns[j]?=I n->(∃G,G.length=n+70/\Mark j n G/\Gx wr u G)/\(u.ownBlock=v.ownBlock\/∃g,H<=g/\u.ownBlock=I g)
 same:vJ w5 wr
 below:Below B w1 wr
 size:H<=wr.heap.size
theorem zT.QV {B:Nat}{w1 w5:World}{vs:List Value}{Ns:List Nat}{m:Nat}{wr:World}(h:zT B w1 w5 vs Ns m 0 wr)(hm:vs.length=m)(hN:Ns.length=m):Own2 B wr.heap.size w1 w5 vs Ns 0 [] wr/\KX wr.heap.size vs:=by
 obtain⟨Ls,hf,hl,hd,h5,hb,hz⟩:=h
 refine⟨⟨fun j v n hv hn=> ?_,rfl,fun j u v L hu=>by simp at hu,h5,hb,Nat.le_refl _⟩,hf.apart,fun j v g hv hg=> ?_⟩
 . obtain⟨L,hx,Fl⟩:=wF hl hn
   have hr:=hf.own j v L hv hx
   have hj:=(List.getElem?_eq_some_iff.1 hv).1
   exact⟨L,Fl,fun l c hc=>by
    have:=(List.getElem?_eq_some_iff.1 hc).1
    rw[if_pos (by omega)]
    exact hd j l L c hx hc (.inl (by omega)),LZ hr,fun _=>hr⟩
 . have hj:=(List.getElem?_eq_some_iff.1 hv).1
   have hj2:j < Ls.length:=by rw[<- List.length_map (f:=List.length),hl,hN];omega
   obtain⟨_,c1,h1⟩:=iJ (hf.own j v _ hv (List.getElem?_eq_getElem hj2)) hg
   exact iq h1
structure E8 (B:Nat)(W:World)(v:Value)(L:List aj)(j k:Nat)(vg:Value)(wk:World):Prop where
 own:∃G,az wk B vg G/\G.length=L.length+k/\Mark j L.length G/\∀(l:Nat) c,L[l]?=I c->G[l]?=I c
 at_:vg.ownBlock=v.ownBlock\/∃g,W.heap.size<=g/\vg.ownBlock=I g
 see:Gx wk v L
 by_:W.grownBy wk v.ownBlock
theorem Fe {B:Nat}{W:World}{v:Value}{L:List aj}{j:Nat}(h:az W B v L)(hm:Mark j L.length L):E8 B W v L j 0 v W:=⟨⟨L,h,rfl,hm,fun _ _ h=>h⟩,.inl rfl,LZ h,⟨rfl,rfl,rfl,Nat.le_refl _,fun _ _ _=>rfl⟩⟩
theorem Qk {w w':World}{B:Nat}{u v:Value}{L G:List aj}(hs:Gx w v L)(hv:u.ownBlock=v.ownBlock)(ho:az w' B u G)(hp:∀(l:Nat) c,L[l]?=I c->G[l]?=I c):Gx w' v L:=by
 refine⟨?_,hs.base,fun g hg=>(iJ ho (by rw[hv];exact hg)).2⟩
 obtain⟨ad,cap,e,h2,h3⟩:=hs.cells.shape
 refine⟨ad,cap,e,h2,?_⟩
 by_cases a7:L=[]
 . exact .inl a7
 . obtain⟨g,cp,e2⟩:=hs.base a7
   rw[e] at e2
   cases e2
   refine .inr ⟨g,0,rfl,fun j y hy=> ?_⟩
   rcases ho.2 with ⟨rfl,_⟩ | ⟨g',cap',cur,rfl,hb,h4,h5,h6,h7,h8⟩
   . rw[e] at hv
     cases hv
   . rw[e] at hv
     have eg:g'=g:=Option.some.inj hv
     subst eg
     obtain⟨i,c,o,e1,e2,e3,e4⟩:=nN L j y hy
     have h9:=jS ho i c (hp i c e1) o y e4
     rw[Nat.zero_add,e3]
     exact h9.1
theorem IA {B:Nat}{W:World}{v:Value}{L:List aj}{j k:Nat}{vg:Value}{wk:World}(h:E8 B W v L j k vg wk)(am:∀g,v.ownBlock=I g->g < W.heap.size){v':Value}{w':World}{G:List aj}{c:aj}(hG:az wk B vg G)(hl:G.length=L.length+k)(hm:Mark j L.length G)(hp:∀(l:Nat) d,L[l]?=I d->G[l]?=I d)(hc:c.p=mkB j)(ho:az w' B v' (G++[c]))(hb:wk.grownBy w' vg.ownBlock)(hf:v'.ownBlock=vg.ownBlock\/Below wk.heap.size wk w'/\∃g,wk.heap.size<=g/\v'.ownBlock=I g):E8 B W v L j (k+1) v' w':=by
 have j1:∀(l:Nat) d,L[l]?=I d->(G++[c])[l]?=I d:=fun l d hd=>by
  have h1:=hp l d hd
  rw[List.getElem?_append_left (List.getElem?_eq_some_iff.1 h1).1]
  exact h1
 refine⟨⟨G++[c],ho,by simp;omega,fun l d hd=> ?_,j1⟩,?_,?_,?_⟩
 . by_cases e:l < G.length
   . rw[List.getElem?_append_left e] at hd
     exact hm l d hd
   . have uE:=(List.getElem?_eq_some_iff.1 hd).1
     rw[List.length_append,List.length_singleton] at uE
     have e2:l=G.length:=by omega
     subst e2
     rw[List.getElem?_concat_length] at hd
     cases hd
     rw[if_neg (by omega)]
     exact hc
 . rcases hf with e | ⟨_,g,hg,e⟩
   . rw[e];exact h.at_
   . exact .inr ⟨g,Nat.le_trans h.by_.size hg,e⟩
 . rcases hf with e | ⟨cC,_⟩
   . rcases h.at_ with e2 | ⟨g,hg,e2⟩
     . exact Qk h.see (e.trans e2) ho j1
     . refine h.see.keep fun g' me ky=>hb.block g' ky fun hm=> ?_
       rw[e2] at hm
       have e4:g'=g:=Option.some.inj hm
       have:=am g' me
       omega
   . exact h.see.keep fun g' me ky=>cC.block g' ky
 . refine⟨hb.os.trans h.by_.os,hb.tape.trans h.by_.tape,hb.output.trans h.by_.output,Nat.le_trans h.by_.size hb.size,fun g hg hn=>(hb.block g (Nat.lt_of_lt_of_le hg h.by_.size) fun hm=> ?_).trans (h.by_.block g hg hn)⟩
   rcases h.at_ with e2 | ⟨g',me,e2⟩
   . exact hn (by rw[<- e2];exact hm)
   . rw[e2] at hm
     have:=Option.some.inj hm
     omega
theorem Gp {B H:Nat}{w1 w5 wr wk:World}{vs us:List Value}{Ns:List Nat}{i:Nat}{v gv vg:Value}{L:List aj}{j k:Nat}(hs:az wr B v L)(h2:E8 B wr v L j k vg wk)(hr:wr.ownsRow H 23 1 gv i us):wk.ownsRow H 23 1 gv i us:=by
 refine Gy hr fun g cur hg hc=>h2.by_.block g (iq hc) fun hm=> ?_
 obtain⟨_,c2,h3⟩:=iJ hs (g:=g) hm.symm
 rw[hc] at h3
 exact absurd (Obj.cells.inj (Option.some.inj h3)).2.1 (by decide)
theorem KY {B H:Nat}{w1 w5 wr wk w':World}{vs us:List Value}{Ns:List Nat}{i:Nat}{v gv vg:Value}{L:List aj}(h:Own2 B H w1 w5 vs Ns i us wr)(hA:KX H vs)(hv:vs[i]?=I v)(hL:Ns[i]?=I L.length)(hs:az wr B v L)(Ow:Mark i L.length L)(h2:E8 B wr v L i 70 vg wk)(hr:wr.ownsRow H 23 1 gv i us)(hB:B<=H)(h5:w5.heap.size<=H)(hb:wk.grownBy w' gv.ownBlock):Own2 B H w1 w5 vs Ns (i+1) (us++[vg]) w':=by
 have NA:=Gp (w1:=w1) (w5:=w5) (vs:=vs) (Ns:=Ns) hs h2 hr
 have g2:=h.len
 have Ul:∀g,gv.ownBlock=I g->∃cur,wk.heap[g]?=I (Obj.cells cur 23 (0,0)):=fun g hg=>row_block NA hg
 have XV:∀g,v.ownBlock=I g->g < H:=fun g hg=>hA.2 i v g hv hg
 refine⟨fun j v' n' il eV=> ?_,by rw[List.length_append,g2];rfl,fun j u v' n' hu il eV=> ?_,?_,?_,?_⟩
 . by_cases e:j=i
   . subst e
     rw[hv] at il
     rw[hL] at eV
     cases il
     cases eV
     exact⟨L,rfl,Ow,h2.see.type hb Ul,fun hh=>by omega⟩
   . have ZZ:∀g,v'.ownBlock=I g->I g≠v.ownBlock:=fun g hg hm=>e (hA.1 j i v' v g il hv hg hm.symm)
     obtain⟨L',s0,s1,s2,s3⟩:=h.old j v' n' il eV
     refine⟨L',s0,s1,(s2.keep fun g hg am=>h2.by_.block g am (ZZ g hg)).type hb Ul,fun hh=>Pn (EW (s3 (by omega)) fun g hg=> ?_) hb Ul⟩
     obtain⟨_,c1,q1⟩:=iJ (s3 (by omega)) hg
     exact h2.by_.block g (iq q1) (ZZ g hg)
 . by_cases e:j < us.length
   . rw[List.getElem?_append_left e] at hu
     obtain⟨⟨G,s0,s1,s2⟩,s3⟩:=h.new j u v' n' hu il eV
     refine⟨⟨G,s0,s1,(s2.keep fun g hg am=>h2.by_.block g am fun hm=> ?_).type hb Ul⟩,s3⟩
     rcases s3 with e2 | ⟨g',me,e2⟩
     . have:=hA.1 j i v' v g il hv (by rw[<- e2];exact hg) hm.symm
       omega
     . rw[e2] at hg
       have:=Option.some.inj hg
       have:=XV g hm.symm
       omega
   . have hj:=(List.getElem?_eq_some_iff.1 hu).1
     rw[List.length_append,List.length_singleton] at hj
     have e2:j=i:=by omega
     subst e2
     rw[<- g2,List.getElem?_concat_length] at hu
     cases hu
     rw[hv] at il
     rw[hL] at eV
     cases il
     cases eV
     obtain⟨G,k1,k2,k3,_⟩:=h2.own
     refine⟨⟨G,k2,k3,(LZ k1).type hb Ul⟩,?_⟩
     rcases h2.at_ with e | ⟨g,hg,e⟩
     . exact .inl e
     . exact .inr ⟨g,Nat.le_trans h.size hg,e⟩
 . have q1:vJ w5 wk:=h.same.grown h2.by_ fun g hg=>.inr (iJ hs hg).2
   exact q1.grown hb fun g hg=>.inl (Nat.le_trans h5 (World.ownsRow.lt hr g hg).1)
 . have q1:Below B w1 wk:=yF h.below h2.by_ (Nat.le_trans hB h.size) fun g hg=>(iJ hs hg).1
   exact yF q1 hb (Nat.le_trans hB (Nat.le_trans h.size h2.by_.size)) fun g hg=>Nat.le_trans hB (World.ownsRow.lt hr g hg).1
 . exact Nat.le_trans h.size (Nat.le_trans h2.by_.size hb.size)
theorem Oo {W:World}{B B':Nat}{v:Value}{L:List aj}(h:az W B v L)(hB:B'<=B):az W B' v L:=by
 refine⟨h.1,?_⟩
 rcases h.2 with h0 | ⟨g,cap,cur,e,hb,r⟩
 . exact .inl h0
 . exact .inr ⟨g,cap,cur,e,Nat.le_trans hB hb,r⟩
theorem QU {W:World}{B s1 s2:Nat}{va vb vc:Value}{La Lb Lc:List aj}(ha:az W B va La)(hb:az W s1 vb Lb)(hc:az W s2 vc Lc)(h1:∀g,va.ownBlock=I g->g < s1)(h2:∀g,vb.ownBlock=I g->g < s2)(k1:B<=s1)(k2:s1<=s2):Fam W B [va,vb,vc] [La,Lb,Lc]:=by
 have key:∀(i:Nat) v g,[va,vb,vc][i]?=I v->v.ownBlock=I g->(i=0/\g < s1)\/(i=1/\s1<=g/\g < s2)\/(i=2/\s2<=g):=fun i v g hv hg=>by
  rcases i with _ | _ | _ | i
  . cases hv;exact .inl ⟨rfl,h1 g hg⟩
  . cases hv;exact .inr (.inl ⟨rfl,(iJ hb hg).1,h2 g hg⟩)
  . cases hv;exact .inr (.inr ⟨rfl,(iJ hc hg).1⟩)
  . simp at hv
 refine⟨fun i v L hv hL=> ?_,fun i j u v g hu hv hg me=> ?_⟩
 . rcases i with _ | _ | _ | i
   . cases hv;cases hL;exact ha
   . cases hv;cases hL;exact Oo hb k1
   . cases hv;cases hL;exact Oo hc (Nat.le_trans k1 k2)
   . simp at hv
 . have a1:=key i u g hu hg
   have a2:=key j v g hv me
   omega
theorem kD.set {w:World}{g cap:Nat}{l:List aj}(h:kD w g cap l){i:Nat}{c:aj}(hc:l[i]?=I c)(x:Int):kD (w.setCell ⟨g,i*7+6,O⟩ (J Jq x)) g cap (l.set i (KD c 6 x)):=by
 have hi:=(List.getElem?_eq_some_iff.1 hc).1
 have hc6:=(h.seen i c (by rw[List.getElem?_append_left hi];exact hc)).q6
 refine⟨fun j d hd=> ?_,by rw[List.length_set];exact h.cap,Nat.lt_of_lt_of_le h.lt (DR w g (i*7+6) (J Jq x)).size⟩
 have far:∀o:Nat,o≠i*7+6->(w.setCell ⟨g,i*7+6,O⟩ (J Jq x)).cell? ⟨g,o,O⟩=w.cell? ⟨g,o,O⟩:=fun o ho=>iU w g (i*7+6) o _ (fun e=>ho e.symm)
 have at6:(w.setCell ⟨g,i*7+6,O⟩ (J Jq x)).cell? ⟨g,i*7+6,O⟩=I (J Jq x):=AO w g (i*7+6) _ (J Jq c.p) (by rw[show i*7+6=0+i*7+6 by omega];exact hc6)
 by_cases dl:j=i
 . subst dl
   have eT:(l.set j (KD c 6 x))[j]?=I d:=by rw[List.getElem?_append_left (by rw[List.length_set];exact hi)] at hd;exact hd
   rw[List.getElem?_set_self hi] at eT
   cases eT
   obtain⟨q0,q1,q2,q3,q4,q5,q6⟩:=h.seen j c (by rw[List.getElem?_append_left hi];exact hc)
   exact⟨by rw[far _ (by omega)];exact q0,by rw[far _ (by omega)];exact q1,by rw[far _ (by omega)];exact q2,by rw[far _ (by omega)];exact q3,by rw[far _ (by omega)];exact q4,by rw[far _ (by omega)];exact q5,by rw[show 0+j*7+6=j*7+6 by omega];exact at6⟩
 . have eT:(l++marks)[j]?=I d:=by
    by_cases e:j < l.length
    . rw[List.getElem?_append_left (by rw[List.length_set];exact e),List.getElem?_set_ne (by omega)] at hd
      rw[List.getElem?_append_left e]
      exact hd
    . rw[List.getElem?_append_right (by rw[List.length_set];omega),List.length_set] at hd
      rw[List.getElem?_append_right (by omega)]
      exact hd
   obtain⟨q0,q1,q2,q3,q4,q5,q6⟩:=h.seen j d eT
   exact⟨by rw[far _ (by omega)];exact q0,by rw[far _ (by omega)];exact q1,by rw[far _ (by omega)];exact q2,by rw[far _ (by omega)];exact q3,by rw[far _ (by omega)];exact q4,by rw[far _ (by omega)];exact q5,by rw[far _ (by omega)];exact q6⟩
theorem Po {w:World}{g:Nat}{cur:Array Value}{t:TypeId}(h:w.heap[g]?=I (.cells cur t (0,0)))(k:Nat)(u:Value):(w.setCell ⟨g,k,O⟩ u).heap[g]?=I (.cells (cur.setIfInBounds k u) t (0,0)):=by
 have am:=iq h
 have h':w.heap[g]=.cells cur t (0,0):=by simpa [Array.getElem?_eq_getElem am] using h
 show (w.heap.modify g _)[g]?=_
 rw[Array.getElem?_eq_getElem (by simpa using am),Array.getElem_modify_self,h']
 rfl
def Dq (w:World)(g cap n:Nat):Prop:=∃M:List aj,M.length=n/\kD w g cap M/\∃cur,w.heap[g]?=I (.cells cur 41 (0,0))
theorem Dq.set {w:World}{g cap n i:Nat}(h:Dq w g cap n)(hi:i < n)(x:Int):Dq (w.setCell ⟨g,i*7+6,O⟩ (J Jq x)) g cap n:=by
 obtain⟨M,h1,h2,cur,h3⟩:=h
 exact⟨M.set i (KD M[i] 6 x),by rw[List.length_set];exact h1,h2.set (List.getElem?_eq_getElem (by omega)) x,_,Po h3 _ _⟩
theorem Dq.cell {w:World}{g cap n i:Nat}(h:Dq w g cap n)(hi:i < n):∃p:Int,w.cell? ⟨g,i*7+6,O⟩=I (J Jq p)/\w.frozen? ⟨g,i*7+6,O⟩=false:=by
 obtain⟨M,h1,h2,cur,h3⟩:=h
 have hc:=(h2.seen i M[i] (by rw[List.getElem?_append_left (by omega)];exact List.getElem?_eq_getElem (by omega))).q6
 rw[show 0+i*7+6=i*7+6 by omega] at hc
 exact⟨_,hc,by simp[World.frozen?,h3]⟩
theorem NT (v:Value)(l:List aj)(w:World)(hv:ay w v l)(hn:v=Jj O 0 0\/∃a n c,v=Jj (I a) n c)(hlen:l.length*56<=140737488351232):Calls prog 11 #[v] w fun e w'=>∃g cap,e=Jz (Jj (I ⟨g,0,O⟩) l.length cap)/\(kD w' g cap l/\∃cur,w'.heap[g]?=I (.cells cur 41 (0,0)))/\w.heap.size<=g/\Below w.heap.size w w':=by
 have HV:=zh hv
 have HN:=zh hn
 obtain⟨ad,cap,ud⟩:=hv.length
 obtain⟨n,aR⟩:∃n,l.length=n:=⟨_,rfl⟩
 have HL:=zh aR
 have nW:=zh hlen
 rw[aR] at ud
 have kq:n<=4611686018427387904:=by omega
 have HM:Hid ((l++marks).length=n+3):=by show _=_;rw[List.length_append,aR];rfl
 rw[aR]
 subst ud
 clear hv hn aR hlen
 go_enter func11,ntmps11
 go_wp2_with (at_builtin;first
  | (refine lq w rfl (.tmp 4) (.tmp 5) rfl _ l rfl rfl HV.out HN.out nW.out ?_;intro v1 w1 a1 a2;have H1:Hid (az w1 w.heap.size v1 l):=a1;have cY:Hid (Below w.heap.size w w1):=(Below.refl w.heap.size w).grown a2 (Nat.le_refl _) (fun k e=>by cases e);clear a1 a2)
  | (refine lC w1 rfl (.tmp 7) (.tmp 11) rfl w.heap.size v1 l rfl H1.out (by simp[Act.eval]) nW.out cY.out.size ?_;intro v2 w2 a1 a2;have aD:Hid (Below w.heap.size w w2):=(cY.out.alloc cY.out.size _).grown a2 (Nat.le_trans cY.out.size (by simp)) (fun k e=>(World.ownsRow.lt H1.out k e).1);obtain⟨g,cap2,e1,e2,e3,e4,e5⟩:=zn a1 (by unfold marks;simp);rw[HM.out] at e1 e3;subst e1;have km:=(iJ a1 (g:=g) rfl).2;have my:n<=cap2:=(by omega);have H2:Hid ((kD w2 g cap2 l/\∃cur,w2.heap[g]?=I (.cells cur 41 (0,0)))/\w.heap.size<=g):=⟨⟨⟨e5,(by rw[HL.out];exact e3),e4⟩,km⟩,e2⟩;clear a1 a2 e2 e3 e4 e5 km))
 go_ret
 exact⟨_,_,rfl,H2.out.1,H2.out.2,aD.out⟩
theorem iF {p:Prop}(h:p):Hid p:=h
theorem yT (v:Value)(l:List aj)(o p:OpV)(w:World)(hv:ay w v l)(hz:v=Jj O 0 0\/∃a n c,v=Jj (I a) n c)(hlen:l.length*56<=140737488351232)(ho:o.Ok)(hp:p.Ok):Calls prog 4 #[v,.agg o.vals,.agg p.vals] w fun x w'=>x=Jz (.bool true)/\Below w.heap.size w w':=by
 obtain⟨eo,ro,o1,o2,o3⟩:=Gf l o ho
 obtain⟨ep,rp,p1,p2,p3⟩:=Gf l p hp
 have Vg:∀M:List aj,∃er r,(r:List aj).length<=200/\(∀v X,ay X v M->Calls prog 9 #[v,.agg o.vals] X (dZ er r X))/\(∀v X,ay X v M->Calls prog 10 #[v,.agg o.vals] X (dZ er r X)):=fun M=>Gf M o ho
 obtain⟨ok,pane,kind,size,bf,id,oa,ob⟩:=o
 obtain⟨pk,ppane,pkind,psize,pbf,pid,pa,pb⟩:=p
 unfold OpV.vals at o2 o3 p2 p3 Vg ⊢
 dsimp only at o2 o3 p2 p3 Vg ⊢
 obtain⟨W,hW⟩:∃W,(w.alloc (JZ #[J Jq ok,J Jq pane,J Jq kind,J Jq size,.bool bf,J Jq id,J Jq oa,J Jq ob] 35)).alloc (JZ #[J Jq pk,J Jq ppane,J Jq pkind,J Jq psize,.bool pbf,J Jq pid,J Jq pa,J Jq pb] 35)=W:=⟨_,rfl⟩
 have ap:Below w.heap.size w W:=by rw[<- hW];exact ((Below.refl _ _).alloc (Nat.le_refl _) _).alloc (by simp) _
 have AN:W.heap[w.heap.size]?=I (JZ #[J Jq ok,J Jq pane,J Jq kind,J Jq size,.bool bf,J Jq id,J Jq oa,J Jq ob] 35 (0,0)):=by
  rw[<- hW,(MapKept.heap_alloc _ _).2 _ (by simp)]
  exact (MapKept.heap_alloc w _).1
 have ie:W.heap[w.heap.size+1]?=I (JZ #[J Jq pk,J Jq ppane,J Jq pkind,J Jq psize,.bool pbf,J Jq pid,J Jq pa,J Jq pb] 35 (0,0)):=by
  have h:=(MapKept.heap_alloc (w.alloc (JZ #[J Jq ok,J Jq pane,J Jq kind,J Jq size,.bool bf,J Jq id,J Jq oa,J Jq ob] 35)) (JZ #[J Jq pk,J Jq ppane,J Jq pkind,J Jq psize,.bool pbf,J Jq pid,J Jq pa,J Jq pb] 35 (0,0))).1
  rw[<- hW]
  simpa using h
 have wT:Hid (∀X,Below W.heap.size W X->X.cell? ⟨w.heap.size,0,O⟩=I (J Jq ok)/\X.cell? ⟨w.heap.size,1,O⟩=I (J Jq pane)/\X.cell? ⟨w.heap.size,2,O⟩=I (J Jq kind)/\X.cell? ⟨w.heap.size,3,O⟩=I (J Jq size)/\X.cell? ⟨w.heap.size,4,O⟩=I (.bool bf)/\X.cell? ⟨w.heap.size,5,O⟩=I (J Jq id)/\X.cell? ⟨w.heap.size,6,O⟩=I (J Jq oa)/\X.cell? ⟨w.heap.size,7,O⟩=I (J Jq ob)):=fun X hX=>by
  have h:=(hX.block _ (iq AN)).trans AN
  exact⟨fF h 0,fF h 1,fF h 2,fF h 3,fF h 4,fF h 5,fF h 6,fF h 7⟩
 have Ek:Hid (∀X,Below W.heap.size W X->X.cell? ⟨w.heap.size+1,0,O⟩=I (J Jq pk)/\X.cell? ⟨w.heap.size+1,1,O⟩=I (J Jq ppane)/\X.cell? ⟨w.heap.size+1,2,O⟩=I (J Jq pkind)/\X.cell? ⟨w.heap.size+1,3,O⟩=I (J Jq psize)/\X.cell? ⟨w.heap.size+1,4,O⟩=I (.bool pbf)/\X.cell? ⟨w.heap.size+1,5,O⟩=I (J Jq pid)/\X.cell? ⟨w.heap.size+1,6,O⟩=I (J Jq pa)/\X.cell? ⟨w.heap.size+1,7,O⟩=I (J Jq pb)):=fun X hX=>by
  have h:=(hX.block _ (iq ie)).trans ie
  exact⟨fF h 0,fF h 1,fF h 2,fF h 3,fF h 4,fF h 5,fF h 6,fF h 7⟩
 have nv:=iF hW
 have bR:=iF ap
 have RE:=iF (NT v l W (hv.below ap) hz hlen)
 have ln:Hid (∀g cap X,kD X g cap l->Below W.heap.size W X->Calls prog 12 #[Jj (I ⟨g,0,O⟩) l.length cap,v] X fun e w'=>e=Jz (.bool true)/\Below X.heap.size X w'):=fun g cap X h1 h2=>F6 v g cap l X h1 (hv.below (af ap h2)) hlen
 have As:Hid (∀x y X (L:List aj),L.length<=1000000->ay X x L->ay X y L->Calls prog 8 #[x,y] X fun e w'=>e=Jz (.bool true)/\Below X.heap.size X w'):=fun x y X L hL h1 h2=>by
  have h:=Ak x y L L X h1 h2 hL
  rw[decide_eq_true rfl] at h
  exact h
 have HV:Hid (∀X,Below W.heap.size W X->ay X v l):=fun X hX=>(hv.below ap).below hX
 have It:=iF o2
 have If:=iF o3
 have Ab:=iF p2
 have Zl:=iF Vg
 have HL:=iF hlen
 have Rb:=iF o1
 have Iv:=iF p1
 obtain⟨va,vn,vc,xl⟩:∃a n c,v=Jj a n c:=by rcases hz with h | ⟨a,n,c,h⟩;exact⟨_,_,_,h⟩;exact⟨_,_,_,h⟩
 obtain⟨n,hn⟩:∃n,l.length=n:=⟨_,rfl⟩
 have HN:=iF hn
 rw[hn] at RE ln
 have VQ:n<=4611686018427387904:=by omega
 subst xl
 clear hv hz hlen ho hp o1 o2 o3 p1 p2 p3 Vg hW ap AN ie hn
 go_enter func4,ntmps4
 go_upto_region 1 with fail
 rw[nv.out]
 go_wp2_with fail
 refine RE.out.mono ?_
 rintro e w1 ⟨g,cap,rfl,RG,gw,bj⟩
 have Vh:=iF RG
 have HG1:=iF gw
 have H1:=iF bj
 obtain⟨c0,c1,c2,c3,c4,c5,c6,c7⟩:=wT.out w1 bj
 have np:Hid (∀X,Below w1.heap.size w1 X->ay X (Jj (I ⟨g,0,O⟩) n cap) l):=fun X hX=>by
  have h:=(RG.1.cellsIn).below hX
  rw[HN.out] at h
  exact h
 clear RG gw bj RE
 go_wp2_with fail
 refine (It.out _ _ (np.out _ (Below.refl _ _))).mono ?_
 rintro e w2 ⟨sa,rfl,TG,al⟩
 obtain⟨aa,an,ac,rfl⟩:=mY TG
 have ii:=iF TG
 have lr:=iF al
 have H2:=iF (af H1.out al)
 obtain⟨c0,c1,c2,c3,c4,c5,c6,c7⟩:=Ek.out w2 H2.out
 clear TG al
 go_wp2_with fail
 refine (Ab.out _ _ (np.out _ lr.out)).mono ?_
 rintro e w3 ⟨sb,rfl,Of,aM⟩
 obtain⟨ba,bn,bc,rfl⟩:=mY Of
 have WU:=iF Of
 have Lk:=iF aM
 have H3:=iF (af H2.out aM)
 obtain⟨c0,c1,c2,c3,c4,c5,c6,c7⟩:=wT.out w3 H3.out
 clear Of aM
 go_wp2_with fail
 refine (It.out _ _ (np.out _ (af lr.out Lk.out))).mono ?_
 rintro e w4 ⟨sc,rfl,te,cv⟩
 obtain⟨ca,cn,cc,rfl⟩:=mY te
 have WV:=iF te
 have Vi:=iF cv
 have H4:=iF (af H3.out cv)
 obtain⟨c0,c1,c2,c3,c4,c5,c6,c7⟩:=wT.out w4 H4.out
 clear te cv
 go_wp2_with fail
 refine (If.out _ _ (HV.out _ H4.out)).mono ?_
 rintro e w5 ⟨sq,rfl,Ni,cd⟩
 obtain⟨qa,qn,qc,rfl⟩:=mY Ni
 have WW:=iF Ni
 have TI:=iF cd
 have H5:=iF (af H4.out cd)
 have heq:(eo != eo)=false:=by simp
 clear Ni cd c0 c1 c2 c3 c4 c5 c6 c7
 go_wp2_with fail
 refine (zt _).mono ?_
 rintro e w6 ⟨rfl,eM⟩
 have AS:=iF eM
 clear eM
 go_wp2_with fail
 refine (As.out _ _ _ ro (by have:=Rb.out;omega) ((((ii.out.below Lk.out).below Vi.out).below TI.out).below AS.out).cellsIn (WW.out.below AS.out).cellsIn).mono ?_
 rintro e w7 ⟨rfl,j7⟩
 have RJ:=iF j7
 clear j7
 go_wp2_with fail
 refine (As.out _ _ _ ro (by have:=Rb.out;omega) (((WV.out.below TI.out).below AS.out).below RJ.out).cellsIn ((WW.out.below AS.out).below RJ.out).cellsIn).mono ?_
 rintro e w8 ⟨rfl,pD⟩
 have Zm:=iF pD
 have H8:=iF (af (af (af H5.out AS.out) RJ.out) pD)
 have S8:=iF (af (af (af (af (af (af lr.out Lk.out) Vi.out) TI.out) AS.out) RJ.out) pD)
 clear pD
 go_wp2_with fail
 refine (ln.out _ _ _ (Vh.out.1.below S8.out) H8.out).mono ?_
 rintro e w9 ⟨rfl,ez⟩
 have WX:=iF ez
 clear ez
 go_upto_region 9 with fail
 obtain⟨X,hX⟩:∃X,w9.alloc (JZ #[Jj aa an ac,Jj ba bn bc,Jj ca cn cc] 23)=X:=⟨_,rfl⟩
 rw[hX]
 obtain⟨vs,xl⟩:∃vs:List Value,[Jj aa an ac,Jj ba bn bc,Jj ca cn cc]=vs:=⟨_,rfl⟩
 obtain⟨lg,WY⟩:∃g,w9.heap.size=g:=⟨_,rfl⟩
 have S9:Hid (Below w9.heap.size w9 X):=by rw[<- hX];exact (Below.refl _ _).alloc (Nat.le_refl _) _
 have S4:=iF (af (af (af (af (af TI.out AS.out) RJ.out) Zm.out) WX.out) S9.out)
 have S3:=iF (af Vi.out S4.out)
 have S2:=iF (af Lk.out S3.out)
 have S1:=iF (af lr.out S2.out)
 have HF:Hid (Fam X w1.heap.size vs [ro,rp,ro]):=by
  rw[<- xl]
  exact QU (ii.out.below S2.out) (WU.out.below S3.out) (WV.out.below S4.out) (fun g hg=>(World.ownsRow.lt ii.out g hg).2) (fun g hg=>(World.ownsRow.lt WU.out g hg).2) lr.out.size Lk.out.size
 have TJ:Hid (∀(i:Nat) n,([ro,rp,ro].map List.length)[i]?=I n->n<=200):=fun i n hn=>by
  have p4:=Rb.out
  have m4:=Iv.out
  rcases i with _ | _ | _ | i
  . cases hn;exact p4
  . cases hn;exact m4
  . cases hn;exact p4
  . simp at hn
 have Vj:Hid (X.ownsRow w1.heap.size 23 1 (Jj (I ⟨lg,0,O⟩) 3 3) 3 vs):=by
  rw[<- hX,<- xl,<- WY]
  exact World.ownsRow_lit w9 _ 3 (Nat.le_trans S8.out.size WX.out.size) (by decide) rfl
 have TK:Hid (vs.length=3):=by show _=_;rw[<- xl];rfl
 obtain⟨Ns,Vk⟩:∃x,[ro,rp,ro].map List.length=x:=⟨_,rfl⟩
 rw[Vk] at TJ
 have D2:Hid (Ns.length=3):=by show _=_;rw[<- Vk];rfl
 have Zn:Hid (zT w1.heap.size w1 X vs Ns 0 0 X):=⟨_,HF.out,Vk,fun j l L c _ _ h=>by omega,vJ.refl _,S1.out,Nat.le_refl _⟩
 rw[WY]
 clear hX xl WY Vk lr Lk Vi TI AS RJ Zm WX ii WU WV WW H2 H3 H4 H5 H8 S8 S2 S3 S4 S9 HF heq It If Ab Ek
 go_wp2
 go_loopw [17] (fun s wr=>∃i:Nat,i<=3/\s=J Jq i/\Hid (zT w1.heap.size w1 X vs Ns i 0 wr)) (fun s _=>3-(intOf s).toNat)
 case atStart=>exact⟨0,Nat.zero_le _,rfl,Zn⟩
 case round=>
  obtain⟨i,hi,rfl,HO⟩:=hrel
  by_cases am:i < 3
  . obtain⟨v,hv⟩:∃v,vs[i]?=I v:=⟨_,List.getElem?_eq_getElem (by rw[TK.out];exact am)⟩
    obtain⟨m,hm⟩:∃v,Ns[i]?=I v:=⟨_,List.getElem?_eq_getElem (by rw[D2.out];exact am)⟩
    have Cy:=iF hv
    have Cz:=iF hm
    have hm200:=TJ.out i m hm
    obtain⟨ga,gk,rfl,Vl⟩:∃a c,v=Jj a m c/\(0 < m->∃g,a=I ⟨g,0,O⟩):=by
     obtain⟨L,hL,ho⟩:=HO.out.row hv hm
     rw[<- hL]
     exact wC ho
    have HGa:=iF Vl
    have HD:Hid (∀k W,zT w1.heap.size w1 X vs Ns i k W->W.cell? ⟨lg,i,O⟩=I (Jj ga m gk)):=fun k W hW=>by
     obtain⟨Ls,_,_,_,h5,_⟩:=hW
     exact (World.ownsRow.cellAt (h5.row Vj.out) i (by omega)).trans Cy.out
    have Zo:(i:Int) < 3:=by omega
    have hwi:IntKind.i64.wrap (301+(i:Int))=301+(i:Int):=by rw[IntKind.wrap_i64];omega
    clear hv hm Vl
    go_wp2
    go_loopw [18] (fun s wr=>∃k:Nat,k<=m/\s=J Jq k/\Hid (zT w1.heap.size w1 X vs Ns i k wr)) (fun s _=>m-(intOf s).toNat)
    case atStart=>exact⟨0,Nat.zero_le _,rfl,HO⟩
    case round=>
     obtain⟨k,hk,rfl,uL⟩:=hrel
     have d0:=HD.out k _ uL.out
     by_cases sA:k < m
     . obtain⟨g2,rfl⟩:=HGa.out (by omega)
       obtain⟨L,hL,ho⟩:=uL.out.row Cy.out Cz.out
       obtain⟨c,hc⟩:∃c,L[k]?=I c:=⟨_,List.getElem?_eq_getElem (by omega)⟩
       obtain⟨q0,f0⟩:=jS ho k c hc 0 (J Jq c.depth) rfl
       obtain⟨q1,f1⟩:=jS ho k c hc 1 (J Jq c.kind) rfl
       obtain⟨q2,f2⟩:=jS ho k c hc 2 (J Jq c.x) rfl
       obtain⟨q3,f3⟩:=jS ho k c hc 3 (J Jq c.y) rfl
       obtain⟨q4,f4⟩:=jS ho k c hc 4 (J Jq c.w) rfl
       obtain⟨q5,f5⟩:=jS ho k c hc 5 (J Jq c.h) rfl
       obtain⟨q6,f6⟩:=jS ho k c hc 6 (J Jq c.p) rfl
       rw[Nat.add_zero] at q0 f0
       have On:(k:Int) < (m:Int):=by omega
       have qk:Hid (zT w1.heap.size w1 X vs Ns i (k+1) (((((((wr.setCell ⟨g2,k*7,O⟩ (J Jq 0)).setCell ⟨g2,k*7+1,O⟩ (J Jq 0)).setCell ⟨g2,k*7+2,O⟩ (J Jq 0)).setCell ⟨g2,k*7+3,O⟩ (J Jq 0)).setCell ⟨g2,k*7+4,O⟩ (J Jq 0)).setCell ⟨g2,k*7+5,O⟩ (J Jq 0)).setCell ⟨g2,k*7+6,O⟩ (J Jq (301+(i:Int))))):=by
        have z0:=(uL.out.put Cy.out Cz.out sA (o:=0) (by decide) 0).1
        have z1:=(z0.put Cy.out Cz.out sA (o:=1) (by decide) 0).1
        have z2:=(z1.put Cy.out Cz.out sA (o:=2) (by decide) 0).1
        have z3:=(z2.put Cy.out Cz.out sA (o:=3) (by decide) 0).1
        have z4:=(z3.put Cy.out Cz.out sA (o:=4) (by decide) 0).1
        have z5:=(z4.put Cy.out Cz.out sA (o:=5) (by decide) 0).1
        exact (z5.put Cy.out Cz.out sA (o:=6) (by decide) (301+(i:Int))).2 rfl rfl
       clear hL ho hc
       go_wp2
       exact⟨⟨k+1,by omega,by go_num,qk⟩,by simp[intOf];omega⟩
     . have qk:Hid (zT w1.heap.size w1 X vs Ns (i+1) 0 wr):=uL.out.next Cz.out (by omega)
       have On:¬(k:Int) < (m:Int):=by omega
       go_wp2
       exact⟨⟨i+1,by omega,by go_num,qk⟩,by simp[intOf];omega⟩
  . have TL:i=3:=by omega
    subst TL
    obtain⟨It,WZ⟩:Hid (Own2 w1.heap.size wr.heap.size w1 X vs Ns 0 [] wr)/\Hid (KX wr.heap.size vs):=HO.out.QV TK.out D2.out
    have W2:Hid (X.heap.size<=wr.heap.size):=by obtain⟨_,_,_,_,_,_,h⟩:=HO.out;exact h
    have Vm:Hid (w1.heap.size<=wr.heap.size):=by obtain⟨_,_,_,_,_,h,_⟩:=HO.out;exact h.size
    have HH:Hid (∃x,wr.heap.size=x):=⟨_,rfl⟩
    obtain⟨H,hH⟩:=HH.out
    rw[hH] at It WZ W2 Vm
    clear HH HO hH Zn
    go_wp2
    go_loopw [19,20] (fun gv vi w9=>∃(i:Nat) (us:List Value),i<=3/\vi=J Jq i/\Hid (Own2 w1.heap.size H w1 X vs Ns i us w9)/\Hid (w9.ownsRow H 23 1 gv i us)) (fun _ vi _=>3-(intOf vi).toNat)
    case atStart=>exact⟨0,[],Nat.zero_le _,rfl,It,World.ownsRow_nil _ _ _ _⟩
    case round=>
     obtain⟨i,us,hi,rfl,HO,HG⟩:=hrel
     obtain⟨wo,hwo⟩:∃x,x=wr:=⟨_,rfl⟩
     subst hwo
     by_cases am:i < 3
     . obtain⟨v,hv⟩:∃v,vs[i]?=I v:=⟨_,List.getElem?_eq_getElem (by rw[TK.out];exact am)⟩
       obtain⟨n0,hn⟩:∃v,Ns[i]?=I v:=⟨_,List.getElem?_eq_getElem (by rw[D2.out];exact am)⟩
       have K0:=TJ.out i n0 hn
       obtain⟨L,hl,Ow,_,bm⟩:=HO.out.old i v n0 hv hn
       have hs:=bm (Nat.le_refl _)
       obtain⟨ga,gk,rfl,Vl⟩:∃a c,v=Jj a n0 c/\(0 < n0->∃g,a=I ⟨g,0,O⟩):=by rw[<- hl];exact wC hs
       have Cy:=iF hv
       have Cz:Hid (Ns[i]?=I L.length):=by show _=_;rw[hl];exact hn
       have zd:=iF hs
       have RD:Hid (Mark i L.length L):=by show Mark i L.length L;rw[hl];exact Ow
       have Nx:=iF hl
       have d0:wo.cell? ⟨lg,i,O⟩=I (Jj ga n0 gk):=(World.ownsRow.cellAt (HO.out.same.row Vj.out) i (by omega)).trans hv
       have dq:Hid (∀g,(Value.slice ga n0 gk).ownBlock=I g->g < wo.heap.size):=fun g hg=>by
        obtain⟨_,c1,h1⟩:=iJ hs hg
        exact iq h1
       have Zo:(i:Int) < 3:=by omega
       have hwi:IntKind.i64.wrap (401+(i:Int))=401+(i:Int):=by rw[IntKind.wrap_i64];omega
       clear hv hn Vl bm hs Ow hl
       go_wp2
       go_loopw [21,22] (fun vg vk wk=>∃k:Nat,k<=70/\vk=J Jq k/\Hid (E8 w1.heap.size wo (Jj ga n0 gk) L i k vg wk)) (fun _ vk _=>70-(intOf vk).toNat)
       case atStart=>exact⟨0,Nat.zero_le _,rfl,Fe zd.out RD.out⟩
       case round=>
        obtain⟨k,hk,rfl,HK⟩:=hrel
        have Zp:=zh (Nat.le_trans HO.out.size HK.out.by_.size)
        have HzB:=zh (Nat.le_trans Vm.out Zp.out)
        obtain⟨G,hG,W4,Zq,Zr⟩:=HK.out.own
        obtain⟨m,hm⟩:∃m,n0+k=m:=⟨_,rfl⟩
        have TM:G.length=m:=by rw[W4,Nx.out,hm]
        have HM:=iF hm
        obtain⟨ea,ek,rfl⟩:∃a c,u21=Jj a m c:=by
         obtain⟨a,c,h,_⟩:=wC hG
         rw[TM] at h
         exact⟨a,c,h⟩
        have RL:=iF hG
        have Wx:=iF W4
        have HGm:=iF Zq
        have HGp:=iF Zr
        have Zs:G.length<=1000000:=by omega
        have HGb:=iF Zs
        clear hG W4 Zq Zr TM Zs hm
        by_cases sA:k < 70
        . have On:(k:Int) < 70:=by omega
          have Vn:Hid ((⟨0,0,0,0,0,0,401+(i:Int)⟩:aj).p=mkB i):=rfl
          go_wp2_with (at_builtin;refine ut wr rfl (.tmp 121) (.tmp 125) rfl w1.heap.size (Jj ea m ek) G ⟨0,0,0,0,0,0,401+(i:Int)⟩ rfl RL.out (by first | rfl | simp[Act.eval]) HGb.out HzB.out ?_;intro v2 w2' h2 h3 h4;have qk:Hid (E8 w1.heap.size wo (Jj ga n0 gk) L i (k+1) v2 w2'):=IA HK.out dq.out RL.out Wx.out HGm.out HGp.out Vn.out h2 h3 h4;clear h2 h3 h4)
          exact⟨⟨k+1,by omega,by go_num,qk⟩,by simp[intOf];omega⟩
        . obtain rfl:70=k:=by omega
          have On:¬(70:Int) < 70:=by omega
          have HGk:Hid (wr.ownsRow H 23 1 u19 i us):=Gp (w1:=w1) (w5:=X) (vs:=vs) (Ns:=Ns) zd.out HK.out HG.out
          have TN:i<=16777216:=by omega
          go_wp2_with (at_builtin;refine sH wr rfl (.tmp 127) (.tmp 129) 39 23 rfl (Jj O 0 0) 24 underlying39 PR rfl (by decide) H _ i us (Jj ea m ek) rfl rfl HGk.out (by first | rfl | simp[Act.eval]) TN Zp.out ?_;intro v2 w2' h2 h3 h4;have qk:Hid (Own2 w1.heap.size H w1 X vs Ns (i+1) (us++[Jj ea m ek]) w2'):=KY HO.out WZ.out Cy.out Cz.out zd.out RD.out HK.out HG.out Vm.out W2.out h3;have Zt:Hid (w2'.ownsRow H 23 1 v2 (i+1) (us++[Jj ea m ek])):=h2;clear h2 h3 h4)
          exact⟨⟨i+1,by omega,by go_num,_,qk,Zt⟩,by simp[intOf];omega⟩
     . have TL:i=3:=by omega
       subst TL
       obtain⟨ea,ek,rfl,Zu⟩:=KZ HG.out
       obtain⟨eg,rfl⟩:=Zu (by omega)
       have U2:=zh HO.out.len
       have Zv:Hid (Below wo.heap.size wo wo):=Below.refl _ _
       clear Zu
       go_wp2
       go_loopw [23] (fun vi wr=>∃i:Nat,i<=3/\vi=J Jq i/\Hid (Below wo.heap.size wo wr)) (fun vi _=>3-(intOf vi).toNat)
       case atStart=>exact⟨0,Nat.zero_le _,rfl,Zv⟩
       case round=>
        obtain⟨i,hi,rfl,HQ⟩:=hrel
        by_cases am:i < 3
        . obtain⟨v,hv⟩:∃v,vs[i]?=I v:=⟨_,List.getElem?_eq_getElem (by rw[TK.out];exact am)⟩
          obtain⟨u,hu⟩:∃v,us[i]?=I v:=⟨_,List.getElem?_eq_getElem (by rw[U2.out];exact am)⟩
          obtain⟨n0,hn⟩:∃v,Ns[i]?=I v:=⟨_,List.getElem?_eq_getElem (by rw[D2.out];exact am)⟩
          have K0:=TJ.out i n0 hn
          obtain⟨L,hl,Ow,Od,_⟩:=HO.out.old i v n0 hv hn
          obtain⟨⟨G,gl,gm,gs⟩,_⟩:=HO.out.new i u v n0 hu hv hn
          obtain⟨m,hm⟩:∃m,n0+70=m:=⟨_,rfl⟩
          obtain⟨ga,gk,rfl⟩:∃a c,v=Jj a n0 c:=by obtain⟨a,c,h,_⟩:=Od.cells.shape;rw[hl] at h;exact⟨a,c,h⟩
          obtain⟨ja,jk,rfl⟩:∃a c,u=Jj a m c:=by obtain⟨a,c,h,_⟩:=gs.cells.shape;rw[gl,hm] at h;exact⟨a,c,h⟩
          have HD:Hid (∀W,Below wo.heap.size wo W->W.cell? ⟨lg,i,O⟩=I (Jj ga n0 gk)/\W.cell? ⟨eg,i,O⟩=I (Jj ja m jk)):=fun W hW=>by
           have c1:wo.cell? ⟨lg,i,O⟩=I (Jj ga n0 gk):=(World.ownsRow.cellAt (HO.out.same.row Vj.out) i (by omega)).trans hv
           have c2:wo.cell? ⟨eg,i,O⟩=I (Jj ja m jk):=(World.ownsRow.cellAt HG.out i (by omega)).trans hu
           exact⟨(hW.cell (p:=⟨lg,i,O⟩) (World.block_lt_of_cell? wo _ c1)).trans c1,(hW.cell (p:=⟨eg,i,O⟩) (World.block_lt_of_cell? wo _ c2)).trans c2⟩
          have ze:Hid (∀k:Nat,k < n0->∃g,ga=I ⟨g,0,O⟩/\∀W,Below wo.heap.size wo W->W.cell? ⟨g,k*7+6,O⟩=I (J Jq (301+(i:Int)))):=fun k hk=>by
           obtain⟨c,hc⟩:∃c,L[k]?=I c:=⟨_,List.getElem?_eq_getElem (by omega)⟩
           obtain⟨g,cap,e,f⟩:=Od.cell hc
           rw[Ow k c hc,if_pos hk] at f
           injection e with e _ _
           exact⟨g,e,fun W hW=>(hW.cell (p:=⟨g,k*7+6,O⟩) (World.block_lt_of_cell? wo _ f)).trans f⟩
          have sE:Hid (∀k:Nat,k < m->∃g,ja=I ⟨g,0,O⟩/\∀W,Below wo.heap.size wo W->W.cell? ⟨g,k*7+6,O⟩=I (J Jq (if k < n0 then 301+(i:Int) else 401+(i:Int)))):=fun k hk=>by
           obtain⟨c,hc⟩:∃c,G[k]?=I c:=⟨_,List.getElem?_eq_getElem (by omega)⟩
           obtain⟨g,cap,e,f⟩:=gs.cell hc
           rw[gm k c hc] at f
           injection e with e _ _
           exact⟨g,e,fun W hW=>(hW.cell (p:=⟨g,k*7+6,O⟩) (World.block_lt_of_cell? wo _ f)).trans f⟩
          have hmb:m<=270:=by omega
          have hnm:n0<=m:=by omega
          have Zo:(i:Int) < 3:=by omega
          clear hv hu hn hl Ow Od gl gm gs hm
          obtain⟨y3,hy3⟩:∃y,301+(i:Int)=y:=⟨_,rfl⟩
          obtain⟨y4,hy4⟩:∃y,401+(i:Int)=y:=⟨_,rfl⟩
          have FS:IntKind.i64.wrap (301+(i:Int))=y3:=by rw[IntKind.wrap_i64];omega
          have Yo:IntKind.i64.wrap (401+(i:Int))=y4:=by rw[IntKind.wrap_i64];omega
          rw[hy3] at ze sE
          rw[hy4] at sE
          have U6:(y3 != y3)=false:=by simp
          have hz4:(y4 != y4)=false:=by simp
          clear hy3 hy4
          go_wp2
          go_loopw [24] (fun vi wr=>∃k:Nat,k<=m/\vi=J Jq k/\Hid (Below wo.heap.size wo wr)) (fun vi _=>m-(intOf vi).toNat)
          case atStart=>exact⟨0,Nat.zero_le _,rfl,HQ⟩
          case round=>
           obtain⟨k,hk,rfl,Ix⟩:=hrel
           obtain⟨d1,d2⟩:=HD.out wr Ix.out
           by_cases sA:k < m
           . obtain⟨g2,rfl,f2⟩:=sE.out k sA
             have d3:=f2 wr Ix.out
             have On:(k:Int) < (m:Int):=by omega
             by_cases W5:k < n0
             . obtain⟨g1,rfl,f1⟩:=ze.out k W5
               have d4:=f1 wr Ix.out
               rw[if_pos W5] at d3
               have iN:(k:Int) < (n0:Int):=by omega
               clear f1 f2
               go_wp2
               exact⟨⟨k+1,by omega,by go_num,Ix⟩,by simp[intOf];omega⟩
             . have iN:¬(k:Int) < (n0:Int):=by omega
               rw[if_neg W5] at d3
               clear f2
               go_wp2
               exact⟨⟨k+1,by omega,by go_num,Ix⟩,by simp[intOf];omega⟩
           . have On:¬(k:Int) < (m:Int):=by omega
             go_wp2
             exact⟨⟨i+1,by omega,by go_num,Ix⟩,by simp[intOf];omega⟩
        . have TL:i=3:=by omega
          subst TL
          have bB:=zh (af HO.out.below HQ.out)
          have Zw:Hid (Dq wr g cap n):=⟨l,HN.out,Vh.out.1.below bB.out,by
           obtain⟨cur,hc⟩:=Vh.out.2
           exact⟨cur,(bB.out.block g (iq hc)).trans hc⟩⟩
          have Ds:=zh (af H1.out bB.out)
          have xt:=iF (ln.out g cap wr (Vh.out.1.below bB.out) Ds.out)
          clear HO HQ Zv HG Vj TK D2 TJ U2 WZ W2 Vm It S1 Rb Iv
          go_wp2_with fail
          refine xt.out.mono ?_
          rintro e w10 ⟨rfl,ID⟩
          have W6:=zh (af Ds.out ID)
          have W7:Hid (Dq w10 g cap n):=by
           obtain⟨M,m1,m2,cur,m3⟩:=Zw.out
           exact⟨M,m1,m2.below ID,cur,(ID.block g (iq m3)).trans m3⟩
          clear ID xt Zw Ds bB
          go_wp2
          go_loopw [26] (fun vi wr=>∃k:Nat,k<=n/\vi=J Jq k/\Hid (Dq wr g cap n)/\Hid (Below W.heap.size W wr)) (fun vi _=>n-(intOf vi).toNat)
          case atStart=>exact⟨0,Nat.zero_le _,rfl,W7,W6⟩
          case round=>
           obtain⟨k,hk,rfl,HT,Zx⟩:=hrel
           by_cases sA:k < n
           . obtain⟨pv,d6,f6⟩:=HT.out.cell sA
             have On:(k:Int) < (n:Int):=by omega
             have qk:=iF fun x:Int=>HT.out.set sA x
             have A9:=iF fun x:Int=>Below.setCell Zx.out (p:=⟨g,k*7+6,O⟩) HG1.out (J Jq x)
             go_wp2
             exact⟨⟨k+1,by omega,by go_num,qk.out _,A9.out _⟩,by simp[intOf];omega⟩
           . obtain rfl:n=k:=by omega
             have On:¬(n:Int) < (n:Int):=by omega
             obtain⟨M,hM,hT,-⟩:=HT.out
             obtain⟨er,r,r1,r2,r3⟩:=Zl.out M
             have tA:=iF r2
             have C6:=iF r3
             have tQ:=iF r1
             have W8:Hid (∀Y,Below wr.heap.size wr Y->ay Y (Jj (I ⟨g,0,O⟩) n cap) M):=fun Y hY=>by
              have h:=hT.cellsIn.below hY
              rw[hM] at h
              exact h
             have OF:M.length*56<=140737488351232:=by have:=HL.out;rw[HN.out] at this;rw[hM];exact this
             have W9:=iF (twin_any (Jj (I ⟨g,0,O⟩) n cap) M wr (W8.out _ (Below.refl _ _)) (.inr ⟨_,_,_,rfl⟩) OF)
             rw[hM] at W9
             have Tq:Hid (∀g' cap' Y,kD Y g' cap' M->Below wr.heap.size wr Y->Calls prog 12 #[Jj (I ⟨g',0,O⟩) n cap',Jj (I ⟨g,0,O⟩) n cap] Y fun e w'=>e=Jz (.bool true)/\Below Y.heap.size Y w'):=fun g' cap' Y h1 h2=>by
              have h:=F6 (Jj (I ⟨g,0,O⟩) n cap) g' cap' M Y h1 (W8.out Y h2) OF
              rw[hM] at h
              exact h
             have HMl:=iF hM
             have heq:(er==er)=true:=by simp
             clear hM hT r1 r2 r3 OF HT HL Zl
             go_wp2_with fail
             refine W9.out.mono ?_
             rintro e w11 ⟨g',cap',rfl,TO,-,OK⟩
             have Xa:=iF TO
             have TP:=iF OK
             have TQ:=iF (af Zx.out OK)
             obtain⟨c0,c1,c2,c3,c4,c5,c6,c7⟩:=wT.out w11 TQ.out
             clear TO OK W9
             go_wp2_with fail
             refine (tA.out _ _ (W8.out _ TP.out)).mono ?_
             rintro e w12 ⟨sx,rfl,ON,IF⟩
             obtain⟨xa,xn,xc,rfl⟩:=mY ON
             have Xb:=iF ON
             have Xc:=iF (af TP.out IF)
             have TR:=iF (Xa.out.below IF)
             have TS:=iF (af TQ.out IF)
             obtain⟨c0,c1,c2,c3,c4,c5,c6,c7⟩:=wT.out w12 TS.out
             have Xd:Hid (ay w12 (Jj (I ⟨g',0,O⟩) n cap') M):=by
              have h:=TR.out.cellsIn
              rw[HMl.out] at h
              exact h
             clear ON IF
             go_wp2_with fail
             refine (C6.out _ _ Xd.out).mono ?_
             rintro e w13 ⟨sy,rfl,hy13,CC⟩
             obtain⟨ya,yn,yc,rfl⟩:=mY hy13
             have Xe:=iF hy13
             have Xf:=iF (Xb.out.below CC)
             have Xg:=iF (af Xc.out CC)
             have Xh:=iF (TR.out.below CC)
             have Xi:=iF (af TS.out CC)
             clear hy13 CC c0 c1 c2 c3 c4 c5 c6 c7
             go_wp2_with fail
             refine (As.out _ _ _ r (by have:=tQ.out;omega) Xf.out.cellsIn Xe.out.cellsIn).mono ?_
             rintro e w14 ⟨rfl,IN⟩
             have Xj:=iF (Tq.out g' cap' w14 (Xh.out.below IN) (af Xg.out IN))
             have Xk:=iF (af Xi.out IN)
             clear IN
             go_wp2_with fail
             refine Xj.out.mono ?_
             rintro e w15 ⟨rfl,TT⟩
             have Xl:=zh (af bR.out (af Xk.out TT))
             clear TT
             go_wp2_with fail
             all_goals go_ret
             all_goals exact⟨rfl,Xl.out⟩
end Go.Proofs.YtejlincnnonhaaaGreat
