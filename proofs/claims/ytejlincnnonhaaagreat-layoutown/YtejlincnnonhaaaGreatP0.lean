import Derived.Below
import Derived.Test.YtejlincnnonhaaaGreatProg
import Derived.WalkKit
import Derived.OneCell
import Derived.OpenShut
import Derived.OwnWalk
import Derived.Deep.RegionHeld3
namespace Go.Proofs.YtejlincnnonhaaaGreat
open Go.RowKit Go.Proofs.Tryz
open Value renaming int->J,slice->Jj,pointer->JJ
open IntKind renaming i64->Jq
open Option renaming none->O,some->I
open Ending renaming returned->Jz
open Obj renaming cells->JZ
set_option linter.unusedVariables false
set_option maxRecDepth 100000
set_option maxHeartbeats 16000000
/-
  The same texts, made smaller: what is hidden.
-/
theorem zh {p : Prop} (h : p) : Hid p := h
structure Box where
 x:Int
 y:Int
 w:Int
 h:Int
structure aj where
 depth:Int
 kind:Int
 x:Int
 y:Int
 w:Int
 h:Int
 p:Int
 deriving DecidableEq
def aj.vals (c:aj):Array Value:=#[J Jq c.depth,J Jq c.kind,J Jq c.x,J Jq c.y,J Jq c.w,J Jq c.h,J Jq c.p]
def Box.ext (b:Box)(k:Int):Int:=if k=2 then b.w else b.h
def aA (k:Int):Int:=if k=2 then 3 else 2
def aG (n:Int):Bool:=decide (1<=n)&&decide (n<=1000)
def idB (n:Int):Bool:=decide (1<=n)&&decide (n<=4611686018427387904)
inductive Tree where
 | leaf (b:Box) (p:Int)
 | split (b:Box) (k:Int) (ts:List Tree)
def Tree.box:Tree->Box
 | .leaf b _=>b
 | .split b _ _=>b
def Tree.bY:Tree->Int->Bool
 | .leaf _ _,_=>false
 | .split _ k _,j=>decide (k=j)
mutual
def Tree.size:Tree->Nat
 | .leaf _ _=>1
 | .split _ _ ts=>1+sizes ts
def sizes:List Tree->Nat
 | []=>0
 | t::ts=>t.size+sizes ts
end
mutual
def Tree.room:Tree->Int->Int
 | .leaf b _,j=>b.ext j-1
 | .split _ k ts,j=>if j=k then bg ts j else aP ts j
def bg:List Tree->Int->Int
 | [],_=>0
 | t::ts,j=>t.room j+bg ts j
def aP:List Tree->Int->Int
 | [],_=>1000
 | t::ts,j=>min (t.room j) (aP ts j)
end
mutual
def Tree.moved:Tree->Int->Int->Tree
 | .leaf b p,x,y=>.leaf { b with x:=x,y:=y } p
 | .split b k ts,x,y=>.split { b with x:=x,y:=y } k (aS ts k x y)
def aS:List Tree->Int->Int->Int->List Tree
 | [],_,_,_=>[]
 | t::ts,k,x,y=>t.moved x y::(if k=2 then aS ts k (x+(t.box.ext k+1)) y else aS ts k x (y+(t.box.ext k+1)))
end
mutual
def Tree.tell:Tree->Int->List aj
 | .leaf b p,d=>[⟨d,1,b.x,b.y,b.w,b.h,p⟩]
 | .split b k ts,d=>⟨d,k,b.x,b.y,b.w,b.h,0⟩::bJ ts (d+1)
def bJ:List Tree->Int->List aj
 | [],_=>[]
 | t::ts,d=>t.tell d++bJ ts d
end
def aN:List Tree->Int->Int
 | [],_=> -1
 | t::ts,k=>t.box.ext k+1+aN ts k
mutual
def Tree.sound:Tree->Bool
 | .leaf b p=>(aG b.w&&aG b.h)&&idB p
 | .split b k ts=>(decide (2<=ts.length)&&(aG b.w&&aG b.h))&&(au ts b k&&decide (aN ts k=b.ext k))
def au:List Tree->Box->Int->Bool
 | [],_,_=>true
 | t::ts,b,k=>(t.sound&&(!t.bY k&&decide (t.box.ext (aA k)=b.ext (aA k))))&&au ts b k
end
def aj.box (c:aj):Box:=⟨c.x,c.y,c.w,c.h⟩
mutual
def qp:Nat->List aj->Int->Option (Tree × List aj)
 | 0,_,_=>O
 | _,[],_=>O
 | n+1,c::l,d=>
   if c.depth=d then
    if c.kind=1 then I (.leaf c.box c.p,l)
    else if c.kind=2\/c.kind=3 then I (.split c.box c.kind (fV n l (d+1)).1,(fV n l (d+1)).2)
    else O
   else O
def fV:Nat->List aj->Int->List Tree × List aj
 | 0,l,_=>([],l)
 | n+1,l,d=>match qp n l d with
   | none=>([],l)
   | some (t,r)=>(t::(fV n r d).1,(fV n r d).2)
end
theorem Tree.sQ (t:Tree)(x y k:Int):(t.moved x y).box.ext k=t.box.ext k:=by cases t <;> rfl
structure bP (W:World)(g:Nat)(b:Box):Prop where
 x:W.cell? ⟨g,0,O⟩=I (J Jq b.x)
 y:W.cell? ⟨g,1,O⟩=I (J Jq b.y)
 w:W.cell? ⟨g,2,O⟩=I (J Jq b.w)
 h:W.cell? ⟨g,3,O⟩=I (J Jq b.h)
 free:∀o,o < 4->W.frozen? ⟨g,o,O⟩=false
def wV (b:Box)(p:Int):Array Value:=#[J Jq b.x,J Jq b.y,J Jq b.w,J Jq b.h,J Jq p]
def splitV (b:Box)(k:Int)(sl:Value):Array Value:=#[J Jq b.x,J Jq b.y,J Jq b.w,J Jq b.h,J Jq k,sl]
def bD (W:World)(g:Nat)(b:Box)(p:Int):Prop:=W.heap[g]?=I (.cells (wV b p) 49 (0,0))
def aX (W:World)(g:Nat)(b:Box)(k:Int)(sl:Value):Prop:=W.heap[g]?=I (.cells (splitV b k sl) 91 (0,0))
theorem ae {w:World}{b:Nat}{cs:Array Value}{t:TypeId}(h:w.heap[b]?=I (.cells cs t (0,0)))(o:Nat):w.cell? ⟨b,o,O⟩=cs[o]?:=by simp[World.cell?,h]
theorem ai {w:World}{b:Nat}{cs:Array Value}{t:TypeId}(h:w.heap[b]?=I (.cells cs t (0,0)))(o:Nat):w.frozen? ⟨b,o,O⟩=false:=by simp[World.frozen?,h]
theorem bD.box {W:World}{g:Nat}{b:Box}{p:Int}(h:bD W g b p):bP W g b:=⟨ae h 0,ae h 1,ae h 2,ae h 3,fun o _=>ai h o⟩
theorem aX.box {W:World}{g:Nat}{b:Box}{k:Int}{sl:Value}(h:aX W g b k sl):bP W g b:=⟨ae h 0,ae h 1,ae h 2,ae h 3,fun o _=>ai h o⟩
def aZ (g:Nat):Value:=.iface 45 (JJ (I ⟨g,0,O⟩))
def dA (g:Nat):Value:=.iface 83 (JJ (I ⟨g,0,O⟩))
mutual
def Tree.At (W:World)(B:Nat):Tree->Value->List Nat->Prop
 | .leaf b p,v,fp=>∃g,v=aZ g/\bD W g b p/\fp=[g]
 | .split b k ts,v,fp=>∃g sl vs fs,v=dA g/\aX W g b k sl/\W.ownsRow B 70 1 sl vs.length vs/\aB W B ts vs fs/\fp=g::(sl.ownBlock.toList++fs)
def aB (W:World)(B:Nat):List Tree->List Value->List Nat->Prop
 | [],vs,fp=>vs=[]/\fp=[]
 | t::ts,vs,fp=>∃v vs' f f',vs=v::vs'/\t.At W B v f/\aB W B ts vs' f'/\fp=f++f'
end
theorem dU {W W':World}{B:Nat}{t:TypeId}{sl:Value}{n:Nat}{vs:List Value}(h:W.ownsRow B t 1 sl n vs)(hk:∀g∈sl.ownBlock.toList,W'.heap[g]?=W.heap[g]?):W'.ownsRow B t 1 sl n vs:=by
 refine⟨h.1,?_⟩
 rcases h.2 with h0 | ⟨g,cap,cur,rfl,hb,hg,r⟩
 . exact .inl h0
 . exact .inr ⟨g,cap,cur,rfl,hb,(hk g (by simp[Value.ownBlock])).trans hg,r⟩
mutual
theorem Tree.At.keep {W W':World}{B:Nat}:∀{t:Tree} {v:Value} {fp:List Nat},t.At W B v fp->(∀g∈fp,W'.heap[g]?=W.heap[g]?)->t.At W' B v fp
 | .leaf b p,v,fp,h,hk=>by
   obtain⟨g,h1,h2,rfl⟩:=h
   exact⟨g,h1,(hk g (by simp)).trans h2,rfl⟩
 | .split b k ts,v,fp,h,hk=>by
   obtain⟨g,sl,vs,fs,h1,h2,h3,h4,rfl⟩:=h
   exact⟨g,sl,vs,fs,h1,(hk g (by simp)).trans h2,dU h3 (fun x hx=>hk x (by simp[hx])),aB.keep h4 (fun x hx=>hk x (by simp[hx])),rfl⟩
theorem aB.keep {W W':World}{B:Nat}:∀{ts:List Tree} {vs:List Value} {fp:List Nat},aB W B ts vs fp->(∀g∈fp,W'.heap[g]?=W.heap[g]?)->aB W' B ts vs fp
 | [],vs,fp,h,hk=>h
 | t::ts,vs,fp,h,hk=>by
   obtain⟨v,vs',f,f',h1,h2,h3,rfl⟩:=h
   exact⟨v,vs',f,f',h1,Tree.At.keep h2 (fun x hx=>hk x (List.mem_append_left _ hx)),aB.keep h3 (fun x hx=>hk x (List.mem_append_right _ hx)),rfl⟩
end
theorem aB.length {W:World}{B:Nat}:∀{ts:List Tree} {vs:List Value} {fp:List Nat},aB W B ts vs fp->vs.length=ts.length
 | [],vs,fp,h=>by rw[h.1];rfl
 | t::ts,vs,fp,h=>by
   obtain⟨v,vs',f,f',rfl,h2,h3,rfl⟩:=h
   rw[List.length_cons,List.length_cons,aB.length h3]
theorem aB.get {W:World}{B:Nat}:∀{ts:List Tree} {vs:List Value} {fp:List Nat},aB W B ts vs fp->∀(i:Nat) t,ts[i]?=I t->∃v f,vs[i]?=I v/\t.At W B v f/\∀x∈f,x∈fp
 | [],vs,fp,h,i,t,hi=>by cases hi
 | t::ts,vs,fp,h,0,t',hi=>by
   obtain⟨v,vs',f,f',rfl,h2,h3,rfl⟩:=h
   cases hi
   exact⟨v,f,rfl,h2,fun x hx=>List.mem_append_left _ hx⟩
 | t::ts,vs,fp,h,i+1,t',hi=>by
   obtain⟨v,vs',f,f',rfl,h2,h3,rfl⟩:=h
   obtain⟨v1,f1,e1,e2,e3⟩:=aB.get h3 i t' hi
   exact⟨v1,f1,e1,e2,fun x hx=>List.mem_append_right _ (e3 x hx)⟩
theorem Tree.At.own {W:World}{B:Nat}{t:Tree}{v:Value}{fp:List Nat}(h:t.At W B v fp):∃g,(v=aZ g\/v=dA g)/\bP W g t.box/\g∈fp:=by
 cases t with
 | leaf b p=>
   obtain⟨g,h1,h2,rfl⟩:=h
   exact⟨g,.inl h1,h2.box,by simp⟩
 | split b k ts=>
   obtain⟨g,sl,vs,fs,h1,h2,h3,h4,rfl⟩:=h
   exact⟨g,.inr h1,h2.box,by simp⟩
theorem oV {a b:Bool}(h:a=b):Ending.returned (.bool a)=Jz (.bool b):=by rw[h]
theorem ed (n:Int)(w:World):Calls prog 13 #[J Jq n] w fun e w'=>e=Jz (.bool (aG n))/\w=w':=by
 go_enter func13,ntmps13
 go_wp2
 all_goals go_ret
 all_goals refine⟨oV ?_,rfl⟩
 all_goals (unfold aG;rw[Bool.eq_iff_iff];simp;omega)
theorem vW (n:Int)(w:World):Calls prog 14 #[J Jq n] w fun e w'=>e=Jz (.bool (idB n))/\w=w':=by
 go_enter func14,ntmps14
 go_wp2
 all_goals go_ret
 all_goals refine⟨oV ?_,rfl⟩
 all_goals (unfold idB;rw[Bool.eq_iff_iff];simp;omega)
theorem pU (k:Int)(w:World):Calls prog 45 #[J Jq k] w fun e w'=>e=Jz (J Jq (aA k))/\w=w':=by
 unfold aA
 by_cases h:k=2
 . subst h
   rw[if_pos rfl]
   go_enter func45,ntmps45
   go_wp2
   all_goals go_ret
   all_goals exact⟨rfl,rfl⟩
 . rw[if_neg h]
   have h2:(k==2)=false:=by simpa using h
   go_enter func45,ntmps45
   go_wp2
   all_goals go_ret
   all_goals exact⟨rfl,rfl⟩
theorem dC (g:Nat)(b:Box)(k:Int)(w:World)(h:bP w g b):
 Calls prog 38 #[JJ (I ⟨g,0,O⟩),J Jq k] w fun e w'=>e=Jz (J Jq (b.ext k))/\w=w':=by
 obtain⟨q0,q1,q2,q3,_⟩:=h
 unfold Box.ext
 by_cases hk:k=2
 . subst hk
   rw[if_pos rfl]
   go_enter func38,ntmps38
   go_wp2
   all_goals go_ret
   all_goals exact⟨rfl,rfl⟩
 . rw[if_neg hk]
   have h2:(k==2)=false:=by simpa using hk
   go_enter func38,ntmps38
   go_wp2
   all_goals go_ret
   all_goals exact⟨rfl,rfl⟩
theorem Au (g:Nat)(b:Box)(w:World)(h:bP w g b):
 Calls prog 135 #[JJ (I ⟨g,0,O⟩)] w fun e w'=>e=Jz (.bool (aG b.w&&aG b.h))/\w=w':=by
 obtain⟨q0,q1,q2,q3,_⟩:=h
 have H1:=zh ed
 cases h1:aG b.w
 all_goals
  go_enter func135,ntmps135
  go_wp2_with (go_at_call 13;refine (H1.out _ _).mono ?_;rintro e w1 ⟨rfl,rfl⟩)
  all_goals go_ret
  all_goals exact⟨rfl,rfl⟩
theorem IL (g:Nat)(b:Box)(p:Int)(w:World)(h:bD w g b p):
 Calls prog 138 #[JJ (I ⟨g,0,O⟩)] w fun e w'=>e=Jz (.bool (Tree.leaf b p).sound)/\w=w':=by
 have q4:w.cell? ⟨g,4,O⟩=I (J Jq p):=ae h 4
 have H1:=Au g b w h.box
 have H2:=zh vW
 show Calls _ _ _ _ fun e w'=>e=Jz (.bool ((aG b.w&&aG b.h)&&idB p))/\w=w'
 obtain⟨c,hc⟩:∃c,(aG b.w&&aG b.h)=c:=⟨_,rfl⟩
 rw[hc] at H1 ⊢
 have H1':=zh H1
 clear h hc H1
 cases c
 all_goals
  go_enter func138,ntmps138
  go_wp2_with (first | (go_at_call 135;refine H1'.out.mono ?_;rintro e w1 ⟨rfl,rfl⟩) | (go_at_call 14;refine (H2.out _ _).mono ?_;rintro e w2 ⟨rfl,rfl⟩))
  all_goals go_ret
  all_goals exact⟨rfl,rfl⟩
theorem Pg (g:Nat)(k:Int)(w:World):Calls prog 134 #[JJ (I ⟨g,0,O⟩),J Jq k] w fun e w'=>e=Jz (JJ O)/\w=w':=by
 go_enter func134,ntmps134
 go_wp2
 all_goals go_ret
 all_goals exact⟨rfl,rfl⟩
theorem NV (g:Nat)(b:Box)(k:Int)(sl:Value)(j:Int)(w:World)(h:aX w g b k sl):Calls prog 142 #[JJ (I ⟨g,0,O⟩),J Jq j] w fun e w'=>e=Jz (JJ (if k=j then I ⟨g,0,O⟩ else O))/\w=w':=by
 have q4:w.cell? ⟨g,4,O⟩=I (J Jq k):=ae h 4
 clear h
 by_cases hk:k=j
 . subst hk
   rw[if_pos rfl]
   go_enter func142,ntmps142
   go_wp2
   all_goals go_ret
   all_goals exact⟨rfl,rfl⟩
 . rw[if_neg hk]
   have h2:(k != j)=true:=by simpa using hk
   go_enter func142,ntmps142
   go_wp2
   all_goals go_ret
   all_goals exact⟨rfl,rfl⟩
theorem nz (g : Nat) (W : World) : (method 286 45 (JJ (I ⟨g, 0, O⟩)) "mullion/layout.extent").run prog W = .ok (38, JJ (I ⟨g, 0, O⟩)) W := by kernel_rfl
theorem nC (g : Nat) (W : World) : (method 286 83 (JJ (I ⟨g, 0, O⟩)) "mullion/layout.extent").run prog W = .ok (38, JJ (I ⟨g, 0, O⟩)) W := by kernel_rfl
theorem O9 (g : Nat) (W : World) : (method 286 45 (JJ (I ⟨g, 0, O⟩)) "mullion/layout.sound").run prog W = .ok (138, JJ (I ⟨g, 0, O⟩)) W := by kernel_rfl
theorem Ph (g : Nat) (W : World) : (method 286 83 (JJ (I ⟨g, 0, O⟩)) "mullion/layout.sound").run prog W = .ok (146, JJ (I ⟨g, 0, O⟩)) W := by kernel_rfl
theorem QZ (g : Nat) (W : World) : (method 286 45 (JJ (I ⟨g, 0, O⟩)) "mullion/layout.as").run prog W = .ok (134, JJ (I ⟨g, 0, O⟩)) W := by kernel_rfl
theorem Q3 (g : Nat) (W : World) : (method 286 83 (JJ (I ⟨g, 0, O⟩)) "mullion/layout.as").run prog W = .ok (142, JJ (I ⟨g, 0, O⟩)) W := by kernel_rfl
end Go.Proofs.YtejlincnnonhaaaGreat
