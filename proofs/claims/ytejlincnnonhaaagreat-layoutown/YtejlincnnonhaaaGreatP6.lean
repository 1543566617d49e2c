import Derived.Test.YtejlincnnonhaaaGreatP4
namespace Go.Proofs.YtejlincnnonhaaaGreat
open Go.RowKit Go.Proofs.Tryz
open Value renaming int->J,slice->Jj,pointer->JJ
open IntKind renaming i64->Jq
open Option renaming none->O,some->I
open Ending renaming returned->Jz
open Obj renaming cells->JZ
set_option linter.unusedVariables false
set_option maxRecDepth 100000
set_option maxHeartbeats 16000000
theorem rY (c:aj)(W:World):(Op.equalIn 10000 41 (.agg c.vals) (.agg c.vals)).run prog W=.ok true W:=by
 have:=PH c c W
 rw[(kQ c c).2 rfl] at this
 exact this
theorem gW.at0 {w:World}{b off:Nat}{c:aj}{l:List aj}(h:gW w b off (c::l)):lQ w b off c:=by
 have:=h 0 c rfl
 simpa using this
theorem zt (w:World):Calls prog 7 #[] w fun e w'=>e=Jz (.bool true)/\Below w.heap.size w w':=by
 have a7:fO 9 5 7=0:=rfl
 have HN:Hid (Calls prog 5 #[J Jq 9,J Jq 5,J Jq 7] w fun e w1=>∃b off cap,e=Jz (.tuple #[Jj (I ⟨b,off,O⟩) 1 cap,J Jq 0])/\ay w1 (Jj (I ⟨b,off,O⟩) 1 cap) [oneCell 9 5 7]/\gW w1 b off [oneCell 9 5 7]/\Below w.heap.size w w1):=by
  refine (F7 9 5 7 w a7).mono ?_
  rintro e w1 ⟨u,rfl,hu,hb⟩
  obtain⟨b,off,cap,rfl,_,hs⟩:=hu.cellsIn.seen (by simp)
  exact⟨b,off,cap,rfl,hu.cellsIn,hs,hb⟩
 have YR:Hid (∀W,Calls prog 17 #[Jj O 0 0] W fun e w'=>e=Jz (J Jq 40)/\Below W.heap.size W w'):=fun W=>check_nil ▸ check_any (Jj O 0 0) [] W ⟨O,0,rfl,Nat.le_refl _,.inl rfl⟩
 have wT:Hid (∀v W,ay W v [oneCell 9 5 7]->Calls prog 17 #[v] W fun e w'=>e=Jz (J Jq 0)/\Below W.heap.size W w'):=fun v W h=>J4 9 5 7 a7 ▸ check_any v _ W h
 have YS:Hid (∀v W,ay W v [oneCell 9 5 7]->Calls prog 18 #[v,J Jq 7,J Jq 2,J Jq 0,.bool false,J Jq 8] W fun e w1=>∃b off cap,e=Jz (.tuple #[Jj (I ⟨b,off,O⟩) 3 cap,J Jq 0])/\gW w1 b off [⟨0,2,0,0,9,5,0⟩,⟨1,1,0,0,4,5,7⟩,⟨1,1,5,0,4,5,8⟩]/\Below W.heap.size W w1):=by
  intro v W h
  refine (J5 v 9 5 7 8 W h a7 (by decide) rfl (by decide)).mono ?_
  rintro e w1 ⟨u,rfl,hu,hb⟩
  obtain⟨b,off,cap,rfl,_,hs⟩:=hu.cellsIn.seen (by unfold qg;simp)
  exact⟨b,off,cap,rfl,hs,hb⟩
 go_enter func7,ntmps7
 go_wp2_with fail
 refine HN.out.mono ?_
 rintro e w1 ⟨b,off,cap,rfl,hc,hs,hb⟩
 obtain⟨q0,q1,q2,q3,q4,q5,q6⟩:=hs.at0
 have K3:=zh hc
 have cY:=zh hb
 have SA:∀W:World,(Op.equalIn 10000 41 (.agg #[J Jq 0,J Jq 1,J Jq 0,J Jq 0,J Jq 9,J Jq 5,J Jq 7]) (.agg #[J Jq 0,J Jq 1,J Jq 0,J Jq 0,J Jq 9,J Jq 5,J Jq 7])).run prog W=.ok true W:=rY (oneCell 9 5 7)
 unfold oneCell at q0 q1 q2 q3 q4 q5 q6
 clear hc hs hb HN
 go_wp2_with fail
 refine (wT.out _ _ K3.out).mono ?_
 rintro e w2 ⟨rfl,al⟩
 have aD:=zh (af cY.out al)
 have YT:=zh (K3.out.below al)
 clear al cY K3 q0 q1 q2 q3 q4 q5 q6 SA
 go_wp2_with fail
 refine (YR.out _).mono ?_
 rintro e w3 ⟨rfl,aM⟩
 have cQ:=zh (af aD.out aM)
 have YU:=zh (YT.out.below aM)
 clear aM aD YT
 go_wp2_with fail
 refine (YS.out _ _ YU.out).mono ?_
 rintro e w4 ⟨b4,off4,cap4,rfl,U7,cv⟩
 have gr:=zh (af cQ.out cv)
 have h0:=U7 0 _ rfl
 have h1:=U7 1 _ rfl
 have h2:=U7 2 _ rfl
 rw[show off4+0*7=off4 by omega] at h0
 rw[show off4+1*7=off4+7 by omega] at h1
 rw[show off4+2*7=off4+14 by omega] at h2
 obtain⟨q0,q1,q2,q3,q4,q5,q6⟩:=h0
 obtain⟨p0,p1,p2,p3,p4,p5,p6⟩:=h1
 obtain⟨r0,r1,r2,r3,r4,r5,r6⟩:=h2
 have hEq0:∀W:World,(Op.equalIn 10000 41 (.agg #[J Jq 0,J Jq 2,J Jq 0,J Jq 0,J Jq 9,J Jq 5,J Jq 0]) (.agg #[J Jq 0,J Jq 2,J Jq 0,J Jq 0,J Jq 9,J Jq 5,J Jq 0])).run prog W=.ok true W:=rY ⟨0,2,0,0,9,5,0⟩
 have hEq1:∀W:World,(Op.equalIn 10000 41 (.agg #[J Jq 1,J Jq 1,J Jq 0,J Jq 0,J Jq 4,J Jq 5,J Jq 7]) (.agg #[J Jq 1,J Jq 1,J Jq 0,J Jq 0,J Jq 4,J Jq 5,J Jq 7])).run prog W=.ok true W:=rY ⟨1,1,0,0,4,5,7⟩
 have hEq2:∀W:World,(Op.equalIn 10000 41 (.agg #[J Jq 1,J Jq 1,J Jq 5,J Jq 0,J Jq 4,J Jq 5,J Jq 8]) (.agg #[J Jq 1,J Jq 1,J Jq 5,J Jq 0,J Jq 4,J Jq 5,J Jq 8])).run prog W=.ok true W:=rY ⟨1,1,5,0,4,5,8⟩
 clear U7 cv cQ YU YS YR wT
 go_wp2
 go_ret
 exact⟨rfl,gr.out⟩
theorem Dt (X:World)(g B:Nat)(hg:X.heap.size=g)(c:aj)(hB:B<=g):az (X.alloc (.cells c.vals 41)) B (Jj (I ⟨g,0,O⟩) 1 1) [c]:=by
 subst hg
 exact⟨rfl,.inr ⟨X.heap.size,1,c.vals,rfl,hB,heap_alloc_new _ _,Nat.le_refl _,by decide,rfl,rfl⟩⟩
theorem Du (k a b i d x y:Int)(w:World):
 Calls prog 34 #[.agg #[J Jq k,J Jq a,J Jq b,J Jq i,Jj O 0 0],J Jq d,J Jq x,J Jq y] w fun e w'=>∃u,e=Jz u/\az w' w.heap.size u [⟨d,k,x,y,a,b,i⟩]/\Below w.heap.size w w':=by
 have HO:Hid (∀o,az ((w.alloc o).alloc (.cells (aj.vals ⟨d,k,x,y,a,b,i⟩) 41)) w.heap.size (Jj (I ⟨w.heap.size+1,0,O⟩) 1 1) [⟨d,k,x,y,a,b,i⟩]):=fun o=>Dt (w.alloc o) (w.heap.size+1) w.heap.size (by simp) _ (by omega)
 have HB:Hid (∀o o',Below w.heap.size w ((w.alloc o).alloc o')):=fun o o'=>((Below.refl _ _).alloc (Nat.le_refl _) _).alloc (by simp) _
 go_enter func34,ntmps34
 go_wp2
 go_loopw [9,10] (fun u v wr=>u=Jj (I ⟨w.heap.size+1,0,O⟩) 1 1/\v=J Jq 0/\wr=((w.alloc (JZ #[J Jq k,J Jq a,J Jq b,J Jq i,Jj O 0 0] 53)).alloc (JZ #[J Jq d,J Jq k,J Jq x,J Jq y,J Jq a,J Jq b,J Jq i] 41))) (fun _ _ _=>0)
 case atStart=>exact⟨rfl,rfl,rfl⟩
 case round=>
  obtain⟨rfl,rfl,rfl⟩:=hrel
  go_wp2
  go_ret
  exact⟨_,rfl,HO.out _,HB.out _ _⟩
theorem Bd (k a b i:Int)(w:World):
 Calls prog 16 #[.agg #[J Jq k,J Jq a,J Jq b,J Jq i,Jj O 0 0]] w fun e w'=>∃u,e=Jz u/\az w' w.heap.size u [⟨0,k,0,0,a,b,i⟩]/\Below w.heap.size w w':=by
 have HL:Hid (∀o,Calls prog 34 #[.agg #[J Jq k,J Jq a,J Jq b,J Jq i,Jj O 0 0],J Jq 0,J Jq 0,J Jq 0] (w.alloc o) fun e w'=>∃u,e=Jz u/\az w' w.heap.size u [⟨0,k,0,0,a,b,i⟩]/\Below w.heap.size w w'):=fun o=>(Du k a b i 0 0 0 (w.alloc o)).mono fun e w' ⟨u,h1,h2,h3⟩=>⟨u,h1,h2.lower (by simp),af ((Below.refl _ _).alloc (Nat.le_refl _) _) h3⟩
 go_enter func16,ntmps16
 go_wp2_with fail
 refine (HL.out _).mono ?_
 rintro e w1 ⟨u,rfl,hu,hb⟩
 have HU:=zh hu
 clear hu
 go_wp2
 go_ret
 exact⟨u,rfl,HU.out,hb⟩
def Oj (x y p:Int):List aj:=if fO x y p=0 then [oneCell x y p] else []
theorem Ff (x y p:Int)(w:World)(h:¬fO x y p=0):Calls prog 6 #[J Jq x,J Jq y,J Jq p] w fun e w'=>e=Jz (.tuple #[Jj O 0 0,J Jq (fO x y p)])/\w=w':=by
 by_cases hs:(1<=x/\x<=1000)/\(1<=y/\y<=1000)
 . have pN:(aG x&&aG y)=true:=by unfold aG;simp[hs]
   have hp:idB p=false:=by
    cases hq:idB p with
    | false=>rfl
    | true=>exact absurd (by unfold fO;rw[pN,hq];rfl) h
   have hE:fO x y p=43:=by unfold fO;rw[pN,hp];rfl
   rw[hE]
   have a1:¬x < 1:=by omega
   have a2:¬ 1000 < x:=by omega
   have a3:¬y < 1:=by omega
   have a4:¬ 1000 < y:=by omega
   unfold idB at hp
   simp only[Bool.and_eq_false_iff,decide_eq_false_iff_not] at hp
   clear hs pN hE h
   by_cases a5:p < 1
   . clear hp
     go_enter func6,ntmps6
     go_wp2
     all_goals go_ret2
     all_goals exact⟨rfl,rfl⟩
   . have a6:4611686018427387904 < p:=by omega
     clear hp
     go_enter func6,ntmps6
     go_wp2
     all_goals go_ret2
     all_goals exact⟨rfl,rfl⟩
 . have hE:fO x y p=41:=by
    have:(aG x&&aG y)=false:=by
     unfold aG
     cases hq:((decide (1<=x)&&decide (x<=1000))&&(decide (1<=y)&&decide (y<=1000))) with
     | false=>rfl
     | true=>exact absurd (by simpa using hq) hs
    unfold fO
    rw[this]
    rfl
   rw[hE]
   clear h hE
   by_cases a1:x < 1
   . clear hs
     go_enter func6,ntmps6
     go_wp2
     all_goals go_ret2
     all_goals exact⟨rfl,rfl⟩
   . by_cases a2:1000 < x
     . clear hs
       go_enter func6,ntmps6
       go_wp2
       all_goals go_ret2
       all_goals exact⟨rfl,rfl⟩
     . by_cases a3:y < 1
       . clear hs
         go_enter func6,ntmps6
         go_wp2
         all_goals go_ret2
         all_goals exact⟨rfl,rfl⟩
       . have a4:1000 < y:=by omega
         clear hs
         go_enter func6,ntmps6
         go_wp2
         all_goals go_ret2
         all_goals exact⟨rfl,rfl⟩
theorem Dv (x y p:Int)(w:World)(h:fO x y p=0):Calls prog 6 #[J Jq x,J Jq y,J Jq p] w fun e w'=>∃u,e=Jz (.tuple #[u,J Jq 0])/\az w' w.heap.size u [oneCell x y p]/\Below w.heap.size w w':=by
 obtain⟨⟨hx,hy⟩,hp⟩:=pI h
 have pQ:=ik hx
 have to:=ik hy
 have k7:1<=p/\p<=4611686018427387904:=by unfold idB at hp;simpa using hp
 have a1:¬x < 1:=by omega
 have a2:¬ 1000 < x:=by omega
 have a3:¬y < 1:=by omega
 have a4:¬ 1000 < y:=by omega
 have a5:¬p < 1:=by omega
 have a6:¬ 4611686018427387904 < p:=by omega
 have HL:=zh (Bd 1 x y p w)
 clear h hx hy hp pQ to k7
 go_enter func6,ntmps6
 go_wp2_with fail
 refine HL.out.mono ?_
 rintro e w1 ⟨u,rfl,hu,hb⟩
 have HU:=zh hu
 clear hu
 go_wp2
 go_ret2
 exact⟨u,rfl,HU.out,hb⟩
theorem new_any (x y p:Int)(w:World):Calls prog 5 #[J Jq x,J Jq y,J Jq p] w fun e w'=>∃u,e=Jz (.tuple #[u,J Jq (fO x y p)])/\az w' w.heap.size u (Oj x y p)/\Below w.heap.size w w':=by
 by_cases h:fO x y p=0
 . unfold Oj
   rw[if_pos h,h]
   exact F7 x y p w h
 . unfold Oj
   rw[if_neg h]
   exact (OH x y p w h).mono fun e w' h2=>⟨_,h2.1,World.ownsRow_nil _ _ _ _,h2.2 ▸ Below.refl _ _⟩
theorem Et (x y p:Int)(w:World):Calls prog 6 #[J Jq x,J Jq y,J Jq p] w fun e w'=>∃u,e=Jz (.tuple #[u,J Jq (fO x y p)])/\az w' w.heap.size u (Oj x y p)/\Below w.heap.size w w':=by
 by_cases h:fO x y p=0
 . unfold Oj
   rw[if_pos h,h]
   exact Dv x y p w h
 . unfold Oj
   rw[if_neg h]
   exact (Ff x y p w h).mono fun e w' h2=>⟨_,h2.1,World.ownsRow_nil _ _ _ _,h2.2 ▸ Below.refl _ _⟩
theorem Eu (x y p:Int):(Oj x y p).length<=1:=by
 unfold Oj
 split <;> simp
theorem exists_least (P:Nat->Prop)(h:∃m,P m):∃m,P m/\∀k,P k->m<=k:=by
 obtain⟨m,hm⟩:=h
 induction m using Nat.strongRecOn with
 | ind m ih=>
   by_cases h:∃k,k < m/\P k
   . obtain⟨k,h1,h2⟩:=h
     exact ih k h1 h2
   . exact⟨m,hm,fun k hk=>Nat.le_of_not_lt fun am=>h ⟨k,am,hk⟩⟩
open Classical in
noncomputable def kz (P:Nat->Prop):Nat:=if h:∃m,P m then Classical.choose (exists_least P h) else 0
theorem gy {P:Nat->Prop}(h:∃m,P m):P (kz P):=by
 unfold kz
 rw[dif_pos h]
 exact (Classical.choose_spec (exists_least P h)).1
theorem jm {P:Nat->Prop}{m:Nat}(h:P m):kz P<=m:=by
 have h':∃m,P m:=⟨m,h⟩
 unfold kz
 rw[dif_pos h']
 exact (Classical.choose_spec (exists_least P h')).2 m h
theorem yz (g:Nat)(b:Box)(k0:Int)(sl:Value)(k n:Int)(w:World)(h:aX w g b k0 sl)(h1: -1000000<=b.w/\b.w<=1000000)(h2: -1000000<=b.h/\b.h<=1000000)(h3: -1000000<=n/\n<=1000000):
 Calls prog 41 #[JJ (I ⟨g,0,O⟩),J Jq k,J Jq n] w fun e w'=>e=Jz (.tuple #[])/\aX w' g (b.str k n) k0 sl/\w.grownBy w' (I g):=by
 obtain⟨q0,q1,q2,q3,qf⟩:=h.box
 have f2:=qf 2 (by decide)
 have f3:=qf 3 (by decide)
 have HL:=zh h
 have w1:IntKind.i64.wrap (b.w+n)=b.w+n:=by rw[IntKind.wrap_i64];omega
 have w2:IntKind.i64.wrap (b.h+n)=b.h+n:=by rw[IntKind.wrap_i64];omega
 clear qf h h1 h2 h3
 by_cases hk:k=2
 . subst hk
   go_enter func41,ntmps41
   go_wp2
   exact⟨rfl,.tuple #[],(by simp[results,results41,go_sem]),rfl,HL.out.set 2 (J Jq (b.w+n)) (b':=b.str 2 n) rfl,grownBy_set _ _ _ _⟩
 . have dt:(k==2)=false:=by simpa using hk
   have cg:b.str k n={ b with h:=b.h+n }:=if_neg hk
   rw[cg]
   go_enter func41,ntmps41
   go_wp2
   exact⟨rfl,.tuple #[],(by simp[results,results41,go_sem]),rfl,HL.out.set 3 (J Jq (b.h+n)) (b':={ b with h:=b.h+n }) rfl,grownBy_set _ _ _ _⟩
structure Qx (B:Nat)(v:Value)(t:Tree)(fp:List Nat)(T:TypeId)(gi:Nat)(Fx:FuncId):Prop where
 val:v=.iface T (JJ (I ⟨gi,0,O⟩))
 mX : ∀ W, (method 286 T (JJ (I ⟨gi, 0, O⟩)) "mullion/layout.stretch").run prog W = .ok (Fx, JJ (I ⟨gi, 0, O⟩)) W
 nX : ∀ W, (nilAhead 286 T (JJ (I ⟨gi, 0, O⟩)) "mullion/layout.stretch").run prog W = .ok (I false) W
 nR : ∀ W, (nilAhead 286 T (JJ (I ⟨gi, 0, O⟩)) "mullion/layout.room").run prog W = .ok (I false) W
 fX:∀a c d W,(callFunc Fx #[a,c,d]).run prog W=.ok (.enter Fx #[a,c,d]) W
 cX:∀X j n t',t.At X B v fp->Str t j n t'->Calls prog Fx #[JJ (I ⟨gi,0,O⟩),J Jq j,J Jq n] X fun e w'=>e=Jz (.tuple #[])/\t'.At w' B v fp/\But fp X w'
def Tree.lF (t:Tree):Prop:=∀B v fp W,t.At W B v fp->fp.Nodup->∃T gi Fx,Qx B v t fp T gi Fx
theorem QJ (a c d:Value)(W:World):(callFunc 41 #[a,c,d]).run prog W=.ok (.enter 41 #[a,c,d]) W:=by kernel_rfl
theorem QM (a c d:Value)(W:World):(callFunc 147 #[a,c,d]).run prog W=.ok (.enter 147 #[a,c,d]) W:=by kernel_rfl
theorem KN (g : Nat) (W : World) : (method 286 45 (JJ (I ⟨g, 0, O⟩)) "mullion/layout.stretch").run prog W = .ok (41, JJ (I ⟨g, 0, O⟩)) W := by kernel_rfl
theorem KO (g : Nat) (W : World) : (method 286 83 (JJ (I ⟨g, 0, O⟩)) "mullion/layout.stretch").run prog W = .ok (147, JJ (I ⟨g, 0, O⟩)) W := by kernel_rfl
theorem QH (g : Nat) (W : World) : (nilAhead 286 45 (JJ (I ⟨g, 0, O⟩)) "mullion/layout.stretch").run prog W = .ok (I false) W := by kernel_rfl
theorem QK (g : Nat) (W : World) : (nilAhead 286 83 (JJ (I ⟨g, 0, O⟩)) "mullion/layout.stretch").run prog W = .ok (I false) W := by kernel_rfl
theorem QI (g : Nat) (W : World) : (nilAhead 286 45 (JJ (I ⟨g, 0, O⟩)) "mullion/layout.room").run prog W = .ok (I false) W := by kernel_rfl
theorem QL (g : Nat) (W : World) : (nilAhead 286 83 (JJ (I ⟨g, 0, O⟩)) "mullion/layout.room").run prog W = .ok (I false) W := by kernel_rfl
structure dm (w:World)(g:Nat)(b:Box)(k:Int)(sl:Value)(vs:List Value)(fs:List Nat)(B:Nat)(us:List Tree)(wr:World):Prop where
 own:aX wr g b k sl
 row:wr.ownsRow B 70 1 sl vs.length vs
 parts:aB wr B us vs fs
 but:But (g::fs) w wr
theorem dm.drewN {w:World}{g:Nat}{b:Box}{k:Int}{sl:Value}{vs:List Value}{fs:List Nat}{B:Nat}{us:List Tree}{wr:World}(h:dm w g b k sl vs fs B us wr)(m:Nat):dm w g b k sl vs fs B us (wr.drewN m):=by
 have hb:Below wr.heap.size wr (wr.drewN m):=below_drewN (Below.refl _ _) m
 exact⟨h.own.below hb,own_below h.row hb,h.parts.below hb,h.but.trans ⟨hb.os,hb.tape,hb.output,hb.size,fun q hq _=>hb.block q hq⟩⟩
theorem dm.one {w:World}{g:Nat}{b:Box}{k:Int}{sl:Value}{vs:List Value}{fs:List Nat}{B:Nat}{us:List Tree}{wr:World}{i:Nat}{t:Tree}(aE:(g::(sl.ownBlock.toList++fs)).Nodup)(h:dm w g b k sl vs fs B us wr)(ht:us[i]?=I t):
 ∃v f,vs[i]?=I v/\t.At wr B v f/\f.Nodup/\∀t' w',t'.At w' B v f->But f wr w'->dm w g b k sl vs fs B (us.set i t') w':=by
 obtain⟨n1,n2⟩:=List.nodup_cons.1 aE
 obtain⟨n3,n4,n5⟩:=List.nodup_append.1 n2
 obtain⟨v,f,e1,e2,e3,e4,e5⟩:=aB.one h.parts n4 i t ht
 refine⟨v,f,e1,e2,e3,fun t' w' h1 h2=>⟨?_,?_,e5 w' t' h2 h1,?_⟩⟩
 . exact (h2.block g (lt_of_block h.own) fun e=>n1 (List.mem_append_right _ (e4 g e))).trans h.own
 . exact dU h.row fun q hq=>h2.block q (oZ h.row q hq) fun e=>n5 q hq q (e4 q e) rfl
 . exact h.but.trans (h2.mono fun q hq=>List.mem_cons_of_mem _ (e4 q hq))
theorem dm.seen {w:World}{g:Nat}{b:Box}{k:Int}{vs:List Value}{fs:List Nat}{B:Nat}{us:List Tree}{wr:World}{pg n cap:Nat}(h:dm w g b k (Jj (I ⟨pg,0,O⟩) n cap) vs fs B us wr)(hn:us.length=n)(h0:0 < n):Seen wr g k (Jj (I ⟨pg,0,O⟩) n cap) pg vs:=by
 have hl:=h.parts.length
 obtain⟨pg',cap',e,h3⟩:=jV h.own h.row (by intro e;rw[e] at hl;simp at hl;omega)
 cases e
 exact h3
structure jQ (w:World)(g:Nat)(b:Box)(k:Int)(sl:Value)(vs:List Value)(fs:List Nat)(B N:Nat)(rs:List Tree)(m:Nat)(i:Nat)(n:Int)(wr:World)(us:List Tree):Prop where
 deal:BD k m us i n rs
 at_:dm w g b k sl vs fs B us wr
 small:∀t∈us,t.size<=N
 len:us.length=rs.length
 lt:i < us.length
theorem je {k:Int}{m:Nat}{us:List Tree}{i:Nat}{n:Int}{rs:List Tree}(h:BD k m us i n rs):(n=0/\us=rs)\/
 (∃m' t,m=m'+1/\n < 0/\ -1000<=n/\us[i]?=I t/\t.sound=true/\t.kinds/\t.size<=900/\t.room k=0/\BD k m' us ((i+1) % us.length) n rs)\/
 (∃m' t t',m=m'+1/\n≠0/\(-1000<=n/\n<=1000)/\us[i]?=I t/\t.sound=true/\t.kinds/\t.size<=900/\(n < 0->0 < t.room k)/\t'.size=t.size/\Str t k (sg n) t'/\BD k m' (us.set i t') ((i+1) % us.length) (n-sg n) rs):=by
 cases h with
 | done k ts i hi=>exact .inl ⟨rfl,rfl⟩
 | skip k m ts i n rs t h1 h2 h3 h4 h5 h6 h7 h8=>exact .inr (.inl ⟨m,t,rfl,h1,h2,h3,h4,h5,h6,h7,h8⟩)
 | give k m ts i n rs t t' h1 h2 h3 h4 h5 h6 h7 h8 h9 Td=>exact .inr (.inr ⟨m,t,t',rfl,h1,h2,h3,h4,h5,h6,h7,h8,h9,Td⟩)
theorem sD {us:List Tree}{N i:Nat}{t t':Tree}(h:∀t∈us,t.size<=N)(ht:us[i]?=I t)(he:t'.size=t.size):∀u∈us.set i t',u.size<=N:=by
 intro u hu
 rcases List.mem_or_eq_of_mem_set hu with hu | hu
 . exact h u hu
 . rw[hu,he]
   exact h t (List.mem_of_getElem? ht)
structure Qj (w:World)(g:Nat)(b:Box)(k:Int)(sl:Value)(vs:List Value)(fs:List Nat)(B N:Nat)(rs:List Tree)(m:Nat)(i:Nat)(n:Int)(wr:World)(T:TypeId)(gi:Nat)(Fx Fr:FuncId)(r:Int):Prop where
 val:vs[i]?=I (.iface T (JJ (I ⟨gi,0,O⟩)))
 mX : ∀ W, (method 286 T (JJ (I ⟨gi, 0, O⟩)) "mullion/layout.stretch").run prog W = .ok (Fx, JJ (I ⟨gi, 0, O⟩)) W
 nX : ∀ W, (nilAhead 286 T (JJ (I ⟨gi, 0, O⟩)) "mullion/layout.stretch").run prog W = .ok (I false) W
 nR : ∀ W, (nilAhead 286 T (JJ (I ⟨gi, 0, O⟩)) "mullion/layout.room").run prog W = .ok (I false) W
 fX:∀a c d W,(callFunc Fx #[a,c,d]).run prog W=.ok (.enter Fx #[a,c,d]) W
 mR : ∀ W, (method 286 T (JJ (I ⟨gi, 0, O⟩)) "mullion/layout.room").run prog W = .ok (Fr, JJ (I ⟨gi, 0, O⟩)) W
 fR:∀a c W,(callFunc Fr #[a,c]).run prog W=.ok (.enter Fr #[a,c]) W
 cR:∀X,Below wr.heap.size wr X->Calls prog Fr #[JJ (I ⟨gi,0,O⟩),J Jq k] X fun e w'=>e=Jz (J Jq r)/\X=w'
 low:0<=r/\r<=1000000
 lim: -1000<=n/\n<=1000
 skip:n < 0->r=0->∃us,jQ w g b k sl vs fs B N rs m ((i+1) % rs.length) n wr us
 give:(n < 0->r≠0)->∀X,Below wr.heap.size wr X->Calls prog Fx #[JJ (I ⟨gi,0,O⟩),J Jq k,J Jq (sg n)] X fun e w'=>e=Jz (.tuple #[])/\∃us,jQ w g b k sl vs fs B N rs m ((i+1) % rs.length) (n-sg n) w' us
theorem dm.below {w:World}{g:Nat}{b:Box}{k:Int}{sl:Value}{vs:List Value}{fs:List Nat}{B:Nat}{us:List Tree}{wr X:World}(h:dm w g b k sl vs fs B us wr)(hb:Below wr.heap.size wr X):dm w g b k sl vs fs B us X:=
 ⟨h.own.below hb,own_below h.row hb,h.parts.below hb,h.but.trans ⟨hb.os,hb.tape,hb.output,hb.size,fun q hq _=>hb.block q hq⟩⟩
theorem CE {w:World}{g:Nat}{b:Box}{k:Int}{sl:Value}{vs:List Value}{fs:List Nat}{B N:Nat}{rs:List Tree}{m:Nat}{i:Nat}{n:Int}{wr:World}{us:List Tree}(aE:(g::(sl.ownBlock.toList++fs)).Nodup)(IH:∀t:Tree,t.size<=N->t.lF)(h:jQ w g b k sl vs fs B N rs m i n wr us)(hn:n≠0):
 ∃m' T gi Fx Fr r,m=m'+1/\Qj w g b k sl vs fs B N rs m' i n wr T gi Fx Fr r:=by
 have ky:(i+1) % us.length < us.length:=Nat.mod_lt _ (by have:=h.lt;omega)
 rcases je h.deal with ⟨h0,_⟩ | ⟨m',t,hm,eR,j9,ht,hs,hk,hz,hr,hd⟩ | ⟨m',t,t',hm,_,zw,ht,hs,hk,hz,hr,hsz,cg,hd⟩
 . exact absurd h0 hn
 . obtain⟨v,f,e1,e2,e3,e4⟩:=h.at_.one aE ht
   obtain⟨T,gi,Fx,hX⟩:=IH t (h.small t (List.mem_of_getElem? ht)) B v f wr e2 e3
   obtain⟨T',gi',Fr,hR⟩:=e2.Ea hs (by omega)
   have hv:=hX.val
   subst hv
   have hv:=hR.val
   cases hv
   refine⟨m',T,gi,Fx,Fr,t.room k,hm,{ val:=e1,mX:=hX.mX,nX:=hX.nX,nR:=hX.nR,fX:=hX.fX,mR:=hR.mR,fR:=hR.fR,cR:=fun X hb=>hR.cR k X hb,low:=by omega,lim:=by omega,skip:=fun _ _=>⟨us,?_⟩,give:=fun h1=>absurd hr (h1 eR) }⟩
   rw[<- h.len]
   exact⟨hd,h.at_,h.small,h.len,ky⟩
 . obtain⟨v,f,e1,e2,e3,e4⟩:=h.at_.one aE ht
   obtain⟨T,gi,Fx,hX⟩:=IH t (h.small t (List.mem_of_getElem? ht)) B v f wr e2 e3
   obtain⟨T',gi',Fr,hR⟩:=e2.Ea hs (by omega)
   have hv:=hX.val
   subst hv
   have hv:=hR.val
   cases hv
   have rI:=bT t k hs
   refine⟨m',T,gi,Fx,Fr,t.room k,hm,{ val:=e1,mX:=hX.mX,nX:=hX.nX,nR:=hX.nR,fX:=hX.fX,mR:=hR.mR,fR:=hR.fR,cR:=fun X hb=>hR.cR k X hb,low:=by omega,lim:=zw,skip:=fun h1 h2=>absurd h2 (by have:=hr h1;omega),give:=fun _ X hb=> ?_ }⟩
   refine (hX.cX X k (sg n) t' (e2.below hb) cg).mono fun e w' h5=>⟨h5.1,us.set i t',?_⟩
   rw[<- h.len]
   refine⟨?_,e4 t' w' h5.2.1 ?_,sD h.small ht hsz,by rw[List.length_set];exact h.len,by rw[List.length_set];exact ky⟩
   . exact hd
   . exact (But.trans ⟨hb.os,hb.tape,hb.output,hb.size,fun q hq _=>hb.block q hq⟩ h5.2.2)
theorem jQ.seen {w:World}{g:Nat}{b:Box}{k:Int}{pg L cap:Nat}{vs:List Value}{fs:List Nat}{B N:Nat}{rs:List Tree}{m:Nat}{i:Nat}{n:Int}{wr:World}{us:List Tree}(h:jQ w g b k (Jj (I ⟨pg,0,O⟩) L cap) vs fs B N rs m i n wr us)(hL:rs.length=L):Seen wr g k (Jj (I ⟨pg,0,O⟩) L cap) pg vs:=h.at_.seen (by rw[h.len,hL]) (by have:=h.lt;have:=h.len;omega)
def CB (w:World)(g:Nat)(b:Box)(k:Int)(sl:Value)(vs:List Value)(fs:List Nat)(B N:Nat)(rs:List Tree)(s:Int)(vn vi:Value)(wr:World)(m:Nat):Prop:=∃(i:Nat) (n:Int) (us:List Tree),vi=J Jq i/\vn=J Jq n/\(n=0\/sg n=s)/\jQ w g b k sl vs fs B N rs m i n wr us
theorem JW (n s:Int)(hn:n≠0)(h:n=0\/sg n=s):sg n=s/\(n-sg n=0\/sg (n-sg n)=s):=by
 have h1:sg n=s:=h.resolve_left hn
 refine⟨h1,?_⟩
 rw[<- h1]
 unfold sg
 split
 . by_cases h2:n- -1=0
   . exact .inl h2
   . right
     rw[if_pos (by omega)]
 . by_cases h2:n-1=0
   . exact .inl h2
   . right
     rw[if_neg (by omega)]
theorem jQ.below {w:World}{g:Nat}{b:Box}{k:Int}{sl:Value}{vs:List Value}{fs:List Nat}{B N:Nat}{rs:List Tree}{m:Nat}{i:Nat}{n:Int}{wr X:World}{us:List Tree}(h:jQ w g b k sl vs fs B N rs m i n wr us)(hb:Below wr.heap.size wr X):jQ w g b k sl vs fs B N rs m i n X us:=⟨h.deal,h.at_.below hb,h.small,h.len,h.lt⟩
theorem vN (i L:Nat)(hL:0 < L)(rL:L<=1000)(hi:i < L):IntKind.i64.wrap ((i:Int)+1)=(i:Int)+1/\((i:Int)+1).tmod L=(((i+1) % L:Nat):Int):=by
 refine⟨by rw[IntKind.wrap_i64];omega,?_⟩
 rw[Int.tmod_eq_emod_of_nonneg (by omega)]
 simp
theorem kJ (i L:Nat):Value.int .i64 (((i:Int)+1) % (L:Int))=J Jq (((i+1) % L:Nat):Int):=by simp
theorem Nc (g:Nat)(b:Box)(k:Int)(pg L cap:Nat)(vs:List Value)(fs:List Nat)(B N:Nat)(ts rs:List Tree)(w0 w:World)(m:Nat)(n:Int)(hn:n < 0)(hL:rs.length=L)(rL:L<=1000)(aE:(g::((Value.slice (I ⟨pg,0,O⟩) L cap).ownBlock.toList++fs)).Nodup)(IH:∀t:Tree,t.size<=N->t.lF)(h:jQ w0 g b k (Jj (I ⟨pg,0,O⟩) L cap) vs fs B N rs m 0 n w ts):
 Calls prog 143 #[JJ (I ⟨g,0,O⟩),J Jq n] w fun e w'=>e=Jz (.tuple #[])/\dm w0 g b k (Jj (I ⟨pg,0,O⟩) L cap) vs fs B rs w':=by
 have eJ:=zh IH
 have tj:=zh aE
 have HD:=zh h
 have HL:=zh hL
 have HN:=zh hn
 have FR:0 < L:=by have:=h.lt;have:=h.len;omega
 have h0:(n < 0)=True:=by simp[hn]
 clear h hL aE IH hn
 go_enter func143,ntmps143
 go_wp2
 clear h0
 go_loopw [1,5] (fun vn vi wr=>CB w0 g b k (Jj (I ⟨pg,0,O⟩) L cap) vs fs B N rs (-1) vn vi wr (kz (CB w0 g b k (Jj (I ⟨pg,0,O⟩) L cap) vs fs B N rs (-1) vn vi wr))) (fun vn vi wr=>kz (CB w0 g b k (Jj (I ⟨pg,0,O⟩) L cap) vs fs B N rs (-1) vn vi wr))
 case atStart=>exact gy ⟨m,0,n,ts,rfl,rfl,.inr (if_pos HN.out),HD.out⟩
 case round=>
  obtain⟨i,n,us,rfl,rfl,hs,hD⟩:=hrel
  obtain⟨M,hM⟩:∃M,kz (CB w0 g b k (Jj (I ⟨pg,0,O⟩) L cap) vs fs B N rs (-1) (J Jq n) (J Jq i) wr)=M:=⟨_,rfl⟩
  rw[hM] at hD
  have HM:=zh hM
  clear hM
  have r4:=(hD.seen HL.out).kind
  have r5:=(hD.seen HL.out).parts
  by_cases h0:n=0
  . subst h0
    have HS:Hid (dm w0 g b k (Jj (I ⟨pg,0,O⟩) L cap) vs fs B rs wr):=by
     rcases je hD.deal with ⟨_,he⟩ | ⟨_,_,_,he,_⟩ | ⟨_,_,_,_,he,_⟩
     . exact he ▸ hD.at_
     . exact absurd he (by decide)
     . exact absurd rfl he
    clear hD hs
    go_wp2
    exact⟨rfl,.tuple #[],(by simp[results,results143,go_sem]),rfl,HS.out⟩
  . obtain⟨m',T,gi,Fx,Fr,r,hm,hO⟩:=CE tj.out eJ.out hD h0
    have lp:=JW n (-1) h0 hs
    have eR:n < 0:=by
     have:=lp.1
     unfold sg at this
     split at this
     . assumption
     . exact absurd this (by decide)
    have ri:=(hD.seen HL.out).row i _ hO.val
    have hi:i < L:=by have:=hD.lt;have:=hD.len;have:=HL.out;omega
    have aR:(n != 0)=true:=by simpa using h0
    have m1:=hO.mX
    have m2:=hO.nX
    have m3:=hO.nR
    have m4:=hO.fX
    have m5:=hO.mR
    have m6:=hO.fR
    have cg:=vN i L FR rL hi
    have s1:=cg.1
    have s2:=cg.2
    have sR:Hid (∀X,Below wr.heap.size wr X->Calls prog Fr #[JJ (I ⟨gi,0,O⟩),J Jq k] X fun e w'=>e=Jz (J Jq r)/\Below wr.heap.size wr w'):=fun X hb=>(hO.cR X hb).mono fun e w' h=>⟨h.1,h.2 ▸ hb⟩
    have HK:Hid (∀X,Below wr.heap.size wr X->X.cell? ⟨g,4,O⟩=I (J Jq k)):=fun X hb=>((hD.seen HL.out).below hb).kind
    have HQ:Hid (∀X,Below wr.heap.size wr X->X.cell? ⟨g,5,O⟩=I (Jj (I ⟨pg,0,O⟩) L cap)):=fun X hb=>((hD.seen HL.out).below hb).parts
    have Bn:Hid (r=0->∃us,jQ w0 g b k (Jj (I ⟨pg,0,O⟩) L cap) vs fs B N rs m' ((i+1) % L) n wr us):=fun h=>by have:=hO.skip eR h;rwa [HL.out] at this
    have yp:Hid (r≠0->∀X,Below wr.heap.size wr X->Calls prog Fx #[JJ (I ⟨gi,0,O⟩),J Jq k,J Jq (-1)] X fun e w'=>e=Jz (.tuple #[])/\∃us,jQ w0 g b k (Jj (I ⟨pg,0,O⟩) L cap) vs fs B N rs m' ((i+1) % L) (n+1) w' us):=fun h X hb=>by
     have:=hO.give (fun _=>h) X hb
     rw[lp.1,HL.out,show n- -1=n+1 by omega] at this
     exact this
    have hw:IntKind.i64.wrap (n+1)=n+1:=by have:=hO.lim;rw[IntKind.wrap_i64];omega
    have i7:n+1=0\/sg (n+1)= -1:=by have:=lp.2;rw[lp.1,show n- -1=n+1 by omega] at this;exact this
    have SX:=zh i7
    have YO:Hid (n=0\/sg n= -1):=.inr lp.1
    have Hm:=zh hm
    clear hO hD hs cg i7 hm lp h0 eR
    by_cases hr:r=0
    . obtain⟨us,hN⟩:=Bn.out hr
      have ij:=zh hN
      subst hr
      clear hN Bn yp
      go_wp2_with fail
      refine aQ (fun X=>Below wr.heap.size wr X) (by kernel_rfl) (by kernel_rfl) (Below.refl _ _).drew ?_
      repeat (
       refine dJ (v:= ?_) (by rfl) (fun X hX=> ?_) ?_
       rotate_left
       . have x4:=HK.out X hX
         go_simp
         all_goals first | with_reducible rfl | with_reducible exact sR.out X hX
       intro K hK
       go_simp
       refine hK.out _ ?_
       clear hK K)
      refine fK ?_
      intro w4 eI
      have r5:=HQ.out w4 eI
      have YP:=zh (ij.out.below eI)
      clear eI ij HK HQ r4 ri
      go_wp2
      rw[kJ]
      exact⟨gy ⟨m',(i+1) % L,n,us,rfl,rfl,YO.out,YP.out⟩,Nat.lt_of_le_of_lt (jm ⟨(i+1) % L,n,us,rfl,rfl,YO.out,YP.out⟩) (by rw[HM.out,Hm.out];omega)⟩
    . have im:(r==0)=false:=by simpa using hr
      have HG:=zh (yp.out hr)
      clear hr Bn yp
      go_wp2_with fail
      refine aQ (fun X=>Below wr.heap.size wr X) (by kernel_rfl) (by kernel_rfl) (Below.refl _ _).drew ?_
      repeat (
       refine dJ (v:= ?_) (by rfl) (fun X hX=> ?_) ?_
       rotate_left
       . have x4:=HK.out X hX
         go_simp
         all_goals first | with_reducible rfl | with_reducible exact sR.out X hX
       intro K hK
       go_simp
       refine hK.out _ ?_
       clear hK K)
      refine fK ?_
      intro w4 eI
      have r4:=HK.out w4 eI
      have SY:Hid (∀q,Calls prog Fx #[JJ (I ⟨gi,0,O⟩),J Jq k,J Jq (-1)] (w4.drewN q) fun e w'=>e=Jz (.tuple #[])/\∃us,jQ w0 g b k (Jj (I ⟨pg,0,O⟩) L cap) vs fs B N rs m' ((i+1) % L) (n+1) w' us):=fun q=>HG.out _ (below_drewN eI q)
      clear eI HG HK HQ sR r5 ri
      go_wp2_with fail
      refine bQ 9 _ (by rfl) (by rfl) (by kernel_rfl) (by kernel_rfl) (by kernel_rfl) ?_
      simp only[List.take_succ_cons,List.take_zero]
      repeat (quiet_step ((fail)))
      refine wpQuiet_nil ?_
      intro m7 K hK
      go_simp
      refine (SY.out m7).mono ?_
      rintro e w5 ⟨rfl,us,M3⟩
      refine hK _ _ ?_
      clear hK
      clear K
      have K2:=zh M3
      have r5:=(M3.seen HL.out).parts
      clear M3 r4 SY
      go_wp2
      rw[kJ]
      exact⟨gy ⟨m',(i+1) % L,n+1,us,rfl,rfl,SX.out,K2.out⟩,Nat.lt_of_le_of_lt (jm ⟨(i+1) % L,n+1,us,rfl,rfl,SX.out,K2.out⟩) (by rw[HM.out,Hm.out];omega)⟩
theorem Nk (g:Nat)(b:Box)(k:Int)(pg L cap:Nat)(vs:List Value)(fs:List Nat)(B N:Nat)(ts rs:List Tree)(w0 w:World)(m:Nat)(n:Int)(hn:0<=n)(hL:rs.length=L)(rL:L<=1000)(aE:(g::((Value.slice (I ⟨pg,0,O⟩) L cap).ownBlock.toList++fs)).Nodup)(IH:∀t:Tree,t.size<=N->t.lF)(h:jQ w0 g b k (Jj (I ⟨pg,0,O⟩) L cap) vs fs B N rs m 0 n w ts):
 Calls prog 143 #[JJ (I ⟨g,0,O⟩),J Jq n] w fun e w'=>e=Jz (.tuple #[])/\dm w0 g b k (Jj (I ⟨pg,0,O⟩) L cap) vs fs B rs w':=by
 have eJ:=zh IH
 have tj:=zh aE
 have HD:=zh h
 have HL:=zh hL
 have HN:=zh hn
 have FR:0 < L:=by have:=h.lt;have:=h.len;omega
 have h0:(n < 0)=False:=by simp;omega
 clear h hL aE IH hn
 go_enter func143,ntmps143
 go_wp2
 clear h0
 go_loopw [1,5] (fun vn vi wr=>CB w0 g b k (Jj (I ⟨pg,0,O⟩) L cap) vs fs B N rs 1 vn vi wr (kz (CB w0 g b k (Jj (I ⟨pg,0,O⟩) L cap) vs fs B N rs 1 vn vi wr))) (fun vn vi wr=>kz (CB w0 g b k (Jj (I ⟨pg,0,O⟩) L cap) vs fs B N rs 1 vn vi wr))
 case atStart=>exact gy ⟨m,0,n,ts,rfl,rfl,.inr (if_neg (by have:=HN.out;omega)),HD.out⟩
 case round=>
  obtain⟨i,n,us,rfl,rfl,hs,hD⟩:=hrel
  obtain⟨M,hM⟩:∃M,kz (CB w0 g b k (Jj (I ⟨pg,0,O⟩) L cap) vs fs B N rs 1 (J Jq n) (J Jq i) wr)=M:=⟨_,rfl⟩
  rw[hM] at hD
  have HM:=zh hM
  clear hM
  have r4:=(hD.seen HL.out).kind
  have r5:=(hD.seen HL.out).parts
  by_cases h0:n=0
  . subst h0
    have HS:Hid (dm w0 g b k (Jj (I ⟨pg,0,O⟩) L cap) vs fs B rs wr):=by
     rcases je hD.deal with ⟨_,he⟩ | ⟨_,_,_,he,_⟩ | ⟨_,_,_,_,he,_⟩
     . exact he ▸ hD.at_
     . exact absurd he (by decide)
     . exact absurd rfl he
    clear hD hs
    go_wp2
    exact⟨rfl,.tuple #[],(by simp[results,results143,go_sem]),rfl,HS.out⟩
  . obtain⟨m',T,gi,Fx,Fr,r,hm,hO⟩:=CE tj.out eJ.out hD h0
    have lp:=JW n 1 h0 hs
    have nu:0 < n:=by
     have:=lp.1
     unfold sg at this
     split at this
     . exact absurd this (by decide)
     . omega
    have ri:=(hD.seen HL.out).row i _ hO.val
    have hi:i < L:=by have:=hD.lt;have:=hD.len;have:=HL.out;omega
    have aR:(n != 0)=true:=by simpa using h0
    have m1:=hO.mX
    have m2:=hO.nX
    have m3:=hO.nR
    have m4:=hO.fX
    have m5:=hO.mR
    have m6:=hO.fR
    have cg:=vN i L FR rL hi
    have s1:=cg.1
    have s2:=cg.2
    have sR:Hid (∀X,Below wr.heap.size wr X->Calls prog Fr #[JJ (I ⟨gi,0,O⟩),J Jq k] X fun e w'=>e=Jz (J Jq r)/\Below wr.heap.size wr w'):=fun X hb=>(hO.cR X hb).mono fun e w' h=>⟨h.1,h.2 ▸ hb⟩
    have HK:Hid (∀X,Below wr.heap.size wr X->X.cell? ⟨g,4,O⟩=I (J Jq k)):=fun X hb=>((hD.seen HL.out).below hb).kind
    have HQ:Hid (∀X,Below wr.heap.size wr X->X.cell? ⟨g,5,O⟩=I (Jj (I ⟨pg,0,O⟩) L cap)):=fun X hb=>((hD.seen HL.out).below hb).parts
    have HG:Hid (∀X,Below wr.heap.size wr X->Calls prog Fx #[JJ (I ⟨gi,0,O⟩),J Jq k,J Jq 1] X fun e w'=>e=Jz (.tuple #[])/\∃us,jQ w0 g b k (Jj (I ⟨pg,0,O⟩) L cap) vs fs B N rs m' ((i+1) % L) (n-1) w' us):=fun X hb=>by
     have:=hO.give (fun h=>absurd h (by omega)) X hb
     rw[lp.1,HL.out] at this
     exact this
    have hw:IntKind.i64.wrap (n-1)=n-1:=by have:=hO.lim;rw[IntKind.wrap_i64];omega
    have i7:n-1=0\/sg (n-1)=1:=by have:=lp.2;rw[lp.1] at this;exact this
    have SX:=zh i7
    have Hm:=zh hm
    clear hO hD hs cg i7 hm lp h0 nu sR m5 m6
    go_wp2_with fail
    refine aQ (fun X=>Below wr.heap.size wr X) (by kernel_rfl) (by kernel_rfl) (Below.refl _ _).drew ?_
    repeat (
     first
     | (refine dJ (v:= ?_) (by rfl) (fun X hX=> ?_) ?_
        rotate_left
        . have x4:=HK.out X hX
          go_simp
          all_goals with_reducible rfl
        intro K hK
        go_simp
        refine hK.out _ ?_
        clear hK K)
     | (refine lW (by rfl) ?_
        intro K hK
        go_simp
        refine hK.out _ ?_
        clear hK K))
    refine fK ?_
    intro w4 eI
    have r4:=HK.out w4 eI
    have SY:Hid (∀q,Calls prog Fx #[JJ (I ⟨gi,0,O⟩),J Jq k,J Jq 1] (w4.drewN q) fun e w'=>e=Jz (.tuple #[])/\∃us,jQ w0 g b k (Jj (I ⟨pg,0,O⟩) L cap) vs fs B N rs m' ((i+1) % L) (n-1) w' us):=fun q=>HG.out _ (below_drewN eI q)
    clear eI HG HK HQ r5 ri
    go_wp2_with fail
    refine bQ 9 _ (by rfl) (by rfl) (by kernel_rfl) (by kernel_rfl) (by kernel_rfl) ?_
    simp only[List.take_succ_cons,List.take_zero]
    repeat (quiet_step ((fail)))
    refine wpQuiet_nil ?_
    intro m7 K hK
    go_simp
    refine (SY.out m7).mono ?_
    rintro e w5 ⟨rfl,us,M3⟩
    refine hK _ _ ?_
    clear hK
    clear K
    have K2:=zh M3
    have r5:=(M3.seen HL.out).parts
    clear M3 r4 SY
    go_wp2
    rw[kJ]
    exact⟨gy ⟨m',(i+1) % L,n-1,us,rfl,rfl,SX.out,K2.out⟩,Nat.lt_of_le_of_lt (jm ⟨(i+1) % L,n-1,us,rfl,rfl,SX.out,K2.out⟩) (by rw[HM.out,Hm.out];omega)⟩
theorem AX:∀(m:Nat) {k:Int} {us:List Tree} {i:Nat} {n:Int} {rs:List Tree},BD k m us i n rs->rs.length=us.length
 | 0,k,us,i,n,rs,h=>by
   rcases je h with ⟨_,rfl⟩ | ⟨_,_,h,_⟩ | ⟨_,_,_,h,_⟩
   . rfl
   . cases h
   . cases h
 | m+1,k,us,i,n,rs,h=>by
   rcases je h with ⟨_,rfl⟩ | ⟨m',_,hm,_,_,_,_,_,_,_,hd⟩ | ⟨m',_,_,hm,_,_,_,_,_,_,_,_,_,hd⟩
   . rfl
   . cases hm
     exact AX m hd
   . cases hm
     rw[AX m hd,List.length_set]
theorem yt (rs ts:List Tree)(i:Nat)(hl:rs.length=ts.length)(hi:i < ts.length):(rs.take i++ts.drop i)[i]?=ts[i]?:=by
 rw[List.getElem?_append_right (by rw[List.length_take];omega),List.length_take,List.getElem?_drop]
 congr 1
 omega
theorem yu (rs ts:List Tree)(i:Nat)(r:Tree)(hl:rs.length=ts.length)(hr:rs[i]?=I r):(rs.take i++ts.drop i).set i r=rs.take (i+1)++ts.drop (i+1):=by
 have hi:i < rs.length:=(List.getElem?_eq_some_iff.1 hr).1
 have h1:ts.drop i=ts[i]::ts.drop (i+1):=List.drop_eq_getElem_cons (by omega)
 have h2:rs.take (i+1)=rs.take i++[r]:=by
  rw[List.take_add_one,hr]
  rfl
 rw[h1,h2,List.set_append_right _ _ (by rw[List.length_take];omega),List.length_take,show i-min i rs.length=0 by omega,List.set_cons_zero,List.append_assoc]
 rfl
theorem NL (g:Nat)(b:Box)(k:Int)(pg L cap:Nat)(vs:List Value)(fs:List Nat)(B N:Nat)(ts rs:List Tree)(w0 w:World)(m:Nat)(n:Int)(hL:rs.length=L)(rL:L<=1000)(aE:(g::((Value.slice (I ⟨pg,0,O⟩) L cap).ownBlock.toList++fs)).Nodup)(IH:∀t:Tree,t.size<=N->t.lF)(h:jQ w0 g b k (Jj (I ⟨pg,0,O⟩) L cap) vs fs B N rs m 0 n w ts):
 Calls prog 143 #[JJ (I ⟨g,0,O⟩),J Jq n] w fun e w'=>e=Jz (.tuple #[])/\dm w0 g b k (Jj (I ⟨pg,0,O⟩) L cap) vs fs B rs w':=by
 by_cases hn:n < 0
 . exact Nc g b k pg L cap vs fs B N ts rs w0 w m n hn hL rL aE IH h
 . exact Nk g b k pg L cap vs fs B N ts rs w0 w m n (by omega) hL rL aE IH h
theorem AY {w w':World}{g:Nat}{b':Box}{k:Int}{sl:Value}{vs:List Value}{fs:List Nat}{B:Nat}{ts:List Tree}(hR:w.ownsRow B 70 1 sl vs.length vs)(hP:aB w B ts vs fs)(aE:(g::(sl.ownBlock.toList++fs)).Nodup)(h1:aX w' g b' k sl)(h2:w.grownBy w' (I g)):dm w g b' k sl vs fs B ts w':=by
 have hb:=But.grown h2
 have jz:=List.nodup_cons.1 aE
 refine⟨h1,dU hR fun q hq=>hb.block q (oZ hR q hq) ?_,hP.but hb fun q hq e=> ?_,hb.mono (by simp)⟩
 . simp only[List.mem_cons,List.not_mem_nil,or_false]
   intro e
   exact jz.1 (List.mem_append_left _ (e ▸ hq))
 . simp only[List.mem_cons,List.not_mem_nil,or_false] at e
   exact jz.1 (List.mem_append_right _ (e ▸ hq))
theorem AZ (g:Nat)(b:Box)(k:Int)(sl:Value)(vs:List Value)(fs:List Nat)(ts:List Tree)(B N:Nat)(w:World)(j n:Int)(t':Tree)(hS:aX w g b k sl)(hR:w.ownsRow B 70 1 sl vs.length vs)(hP:aB w B ts vs fs)(aE:(g::(sl.ownBlock.toList++fs)).Nodup)(IH:∀t:Tree,t.size<=N->t.lF)(hN:sizes ts<=N)(cg:Str (.split b k ts) j n t'):
 ∃rs,t'=.split (b.str j n) k rs/\Calls prog 147 #[JJ (I ⟨g,0,O⟩),J Jq j,J Jq n] w fun e w'=>e=Jz (.tuple #[])/\dm w g (b.str j n) k sl vs fs B rs w':=by
 have bN:=cg.ok
 have hs:=bN.sound
 have ar:=(Tree.split b k ts).aF hs
 change (1<=b.w/\b.w<=1000)/\(1<=b.h/\b.h<=1000) at ar
 have j9:=bN.low
 have Bb:=bN.high
 unfold Tree.sound at hs
 simp only[Bool.and_eq_true,decide_eq_true_eq] at hs
 have h2:=hs.1.1
 have dk:=hP.length
 have hsz:sizes ts<=900:=by
  have:=bN.size
  change 1+sizes ts<=900 at this
  omega
 have gd:=aI ts
 obtain⟨pg,cap,av,bX⟩:=jV hS hR (by intro e;rw[e] at dk;simp at dk;omega)
 rw[dk] at av
 obtain⟨L,hL⟩:∃L,ts.length=L:=⟨_,rfl⟩
 rw[hL] at av gd h2
 have De:L<=900:=by omega
 have HB:Hid (Calls prog 41 #[JJ (I ⟨g,0,O⟩),J Jq j,J Jq n] w fun e w'=>e=Jz (.tuple #[])/\dm w g (b.str j n) k sl vs fs B ts w'):=(yz g b k sl j n w hS (by omega) (by omega) (by omega)).mono fun e w' h=>⟨h.1,AY hR hP aE h.2.1 h.2.2⟩
 have Cp:Hid (∀us wr,us.length=L->dm w g (b.str j n) k sl vs fs B us wr->Seen wr g k sl pg vs):=fun us wr hu h=>by
  subst av
  exact h.seen hu (by omega)
 subst av
 have tj:=zh aE
 have eJ:=zh IH
 have HL:=zh hL
 cases cg with
 | across _ _ _ _ _ rs _ a7 hlen mI=>
   refine⟨rs,rfl,?_⟩
   have oe:(j==k)=false:=by simpa using a7
   have HE:=zh mI
   have u6:=zh (hlen.trans hL)
   have pP:=zh hN
   clear hS hR hP aE IH bN hs ar dk hsz bX hL mI hlen a7 j9 Bb hN
   go_enter func147,ntmps147
   go_wp2_with (go_at_call 41;refine HB.out.mono ?_;rintro e w1 ⟨rfl,hm⟩;have M8:Hid (dm w g (b.str j n) k (Jj (I ⟨pg,0,O⟩) L cap) vs fs B ts w1):=hm;have c4:=(Cp.out ts w1 HL.out hm).kind;have c5:=(Cp.out ts w1 HL.out hm).parts;clear hm)
   go_loopw [28] (fun v wr=>∃i:Nat,i<=L/\v=J Jq i/\Hid (dm w g (b.str j n) k (Jj (I ⟨pg,0,O⟩) L cap) vs fs B (rs.take i++ts.drop i) wr)) (fun v _=>L-(intOf v).toNat)
   case atStart=>exact⟨0,Nat.zero_le _,rfl,by rw[List.take_zero,List.drop_zero];exact M8⟩
   case round=>
    obtain⟨i,hi,rfl,dy⟩:=hrel
    clear c4 c5 M8
    by_cases am:i < L
    . obtain⟨t,ht⟩:∃t,ts[i]?=I t:=⟨_,List.getElem?_eq_getElem (by rw[HL.out];exact am)⟩
      obtain⟨r,hr⟩:∃r,rs[i]?=I r:=⟨_,List.getElem?_eq_getElem (by rw[u6.out];exact am)⟩
      have hml:(rs.take i++ts.drop i).length=L:=by
       have h1:=HL.out
       have h2:=u6.out
       rw[List.length_append,List.length_take,List.length_drop]
       omega
      have K9:(rs.take i++ts.drop i)[i]?=I t:=(yt rs ts i (by rw[HL.out,u6.out]) (by rw[HL.out];exact am)).trans ht
      obtain⟨v,f,e1,e2,e3,e4⟩:=dy.out.one tj.out K9
      obtain⟨T,gi,Fx,hX⟩:=eJ.out t (by have:=bI ts i t ht;have:=pP.out;omega) B v f wr e2 e3
      have hv:=hX.val
      subst hv
      have ri:=(Cp.out _ wr hml dy.out).row i _ e1
      have m1:=hX.mX
      have m4:=hX.fX
      have HC:Hid (Calls prog Fx #[JJ (I ⟨gi,0,O⟩),J Jq j,J Jq n] wr fun e w'=>e=Jz (.tuple #[])/\dm w g (b.str j n) k (Jj (I ⟨pg,0,O⟩) L cap) vs fs B (rs.take (i+1)++ts.drop (i+1)) w'):=(hX.cX wr j n r e2 (HE.out i t r ht hr)).mono fun e w' h=>⟨h.1,by rw[<- yu rs ts i r (by rw[HL.out,u6.out]) hr];exact e4 r w' h.2.1 h.2.2⟩
      clear hX e1 e2 e3 e4 K9 hml ht hr dy
      go_wp2_with fail
      refine HC.out.mono ?_
      rintro e w2 ⟨rfl,ie⟩
      have gx:=zh ie
      clear ie HC
      go_wp2
      go_roundw
      case rel=>exact⟨i+1,by omega,by go_num,gx⟩
      case measure=>simp[intOf];omega
    . have bE:i=L:=by omega
      subst bE
      have HMe:Hid (dm w g (b.str j n) k (Jj (I ⟨pg,0,O⟩) i cap) vs fs B rs wr):=by
       have h:=dy.out
       rw[List.take_of_length_le (by rw[u6.out];exact Nat.le_refl _),List.drop_eq_nil_of_le (by rw[HL.out];exact Nat.le_refl _),List.append_nil] at h
       exact h
      clear dy
      go_wp2
      exact⟨rfl,.tuple #[],(by simp[results,results147,go_sem]),rfl,HMe.out⟩
 | along _ _ _ _ m rs _ hd=>
   refine⟨rs,rfl,?_⟩
   have RI:=AX m hd
   have HD:Hid (∀w1,dm w g (b.str k n) k (Jj (I ⟨pg,0,O⟩) L cap) vs fs B ts w1->Calls prog 143 #[JJ (I ⟨g,0,O⟩),J Jq n] w1 fun e w'=>e=Jz (.tuple #[])/\dm w g (b.str k n) k (Jj (I ⟨pg,0,O⟩) L cap) vs fs B rs w'):=by
    intro w1 h1
    refine NL g (b.str k n) k pg L cap vs fs B N ts rs w w1 m n (by omega) (by omega) aE IH ⟨hd,h1,?_,by omega,by omega⟩
    intro t ht
    obtain⟨i,hi⟩:=List.getElem?_of_mem ht
    have:=bI ts i t hi
    omega
   clear hS hR hP aE IH bN hs ar dk hsz bX hL hd RI j9 Bb hN
   go_enter func147,ntmps147
   go_wp2_with (go_at_call 41;refine HB.out.mono ?_;rintro e w1 ⟨rfl,hm⟩;have M8:Hid (dm w g (b.str k n) k (Jj (I ⟨pg,0,O⟩) L cap) vs fs B ts w1):=hm;have c4:=(Cp.out ts w1 HL.out hm).kind;clear hm)
   refine (HD.out _ M8.out).mono ?_
   rintro e w2 ⟨rfl,ie⟩
   have gx:=zh ie
   clear ie
   go_wp2
   exact⟨rfl,.tuple #[],(by simp[results,results147,go_sem]),rfl,gx.out⟩
theorem A7:∀(N:Nat) (t:Tree),t.size<=N->t.lF:=by
 intro N
 induction N with
 | zero=>
   intro t ht
   have:=t.kK
   omega
 | succ N ih=>
   intro t ht B v fp W h aE
   cases t with
   | leaf b p=>
     obtain⟨g,rfl,h2,rfl⟩:=h
     refine⟨_,g,_,{ val:=rfl,mX:=KN g,nX:=QH g,nR:=QI g,fX:=QJ,cX:=fun X j n t' hX cg=> ?_ }⟩
     obtain⟨g',e,h3,e'⟩:=hX
     cases e
     have bN:=cg.ok
     have ar:=(Tree.leaf b p).aF bN.sound
     change (1<=b.w/\b.w<=1000)/\(1<=b.h/\b.h<=1000) at ar
     have j9:=bN.low
     have Bb:=bN.high
     cases cg with
     | leaf _ _ _ _ _=>exact (l7 g b p j n X h3 (by omega) (by omega) (by omega)).mono fun e w' h4=>⟨h4.1,⟨g,rfl,h4.2.1,rfl⟩,But.grown h4.2.2⟩
   | split b k ts=>
     obtain⟨g,sl,vs,fs,rfl,h2,h3,h4,rfl⟩:=h
     change 1+sizes ts<=N+1 at ht
     refine⟨_,g,_,{ val:=rfl,mX:=KO g,nX:=QK g,nR:=QL g,fX:=QM,cX:=fun X j n t' hX cg=> ?_ }⟩
     obtain⟨g',sl',vs',fs',e,k2,k3,k4,e'⟩:=hX
     cases e
     have jz:=aE
     rw[e'] at jz
     obtain⟨rs,rfl,hc⟩:=AZ g b k sl' vs' fs' ts B N X j n t' k2 k3 k4 jz ih (by omega) cg
     refine hc.mono fun e w' h5=>⟨h5.1,⟨g,sl',vs',fs',rfl,h5.2.own,h5.2.row,h5.2.parts,e'⟩,h5.2.but.mono fun q hq=> ?_⟩
     rw[e']
     rcases List.mem_cons.1 hq with rfl | hq
     . exact List.mem_cons_self
     . exact List.mem_cons_of_mem _ (List.mem_append_right _ hq)
theorem Tree.stretches (t:Tree):t.lF:=A7 t.size t (Nat.le_refl _)
def bu (wh n i:Int):Int:=if i < (wh-(n-1)).tmod n then (wh-(n-1)).tdiv n+1 else (wh-(n-1)).tdiv n
def fC (k:Int)(b:Box)(n:Int):List Int->Int->List Tree
 | [],_=>[]
 | z::zs,i=>.leaf (b.with k (bu (b.ext k) n i)) z::fC k b n zs (i+1)
def eU (k:Int)(zs:List Int)(b:Box):Tree:=match zs with
 | [z]=>.leaf b z
 | _=>.split b k (fC k b zs.length zs 0)
theorem sJ (b:Box)(k n:Int):(b.with k n).ext k=n:=by
 unfold Box.with Box.str Box.ext
 by_cases h:k=2 <;> simp[h] <;> omega
theorem nY (b:Box)(k n:Int)(hk:k=2\/k=3):(b.with k n).ext (aA k)=b.ext (aA k):=by
 rcases hk with rfl | rfl <;> rfl
theorem uw (b:Box)(k n:Int)(hk:k=2\/k=3):(aG (b.with k n).w&&aG (b.with k n).h)=(aG n&&aG (b.ext (aA k))):=by
 rcases hk with rfl | rfl
 . show (aG (b.w+(n-b.w))&&aG b.h)=(aG n&&aG b.h)
   rw[show b.w+(n-b.w)=n by omega]
 . show (aG b.w&&aG (b.h+(n-b.h)))=(aG n&&aG b.w)
   rw[show b.h+(n-b.h)=n by omega,Bool.and_comm]
theorem o9 (b:Box)(k:Int)(hk:k=2\/k=3):(aG b.w&&aG b.h)=(aG (b.ext k)&&aG (b.ext (aA k))):=by
 rcases hk with rfl | rfl
 . rfl
 . show _=(aG b.h&&aG b.w)
   rw[Bool.and_comm]
theorem jq (k:Int)(b:Box)(n:Int):∀(zs:List Int) (i:Int),(fC k b n zs i).length=zs.length
 | [],_=>rfl
 | z::zs,i=>by show _+1=_+1;rw[jq k b n zs (i+1)]
theorem uO (k:Int)(b:Box)(n:Int):∀(zs:List Int) (i:Int),sizes (fC k b n zs i)=zs.length
 | [],_=>rfl
 | z::zs,i=>by
   show 1+sizes (fC k b n zs (i+1))=zs.length+1
   rw[uO k b n zs (i+1)]
   omega
theorem uP (k:Int)(b:Box)(n:Int):∀(zs:List Int) (i:Int),bi (fC k b n zs i)
 | [],_=>by unfold fC;exact trivial
 | z::zs,i=>by unfold fC;exact⟨trivial,uP k b n zs (i+1)⟩
theorem KL {wh n i:Int}(hn:1<=n)(h:n<=wh-(n-1))(hi:0<=i):1<=bu wh n i/\bu wh n i<=wh:=by
 unfold bu
 obtain⟨L,hL⟩:∃L,wh-(n-1)=L:=⟨_,rfl⟩
 rw[hL] at h ⊢
 rw[Int.tmod_eq_emod_of_nonneg (by omega),Int.tdiv_eq_ediv_of_nonneg (by omega)]
 have h1:1<=L / n:=(Int.le_ediv_iff_mul_le (by omega)).2 (by omega)
 have h2:n*(L / n)+L % n=L:=Int.mul_ediv_add_emod L n
 have h3:=Int.emod_nonneg L (show n≠0 by omega)
 have h4:L / n<=n*(L / n):=by
  have:=Int.mul_le_mul_of_nonneg_right hn (show 0<=L / n by omega)
  omega
 split
 . refine⟨by omega,?_⟩
   have h5:0<=i:=hi
   omega
 . omega
theorem zL {wh n:Int}(hn:1<=n)(h:wh-(n-1) < n):bu wh n (n-1) < 1:=by
 unfold bu
 obtain⟨L,hL⟩:∃L,wh-(n-1)=L:=⟨_,rfl⟩
 rw[hL] at h ⊢
 by_cases h0:0<=L
 . rw[Int.tmod_eq_emod_of_nonneg h0,Int.tdiv_eq_ediv_of_nonneg h0,Int.emod_eq_of_lt h0 h,Int.ediv_eq_zero_of_lt h0 h,if_neg (by omega)]
   omega
 . have h1:L.tmod n<=0:=by
    have:=Int.tmod_nonneg n (show 0<= -L by omega)
    rw[Int.neg_tmod] at this
    omega
   have h2:L.tdiv n<=0:=by
    have:=Int.tdiv_nonneg (show 0<= -L by omega) (show 0<=n by omega)
    rw[Int.neg_tdiv] at this
    omega
   rw[if_neg (by omega)]
   omega
def lU (wh n:Int):Nat->Int->Int
 | 0,_=>0
 | m+1,i=>bu wh n i+lU wh n m (i+1)
theorem zM (k:Int)(b:Box)(n:Int):∀(zs:List Int) (i:Int),aN (fC k b n zs i) k=lU (b.ext k) n zs.length i+zs.length-1
 | [],_=>by show (-1:Int)=0+((0:Nat):Int)-1;omega
 | z::zs,i=>by
   show (b.with k (bu (b.ext k) n i)).ext k+1+aN (fC k b n zs (i+1)) k=bu (b.ext k) n i+lU (b.ext k) n zs.length (i+1)+((zs.length+1:Nat):Int)-1
   rw[sJ,zM k b n zs (i+1)]
   omega
theorem yx {wh n:Int}(hn:1<=n)(h:0<=wh-(n-1)):∀(m:Nat) (i:Int),0<=i->lU wh n m i=m*((wh-(n-1)) / n)+(if i < (wh-(n-1)) % n then min (m:Int) ((wh-(n-1)) % n-i) else 0)
 | 0,i,_=>by
   show (0:Int)=_
   have h3:=Int.emod_nonneg (wh-(n-1)) (show n≠0 by omega)
   split <;> simp <;> omega
 | m+1,i,hi=>by
   show bu wh n i+lU wh n m (i+1)=_
   rw[yx hn h m (i+1) (by omega)]
   unfold bu
   rw[Int.tmod_eq_emod_of_nonneg h,Int.tdiv_eq_ediv_of_nonneg h]
   obtain⟨Q,hQ⟩:∃Q,(wh-(n-1)) / n=Q:=⟨_,rfl⟩
   obtain⟨R,hR⟩:∃R,(wh-(n-1)) % n=R:=⟨_,rfl⟩
   rw[hQ,hR]
   have e:((m+1:Nat):Int)*Q=(m:Int)*Q+Q:=by
    rw[show ((m+1:Nat):Int)=(m:Int)+1 from rfl,Int.add_mul]
    omega
   rw[e]
   obtain⟨P,hP⟩:∃P,(m:Int)*Q=P:=⟨_,rfl⟩
   rw[hP]
   split <;> split <;> omega
theorem uQ {wh n:Int}(m:Nat)(hm:n=m)(hn:1<=n)(h:0<=wh-(n-1)):lU wh n m 0=wh-(n-1):=by
 rw[yx hn h m 0 (by omega),<- hm]
 have h2:n*((wh-(n-1)) / n)+(wh-(n-1)) % n=wh-(n-1):=Int.mul_ediv_add_emod _ _
 have h3:=Int.emod_nonneg (wh-(n-1)) (show n≠0 by omega)
 have h4:=Int.emod_lt_of_pos (wh-(n-1)) (show 0 < n by omega)
 obtain⟨P,hP⟩:∃P,n*((wh-(n-1)) / n)=P:=⟨_,rfl⟩
 rw[hP] at h2 ⊢
 split <;> omega
theorem uS (k:Int)(hk:k=2\/k=3)(b:Box)(n:Int)(hn:1<=n)(yW:aG (b.ext (aA k))=true)(hw:b.ext k<=1000)(h:n<=b.ext k-(n-1)):∀(zs:List Int) (i:Int),0<=i->(∀z∈zs,idB z=true)->au (fC k b n zs i) b k=true
 | [],_,_,_=>rfl
 | z::zs,i,hi,hz=>by
   show ((((aG (b.with k (bu (b.ext k) n i)).w&&aG (b.with k (bu (b.ext k) n i)).h)&&idB z)&&(!false&&decide ((b.with k (bu (b.ext k) n i)).ext (aA k)=b.ext (aA k))))&&au (fC k b n zs (i+1)) b k)=true
   obtain⟨h1,h2⟩:=KL (wh:=b.ext k) hn h hi
   rw[uw _ _ _ hk,nY _ _ _ hk,yW,jB h1 (by omega),hz z (by simp),uS k hk b n hn yW hw h zs (i+1) (by omega) fun y hy=>hz y (List.mem_cons_of_mem _ hy)]
   simp
theorem qB (k:Int)(hk:k=2\/k=3)(b:Box)(n:Int)(hn:1<=n)(h:b.ext k-(n-1) < n):∀(zs:List Int) (i:Int),zs≠[]->i+zs.length=n->au (fC k b n zs i) b k=false
 | [],_,h0,_=>absurd rfl h0
 | [z],i,_,hi=>by
   show ((((aG (b.with k (bu (b.ext k) n i)).w&&aG (b.with k (bu (b.ext k) n i)).h)&&idB z)&&_)&&_)=false
   have e:i=n-1:=by simp at hi;omega
   have h1:=zL hn h
   rw[uw _ _ _ hk,e]
   have:aG (bu (b.ext k) n (n-1))=false:=by
    cases hs:aG (bu (b.ext k) n (n-1)) with
    | false=>rfl
    | true=>have:=ik hs;omega
   rw[this]
   rfl
 | z::y::zs,i,_,hi=>by
   show (_&&au (fC k b n (y::zs) (i+1)) b k)=false
   rw[qB k hk b n hn h (y::zs) (i+1) (by simp) (by simp at hi ⊢;omega),Bool.and_false]
def ji (k:Int)(n:Int)(b:Box):Bool:=(aG (b.ext k)&&aG (b.ext (aA k)))&&(decide (n=1)||decide (n<=b.ext k-(n-1)))
theorem qi (k:Int)(hk:k=2\/k=3)(zs:List Int)(b:Box)(a7:zs≠[])(hz:∀z∈zs,idB z=true):(eU k zs b).sound=ji k zs.length b:=by
 unfold ji
 match zs,a7,hz with
 | [z],_,hz=>
   show ((aG b.w&&aG b.h)&&idB z)=_
   rw[o9 b k hk,hz z (by simp)]
   simp
 | z::y::zs,_,hz=>
   show ((decide (2<=(fC k b ((zs.length+2:Nat):Int) (z::y::zs) 0).length)&&(aG b.w&&aG b.h))&&(au (fC k b ((zs.length+2:Nat):Int) (z::y::zs) 0) b k&&decide (aN (fC k b ((zs.length+2:Nat):Int) (z::y::zs) 0) k=b.ext k)))=_
   rw[jq,o9 b k hk,zM]
   have e1:decide (2<=(z::y::zs).length)=true:=decide_eq_true (by simp)
   have e2:decide ((((z::y::zs).length:Nat):Int)=1)=false:=decide_eq_false (by simp;omega)
   rw[e1,e2,Bool.true_and,Bool.false_or]
   obtain⟨n,hn⟩:∃n,zs.length+2=n:=⟨_,rfl⟩
   have hl:(z::y::zs).length=n:=by simp;omega
   rw[hl,hn]
   cases hs:(aG (b.ext k)&&aG (b.ext (aA k))) with
   | false=>rfl
   | true=>
     have i7:=Bool.and_eq_true_iff.1 hs
     have Od:=ik i7.1
     by_cases om:(n:Int)<=b.ext k-(n-1)
     . rw[uS k hk b n (by omega) i7.2 Od.2 om _ 0 (by omega) hz,decide_eq_true om,uQ n rfl (by omega) (by omega)]
       simp
       omega
     . rw[qB k hk b n (by omega) (by omega) _ 0 (by simp) (by rw[hl];omega),decide_eq_false om]
       rfl
theorem qj (k:Int)(hk:k=2\/k=3)(zs:List Int)(b:Box):(eU k zs b).kinds:=by
 unfold eU
 split
 . exact trivial
 . exact⟨hk,uP _ _ _ _ _⟩
theorem pq (k:Int)(zs:List Int)(b:Box):(eU k zs b).size<=zs.length+1:=by
 unfold eU
 split
 . exact Nat.le_add_left 1 _
 . show 1+sizes (fC k b _ zs 0)<=_
   rw[uO]
   omega
theorem sK (k:Int)(zs:List Int)(b:Box):(eU k zs b).box=b:=by
 unfold eU
 split <;> rfl
theorem qP (k j:Int)(h:k≠j)(zs:List Int)(b:Box):(eU k zs b).bY j=false:=by
 unfold eU
 split
 . rfl
 . exact decide_eq_false h
theorem pW (k:Int)(b:Box)(n:Int):∀(zs:List Int) (j:Int) (i:Nat) (z:Int),zs[i]?=I z->(fC k b n zs j)[i]?=I (.leaf (b.with k (bu (b.ext k) n (j+i))) z)
 | [],_,_,_,h=>by simp at h
 | y::zs,j,0,z,h=>by
   have:y=z:=by simpa using h
   subst this
   show I _=_
   rw[show j+((0:Nat):Int)=j by simp]
 | y::zs,j,i+1,z,h=>by
   have h':zs[i]?=I z:=by simpa using h
   have:=pW k b n zs (j+1) i z h'
   rw[show j+((i+1:Nat):Int)=j+1+(i:Int) by omega]
   exact this
theorem ql (k:Int)(hk:k=2\/k=3):aA (aA k)=k/\(aA k=2\/aA k=3)/\aA k≠k:=by
 rcases hk with rfl | rfl <;> decide
def jC (wh z:Int):Int:=if 1<=z then max (wh-1-z) 1 else dM wh
def firstT (k:Int)(z0:Int)(zs:List Int)(b:Box)(sz:Int):Tree:=.split b k [.leaf (b.with k (b.ext k-1-jC (b.ext k) sz)) z0,eU (aA k) zs (b.with k (jC (b.ext k) sz))]
def Fq (k:Int)(n:Int)(b:Box)(sz:Int):Bool:=aG (b.ext k-1-jC (b.ext k) sz)&&ji (aA k) n (b.with k (jC (b.ext k) sz))
theorem yH (k:Int)(hk:k=2\/k=3)(z0:Int)(zs:List Int)(b:Box)(sz:Int)(a7:zs≠[])(h0:idB z0=true)(hz:∀z∈zs,idB z=true)(hb:(aG b.w&&aG b.h)=true):(firstT k z0 zs b sz).sound=Fq k zs.length b sz:=by
 obtain⟨h1,h2,h3⟩:=ql k hk
 unfold Fq
 obtain⟨o,ho⟩:∃o,jC (b.ext k) sz=o:=⟨_,rfl⟩
 unfold firstT
 rw[ho]
 have i7:(aG (b.ext k)&&aG (b.ext (aA k)))=true:=by rw[<- o9 b k hk];exact hb
 have yW:=(Bool.and_eq_true_iff.1 i7).2
 have RQ:=qi (aA k) h2 zs (b.with k o) a7 hz
 have wj:=qP (aA k) k h3 zs (b.with k o)
 have i8:=sK (aA k) zs (b.with k o)
 obtain⟨E,hE⟩:∃E,eU (aA k) zs (b.with k o)=E:=⟨_,rfl⟩
 rw[hE] at RQ wj i8 ⊢
 show ((decide (2<=2)&&(aG b.w&&aG b.h))&&(((((aG (b.with k (b.ext k-1-o)).w&&aG (b.with k (b.ext k-1-o)).h)&&idB z0)&&(!false&&decide ((b.with k (b.ext k-1-o)).ext (aA k)=b.ext (aA k))))&&((E.sound&&(!E.bY k&&decide (E.box.ext (aA k)=b.ext (aA k))))&&true))&&decide ((b.with k (b.ext k-1-o)).ext k+1+(E.box.ext k+1+ -1)=b.ext k)))=_
 rw[hb,uw _ _ _ hk,nY _ _ _ hk,yW,h0,RQ,wj,i8,nY _ _ _ hk,sJ,sJ,decide_eq_true (show b.ext k-1-o+1+(o+1+ -1)=b.ext k by omega)]
 simp
def qo (b:Box)(r:Int)(c:Nat):List Int->Nat->Int->List Tree
 | _,0,_=>[]
 | zs,m+1,i=>eU 2 (zs.take c) (b.with 3 (bu b.h r i))::qo b r c (zs.drop c) m (i+1)
def Ah (b:Box)(r c:Nat)(zs:List Int):Tree:=.split b 3 (qo b r c zs r 0)
theorem wY (b:Box)(r:Int)(c:Nat):∀(m:Nat) (zs:List Int) (j:Int) (i:Nat),i < m->(qo b r c zs m j)[i]?=I (eU 2 ((zs.drop (i*c)).take c) (b.with 3 (bu b.h r (j+i))))
 | 0,_,_,_,h=>absurd h (Nat.not_lt_zero _)
 | m+1,zs,j,0,_=>by
   show I _=_
   rw[show j+((0:Nat):Int)=j by simp,Nat.zero_mul,List.drop_zero]
 | m+1,zs,j,i+1,h=>by
   have:=wY b r c m (zs.drop c) (j+1) i (by omega)
   rw[List.drop_drop] at this
   rw[show j+((i+1:Nat):Int)=j+1+(i:Int) by omega,show (i+1)*c=c+i*c by rw[Nat.add_mul];omega]
   exact this
theorem lN (b:Box)(r:Int)(c:Nat):∀(m:Nat) (zs:List Int) (j:Int),(qo b r c zs m j).length=m
 | 0,_,_=>rfl
 | m+1,zs,j=>by show _+1=_;rw[lN b r c m]
theorem yL (b:Box)(r:Int)(c:Nat):∀(m:Nat) (zs:List Int) (j:Int),bi (qo b r c zs m j)
 | 0,_,_=>trivial
 | m+1,zs,j=>⟨qj 2 (.inl rfl) _ _,yL b r c m _ _⟩
theorem yM (b:Box)(r:Int)(c:Nat):∀(m:Nat) (zs:List Int) (j:Int),sizes (qo b r c zs m j)<=zs.length+m
 | 0,zs,_=>Nat.zero_le _
 | m+1,zs,j=>by
   show Tree.size _+sizes _<=_
   have h1:=pq 2 (zs.take c) (b.with 3 (bu b.h r j))
   have h2:=yM b r c m (zs.drop c) (j+1)
   rw[List.length_take] at h1
   rw[List.length_drop] at h2
   omega
theorem D7 (b:Box)(r:Int)(c:Nat):∀(m:Nat) (zs:List Int) (j:Int),aN (qo b r c zs m j) 3=lU b.h r m j+m-1
 | 0,_,_=>by show (-1:Int)=0+((0:Nat):Int)-1;omega
 | m+1,zs,j=>by
   show (eU 2 (zs.take c) (b.with 3 (bu b.h r j))).box.ext 3+1+aN (qo b r c (zs.drop c) m (j+1)) 3=bu b.h r j+lU b.h r m (j+1)+((m+1:Nat):Int)-1
   rw[sK,sJ,D7 b r c m]
   omega
def qI (b:Box)(r:Int)(c:Nat):List Int->Nat->Int->Bool
 | _,0,_=>true
 | zs,m+1,i=>ji 2 (zs.take c).length (b.with 3 (bu b.h r i))&&qI b r c (zs.drop c) m (i+1)
def He (b:Box)(r c:Nat)(zs:List Int):Bool:=ji 3 r b&&qI b r c zs r 0
theorem yP (b:Box)(r:Int)(c:Nat)(hc:0 < c):∀(m:Nat) (zs:List Int) (j:Int),(m-1)*c < zs.length\/m=0->(∀z∈zs,idB z=true)->au (qo b r c zs m j) b 3=qI b r c zs m j
 | 0,_,_,_,_=>rfl
 | m+1,zs,j,hl,hz=>by
   show (((eU 2 (zs.take c) (b.with 3 (bu b.h r j))).sound&&(!(eU 2 (zs.take c) (b.with 3 (bu b.h r j))).bY 3&&decide ((eU 2 (zs.take c) (b.with 3 (bu b.h r j))).box.ext (aA 3)=b.ext (aA 3))))&&au (qo b r c (zs.drop c) m (j+1)) b 3)=(ji 2 (zs.take c).length (b.with 3 (bu b.h r j))&&qI b r c (zs.drop c) m (j+1))
   have XO:0 < zs.length:=by
    rcases hl with h | h
    . exact Nat.lt_of_le_of_lt (Nat.zero_le _) h
    . omega
   rw[qi 2 (.inl rfl) _ _ (fun e=>by have:=congrArg List.length e;rw[List.length_take,List.length_nil] at this;omega) (fun z hm=>hz z (List.mem_of_mem_take hm)),qP 2 3 (by decide),sK,nY _ 3 _ (.inr rfl),yP b r c hc m (zs.drop c) (j+1) ?_ (fun z hm=>hz z (List.mem_of_mem_drop hm))]
   . simp
   . rcases Nat.eq_zero_or_pos m with h0 | h0
     . exact .inr h0
     . refine .inl ?_
       rcases hl with h | h
       . rw[List.length_drop]
         have e:(m+1-1)*c=(m-1)*c+c:=by
          rw[show m+1-1=(m-1)+1 by omega,Nat.add_mul]
          omega
         omega
       . omega
theorem D8 (b:Box)(r:Int)(c:Nat)(hr:1<=r)(h:b.h-(r-1) < r):∀(m:Nat) (zs:List Int) (j:Int),m≠0->j+m=r->qI b r c zs m j=false
 | 0,_,_,h0,_=>absurd rfl h0
 | 1,zs,j,_,hj=>by
   have e:j=r-1:=by omega
   have h1:=zL hr h
   show (((aG _&&aG ((b.with 3 (bu b.h r j)).ext 3))&&_)&&_)=false
   rw[sJ,e]
   have:aG (bu b.h r (r-1))=false:=by
    cases hs:aG (bu b.h r (r-1)) with
    | false=>rfl
    | true=>have:=ik hs;omega
   rw[this]
   simp
 | m+2,zs,j,_,hj=>by
   show (_&&qI b r c (zs.drop c) (m+1) (j+1))=false
   rw[D8 b r c hr h (m+1) (zs.drop c) (j+1) (by omega) (by omega),Bool.and_false]
theorem IY (b:Box)(r c:Nat)(zs:List Int)(hr:2<=r)(hc:0 < c)(hl:(r-1)*c < zs.length)(hz:∀z∈zs,idB z=true)(hb:(aG b.w&&aG b.h)=true):(Ah b r c zs).sound=He b r c zs:=by
 show ((decide (2<=(qo b r c zs r 0).length)&&(aG b.w&&aG b.h))&&(au (qo b r c zs r 0) b 3&&decide (aN (qo b r c zs r 0) 3=b.ext 3)))=(((aG b.h&&aG b.w)&&(decide ((r:Int)=1)||decide ((r:Int)<=b.h-(r-1))))&&qI b r c zs r 0)
 have cC:(aG b.h&&aG b.w)=true:=by rw[Bool.and_comm];exact hb
 rw[lN,decide_eq_true hr,hb,cC,yP b r c hc r zs 0 (.inl hl) hz,D7,decide_eq_false (show ¬(r:Int)=1 by omega)]
 by_cases h:(r:Int)<=b.h-(r-1)
 . rw[uQ r rfl (by omega) (by omega),decide_eq_true h]
   rw[decide_eq_true (show b.h-((r:Int)-1)+r-1=b.ext 3 by show _=b.h;omega)]
   simp
 . rw[D8 b r c (by omega) (by omega) r zs 0 (by omega) (by omega)]
   simp
def oL:Nat->Nat->Nat->Nat->Nat × Nat
 | 0,_,r,c=>(r,c)
 | f+1,n,r,c=>if r*c < n then (if (r+1)*c < n then oL f n (r+1) (c+1) else oL f n (r+1) c) else (r,c)
def iE (n:Nat):Nat × Nat:=oL 40 n 1 1
theorem pV:∀n,n < 33->2<=n->2<=(iE n).1/\0 < (iE n).2/\((iE n).1-1)*(iE n).2 < n/\n<=(iE n).1*(iE n).2/\(iE n).1<=32/\(iE n).2<=32:=by decide
end Go.Proofs.YtejlincnnonhaaaGreat
