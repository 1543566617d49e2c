import Derived.Test.YtejlincnnonhaaaGreatRows
import Derived.Test.YtejlincnnonhaaaGreatP22
import Derived.Test.YtejlincnnonhaaaGreatP5
import Derived.WalkKit
import Derived.ProofKit
import Derived.OpenShut
import Derived.ShutString
import Derived.Carry
import Derived.SizedLaws
import Derived.Test.YtejlincnnonhaaaGreatP0
namespace Go.Proofs.YtejlincnnonhaaaGreat.layoutPlays
open Go.RowKit Go.Proofs.Tryz
open Value renaming int->J,slice->Jj,pointer->JJ
open IntKind renaming i64->Jq
open Option renaming none->O,some->I
open Ending renaming returned->Jz
open Obj renaming cells->JZ
set_option linter.unusedVariables false
set_option maxRecDepth 100000
set_option maxHeartbeats 16000000
open Go.ChangeShapes Go.WideShapes Go.ChangeAt Go.RowKit
open Go.ChangeMaps (open_string shut_string)
theorem own:ownKnob prog.godebug=none:=by kernel_rfl
set_option maxRecDepth 100000 in
theorem contract (H:Type)(enc:TypeId × Value->H)(W:World)(base:Nat)(args:Array Value)(ds gs:List (DataW H))(before:List MemPlace)
 (de:∀(j:Nat) t v,f3.params[j]?=some t->args[j]?=some v->Value.okWide prog W .any base t v)
 (hW:DataW.Whole enc prog f3.params.toList Rows.layoutPlaysSpec.vars false W args.toList ds gs before) (hsz:(DataW.weightsEach prog (f3.params.toList++Rows.layoutPlaysSpec.plain.varTypes prog) (ds++gs)).all (·<=reachBytes)=true):
 Calls prog 3 args W fun e W'=>∃v,e=.returned v/\Rows.layoutPlaysSpec.post enc prog f3 false true false false W args v W':=by
 have TY:=hW
 obtain⟨p,q,TZ,hV,rfl,A6,aE⟩:=hW
 have hA:DataW.TrodAll enc prog W 0 (fun _=>true) true f3.params.toList args.toList ds p:=TZ
 rw[params3] at hA de hsz
 obtain⟨v0,vs0,d0,ds0,p0,q0,T8,rfl,rfl,h0,r0⟩:=trodAll_cons hA
 obtain⟨v1,vs1,d1,ds1,p1,q1,rfl,rfl,rfl,h1,r1⟩:=trodAll_cons r0
 obtain⟨v2,vs2,d2,ds2,p2,q2,rfl,rfl,rfl,h2,r2⟩:=trodAll_cons r1
 obtain⟨rfl,rfl,rfl⟩:=trodAll_nil r2
 obtain rfl:args=#[v0,v1,v2]:=by cases args;simp_all
 obtain⟨rfl,rfl⟩:=trodVars_none hV
 obtain⟨a0,rfl,rfl,rfl,w0⟩:=open_int underlying3 (de 0 3 v0 rfl rfl) h0
 obtain⟨a1,rfl,rfl,rfl,w1⟩:=open_int underlying3 (de 1 3 v1 rfl rfl) h1
 obtain⟨l2,TG,cJ,im,al,j1⟩:=Lr (de 2 22 v2 rfl rfl) h2
 clear TZ
 simp only[List.append_nil] at TY
 refine (Hz a0 a1 v2 l2 W TG im (JR hsz (l:=l2) (j:=2) rfl rfl al)).mono fun e W' ⟨he,hg⟩=> ?_
 subst he
 exact⟨_,rfl,_,_,_,[],_,[],TY,trodAll_mk1 (shut_bool underlying4 _),(trodAll_cons_mk (shut_int underlying3 w0) (trodAll_cons_mk (shut_int underlying3 w1) (trodAll_cons_mk (Below.trod vY (by kernel_rfl) (of_decide_eq_true (by kernel_rfl)) h2 hg j1) trodAll_mk0))),rfl,hg.frame _,fun h=>by cases h⟩
set_option maxRecDepth 100000 in
theorem lifted (os:Os)(started:os.Started)(H:Type)(enc:TypeId × Value->H):
 ReturnsInHanded {} checked os 3 .any (Rows.layoutPlaysSpec.pre6 enc prog f3 Rows.layoutPlaysRow.domain false) (Rows.layoutPlaysSpec.post enc prog f3 false true false false):=by
 refine returnsInHanded_of_change_sized (C:=checked) own started (by kernel_rfl) func3
  (ChangeSpec.witness6 (enc:=enc) (C:=checked) false ⟨#[],#[.int .i64 0,.int .i64 0,.slice none 0 0],[]⟩ 8 (by kernel_rfl) (by kernel_rfl) (by kernel_rfl) (by kernel_rfl)) ?_
 intro W base args ds gs before CL hW hcnd hsz _
 exact contract H enc W base args ds gs before CL hW hsz
theorem over:Rows.layoutPlaysRow.holds Tryz.pinned (OpenSpec.ofChange Rows.layoutPlaysSpec):=
 OpenClaim.holds_of_wide 3 f3 rfl rfl rfl rfl rfl rfl rfl ⟨rfl,rfl,rfl,rfl,rfl⟩ rfl rfl rfl rfl rfl (by kernel_rfl) func3 (by kernel_rfl)
  (of_decide_eq_true (by kernel_rfl)) (by unfold Func.isWrapper;first | (rw[if_pos (by decide+kernel)];kernel_rfl) | (rw[if_neg (by decide+kernel)];exact⟨rfl,rfl⟩))
  (fun os started H enc _=>lifted os started H enc)
end Go.Proofs.YtejlincnnonhaaaGreat.layoutPlays
namespace Go.Proofs.YtejlincnnonhaaaGreat
theorem mV:Rows.LayoutPlaysSaid:=layoutPlays.over
#print axioms mV
end Go.Proofs.YtejlincnnonhaaaGreat
