import Derived.Test.YtejlincnnonhaaaGreatRows
import Derived.Test.YtejlincnnonhaaaGreatP24
import Derived.Test.YtejlincnnonhaaaGreatP5
import Derived.WalkKit
import Derived.ProofKit
import Derived.OpenShut
import Derived.ShutString
import Derived.Carry
import Derived.SizedLaws
import Derived.Test.YtejlincnnonhaaaGreatP0
namespace Go.Proofs.YtejlincnnonhaaaGreat.layoutOwn
open Go.RowKit Go.Proofs.Tryz
open Value renaming int->J,slice->Jj,pointer->JJ
open IntKind renaming i64->Jq
open Option renaming none->O,some->I
open Ending renaming returned->Jz
open Obj renaming cells->JZ
set_option linter.unusedVariables false
set_option maxRecDepth 100000
set_option maxHeartbeats 16000000
open Go.ChangeShapes Go.WideShapes Go.ChangeAt Go.RowKit
open Go.ChangeMaps (open_string shut_string)
theorem own:ownKnob prog.godebug=none:=by kernel_rfl
set_option maxRecDepth 100000 in
theorem contract (H:Type)(enc:TypeId × Value->H)(W:World)(base:Nat)(args:Array Value)(ds gs:List (DataW H))(before:List MemPlace)
 (de:∀(j:Nat) t v,f4.params[j]?=some t->args[j]?=some v->Value.okWide prog W .any base t v)
 (hW:DataW.Whole enc prog f4.params.toList Rows.layoutOwnSpec.vars false W args.toList ds gs before) (hsz:(DataW.weightsEach prog (f4.params.toList++Rows.layoutOwnSpec.plain.varTypes prog) (ds++gs)).all (·<=reachBytes)=true):
 Calls prog 4 args W fun e W'=>∃v,e=.returned v/\Rows.layoutOwnSpec.post enc prog f4 false true false false W args v W':=by
 have TY:=hW
 obtain⟨p,q,TZ,hV,rfl,A6,aE⟩:=hW
 have hA:DataW.TrodAll enc prog W 0 (fun _=>true) true f4.params.toList args.toList ds p:=TZ
 rw[params4] at hA de hsz
 obtain⟨v0,vs0,d0,ds0,p0,q0,T8,rfl,rfl,h0,r0⟩:=trodAll_cons hA
 obtain⟨v1,vs1,d1,ds1,p1,q1,rfl,rfl,rfl,h1,r1⟩:=trodAll_cons r0
 obtain⟨v2,vs2,d2,ds2,p2,q2,rfl,rfl,rfl,h2,r2⟩:=trodAll_cons r1
 obtain⟨rfl,rfl,rfl⟩:=trodAll_nil r2
 obtain rfl:args=#[v0,v1,v2]:=by cases args;simp_all
 obtain⟨rfl,rfl⟩:=trodVars_none hV
 obtain⟨l0,WH,eh,hr0,hb0,hp0⟩:=H7 (de 0 23 v0 rfl rfl) h0
 obtain⟨o1,rfl,rfl,Vq⟩:=GG (de 1 35 v1 rfl rfl) h1
 obtain⟨o2,rfl,rfl,Rq⟩:=GG (de 2 35 v2 rfl rfl) h2
 clear TZ
 simp only[List.append_nil] at TY
 refine (yT v0 l0 o1 o2 W WH eh (Ey hsz (l:=l0) rfl rfl hb0) Vq Rq).mono fun e W' ⟨he,hg⟩=> ?_
 subst he
 exact⟨_,rfl,_,_,_,[],_,[],TY,trodAll_mk1 (shut_bool underlying4 _),(trodAll_cons_mk (Below.trod vY (by kernel_rfl) (of_decide_eq_true (by kernel_rfl)) h0 hg hp0) (trodAll_cons_mk (Below.trod vY (by kernel_rfl) (of_decide_eq_true (by kernel_rfl)) h1 hg (fun x hx=>by cases hx)) (trodAll_cons_mk (Below.trod vY (by kernel_rfl) (of_decide_eq_true (by kernel_rfl)) h2 hg (fun x hx=>by cases hx)) trodAll_mk0))),rfl,hg.frame _,fun h=>by cases h⟩
set_option maxRecDepth 100000 in
theorem lifted (os:Os)(started:os.Started)(H:Type)(enc:TypeId × Value->H):
 ReturnsInHanded {} checked os 4 .any (Rows.layoutOwnSpec.pre6 enc prog f4 Rows.layoutOwnRow.domain false) (Rows.layoutOwnSpec.post enc prog f4 false true false false):=by
 refine returnsInHanded_of_change_sized (C:=checked) own started (by kernel_rfl) func4
  (ChangeSpec.witness6 (enc:=enc) (C:=checked) false ⟨#[],#[.slice none 0 0,.agg #[.int .i64 0,.int .i64 0,.int .i64 0,.int .i64 0,.bool false,.int .i64 0,.int .i64 0,.int .i64 0],.agg #[.int .i64 0,.int .i64 0,.int .i64 0,.int .i64 0,.bool false,.int .i64 0,.int .i64 0,.int .i64 0]],[]⟩ 8 (by kernel_rfl) (by kernel_rfl) (by kernel_rfl) (by kernel_rfl)) ?_
 intro W base args ds gs before CL hW hcnd hsz _
 exact contract H enc W base args ds gs before CL hW hsz
theorem over:Rows.layoutOwnRow.holds Tryz.pinned (OpenSpec.ofChange Rows.layoutOwnSpec):=
 OpenClaim.holds_of_wide 4 f4 rfl rfl rfl rfl rfl rfl rfl ⟨rfl,rfl,rfl,rfl,rfl⟩ rfl rfl rfl rfl rfl (by kernel_rfl) func4 (by kernel_rfl)
  (of_decide_eq_true (by kernel_rfl)) (by unfold Func.isWrapper;first | (rw[if_pos (by decide+kernel)];kernel_rfl) | (rw[if_neg (by decide+kernel)];exact⟨rfl,rfl⟩))
  (fun os started H enc _=>lifted os started H enc)
end Go.Proofs.YtejlincnnonhaaaGreat.layoutOwn
namespace Go.Proofs.YtejlincnnonhaaaGreat
theorem o6:Rows.LayoutOwnSaid:=layoutOwn.over
#print axioms o6
end Go.Proofs.YtejlincnnonhaaaGreat
