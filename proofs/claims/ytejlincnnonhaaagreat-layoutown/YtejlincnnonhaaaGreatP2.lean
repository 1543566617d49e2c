import Derived.Test.YtejlincnnonhaaaGreatP0
import Derived.WalkKit
import Derived.BigQuiet
import Derived.Deep.QuietTactic
import Derived.Test.YtejlincnnonhaaaGreatProg
namespace Go.Proofs.YtejlincnnonhaaaGreat
open Go.RowKit Go.Proofs.Tryz
open Value renaming int->J,slice->Jj,pointer->JJ
open IntKind renaming i64->Jq
open Option renaming none->O,some->I
open Ending renaming returned->Jz
open Obj renaming cells->JZ
set_option linter.unusedVariables false
set_option maxRecDepth 100000
set_option maxHeartbeats 16000000
section
variable {P:Program} {ops:Array Oper} {C:World->Prop}
theorem JK {Q:Act->Prop}{a:Act}{o:Oper}{rest:List Oper}{v:Value}(hw:Region.wanted o (yielded ops a.tmps)=true)(hy:∀X,C X->o.quietAt P a C X v)(hn:wpQuiet P ops C Q rest (a.put o.dst v)):wpQuiet P ops C Q (o::rest) a:=by
 show if _ then _ else _
 rw[if_pos hw]
 exact⟨v,hy,hn⟩
theorem MR {Q:Act->Prop}{a:Act}{o:Oper}{rest:List Oper}(hw:Region.wanted o (yielded ops a.tmps)=false)(hn:wpQuiet P ops C Q rest (a.put o.dst undef)):wpQuiet P ops C Q (o::rest) a:=by
 show if _ then _ else _
 rw[if_neg (by rw[hw];exact Bool.false_ne_true)]
 exact hn
theorem xE {id:Nat}{Q:Exit->Act->World->Prop}{a:Act}{w:World}{l:List Oper}(C:World->Prop)(hm:P.follows .mixedOrders=true)(hB:Region.lexB .any l.toArray=true)(hC:C w.drew)
 (h:wpQuiet P l.toArray C (fun a'=>∀w',C w'->Q .normal a' w') l a):(Code.region id l.toArray true).wp P Q a w:=
 wp_region_quiet hm hB hC (by simpa using h)
@[irreducible] def QW (P:Program) (ops:Array Oper) (C:World->Prop) (Q:Act->Prop) (l:List Oper) (a:Act):Prop:=wpQuiet P ops C Q l a
theorem dJ {Q:Act->Prop}{a:Act}{o:Oper}{rest:List Oper}{v:Value}(hw:Region.wanted o (yielded ops a.tmps)=true)(hy:∀X,C X->o.quietAt P a C X v)(hn:∀K:Act->Prop,Hid (∀a,QW P ops C Q rest a->K a)->K (a.put o.dst v)):QW P ops C Q (o::rest) a:=by
 unfold QW at hn ⊢
 exact JK hw hy (hn _ fun _ h=>h)
theorem lW {Q:Act->Prop}{a:Act}{o:Oper}{rest:List Oper}(hw:Region.wanted o (yielded ops a.tmps)=false)(hn:∀K:Act->Prop,Hid (∀a,QW P ops C Q rest a->K a)->K (a.put o.dst undef)):QW P ops C Q (o::rest) a:=by
 unfold QW at hn ⊢
 exact MR hw (hn _ fun _ h=>h)
theorem fK {Q:Act->Prop}{a:Act}(h:Q a):QW P ops C Q [] a:=by
 unfold QW
 exact h
theorem aQ {id:Nat}{Q:Exit->Act->World->Prop}{a:Act}{w:World}{l:List Oper}(C:World->Prop)(hm:P.follows .mixedOrders=true)(hB:Region.lexB .any l.toArray=true)(hC:C w.drew)
 (h:QW P l.toArray C (fun a'=>∀w',C w'->Q .normal a' w') l a):(Code.region id l.toArray true).wp P Q a w:=by
 unfold QW at h
 exact xE C hm hB hC h
end
end Go.Proofs.YtejlincnnonhaaaGreat
