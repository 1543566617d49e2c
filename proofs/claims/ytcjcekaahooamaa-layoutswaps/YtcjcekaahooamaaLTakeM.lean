/-
  Layouts: takeAll, the walk.
-/
import Derived.Test.YtcjcekaahooamaaLTakeL
namespace Go.Proofs.Ytcjcekaahooamaa
open Go.RowKit
set_option linter.unusedVariables false
set_option maxRecDepth 100000

def lenOf : Value → Nat
  | .slice _ n _ => n
  | _ => 0
theorem CellsIn.lenOf {w : World} {v : Value} {l : List CellV} (h : CellsIn w v l) : Go.Proofs.Ytcjcekaahooamaa.lenOf v = l.length := by
  obtain ⟨ad, cap, e, _⟩ := h.shape
  subst e
  rfl
theorem own_slice {w : World} {B : Nat} {t : TypeId} {v : Value} {n : Nat} {vs : List Value} (h : w.ownsRow B t 1 v n vs) : ∃ sa sn sc, v = .slice sa sn sc := by
  rcases h.2 with ⟨h0, _⟩ | ⟨g, cap, cur, e, _⟩
  · exact ⟨_, _, _, h0⟩
  · exact ⟨_, _, _, e⟩
/-- What takeAll leaves. -/
def AllGood (W0 : World) (l : List CellV) (d : Int) (w : World) (e : Ending) (w' : World) : Prop := ∃ sa sn sc v', e = .returned (.tuple #[.slice sa sn sc, v']) ∧ AllTo W0 l d w (.slice sa sn sc) v' (takeAllF l d).1 (takeAllF l d).2 w'

set_option maxHeartbeats 1000000 in
theorem takeAll_any (l : List CellV) (v : Value) (d : Int) (W0 w : World) (hv : CellsIn W0 v l) (hl : l.length ≤ 1000)
    (HT : ∀ r v' X, r.length ≤ l.length → Below w.heap.size w X → CellsIn W0 v' r → Calls Try.prog 18 #[v', .int .i64 d] X (TakeGood W0 r v' d X)) :
    Calls Try.prog 37 #[v, .int .i64 d] w (AllGood W0 l d w) := by
  have H : Hid (∀ r v' X, r.length ≤ l.length → Below w.heap.size w X → CellsIn W0 v' r → Calls Try.prog 18 #[v', .int .i64 d] X (TakeGood W0 r v' d X)) := HT
  have H0 : Hid (AllTo W0 l d w (.slice none 0 0) v [] l w) := ⟨⟨[], [], World.ownsRow_nil _ _ _ _, ⟨rfl, rfl⟩, by simp [Value.ownBlock], by simp [Value.ownBlock]⟩, by simp, hv, Below.refl _ _, by simp⟩
  clear HT hv
  go_enter Try.func37, Try.ntmps37
  go_wp2_with fail
  go_loopw [0, 6] (fun v sl wr => ∃ (r : List CellV) (ts : List Tree) (sa : Option Addr) (sn sc : Nat), sl = .slice sa sn sc ∧ Hid (AllTo W0 l d w (.slice sa sn sc) v ts r wr)) (fun v _ _ => lenOf v)
  case atStart => exact ⟨l, [], none, 0, 0, rfl, H0⟩
  case round =>
    obtain ⟨r, ts, sa, sn, sc, rfl, HA⟩ := hrel
    have hlen := HA.out.len
    have HC : Hid (Calls Try.prog 18 #[u0, .int .i64 d] wr (TakeGood W0 r u0 d wr)) := H.out r u0 wr (by omega) HA.out.below HA.out.rest
    have hlo := HA.out.rest.lenOf
    have Hlo : Hid (lenOf u0 = r.length) := hlo
    clear hlen hlo H0
    go_wp2_with fail
    refine HC.out.mono ?_
    rintro e w2 (⟨hn, rfl, hb⟩ | ⟨t, r', T, g, fp, v', ht, rfl, hAt, hnd, hfp, hc, hb⟩)
    · obtain ⟨k1, k2⟩ := HA.out.none hn hb
      have HK : Hid (AllTo W0 l d w (.slice sa sn sc) u0 (takeAllF l d).1 (takeAllF l d).2 w2) := by rw [k2]; exact k1
      clear k1 k2 hn hb
      unfold nilPart
      go_wp2
      go_ret2
      exact ⟨_, _, _, _, rfl, HK.out⟩
    · obtain ⟨vs, k1, k2, k3⟩ := HA.out.next ht hAt hnd hfp hc hb
      have hsh := takeF_shorter r d t r' ht
      have HO : Hid (w2.ownsRow 0 35 1 (.slice sa sn sc) vs.length vs) := k1
      have HK := k3 (.cells #[.iface T (.pointer (some ⟨g, 0, none⟩))] 35)
      have HK2 : Hid (∀ sl' w3, w3.ownsRow 0 35 1 sl' (vs.length + 1) (vs ++ [.iface T (.pointer (some ⟨g, 0, none⟩))]) → (w2.alloc (.cells #[.iface T (.pointer (some ⟨g, 0, none⟩))] 35)).grownBy w3 (Value.slice sa sn sc).ownBlock → (sl'.ownBlock = (Value.slice sa sn sc).ownBlock ∨ sl'.ownBlock = some (w2.alloc (.cells #[.iface T (.pointer (some ⟨g, 0, none⟩))] 35)).heap.size) → AllTo W0 l d w sl' v' (ts ++ [t]) r' w3) := HK
      have hvs : vs.length ≤ 16777216 := by omega
      have Hsh : Hid (r'.length < r.length) := hsh
      clear k1 k2 k3 HK ht hAt hnd hfp hc hb hsh
      go_wp2_with (at_builtin; refine wpList_append_part w2 rfl (.tmp 19) (.tmp 21) rfl (.slice sa sn sc) vs T g rfl HO.out rfl hvs ?_; intro sl' w3 a1 a2 a3; have HN : Hid (AllTo W0 l d w sl' v' (ts ++ [t]) r' w3) := HK2.out sl' w3 a1 a2 a3; have hsl := own_slice a1; clear a1 a2 a3)
      obtain ⟨sa', sn', sc', rfl⟩ := hsl
      go_roundw
      case rel => exact ⟨r', ts ++ [t], sa', sn', sc', rfl, HN⟩
      case measure =>
        rw [HN.out.rest.lenOf, Hlo.out]
        exact Hsh.out

end Go.Proofs.Ytcjcekaahooamaa
