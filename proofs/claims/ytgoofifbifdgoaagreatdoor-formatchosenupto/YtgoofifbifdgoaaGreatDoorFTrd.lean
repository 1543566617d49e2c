/-
  Formats: a text turned; what a part says, as the program tells it.
-/
import Derived.Test.YtgoofifbifdgoaaGreatDoorFTso
import Derived.Test.YtgoofifbifdgoaaGreatDoorFId
namespace Go.Proofs.YtgoofifbifdgoaaGreatDoor
open Go.RowKit
set_option linter.unusedVariables false
set_option maxRecDepth 100000

/-- An error value: a fault, or one within places. -/
inductive ErrV : Value → Int → Prop
  | fault (k : Int) : ErrV (.iface 47 (.agg #[.int .i64 k])) k
  | within (s : ByteArray) (v : Value) (k : Int) : ErrV v k → ErrV (.iface 141 (.agg #[.string s, v])) k
theorem ErrV.iface {v : Value} {k : Int} (h : ErrV v k) : ∃ t x, v = .iface t x := by
  cases h with
  | fault => exact ⟨_, _, rfl⟩
  | within => exact ⟨_, _, rfl⟩
/-- What is told of a part. -/
def Out (r : Except Int (List UInt8)) (e : Ending) : Prop := match r with
  | .ok s => e = .returned (.tuple #[.string (str s), .nilIface])
  | .error k => ∃ v, e = .returned (.tuple #[.string (str []), v]) ∧ ErrV v k
theorem Tl.at {w W : World} {sv : Value} {ts : List Turn} (h : Tl w W sv ts) : ∃ ad cap, sv = .slice ad ts.length cap ∧ ∀ (i : Nat) (t : Turn), ts[i]? = some t → ∃ g o g2 lb, ad = some ⟨g, o, none⟩ ∧ (∀ W', Below W.heap.size W W' → W'.cell? ⟨g, o + i, none⟩ = some (.func (.func g2) #[] lb)) ∧ Enters g2 ∧ ∀ W', Below W.heap.size W W' → ∀ l : List UInt8, l.length ≤ 2147483647 → Calls Tryz.prog g2 (#[.string (str l)] ++ lb) W' fun e w' => e = .returned (.string (str (t.of l))) ∧ Below W'.heap.size W' w' := by
  obtain ⟨vals, h1, h2⟩ := h
  obtain ⟨ad, cap, e, k1, k2, k3, k4⟩ := h1.row.shape
  refine ⟨ad, cap, e, fun i t ht => ?_⟩
  have hi := (List.getElem?_eq_some_iff.1 ht).1
  have hl : vals.length = ts.length := by have := h1.row.1; omega
  obtain ⟨v, hv⟩ : ∃ v, vals[i]? = some v := ⟨_, List.getElem?_eq_getElem (by omega)⟩
  obtain ⟨B, w0, ⟨g2, lb, rfl, eg, hc⟩, hs, _⟩ := h2 i t v ht hv
  cases ad with
  | none =>
    have := (k3 rfl).1
    omega
  | some a =>
    obtain ⟨g, o, rfl, _, k6, k7⟩ := k4 a rfl
    exact ⟨g, o, g2, lb, rfl, fun W' hW => (k7 W' (hW.block g k6)).1 i _ hv, eg, fun W' hW => hc W' (hs.trans (.of_below hW))⟩
theorem turned_cons (t : Turn) (ts : List Turn) (l : List UInt8) : turnedF (t :: ts) l = if 1024 < (t.of l).length then some (.error 2) else turnedF ts (t.of l) := rfl
theorem turned_known : ∀ (ts : List Turn) (l : List UInt8), ∃ r, turnedF ts l = some r
  | [], l => ⟨_, rfl⟩
  | t :: ts, l => by
    rw [turned_cons]
    split
    · exact ⟨_, rfl⟩
    · exact turned_known ts _
theorem Tl.few {w W : World} {sv : Value} {ts : List Turn} (h : Tl w W sv ts) : ts.length ≤ 9223372036854775807 := by
  obtain ⟨vals, h1, h2⟩ := h
  have := h1.row.len
  unfold maxLen at this
  omega

set_option maxHeartbeats 4000000 in
theorem turned_any {w0 w : World} {sv : Value} {ts : List Turn} (h : Tl w0 w sv ts) (l : List UInt8) (hl : l.length ≤ 2147483647) (r : Except Int (List UInt8)) (hr : turnedF ts l = some r) :
    Calls Tryz.prog 147 #[.string (str l), sv] w fun e w' => Out r e ∧ Below w.heap.size w w' := by
  have hfew := h.few
  obtain ⟨ad, cap, rfl, hat⟩ := h.at
  have HAt := hidK hat
  obtain ⟨n, hn⟩ : ∃ n, ts.length = n := ⟨_, rfl⟩
  have HN := hidK hn
  rw [hn] at hfew ⊢
  have HR := hidK hr
  clear hat hn hr h
  go_enter Tryz.func147, Tryz.ntmps147
  go_wp2_with fail
  go_loopw [0, 10] (fun s0 s10 wx => ∃ (k : Nat) (x : List UInt8), k ≤ n ∧ x.length ≤ 2147483647 ∧ s10 = .int .i64 (k : Int) ∧ s0 = .string (str x) ∧ Hid (turnedF (ts.drop k) x = some r) ∧ Hid (Below w.heap.size w wx)) (fun _ v _ => n - (intOf v).toNat)
  case atStart => exact ⟨0, l, Nat.zero_le _, hl, rfl, rfl, HR.out, Below.refl _ _⟩
  case round =>
    obtain ⟨k, x, hk, hx, rfl, rfl, HF, HB⟩ := hrel
    by_cases hkn : k < n
    · obtain ⟨t, ht⟩ : ∃ t, ts[k]? = some t := ⟨_, List.getElem?_eq_getElem (by rw [HN.out]; exact hkn)⟩
      obtain ⟨g, o, g2, lb, rfl, q0, eg, hcall⟩ := HAt.out k t ht
      have q0' := q0 wr HB.out
      have HC := hidK (hcall wr HB.out x hx)
      have hdr : ts.drop k = t :: ts.drop (k + 1) := by
        obtain ⟨h1, h2⟩ := List.getElem?_eq_some_iff.1 ht
        rw [List.drop_eq_getElem_cons h1, h2]
      rw [hdr, turned_cons] at HF
      obtain ⟨y, hy⟩ : ∃ y, t.of x = y := ⟨_, rfl⟩
      rw [hy] at HF HC
      have hys : (str y).size = y.length := rfl
      unfold Enters at eg
      obtain ⟨zx, hzx⟩ : ∃ zx, str x = zx := ⟨_, rfl⟩
      obtain ⟨zy, hzy⟩ : ∃ zy, str y = zy := ⟨_, rfl⟩
      rw [hzx] at HC ⊢
      rw [hzy] at HC hys
      have HZy := hidK hzy
      clear ht q0 hcall hdr hy hzx hzy
      by_cases h1024 : 1024 < y.length
      · rw [if_pos h1024] at HF
        have hr2 : r = .error 2 := (Option.some.inj HF.out).symm
        have HR2 := hidK hr2
        have hz1 : (1024 : Int) < (zy.size : Int) := by omega
        clear HF hr2 h1024 HAt
        go_wp2_with (go_at_fn g2; refine HC.out.mono ?_; rintro e w2 ⟨rfl, hb2⟩; have HB2 := hidK (HB.out.trans (hb2.mono HB.out.size)); clear hb2)
        all_goals go_ret2
        all_goals exact ⟨by rw [HR2.out]; exact ⟨_, rfl, .fault 2⟩, by assumption⟩
      · rw [if_neg h1024] at HF
        have hz1 : ¬ (1024 : Int) < (zy.size : Int) := by omega
        go_wp2_with (go_at_fn g2; refine HC.out.mono ?_; rintro e w2 ⟨rfl, hb2⟩; have HB2 := hidK (HB.out.trans (hb2.mono HB.out.size)); clear hb2)
        go_roundw
        case rel => exact ⟨k + 1, y, by omega, by omega, by go_num, by rw [HZy.out], HF.out, by assumption⟩
        case measure => simp [intOf]; omega
    · obtain rfl : k = n := by omega
      have hr2 : r = .ok x := by
        have h := HF.out
        rw [List.drop_eq_nil_of_le (by rw [HN.out]; exact Nat.le_refl _)] at h
        exact (Option.some.inj h).symm
      have HR2 := hidK hr2
      clear HF hr2 HAt
      go_wp2_with fail
      all_goals go_ret2
      all_goals exact ⟨by rw [HR2.out]; rfl, HB.out⟩

end Go.Proofs.YtgoofifbifdgoaaGreatDoor
