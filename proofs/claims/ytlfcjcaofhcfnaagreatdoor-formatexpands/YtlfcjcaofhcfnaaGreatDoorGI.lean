/-
  Formats: a text turned; what a part says, as the program tells it.
  Formats: what a part means; a choice.
  Formats: truth; a choice.
-/
import Derived.Test.YtlfcjcaofhcfnaaGreatDoorGH
import Derived.Test.YtlfcjcaofhcfnaaGreatDoorGE
namespace Go.Proofs.YtlfcjcaofhcfnaaGreatDoor
open Go.RowKit
set_option linter.unusedVariables false
set_option maxRecDepth 100000

/-- An error value: a fault, or one within places. -/
inductive ErrV : Value → Int → Prop
  | fault (k : Int) : ErrV (.iface 39 (.agg #[.int .i64 k])) k
  | within (s : ByteArray) (v : Value) (k : Int) : ErrV v k → ErrV (.iface 141 (.agg #[.string s, v])) k
theorem ErrV.iface {v : Value} {k : Int} (h : ErrV v k) : ∃ t x, v = .iface t x := by
  cases h with
  | fault => exact ⟨_, _, rfl⟩
  | within => exact ⟨_, _, rfl⟩
/-- What is told of a part. -/
def Out (r : Except Int (List UInt8)) (e : Ending) : Prop := match r with
  | .ok s => e = .returned (.tuple #[.string (str s), .nilIface])
  | .error k => ∃ v, e = .returned (.tuple #[.string (str []), v]) ∧ ErrV v k
theorem Tl.at {w W : World} {sv : Value} {ts : List Turn} (h : Tl w W sv ts) : ∃ ad cap, sv = .slice ad ts.length cap ∧ ∀ (i : Nat) (t : Turn), ts[i]? = some t → ∃ g o g2 lb, ad = some ⟨g, o, none⟩ ∧ (∀ W', Below W.heap.size W W' → W'.cell? ⟨g, o + i, none⟩ = some (.func (.func g2) #[] lb)) ∧ Enters g2 ∧ ∀ W', Below W.heap.size W W' → NEnv W' → ∀ l : List UInt8, l.length ≤ 2147483647 → Calls Tryz.prog g2 (#[.string (str l)] ++ lb) W' fun e w' => e = .returned (.string (str (t.of l))) ∧ Below W'.heap.size W' w' := by
  obtain ⟨vals, h1, h2⟩ := h
  obtain ⟨ad, cap, e, k1, k2, k3, k4⟩ := h1.row.shape
  refine ⟨ad, cap, e, fun i t ht => ?_⟩
  have hi := (List.getElem?_eq_some_iff.1 ht).1
  have hl : vals.length = ts.length := by have := h1.row.1; omega
  obtain ⟨v, hv⟩ : ∃ v, vals[i]? = some v := ⟨_, List.getElem?_eq_getElem (by omega)⟩
  obtain ⟨B, w0, ⟨g2, lb, rfl, eg, hc⟩, hs, _⟩ := h2 i t v ht hv
  cases ad with
  | none =>
    have := (k3 rfl).1
    omega
  | some a =>
    obtain ⟨g, o, rfl, _, k6, k7⟩ := k4 a rfl
    exact ⟨g, o, g2, lb, rfl, fun W' hW => (k7 W' (hW.block g k6)).1 i _ hv, eg, fun W' hW => hc W' (hs.trans (.of_below hW))⟩
theorem turned_cons (t : Turn) (ts : List Turn) (l : List UInt8) : turnedF (t :: ts) l = if 1024 < (t.of l).length then some (.error 2) else turnedF ts (t.of l) := rfl
theorem turned_known : ∀ (ts : List Turn) (l : List UInt8), ∃ r, turnedF ts l = some r
  | [], l => ⟨_, rfl⟩
  | t :: ts, l => by
    rw [turned_cons]
    split
    · exact ⟨_, rfl⟩
    · exact turned_known ts _
theorem Tl.few {w W : World} {sv : Value} {ts : List Turn} (h : Tl w W sv ts) : ts.length ≤ 9223372036854775807 := by
  obtain ⟨vals, h1, h2⟩ := h
  have := h1.row.len
  unfold maxLen at this
  omega

set_option maxHeartbeats 4000000 in
theorem turned_any {w0 w : World} {sv : Value} {ts : List Turn} (hE : NEnv w) (h : Tl w0 w sv ts) (l : List UInt8) (hl : l.length ≤ 2147483647) (r : Except Int (List UInt8)) (hr : turnedF ts l = some r) :
    Calls Tryz.prog 162 #[.string (str l), sv] w fun e w' => Out r e ∧ Below w.heap.size w w' := by
  have HEn := hidK hE
  clear hE
  have hfew := h.few
  obtain ⟨ad, cap, rfl, hat⟩ := h.at
  have HAt := hidK hat
  obtain ⟨n, hn⟩ : ∃ n, ts.length = n := ⟨_, rfl⟩
  have HN := hidK hn
  rw [hn] at hfew ⊢
  have HR := hidK hr
  clear hat hn hr h
  go_enter Tryz.func162, Tryz.ntmps162
  go_wp2_with fail
  go_loopw [0, 10] (fun s0 s10 wx => ∃ (k : Nat) (x : List UInt8), k ≤ n ∧ x.length ≤ 2147483647 ∧ s10 = .int .i64 (k : Int) ∧ s0 = .string (str x) ∧ Hid (turnedF (ts.drop k) x = some r) ∧ Hid (Below w.heap.size w wx)) (fun _ v _ => n - (intOf v).toNat)
  case atStart => exact ⟨0, l, Nat.zero_le _, hl, rfl, rfl, HR.out, Below.refl _ _⟩
  case round =>
    obtain ⟨k, x, hk, hx, rfl, rfl, HF, HB⟩ := hrel
    by_cases hkn : k < n
    · obtain ⟨t, ht⟩ : ∃ t, ts[k]? = some t := ⟨_, List.getElem?_eq_getElem (by rw [HN.out]; exact hkn)⟩
      obtain ⟨g, o, g2, lb, rfl, q0, eg, hcall⟩ := HAt.out k t ht
      have q0' := q0 wr HB.out
      have HC := hidK (hcall wr HB.out (HEn.out.below HB.out) x hx)
      have hdr : ts.drop k = t :: ts.drop (k + 1) := by
        obtain ⟨h1, h2⟩ := List.getElem?_eq_some_iff.1 ht
        rw [List.drop_eq_getElem_cons h1, h2]
      rw [hdr, turned_cons] at HF
      obtain ⟨y, hy⟩ : ∃ y, t.of x = y := ⟨_, rfl⟩
      rw [hy] at HF HC
      have hys : (str y).size = y.length := rfl
      unfold Enters at eg
      obtain ⟨zx, hzx⟩ : ∃ zx, str x = zx := ⟨_, rfl⟩
      obtain ⟨zy, hzy⟩ : ∃ zy, str y = zy := ⟨_, rfl⟩
      rw [hzx] at HC ⊢
      rw [hzy] at HC hys
      have HZy := hidK hzy
      clear ht q0 hcall hdr hy hzx hzy
      by_cases h1024 : 1024 < y.length
      · rw [if_pos h1024] at HF
        have hr2 : r = .error 2 := (Option.some.inj HF.out).symm
        have HR2 := hidK hr2
        have hz1 : (1024 : Int) < (zy.size : Int) := by omega
        clear HF hr2 h1024 HAt
        go_wp2_with (go_at_fn g2; refine HC.out.mono ?_; rintro e w2 ⟨rfl, hb2⟩; have HB2 := hidK (HB.out.trans (hb2.mono HB.out.size)); clear hb2)
        all_goals go_ret2
        all_goals exact ⟨by rw [HR2.out]; exact ⟨_, rfl, .fault 2⟩, by assumption⟩
      · rw [if_neg h1024] at HF
        have hz1 : ¬ (1024 : Int) < (zy.size : Int) := by omega
        go_wp2_with (go_at_fn g2; refine HC.out.mono ?_; rintro e w2 ⟨rfl, hb2⟩; have HB2 := hidK (HB.out.trans (hb2.mono HB.out.size)); clear hb2)
        go_roundw
        case rel => exact ⟨k + 1, y, by omega, by omega, by go_num, by rw [HZy.out], HF.out, by assumption⟩
        case measure => simp [intOf]; omega
    · obtain rfl : k = n := by omega
      have hr2 : r = .ok x := by
        have h := HF.out
        rw [List.drop_eq_nil_of_le (by rw [HN.out]; exact Nat.le_refl _)] at h
        exact (Option.some.inj h).symm
      have HR2 := hidK hr2
      clear HF hr2 HAt
      go_wp2_with fail
      all_goals go_ret2
      all_goals exact ⟨by rw [HR2.out]; rfl, HB.out⟩

end Go.Proofs.YtlfcjcaofhcfnaaGreatDoor

namespace Go.Proofs.YtlfcjcaofhcfnaaGreatDoor
open Go.RowKit
set_option linter.unusedVariables false
set_option maxRecDepth 100000

/-- The expander and what else is wanted. -/
structure XE (w : World) (xb : Nat) (vs : Vars) : Prop where
  all : XAll w xb vs
  env : NEnv w
  short : ∀ p ∈ vs, p.2.length ≤ 2147483647
theorem XE.max {w : World} {xb : Nat} {vs : Vars} (h : XE w xb vs) : ∃ m, w.cell? ⟨1, 0, none⟩ = some (.int .i64 m) := h.env.max
theorem XE.below {w w' : World} {xb : Nat} {vs : Vars} (h : XE w xb vs) (hb : Below w.heap.size w w') : XE w' xb vs := ⟨h.all.below hb, h.env.below hb, h.short⟩
theorem XE.val {w : World} {xb : Nat} {vs : Vars} (h : XE w xb vs) (name : List UInt8) : Calls Tryz.prog 69 #[.pointer (some ⟨xb, 0, none⟩), .string (str name)] w fun e w' => e = .returned (.string (str (valF vs name))) ∧ Below w.heap.size w w' := by
  obtain ⟨mh, mt, w0, h1, _⟩ := h.all.at_
  exact value_any name h1
theorem val_short {vs : Vars} (h : ∀ p ∈ vs, p.2.length ≤ 2147483647) (name : List UInt8) : (valF vs name).length ≤ 2147483647 := by
  unfold valF
  cases hf : vs.find? (fun v => decide (v.1 = name)) with
  | none => simp
  | some p => exact h p (List.mem_of_find?_eq_some hf)
/-- What a part says at a depth. -/
def SayOk (r : Nat) : Prop := ∀ (w : World) (xb : Nat) (vs : Vars), XE w xb vs → ∀ l : List UInt8, l.length ≤ 2147483647 → ∀ res, sayF vs r l = some res → Calls Tryz.prog 10 #[.pointer (some ⟨xb, 0, none⟩), .string (str l), .int .i64 ((16 : Int) - (r : Int))] w fun e w' => Out res e ∧ Below w.heap.size w w'

set_option maxHeartbeats 2000000 in
theorem operand_any {r : Nat} (hS : SayOk r) (hr : r ≤ 16) {w : World} {xb : Nat} {vs : Vars} (hX : XE w xb vs) (p : List UInt8) (hp : p.length ≤ 2147483647) (res : Except Int (List UInt8)) (h : operandF (sayF vs r) vs p = some res) :
    Calls Tryz.prog 100 #[.pointer (some ⟨xb, 0, none⟩), .string (str p), .int .i64 ((16 : Int) - (r : Int))] w fun e w' => Out res e ∧ Below w.heap.size w w' := by
  have HI := hidK (ident_any p hp w)
  obtain ⟨d, hd⟩ : ∃ d : Int, (16 : Int) - (r : Int) = d := ⟨_, rfl⟩
  unfold operandF at h
  cases hid : identF p with
  | true =>
    rw [if_pos hid] at h
    rw [hid] at HI
    have hres : res = .ok (valF vs p) := (Option.some.inj h).symm
    have HRs := hidK hres
    have HV := hidK (hX.val p)
    obtain ⟨z, hz⟩ : ∃ z, str p = z := ⟨_, rfl⟩
    rw [hz] at HI HV ⊢
    rw [hd]
    clear h hid hres hd hz hS hX
    go_enter Tryz.func100, Tryz.ntmps100
    go_wp2_with (first | (go_at_call 132; refine HI.out.mono ?_; rintro x w1 ⟨rfl, rfl⟩) | (go_at_call 69; refine HV.out.mono ?_; rintro x w1 ⟨rfl, hb1⟩))
    all_goals go_ret2
    all_goals exact ⟨by rw [HRs.out]; rfl, by assumption⟩
  | false =>
    rw [if_neg (by rw [hid]; decide)] at h
    rw [hid] at HI
    have HE := hidK (hS w xb vs hX p hp res h)
    obtain ⟨z, hz⟩ : ∃ z, str p = z := ⟨_, rfl⟩
    rw [hz] at HI HE ⊢
    rw [hd] at HE ⊢
    clear h hid hd hz hS hX
    cases res with
    | ok s =>
      go_enter Tryz.func100, Tryz.ntmps100
      go_wp2_with (first | (go_at_call 132; refine HI.out.mono ?_; rintro x w1 ⟨rfl, rfl⟩) | (go_at_call 10; refine HE.out.mono ?_; rintro x w1 ⟨ho, hb1⟩; (have ho' : x = .returned (.tuple #[.string (str s), .nilIface]) := ho); subst ho'; clear ho))
      all_goals go_ret2
      all_goals exact ⟨rfl, by assumption⟩
    | error k =>
      go_enter Tryz.func100, Tryz.ntmps100
      go_wp2_with (first | (go_at_call 132; refine HI.out.mono ?_; rintro x w1 ⟨rfl, rfl⟩) | (go_at_call 10; refine HE.out.mono ?_; rintro x w1 ⟨⟨v, rfl, hv⟩, hb1⟩))
      all_goals go_ret2
      all_goals exact ⟨⟨_, rfl, by assumption⟩, by assumption⟩

end Go.Proofs.YtlfcjcaofhcfnaaGreatDoor

namespace Go.Proofs.YtlfcjcaofhcfnaaGreatDoor
open Go.RowKit
set_option linter.unusedVariables false
set_option maxRecDepth 100000

theorem cut_short : ∀ (f : Nat) (l cur : List UInt8) (o : Int) (p : List UInt8), p ∈ cutG f l cur o → p.length ≤ cur.length + l.length
  | 0, l, cur, o, p, h => by simp [cutG] at h; subst h; omega
  | f + 1, [], cur, o, p, h => by simp [cutG] at h; subst h; simp
  | f + 1, c :: r, cur, o, p, h => by
    unfold cutG at h
    simp only [] at h
    split at h
    · rcases List.mem_cons.1 h with rfl | h
      · simp
      · have := cut_short f r [] 0 p h
        simp at this ⊢
        omega
    · have := cut_short f _ _ _ p h
      rw [List.length_append, List.length_take, List.length_drop] at this
      omega
theorem truth_any (l : List UInt8) (w : World) : Calls Tryz.prog 101 #[.string (str l)] w fun e w' => e = .returned (.bool (truthF l)) ∧ w = w' := by
  have ht := str_toList l
  obtain ⟨z, hz⟩ : ∃ z, str l = z := ⟨_, rfl⟩
  rw [hz] at ht ⊢
  by_cases h0 : l = []
  · subst h0
    have h1 : z.toList.isEmpty = true := by rw [ht]; rfl
    clear hz
    go_enter Tryz.func101, Tryz.ntmps101
    go_wp2
    all_goals go_ret
    all_goals exact ⟨rfl, rfl⟩
  · have h1 : ¬ z.toList = [] := by rw [ht]; exact h0
    have h2 : z.toList.isEmpty = false := by rw [ht]; cases l with | nil => exact absurd rfl h0 | cons _ _ => rfl
    by_cases h3 : l = [48]
    · subst h3
      have h4 : z.toList = [48] := ht
      clear hz ht
      go_enter Tryz.func101, Tryz.ntmps101
      go_wp2
      all_goals go_ret
      all_goals exact ⟨rfl, rfl⟩
    · have h4 : ¬ z.toList = [48] := by rw [ht]; exact h3
      have h5 : (z.toList == [48]) = false := by simpa using h4
      have e : truthF l = true := by unfold truthF; simp [h0, h3]
      rw [e]
      clear hz ht e
      go_enter Tryz.func101, Tryz.ntmps101
      go_wp2
      all_goals go_ret
      all_goals exact ⟨rfl, rfl⟩
/-- What a part says, behind what came before. -/
theorem Out.more {P : Nat} {args : Array Value} {w W : World} {r : Except Int (List UInt8)} (hb : Below w.heap.size w W) (h : Calls Tryz.prog P args W fun e w' => Out r e ∧ Below W.heap.size W w') : Calls Tryz.prog P args W fun e w' => Out r e ∧ Below w.heap.size w w' := h.mono fun e w' k => ⟨k.1, hb.trans (k.2.mono hb.size)⟩

set_option maxHeartbeats 4000000 in
theorem choice_any {r : Nat} (hS : SayOk r) (hr : r ≤ 16) {w : World} {xb : Nat} {vs : Vars} (hX : XE w xb vs) (p : List UInt8) (hp : p.length ≤ 2147483647) (res : Except Int (List UInt8)) (h : choiceF (sayF vs r) vs p = some res) :
    Calls Tryz.prog 136 #[.pointer (some ⟨xb, 0, none⟩), .string (str p), .int .i64 ((16 : Int) - (r : Int))] w fun e w' => Out res e ∧ Below w.heap.size w w' := by
  have HC := hidK (cut_any p hp w)
  have hsh : ∀ q ∈ cutF p, q.length ≤ 2147483647 := fun q hq => by
    have := cut_short _ _ _ _ q hq
    simp at this
    omega
  have HOp := hidK (fun W (hW : Below w.heap.size w W) (q : List UInt8) (hq : q.length ≤ 2147483647) res' h' => operand_any hS hr (hX.below hW) q hq res' h')
  have HEx := hidK (fun W (hW : Below w.heap.size w W) (q : List UInt8) (hq : q.length ≤ 2147483647) res' (h' : sayF vs r q = some res') => Out.more hW (hS W xb vs (hX.below hW) q hq res' h'))
  have HTr : Hid (∀ (l : List UInt8) (W : World), Calls Tryz.prog 101 #[.string (str l)] W fun e w' => e = .returned (.bool (truthF l)) ∧ W = w') := truth_any
  obtain ⟨d, hd⟩ : ∃ d : Int, (16 : Int) - (r : Int) = d := ⟨_, rfl⟩
  rw [hd] at HOp HEx ⊢
  obtain ⟨z, hz⟩ : ∃ z, str p = z := ⟨_, rfl⟩
  rw [hz] at HC ⊢
  unfold choiceF at h
  obtain ⟨ps, hps⟩ : ∃ ps, cutF p = ps := ⟨_, rfl⟩
  rw [hps] at HC hsh h
  have HSh := hidK hsh
  have HH := hidK h
  clear hd hz hps h hsh hS hX hp
  match ps, HC, HSh, HH with
  | [a, b], HC, HSh, HH =>
    go_enter Tryz.func136, Tryz.ntmps136
    go_wp2_with fail
    refine HC.out.mono ?_
    rintro x w1 ⟨v, rfl, ht⟩
    obtain ⟨ad, cap, rfl, hat⟩ := ht.at
    have HB1 := hidK ht.below
    obtain ⟨g, o, rfl, qa⟩ := hat w1 (Below.refl _ _) 0 a rfl
    have HAt : Hid (∀ W', Below w1.heap.size w1 W' → ∀ (i : Nat) (l : List UInt8), [a, b][i]? = some l → W'.cell? ⟨g, o + i, none⟩ = some (.string (str l))) := fun W' hW i l hl => by
      obtain ⟨g', o', e, h⟩ := hat W' hW i l hl
      cases e
      exact h
    have qa' : w1.cell? ⟨g, o, none⟩ = some (.string (str a)) := qa
    have ha := HSh.out a (by simp)
    have hb := HSh.out b (by simp)

    clear ht hat HC
    cases hoa : operandF (sayF vs r) vs a with
    | none =>
      have := HH.out
      rw [hoa] at this
      cases this
    | some ra =>
      have HO := hidK (HOp.out w1 HB1.out a ha ra hoa)
      rw [hoa] at HH
      clear hoa HOp
      go_wp2_with fail
      refine HO.out.mono ?_
      rintro x w2 ⟨ho, hb2⟩
      cases ra with
      | error k =>
        obtain ⟨v, rfl, hv⟩ := ho
        obtain ⟨t, y, rfl⟩ := hv.iface
        have HRs : Hid (res = .error k) := (Option.some.inj HH.out).symm
        have HV := hidK hv
        have HB2 := hidK (HB1.out.trans (hb2.mono HB1.out.size))
        clear hv hb2 HH
        go_wp2_with fail
        all_goals go_ret2
        all_goals exact ⟨by rw [HRs.out]; exact ⟨_, rfl, HV.out⟩, HB2.out⟩
      | ok sa =>
        have ho' : x = .returned (.tuple #[.string (str sa), .nilIface]) := ho
        subst ho'
        have HB2 := hidK (HB1.out.trans (hb2.mono HB1.out.size))
        have HT2 := hidK (HTr.out sa w2)
        have qb := HAt.out w2 hb2 1 b rfl
        skip
        have hh : (if truthF sa then sayF vs r b else some (.ok [])) = some res := HH.out
        obtain ⟨zs, hzs⟩ : ∃ zs, str sa = zs := ⟨_, rfl⟩
        rw [hzs] at HT2 ⊢
        clear ho hb2 HH hzs HAt HTr
        cases htr : truthF sa with
        | true =>
          rw [htr] at HT2 hh
          have HE2 := hidK (HEx.out w2 HB2.out b hb res hh)
          clear hh htr HEx
          go_wp2_with (first | (go_at_call 101; refine HT2.out.mono ?_; rintro x w3 ⟨rfl, rfl⟩))
          refine HE2.out.mono ?_
          rintro x w3 ⟨ho3, hb3⟩
          cases res with
          | ok s3 =>
            have ho' : x = .returned (.tuple #[.string (str s3), .nilIface]) := ho3
            subst ho'
            clear ho3
            go_wp2_with fail
            all_goals go_ret2
            all_goals exact ⟨rfl, hb3⟩
          | error k3 =>
            obtain ⟨v3, rfl, hv3⟩ := ho3
            go_wp2_with fail
            all_goals go_ret2
            all_goals exact ⟨⟨_, rfl, hv3⟩, hb3⟩
        | false =>
          rw [htr] at HT2 hh
          have HRs : Hid (res = .ok []) := (Option.some.inj hh).symm
          clear hh htr HEx
          go_wp2_with (first | (go_at_call 101; refine HT2.out.mono ?_; rintro x w3 ⟨rfl, rfl⟩))
          all_goals go_ret2
          all_goals exact ⟨by rw [HRs.out]; rfl, HB2.out⟩
  | [a, b, c], HC, HSh, HH =>
    go_enter Tryz.func136, Tryz.ntmps136
    go_wp2_with fail
    refine HC.out.mono ?_
    rintro x w1 ⟨v, rfl, ht⟩
    obtain ⟨ad, cap, rfl, hat⟩ := ht.at
    have HB1 := hidK ht.below
    obtain ⟨g, o, rfl, qa⟩ := hat w1 (Below.refl _ _) 0 a rfl
    have HAt : Hid (∀ W', Below w1.heap.size w1 W' → ∀ (i : Nat) (l : List UInt8), [a, b, c][i]? = some l → W'.cell? ⟨g, o + i, none⟩ = some (.string (str l))) := fun W' hW i l hl => by
      obtain ⟨g', o', e, h⟩ := hat W' hW i l hl
      cases e
      exact h
    have qa' : w1.cell? ⟨g, o, none⟩ = some (.string (str a)) := qa
    have ha := HSh.out a (by simp)
    have hb := HSh.out b (by simp)
    have hc := HSh.out c (by simp)
    clear ht hat HC
    cases hoa : operandF (sayF vs r) vs a with
    | none =>
      have := HH.out
      rw [hoa] at this
      cases this
    | some ra =>
      have HO := hidK (HOp.out w1 HB1.out a ha ra hoa)
      rw [hoa] at HH
      clear hoa HOp
      go_wp2_with fail
      refine HO.out.mono ?_
      rintro x w2 ⟨ho, hb2⟩
      cases ra with
      | error k =>
        obtain ⟨v, rfl, hv⟩ := ho
        obtain ⟨t, y, rfl⟩ := hv.iface
        have HRs : Hid (res = .error k) := (Option.some.inj HH.out).symm
        have HV := hidK hv
        have HB2 := hidK (HB1.out.trans (hb2.mono HB1.out.size))
        clear hv hb2 HH
        go_wp2_with fail
        all_goals go_ret2
        all_goals exact ⟨by rw [HRs.out]; exact ⟨_, rfl, HV.out⟩, HB2.out⟩
      | ok sa =>
        have ho' : x = .returned (.tuple #[.string (str sa), .nilIface]) := ho
        subst ho'
        have HB2 := hidK (HB1.out.trans (hb2.mono HB1.out.size))
        have HT2 := hidK (HTr.out sa w2)
        have qb := HAt.out w2 hb2 1 b rfl
        have qc := HAt.out w2 hb2 2 c rfl
        have hh : (if truthF sa then sayF vs r b else sayF vs r c) = some res := HH.out
        obtain ⟨zs, hzs⟩ : ∃ zs, str sa = zs := ⟨_, rfl⟩
        rw [hzs] at HT2 ⊢
        clear ho hb2 HH hzs HAt HTr
        cases htr : truthF sa with
        | true =>
          rw [htr] at HT2 hh
          have HE2 := hidK (HEx.out w2 HB2.out b hb res hh)
          clear hh htr HEx
          go_wp2_with (first | (go_at_call 101; refine HT2.out.mono ?_; rintro x w3 ⟨rfl, rfl⟩))
          refine HE2.out.mono ?_
          rintro x w3 ⟨ho3, hb3⟩
          cases res with
          | ok s3 =>
            have ho' : x = .returned (.tuple #[.string (str s3), .nilIface]) := ho3
            subst ho'
            clear ho3
            go_wp2_with fail
            all_goals go_ret2
            all_goals exact ⟨rfl, hb3⟩
          | error k3 =>
            obtain ⟨v3, rfl, hv3⟩ := ho3
            go_wp2_with fail
            all_goals go_ret2
            all_goals exact ⟨⟨_, rfl, hv3⟩, hb3⟩
        | false =>
          rw [htr] at HT2 hh
          have HE2 := hidK (HEx.out w2 HB2.out c hc res hh)
          clear hh htr HEx
          go_wp2_with (first | (go_at_call 101; refine HT2.out.mono ?_; rintro x w3 ⟨rfl, rfl⟩))
          refine HE2.out.mono ?_
          rintro x w3 ⟨ho3, hb3⟩
          cases res with
          | ok s3 =>
            have ho' : x = .returned (.tuple #[.string (str s3), .nilIface]) := ho3
            subst ho'
            clear ho3
            go_wp2_with fail
            all_goals go_ret2
            all_goals exact ⟨rfl, hb3⟩
          | error k3 =>
            obtain ⟨v3, rfl, hv3⟩ := ho3
            go_wp2_with fail
            all_goals go_ret2
            all_goals exact ⟨⟨_, rfl, hv3⟩, hb3⟩
  | [], HC, HSh, HH =>
    have HRs : Hid (res = .error 100) := (Option.some.inj HH.out).symm
    go_enter Tryz.func136, Tryz.ntmps136
    go_wp2_with fail
    refine HC.out.mono ?_
    rintro x w1 ⟨v, rfl, ht⟩
    obtain ⟨ad, cap, rfl, -⟩ := ht.at
    have HB1 := hidK ht.below
    clear ht HH HOp HEx HTr HSh
    go_wp2_with fail
    all_goals go_ret2
    all_goals exact ⟨by rw [HRs.out]; exact ⟨_, rfl, .fault 100⟩, HB1.out⟩
  | [a], HC, HSh, HH =>
    have HRs : Hid (res = .error 100) := (Option.some.inj HH.out).symm
    go_enter Tryz.func136, Tryz.ntmps136
    go_wp2_with fail
    refine HC.out.mono ?_
    rintro x w1 ⟨v, rfl, ht⟩
    obtain ⟨ad, cap, rfl, -⟩ := ht.at
    have HB1 := hidK ht.below
    clear ht HH HOp HEx HTr HSh
    go_wp2_with fail
    all_goals go_ret2
    all_goals exact ⟨by rw [HRs.out]; exact ⟨_, rfl, .fault 100⟩, HB1.out⟩
  | a :: b :: c :: e :: f, HC, HSh, HH =>
    have HRs : Hid (res = .error 100) := (Option.some.inj HH.out).symm
    go_enter Tryz.func136, Tryz.ntmps136
    go_wp2_with fail
    refine HC.out.mono ?_
    rintro x w1 ⟨v, rfl, ht⟩
    obtain ⟨ad, cap, rfl, -⟩ := ht.at
    have HB1 := hidK ht.below
    clear ht HH HOp HEx HTr HSh
    obtain ⟨n, hn⟩ : ∃ n, (a :: b :: c :: e :: f).length = n := ⟨_, rfl⟩
    have hn4 : 4 ≤ n := by simp at hn; omega
    have hn2 : ¬ (n : Int) = 2 := by omega
    have hn3 : ¬ (n : Int) = 3 := by omega
    have hb2 : ((n : Int) == 2) = false := by simpa using hn2
    have hb3 : ((n : Int) == 3) = false := by simpa using hn3
    have hc2 : ((n : Int) != 2) = true := by simpa using hn2
    have hc3 : ((n : Int) != 3) = true := by simpa using hn3
    clear hn4
    rw [hn]
    clear hn
    go_wp2_with fail
    all_goals go_ret2
    all_goals exact ⟨by rw [HRs.out]; exact ⟨_, rfl, .fault 100⟩, HB1.out⟩

end Go.Proofs.YtlfcjcaofhcfnaaGreatDoor
