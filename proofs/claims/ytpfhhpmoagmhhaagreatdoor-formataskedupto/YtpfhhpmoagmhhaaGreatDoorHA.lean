/-
  Formats: what a text says hangs on the variables that it asks for alone.
  Formats: lists of variables of one's own; a copy of one.
  FormatAsked: the walk.
-/
import Derived.Test.YtpfhhpmoagmhhaaGreatDoorGA
import Derived.Test.YtpfhhpmoagmhhaaGreatDoorGD
import Derived.Test.YtpfhhpmoagmhhaaGreatDoorGV
namespace Go.Proofs.YtpfhhpmoagmhhaaGreatDoor
set_option linter.unusedVariables false

def shortNames : List (List UInt8) := [[115, 101, 115, 115, 105, 111, 110, 95, 110, 97, 109, 101], [119, 105, 110, 100, 111, 119, 95, 110, 97, 109, 101], [119, 105, 110, 100, 111, 119, 95, 105, 110, 100, 101, 120], [112, 97, 110, 101, 95, 105, 110, 100, 101, 120], [112, 97, 110, 101, 95, 105, 100], [119, 105, 110, 100, 111, 119, 95, 102, 108, 97, 103, 115]]
theorem short_in {d : UInt8} (h : shortF d ≠ []) : shortF d ∈ shortNames := by
  unfold shortF at h ⊢
  repeat (split; · decide)
  rename_i h1 h2 h3 h4 h5 h6
  rw [if_neg h1, if_neg h2, if_neg h3, if_neg h4, if_neg h5, if_neg h6] at h
  exact absurd rfl h
/-- The same values of all names that a text may ask for. -/
def Agree (vs vs' : Vars) (l : List UInt8) : Prop := ∀ name, (name <:+: l ∨ name ∈ shortNames) → valF vs name = valF vs' name
theorem Agree.sub {vs vs' : Vars} {l m : List UInt8} (h : Agree vs vs' l) (hm : m <:+: l) : Agree vs vs' m := fun name hn => h name (hn.imp (fun k => k.trans hm) id)
theorem take_infix (l : List UInt8) (k : Nat) : l.take k <:+: l := (List.take_prefix k l).isInfix
theorem drop_infix (l : List UInt8) (k : Nat) : l.drop k <:+: l := (List.drop_suffix k l).isInfix
theorem cutG_infix : ∀ (f : Nat) (l cur : List UInt8) (o : Int) (p : List UInt8), p ∈ cutG f l cur o → p <:+: cur ++ l
  | 0, l, cur, o, p, h => by
    rw [List.mem_singleton.1 h]
    exact (List.prefix_append cur l).isInfix
  | f + 1, [], cur, o, p, h => by
    rw [List.mem_singleton.1 h]
    exact (List.prefix_append cur []).isInfix
  | f + 1, c :: r, cur, o, p, h => by
    simp only [cutG] at h
    split at h
    · rcases List.mem_cons.1 h with rfl | h
      · exact (List.prefix_append _ _).isInfix
      · have h1 := cutG_infix f r [] 0 p h
        rw [List.nil_append] at h1
        refine h1.trans ?_
        have : cur ++ c :: r = (cur ++ [c]) ++ r := by simp
        rw [this]
        exact (List.suffix_append _ _).isInfix
    · have h1 := cutG_infix f _ _ _ p h
      rwa [List.append_assoc, List.take_append_drop] at h1
theorem cut_infix {l p : List UInt8} (h : p ∈ cutF l) : p <:+: l := cutG_infix _ l [] 0 p h

section
variable {vs vs' : Vars} {sub sub' : List UInt8 → Res}
def Same (sub sub' : List UInt8 → Res) (l : List UInt8) : Prop := ∀ p, p <:+: l → sub p = sub' p
theorem Same.down {l m : List UInt8} (h : Same sub sub' l) (hm : m <:+: l) : Same sub sub' m := fun p hp => h p (hp.trans hm)
theorem operand_same {l : List UInt8} (hs : Same sub sub' l) (ha : Agree vs vs' l) : Same (operandF sub vs) (operandF sub' vs') l := fun p hp => by
  unfold operandF
  rw [ha p (.inl hp), hs p hp]
theorem both_same {l : List UInt8} (hs : Same sub sub' l) : bothF sub l = bothF sub' l := by
  unfold bothF
  have h : ∀ p ∈ cutF l, sub p = sub' p := fun p hp => hs p (cut_infix hp)
  match cutF l, h with
  | [], _ => rfl
  | [a], _ => rfl
  | [a, b], h =>
    simp only [twoF]
    rw [h a (by simp), h b (by simp)]
  | a :: b :: c :: r, _ => rfl
theorem run_same {l : List UInt8} (hd : Hd) (hs : Same sub sub' l) (ha : Agree vs vs' l) : hd.run sub vs l = hd.run sub' vs' l := by
  have h1 := both_same hs
  have h2 := both_same (operand_same hs ha)
  have h3 := operand_same hs ha l (List.infix_refl l)
  cases hd <;> simp only [Hd.run, h1, h2, h3]
theorem place_same {l : List UInt8} (hs : Same sub sub' l) (ha : Agree vs vs' l) : placeF sub vs l = placeF sub' vs' l := by
  have ho := operand_same hs ha
  unfold placeF
  split
  · rename_i rest
    have hr : rest <:+: 63 :: rest := (List.suffix_cons 63 rest).isInfix
    unfold choiceF
    have h : ∀ p ∈ cutF rest, sub p = sub' p ∧ operandF sub vs p = operandF sub' vs' p := fun p hp => ⟨hs p ((cut_infix hp).trans hr), ho p ((cut_infix hp).trans hr)⟩
    match cutF rest, h with
    | [], _ => rfl
    | [a], _ => rfl
    | [a, b], h => simp only; rw [(h a (by simp)).2, (h b (by simp)).1]
    | [a, b, c], h => simp only; rw [(h a (by simp)).2, (h b (by simp)).1, (h c (by simp)).1]
    | a :: b :: c :: d :: r, _ => rfl
  · split
    · rename_i k _
      have hd := drop_infix l (k + 1)
      unfold headedF
      split
      · exact run_same _ (hs.down hd) (ha.sub hd)
      · rw [ho _ hd]
    · rw [ha l (.inl (List.infix_refl l))]
theorem loop_same : ∀ (f : Nat) (l said : List UInt8), Same sub sub' l → Agree vs vs' l → loopF sub vs f l said = loopF sub' vs' f l said
  | 0, l, said, hs, ha => rfl
  | f + 1, l, said, hs, ha => by
    have he : saidF sub vs l = saidF sub' vs' l := by
      unfold saidF
      split
      · rfl
      · rfl
      · rename_i s hx
        rw [ha s (.inr ?_)]
        unfold nextF at hx
        split at hx
        · cases hx
        · split at hx
          · cases hx
          · cases hx
          · split at hx
            · cases hx
            · split at hx
              · cases hx
              · split at hx
                · cases hx
                  rename_i h
                  exact short_in h
                · cases hx
      · split
        · rfl
        · rename_i k _
          rw [hs ((restF l).take k) ((take_infix _ _).trans (drop_infix _ _))]
    unfold loopF
    rw [he]
    split
    · rfl
    · split
      · rfl
      · rfl
      · split
        · rfl
        · exact loop_same f _ _ (hs.down (drop_infix _ _)) (ha.sub (drop_infix _ _))
end
theorem say_same {vs vs' : Vars} : ∀ (r : Nat) (l : List UInt8), Agree vs vs' l → sayF vs r l = sayF vs' r l
  | 0, l, ha => loop_same _ _ _ (fun _ _ => rfl) ha
  | r + 1, l, ha => loop_same _ _ _ (fun p hp => place_same (fun q hq => say_same r q (ha.sub (hq.trans hp))) (ha.sub hp)) ha

/-- Names that stand in a text. -/
def askF (f name : List UInt8) : Prop := name <:+: f ∨ name ∈ shortNames
theorem infix_at {f name : List UInt8} : name <:+: f ↔ ∃ i, i + name.length ≤ f.length ∧ (f.drop i).take name.length = name := by
  constructor
  · rintro ⟨a, b, h⟩
    refine ⟨a.length, ?_, ?_⟩
    · have := congrArg List.length h
      simp only [List.length_append] at this
      omega
    · rw [← h, List.append_assoc, List.drop_append_of_le_length (Nat.le_refl _), List.drop_length, List.nil_append, List.take_append_of_le_length (Nat.le_refl _), List.take_length]
  · rintro ⟨i, _, h⟩
    rw [← h]
    exact (take_infix _ _).trans (drop_infix _ _)
theorem val_more {l vs : Vars} {f : List UInt8} (hl : ∀ p ∈ l, ¬ askF f p.1) : Agree vs (l ++ vs ++ l) f := fun name hn => by
  have hno : ∀ p ∈ l, ¬ p.1 = name := fun p hp e => hl p hp (by rw [e]; exact hn)
  have hf : l.find? (fun v => decide (v.1 = name)) = none := List.find?_eq_none.2 fun p hp => by rw [decide_eq_true_eq]; exact hno p hp
  unfold valF
  rw [List.find?_append, List.find?_append, hf, Option.none_or, Option.or_none]

end Go.Proofs.YtpfhhpmoagmhhaaGreatDoor

namespace Go.Proofs.YtpfhhpmoagmhhaaGreatDoor
open Go.RowKit
set_option linter.unusedVariables false
set_option maxRecDepth 100000

def varsV (vs : Vars) : List Value := vs.flatMap fun p => [.string (str p.1), .string (str p.2)]
theorem varsV_len (vs : Vars) : (varsV vs).length = vs.length * 2 := by
  induction vs with
  | nil => rfl
  | cons p vs ih =>
    have e : varsV (p :: vs) = [.string (str p.1), .string (str p.2)] ++ varsV vs := rfl
    rw [e, List.length_append, ih]
    simp
    omega
theorem varsV_app (a b : Vars) : varsV (a ++ b) = varsV a ++ varsV b := List.flatMap_append
theorem varsV_one (vs : Vars) : ∀ u ∈ varsV vs, u.oneCell' = true := fun u hu => by
  obtain ⟨p, _, h⟩ := List.mem_flatMap.1 hu
  simp at h
  rcases h with rfl | rfl <;> rfl
theorem varsV_at : ∀ {vs : Vars} {i : Nat} {p : List UInt8 × List UInt8}, vs[i]? = some p → (varsV vs)[i * 2]? = some (.string (str p.1)) ∧ (varsV vs)[i * 2 + 1]? = some (.string (str p.2))
  | [], i, p, h => by simp at h
  | q :: vs, 0, p, h => by
    simp at h
    subst h
    exact ⟨rfl, rfl⟩
  | q :: vs, i + 1, p, h => by
    simp only [List.getElem?_cons_succ] at h
    have e : varsV (q :: vs) = .string (str q.1) :: .string (str q.2) :: varsV vs := rfl
    have h2 := varsV_at h
    rw [e, show (i + 1) * 2 = i * 2 + 1 + 1 by omega]
    simp only [List.getElem?_cons_succ]
    exact h2
theorem varsV_of : ∀ {vs : Vars} {j : Nat} {u : Value}, (varsV vs)[j]? = some u → ∃ p, vs[j / 2]? = some p ∧ u = if j % 2 = 0 then .string (str p.1) else .string (str p.2)
  | [], j, u, h => by simp [varsV] at h
  | q :: vs, 0, u, h => ⟨q, rfl, by
      have e : varsV (q :: vs) = .string (str q.1) :: .string (str q.2) :: varsV vs := rfl
      rw [e] at h
      simpa using h.symm⟩
  | q :: vs, 1, u, h => ⟨q, rfl, by
      have e : varsV (q :: vs) = .string (str q.1) :: .string (str q.2) :: varsV vs := rfl
      rw [e] at h
      simpa using h.symm⟩
  | q :: vs, j + 2, u, h => by
    have e : varsV (q :: vs) = .string (str q.1) :: .string (str q.2) :: varsV vs := rfl
    rw [e] at h
    simp only [List.getElem?_cons_succ] at h
    obtain ⟨p, h1, h2⟩ := varsV_of h
    refine ⟨p, ?_, ?_⟩
    · rw [show (j + 2) / 2 = j / 2 + 1 by omega]
      simpa using h1
    · rw [show (j + 2) % 2 = j % 2 by omega]
      exact h2
theorem infoVar : (Tryz.prog.info? 28).map (fun i => (i.zero, i.size, i.bytes)) = some (some (.agg #[.string ⟨#[]⟩, .string ⟨#[]⟩]), 2, 32) := by kernel_rfl
theorem underVarL : Tryz.prog.underlying 29 = some (.slice 28) := by kernel_rfl
/-- A list of variables of one's own. -/
abbrev Vl (w W : World) (sv : Value) (vs : Vars) : Prop := Mine w W 28 2 sv vs.length (varsV vs)
theorem vl_in {w W : World} {sv : Value} {vs : Vars} (h : Vl w W sv vs) (hl : vs.length ≤ 8796093022208) : VarsIn W sv vs := by
  obtain ⟨ad, cap, e, k1, k2, k3, k4⟩ := h.row.shape
  refine ⟨ad, cap, e, hl, fun i p hp => ?_⟩
  cases ad with
  | none =>
    have := (k3 rfl).1
    have h2 := (List.getElem?_eq_some_iff.1 hp).1
    omega
  | some a =>
    obtain ⟨g, o, rfl, _, k6, k7⟩ := k4 a rfl
    obtain ⟨h1, h2⟩ := varsV_at hp
    exact ⟨g, o, rfl, k6, (k7 W rfl).1 _ _ h1, (k7 W rfl).1 _ _ h2⟩
theorem vl_src {W : World} {sv : Value} {vs : Vars} (h : VarsIn W sv vs) : Src Tryz.prog 2 29 sv vs.length (varsV vs) W := by
  obtain ⟨ad, cap, rfl, _, h2⟩ := h
  cases ad with
  | none =>
    cases vs with
    | nil => exact Src.ofNil W underVarL cap
    | cons p vs =>
      obtain ⟨g, o, e, _⟩ := h2 0 p rfl
      cases e
  | some a =>
    refine Src.ofSlice W underVarL a _ cap _ (varsV_len vs) (fun j u hu => ?_) (varsV_one vs)
    obtain ⟨p, h3, h4⟩ := varsV_of hu
    obtain ⟨g, o, e, _, k1, k2⟩ := h2 _ p h3
    cases e
    have e2 : (⟨g, o, none⟩ : Addr).add j = ⟨g, o + j, none⟩ := by unfold Addr.add; split <;> simp_all
    rw [e2, h4]
    split
    · rw [show o + j = o + j / 2 * 2 by omega]
      exact k1
    · rw [show o + j = o + j / 2 * 2 + 1 by omega]
      exact k2
set_option maxHeartbeats 1000000 in
theorem twin_any {w : World} {sv : Value} {vs : Vars} (hv : VarsIn w sv vs) (hl : vs.length ≤ 1073741824) : Calls Tryz.prog 12 #[sv] w fun e w' => ∃ v', e = .returned v' ∧ Vl w w' v' vs := by
  have HS := hidK (vl_src hv)
  have HM := hidK (Mine.nil (T := 28) (k := 2) (Below.refl w.heap.size w))
  obtain ⟨ad, cap, rfl, -, -⟩ := hv
  go_enter Tryz.func12, Tryz.ntmps12
  go_wp2_with (refine wpList_append_row w rfl _ _ 29 29 rfl underVarL infoVar rfl (v := .slice none 0 0) (by simp [Act.eval]) (u := .slice ad vs.length cap) (by simp [Act.eval]) HM.out.row HS.out ?x1 ?x2 ?x3)
  case x1 => omega
  case x2 => unfold maxLen; omega
  case x3 =>
    intro v7 w7 hr7 hg7
    have HT7 : Hid (Vl w w7 v7 vs) := (HM.out.grown (Below.refl _ _) hr7.out hg7.out).cast (by omega) (List.nil_append _)
    clear hr7 hg7
    go_wp2_with fail
    all_goals go_ret
    all_goals exact ⟨_, rfl, HT7.out⟩

end Go.Proofs.YtpfhhpmoagmhhaaGreatDoor

namespace Go.Proofs.YtpfhhpmoagmhhaaGreatDoor
open Go.RowKit
set_option linter.unusedVariables false
set_option maxRecDepth 100000

def AsksE (f name : List UInt8) (w : World) (e : Ending) (w' : World) : Prop := ∃ b, e = .returned (.bool b) ∧ w = w' ∧ (b = false → ¬ askF f name)
set_option maxHeartbeats 4000000 in
theorem asks_any (f name : List UInt8) (hf : f.length ≤ 2147483647) (hm : name.length ≤ 2147483647) (w : World) : Calls Tryz.prog 11 #[.string (str f), .string (str name)] w fun e w' => AsksE f name w e w' := by
  have hs : (str f).size = f.length := rfl
  have hns : (str name).size = name.length := rfl
  have hnl : (str name).toList = name := str_toList name
  have HEx : Hid (∀ i, (str f).extract i (i + name.length) = str ((f.drop i).take name.length)) := fun i => by
    have h := str_midF f i (i + name.length)
    rwa [show i + name.length - i = name.length by omega] at h
  obtain ⟨z, hz⟩ : ∃ z, str f = z := ⟨_, rfl⟩
  obtain ⟨y, hy⟩ : ∃ z, str name = z := ⟨_, rfl⟩
  rw [hz] at hs HEx ⊢
  rw [hy] at hns hnl ⊢
  obtain ⟨n, hn⟩ : ∃ n, f.length = n := ⟨_, rfl⟩
  obtain ⟨m, hmm⟩ : ∃ n, name.length = n := ⟨_, rfl⟩
  have HN := hidK hn
  have HM := hidK hmm
  rw [hn] at hs hf
  rw [hmm] at hns hm HEx
  clear hz hy hn hmm
  go_enter Tryz.func11, Tryz.ntmps11
  go_wp2_with fail
  go_loopw [5] (fun s5 wx => ∃ (i : Nat), i ≤ n + 1 ∧ s5 = .int .i64 (i : Int) ∧ Hid (∀ j, j < i → (f.drop j).take m ≠ name) ∧ wx = w) (fun v _ => n + 1 - (intOf v).toNat)
  case atStart => exact ⟨0, Nat.zero_le _, rfl, fun j hj => absurd hj (Nat.not_lt_zero _), rfl⟩
  case round =>
    obtain ⟨i, hi, rfl, HJ, rfl⟩ := hrel
    by_cases hin : i + m ≤ n
    · have hx := HEx.out i
      have ht : (str ((f.drop i).take m)).toList = (f.drop i).take m := str_toList _
      obtain ⟨u, hu⟩ : ∃ u, str ((f.drop i).take m) = u := ⟨_, rfl⟩
      rw [hu] at hx ht
      clear hu
      have hin2 : (i : Int) + (m : Int) ≤ (n : Int) := by omega
      by_cases he : (f.drop i).take m = name
      · have ht2 : u.toList = y.toList := by rw [ht, hnl, he]
        clear HJ HEx ht he hnl
        go_wp2_with fail
        all_goals go_ret
        all_goals exact ⟨true, rfl, rfl, fun h => by cases h⟩
      · have ht2 : ¬ u.toList = y.toList := by rw [ht, hnl]; exact he
        have HJ2 : Hid (∀ j, j < i + 1 → (f.drop j).take m ≠ name) := fun j hj => by
          rcases Nat.lt_or_ge j i with h | h
          · exact HJ.out j h
          · obtain rfl : j = i := by omega
            exact he
        clear HJ ht he hnl
        go_wp2_with fail
        case roundEnd => exact ⟨⟨i + 1, by omega, by go_num, HJ2.out, by first | rfl | trivial⟩, by simp [intOf]; omega⟩
        all_goals go_ret
        all_goals exact ⟨true, rfl, rfl, fun h => by cases h⟩
    · have hin2 : ¬ (i : Int) + (m : Int) ≤ (n : Int) := by omega
      have HNo : Hid (¬ name <:+: f) := by
        intro h
        obtain ⟨j, h1, h2⟩ := infix_at.1 h
        rw [HN.out, HM.out] at h1
        rw [HM.out] at h2
        exact HJ.out j (by omega) h2
      clear HJ HEx
      by_cases hsn : name ∈ shortNames
      · simp only [shortNames, List.mem_cons, List.not_mem_nil, or_false] at hsn
        rcases hsn with h | h | h | h | h | h
        all_goals (
          rw [h] at hnl
          clear HN HM HNo h
          go_wp2_with fail
          all_goals go_ret
          all_goals exact ⟨true, rfl, rfl, fun h => by cases h⟩)
      · have HNs := hidK hsn
        simp only [shortNames, List.mem_cons, List.not_mem_nil, or_false, not_or] at hsn
        obtain ⟨n1, n2, n3, n4, n5, n6⟩ := hsn
        rw [← hnl] at n1 n2 n3 n4 n5 n6
        clear HN HM hnl
        go_wp2_with fail
        all_goals go_ret
        all_goals first | exact ⟨true, rfl, rfl, fun h => by cases h⟩ | exact ⟨false, rfl, rfl, fun _ h => h.elim HNo.out HNs.out⟩

structure AskI (f : List UInt8) (more : Vars) (k : Nat) (l : Vars) : Prop where
  not : ∀ p ∈ l, ¬ askF f p.1
  sub : ∀ p ∈ l, p ∈ more
  few : l.length ≤ k
theorem AskI.zero (f : List UInt8) (more : Vars) : AskI f more 0 [] := ⟨fun p hp => (by cases hp), fun p hp => (by cases hp), Nat.le_refl _⟩
theorem AskI.skip {f : List UInt8} {more : Vars} {k : Nat} {l : Vars} (h : AskI f more k l) : AskI f more (k + 1) l := ⟨h.not, h.sub, Nat.le_succ_of_le h.few⟩
theorem AskI.add {f : List UInt8} {more : Vars} {k : Nat} {l : Vars} {p : List UInt8 × List UInt8} (h : AskI f more k l) (hp : ¬ askF f p.1) (hm : more[k]? = some p) : AskI f more (k + 1) (l ++ [p]) :=
  ⟨fun q hq => by
    rcases List.mem_append.1 hq with h1 | h1
    · exact h.not q h1
    · rw [List.mem_singleton.1 h1]; exact hp,
   fun q hq => by
    rcases List.mem_append.1 hq with h1 | h1
    · exact h.sub q h1
    · rw [List.mem_singleton.1 h1]; exact List.mem_of_getElem? hm,
   by rw [List.length_append]; have := h.few; simp; omega⟩
set_option maxHeartbeats 8000000 in
theorem formatAsked_walk (f : List UInt8) (sv sm : Value) (vs more : Vars) (w : World) (hE : FEnv w) (hv : VarsIn w sv vs) (hvs : ∀ p ∈ vs, p.1.length + p.2.length ≤ 1048576) (hvl : vs.length ≤ 1048576) (hm : VarsIn w sm more) (hms : ∀ p ∈ more, p.1.length + p.2.length ≤ 1048576) (hml : more.length ≤ 1048576) (hf : f.length ≤ 1048576) :
    Calls Tryz.prog 5 #[.string (str f), sv, sm] w fun e w' => e = .returned (.bool true) ∧ Below w.heap.size w w' := by
  have HW : Hid (∀ W, Below w.heap.size w W → Calls Tryz.prog 7 #[] W fun e w' => e = .returned (.bool true) ∧ Below W.heap.size W w') := fun W h => works_all (hE.below h)
  have HX : Hid (∀ W, Below w.heap.size w W → ∀ su us, VarsIn W su us → (∀ p ∈ us, p.2.length ≤ 2147483647) → Calls Tryz.prog 8 #[.string (str f), su] W fun e w' => e = ansF (saysF us f) ∧ Below W.heap.size W w') := fun W hb su us hu hs => expand_all (hE.below hb) hu hs f (by omega)
  have HAs := hidK fun (name : List UInt8) (hn : name.length ≤ 2147483647) W => asks_any f name (by omega) hn W
  have HV := hidK hv
  have HMo := hidK hm
  have HVs := hidK hvs
  have HMs := hidK hms
  obtain ⟨adm, capm, rfl, hm1, hm2⟩ := hm
  have HCe := hidK fun W (hW : Below w.heap.size w W) (i : Nat) (p : List UInt8 × List UInt8) (hp : more[i]? = some p) => HMo.out.below hW
  obtain ⟨n, hn⟩ : ∃ n, more.length = n := ⟨_, rfl⟩
  have HN := hidK hn
  rw [hn] at hml ⊢
  obtain ⟨z, hz⟩ : ∃ z, str f = z := ⟨_, rfl⟩
  rw [hz] at HX HAs ⊢
  obtain ⟨adv, capv, rfl, -, -⟩ := hv
  clear hz hn hE hvs hms hm1 hm2
  go_enter Tryz.func5, Tryz.ntmps5
  go_wp2_with fail
  go_loopw [7, 8] (fun s7 s8 wx => ∃ (k : Nat) (l : Vars), k ≤ n ∧ s8 = .int .i64 (k : Int) ∧ Hid (Vl w wx s7 l) ∧ Hid (AskI f more k l)) (fun _ v _ => n - (intOf v).toNat)
  case atStart => exact ⟨0, [], Nat.zero_le _, rfl, Mine.nil (Below.refl _ _), AskI.zero f more⟩
  case round =>
    obtain ⟨k, l, hk, rfl, HL, HI⟩ := hrel
    obtain ⟨sp, hsp⟩ : ∃ sp, u7 = sp := ⟨_, rfl⟩
    rw [hsp] at HL ⊢
    clear hsp
    by_cases hkn : k < n
    · obtain ⟨⟨nm, vl⟩, hp⟩ : ∃ p, more[k]? = some p := ⟨_, List.getElem?_eq_getElem (by rw [HN.out]; exact hkn)⟩
      have hMr := HMo.out.below HL.out.below
      obtain ⟨ad', cap', e, _, h2⟩ := hMr
      cases e
      obtain ⟨g, o, rfl, _, q0, q1⟩ := h2 k _ hp
      simp only at q0 q1
      have hnl := HMs.out _ (List.mem_of_getElem? hp)
      simp only at hnl
      have HA := hidK (HAs.out nm (by omega))
      have HP := hidK hp
      clear hp h2
      by_cases hne : nm = []
      · subst hne
        have hy0 : (str []).toList = [] := str_toList []
        go_wp2_with fail
        exact ⟨⟨k + 1, l, by omega, by go_num, HL.out, HI.out.skip⟩, by simp [intOf]; omega⟩
      · have hy0 : ¬ (str nm).toList = [] := by rw [str_toList]; exact hne
        have hy1 : (str nm).toList.isEmpty = false := by rw [str_toList]; cases nm with | nil => exact absurd rfl hne | cons _ _ => rfl
        obtain ⟨y, hy⟩ : ∃ y, str nm = y := ⟨_, rfl⟩
        have HY := hidK hy
        rw [hy] at q0 hy0 hy1 HA
        clear hy
        go_wp2_with fail
        refine (HA.out _).mono ?_
        rintro e w2 ⟨b, rfl, rfl, hb⟩
        cases b with
        | true =>
          clear hb HA
          go_wp2_with fail
          exact ⟨⟨k + 1, l, by omega, by go_num, HL.out, HI.out.skip⟩, by simp [intOf]; omega⟩
        | false =>
          have HI2 := hidK (HI.out.add (hb (by first | rfl | trivial)) HP.out)
          have hfew := HI.out.few
          clear hb HA
          obtain ⟨yv, hyv⟩ : ∃ y, str vl = y := ⟨_, rfl⟩
          have HYv := hidK hyv
          rw [hyv] at q1
          clear hyv
          go_wp2_with (refine wpList_append_row (wr.alloc (.cells #[.string y, .string yv] 28)) rfl _ _ 29 29 rfl underVarL infoVar rfl (v := sp) (by simp [Act.eval]) (u := .slice (some ⟨wr.heap.size, 0, none⟩) 1 1) (by simp [Act.eval]) (HL.out.row.below ((Below.refl wr.heap.size wr).alloc (Nat.le_refl _) _)) (Src.block underVarL _ _ [.string y, .string yv] _ 2 (heap_alloc_new wr _) rfl rfl) ?x1 ?x2 ?x3)
          case x1 => omega
          case x2 => unfold maxLen; omega
          case x3 =>
            intro v7 w7 hr7 hg7
            have HT7 : Hid (Vl w w7 v7 (l ++ [(nm, vl)])) := (HL.out.grown ((Below.refl wr.heap.size wr).alloc (Nat.le_refl _) _) hr7.out hg7.out).cast (by simp) (by rw [varsV_app, ← HY.out, ← HYv.out]; rfl)
            clear hr7 hg7 HL HI
            go_wp2_with fail
            exact ⟨⟨k + 1, l ++ [(nm, vl)], by omega, by go_num, HT7.out, HI2.out⟩, by simp [intOf]; omega⟩
    · obtain rfl : k = n := by omega
      have hfew := HI.out.few
      have HLs : Hid (∀ p ∈ l, p.1.length + p.2.length ≤ 1048576) := fun p hp => HMs.out p (HI.out.sub p hp)
      have HSame : Hid (saysF vs f = saysF (l ++ vs ++ l) f) := by
        have h := say_same 16 f (val_more (vs := vs) HI.out.not)
        rw [says_eq, says_eq] at h
        exact Option.some.inj h
      have HX1 := hidK (HX.out wr HL.out.below _ vs (HV.out.below HL.out.below) (fun p hp => by have := HVs.out p hp; omega))
      obtain ⟨R, hR⟩ : ∃ R, saysF vs f = R := ⟨_, rfl⟩
      rw [hR] at HX1 HSame
      have hR2 : ansF R = .returned (.tuple #[.string (str (txtF R)), .int .i64 (codF R)]) := ans_two R
      rw [hR2] at HX1
      obtain ⟨zt, hzt⟩ : ∃ z, str (txtF R) = z := ⟨_, rfl⟩
      obtain ⟨cd, hcd⟩ : ∃ z, codF R = z := ⟨_, rfl⟩
      have HZt := hidK hzt
      have HCd := hidK hcd
      rw [hzt, hcd] at HX1
      clear hR hR2 hzt hcd HAs HMs HMo HCe HI
      go_wp2_with fail
      refine HX1.out.mono ?_
      rintro e w2 ⟨rfl, hb2⟩
      have HL2 := hidK (HL.out.more hb2)
      have HT := hidK (twin_any (vl_in HL2.out (by omega)) (by omega))
      obtain ⟨adl, capl, el, -⟩ := HL.out.row.shape
      subst el
      clear hb2 HX1 HL
      go_wp2_with fail
      refine HT.out.mono ?_
      rintro e w3 ⟨v3, rfl, hv3⟩
      have HV3 := hidK hv3
      have HL3 := hidK (HL2.out.more hv3.below)
      have HVv := hidK (vl_src (HV.out.below HL3.out.below))
      have HBw2 := hidK HL2.out.below
      clear hv3 HT HL3
      go_wp2_with (refine wpList_append_row w3 rfl _ _ 29 29 rfl underVarL infoVar rfl (v := v3) (by simp [Act.eval]) (u := .slice adv vs.length capv) (by simp [Act.eval]) HV3.out.row HVv.out ?y1 ?y2 ?y3)
      case y1 => omega
      case y2 => unfold maxLen; omega
      case y3 =>
        intro v4 w4 hr4 hg4
        have HV4 : Hid (Vl w2 w4 v4 (l ++ vs)) := (HV3.out.grown (Below.refl _ _) hr4.out hg4.out).cast (by simp) (by rw [varsV_app])
        have HL4 := hidK (HL2.out.more HV4.out.below)
        have HVl := hidK (vl_src (vl_in HL4.out (by omega)))
        clear hr4 hg4 HV3 HVv
        go_wp2_with (refine wpList_append_row w4 rfl _ _ 29 29 rfl underVarL infoVar rfl (v := v4) (by simp [Act.eval]) (u := .slice adl l.length capl) (by simp [Act.eval]) HV4.out.row HVl.out ?z1 ?z2 ?z3)
        case z1 => simp; omega
        case z2 => unfold maxLen; simp; omega
        case z3 =>
          intro v5 w5 hr5 hg5
          have HV5 : Hid (Vl w2 w5 v5 (l ++ vs ++ l)) := (HV4.out.grown (Below.refl _ _) hr5.out hg5.out).cast (by simp; omega) (by rw [varsV_app (l ++ vs) l])
          have HB5 : Hid (Below w.heap.size w w5) := HBw2.out.trans (HV5.out.below.mono HBw2.out.size)
          have HX5 := hidK (HX.out w5 HB5.out _ _ (vl_in HV5.out (by simp; omega)) (fun p hp => by
            rcases List.mem_append.1 hp with h | h
            · rcases List.mem_append.1 h with h | h
              · have := HLs.out p h; omega
              · have := HVs.out p h; omega
            · have := HLs.out p h; omega))
          rw [← HSame.out, ans_two, HZt.out, HCd.out] at HX5
          obtain ⟨ad5, cap5, e5, -⟩ := HV5.out.row.shape
          obtain ⟨N5, hN5⟩ : ∃ N, (l ++ vs ++ l).length = N := ⟨_, rfl⟩
          rw [hN5] at e5
          clear hN5
          subst e5
          clear hr5 hg5 HV4 HVl HL4 HV5 HL2 HLs
          go_wp2_with fail
          refine HX5.out.mono ?_
          rintro e w6 ⟨rfl, hb6⟩
          have HB6 := hidK (HB5.out.trans (hb6.mono HB5.out.size))
          clear hb6 HX5 HX
          go_wp2_with fail
          refine (HW.out _ HB6.out).mono ?_
          rintro e w7 ⟨rfl, hb7⟩
          have HB7 := hidK (HB6.out.trans (hb7.mono HB6.out.size))
          clear hb7
          go_wp2_with fail
          all_goals go_ret
          all_goals exact ⟨by simp, HB7.out⟩

end Go.Proofs.YtpfhhpmoagmhhaaGreatDoor
