/-
  Layouts: the document's without, of every tree.
-/
import Derived.Test.YtjnmjoigmbpodaaCWt
namespace Go.Proofs.Ytjnmjoigmbpodaa
open Go.RowKit
set_option linter.unusedVariables false
set_option maxRecDepth 20000

theorem flat_sizes (k : Int) (t : Tree) : sizes (flatT k t) ≤ t.size := by
  cases t with
  | leaf b p => exact Nat.le_refl _
  | split b k' ts =>
    show sizes (if k' = k then ts else [.split b k' ts]) ≤ 1 + sizes ts
    split
    · omega
    · show 1 + sizes ts + 0 ≤ 1 + sizes ts
      omega
theorem flats_sizes (k : Int) : ∀ (rs : List Tree), sizes (flats k rs) ≤ sizes rs
  | [] => Nat.le_refl _
  | t :: rs => by
    show sizes (flatT k t ++ flats k rs) ≤ t.size + sizes rs
    rw [sizes_append]
    have := flat_sizes k t
    have := flats_sizes k rs
    omega
theorem flats_id (b : Box) (k : Int) : ∀ (ts : List Tree), soundAll ts b k = true → flats k ts = ts
  | [], _ => rfl
  | t :: ts, h => by
    unfold soundAll at h
    simp only [Bool.and_eq_true, decide_eq_true_eq, Bool.not_eq_true'] at h
    show flatT k t ++ flats k ts = t :: ts
    rw [flatT_no h.1.2.1, flats_id b k ts h.2]
    rfl
theorem flats_append (k : Int) (a b : List Tree) : flats k (a ++ b) = flats k a ++ flats k b := by
  unfold flats
  exact List.flatMap_append
theorem shut_size (q : Int) {t t' : Tree} (h : Shut q t t') : t.sound = true → t.kinds → t'.size ≤ t.size := by
  induction h with
  | keep t _ => exact fun _ _ => Nat.le_refl _
  | here b k ts a bl x u us hG _ =>
    intro hs hk
    have hO := gone_ok hs hk hG
    have h1 := hO.size
    show _ ≤ 1 + sizes ts
    match us, h1 with
    | [], _ => show 1 + 0 ≤ _; omega
    | [c], h1 =>
      change c.size + 0 + 1 = sizes ts at h1
      show c.size ≤ _
      omega
    | c :: d :: r, h1 =>
      show 1 + sizes (c :: d :: r) ≤ _
      omega
  | deep b k ts i s s' hi hsp hS hoth ih =>
    intro hs hk
    have hs0 := hs
    unfold Tree.sound at hs
    simp only [Bool.and_eq_true, decide_eq_true_eq] at hs
    have hsd := soundAll_at ts b k i s hi hs.2.1
    simp only [Bool.and_eq_true] at hsd
    have h1 := ih hsd.1 (kindsAll_at ts i s hi hk.2)
    have h2 := flat_sizes k s'
    have h3 : sizes ts = sizes (ts.take i) + (s.size + sizes (ts.drop (i + 1))) := by
      conv => lhs; rw [mid_eq hi]
      rw [sizes_append]
      rfl
    show 1 + sizes (ts.take i ++ (flatT k s' ++ ts.drop (i + 1))) ≤ 1 + sizes ts
    rw [sizes_append, sizes_append]
    omega

theorem with_keepO (q k : Int) (ts : List Tree) (h : ∀ (i : Nat) bl p, ts[i]? = some (.leaf bl p) → p ≠ q) : WithK q k ts ts ts.length := by
  have hk : ∀ i, i ≤ ts.length → kidsTo ts ts ts.length i = ts.take i := fun i hi => if_pos hi
  refine ⟨fun i t hi _ _ => ?_, fun i bl p hi _ => h i bl p hi, fun t ht => ?_⟩
  · have hlt := (List.getElem?_eq_some_iff.1 hi).1
    rw [hk i (by omega), hk (i + 1) (by omega), List.take_add_one, hi]
    rfl
  · rw [List.getElem?_eq_none (Nat.le_refl _)] at ht
    cases ht
theorem erase_get (ts : List Tree) (a i : Nat) : (ts.eraseIdx a)[i]? = if i < a then ts[i]? else ts[i + 1]? := List.getElem?_eraseIdx
theorem with_here {q k : Int} {ts us : List Tree} {a : Nat} {bl : Box} {x u : Tree} (hG : Gone k ts a bl q x u us) (h2 : 2 ≤ ts.length) (hq : q ∉ idls (ts.eraseIdx a)) (hb : 1 ≤ bl.ext k ∧ bl.ext k ≤ 1000) : WithK q k ts us a := by
  have hal := (List.getElem?_eq_some_iff.1 hG.leaf).1
  have hul : us.length + 1 = ts.length := by
    rw [hG.list, List.length_set, List.length_eraseIdx_of_lt hal]
    omega
  refine ⟨fun i t hi hia h0 => ?_, fun i bl' p hi hia e => hq ?_, fun t ht => ?_⟩
  · have hlt := (List.getElem?_eq_some_iff.1 hi).1
    unfold kidsTo
    by_cases hlt2 : i < a
    · rw [if_pos (by omega), if_pos (by omega), List.take_add_one, hi]
      rfl
    · rw [if_neg (by omega), if_neg (by omega), Nat.add_sub_cancel]
      have hu1 : us[i - 1]? = some t := by
        rw [hG.list, List.getElem?_set_ne (by omega), erase_get, if_neg (by omega), show i - 1 + 1 = i by omega]
        exact hi
      have := List.take_add_one (l := us) (i := i - 1)
      rw [show i - 1 + 1 = i by omega, hu1] at this
      exact this
  · have hin : ∃ j : Nat, (ts.eraseIdx a)[j]? = some (Tree.leaf bl' p) := by
      by_cases hlt2 : i < a
      · exact ⟨i, by rw [erase_get, if_pos hlt2]; exact hi⟩
      · exact ⟨i - 1, by rw [erase_get, if_neg (by omega), show i - 1 + 1 = i by omega]; exact hi⟩
    obtain ⟨j, hj⟩ := hin
    exact idls_at q _ j _ hj (by simp [Tree.idl, e])
  · rw [hG.leaf] at ht
    cases ht
    refine ⟨bl, x, u, rfl, hG.str, hb, ?_⟩
    have hka : kidsTo ts us a a = ts.take a := if_pos (Nat.le_refl _)
    rcases Nat.eq_zero_or_pos a with h0 | h0
    · right
      subst h0
      have hn := hG.near
      rw [erase_get, if_neg (by omega)] at hn
      refine ⟨rfl, h2, hn, ?_⟩
      unfold kidsTo
      rw [if_neg (by omega), hG.list]
      obtain ⟨c, r, hc⟩ : ∃ c r, ts.eraseIdx 0 = c :: r := by
        cases he : ts.eraseIdx 0 with
        | nil =>
          have := List.length_eraseIdx_of_lt hal
          rw [he] at this
          simp at this
          omega
        | cons c r => exact ⟨c, r, rfl⟩
      rw [hc]
      rfl
    · left
      have hn := hG.near
      rw [erase_get, if_pos (by omega)] at hn
      refine ⟨h0, ?_, ?_, ?_⟩
      · rw [hka, List.getElem?_take_of_lt (by omega)]
        exact hn
      · rw [hka, List.length_take]
        omega
      · unfold kidsTo
        rw [if_neg (by omega), if_pos (Nat.le_refl _), Nat.add_sub_cancel, hG.list, List.take_set]
        congr 1
        rw [List.eraseIdx_eq_take_drop_succ, List.take_left' (by rw [List.length_take]; omega)]

theorem nodeOf_k1 (t : Tree) (hk : t.kinds) : ((∃ bl p, t = .leaf bl p) ∧ (nodeOf t).k = 1) ∨ ((∃ b k ts, t = .split b k ts) ∧ (nodeOf t).k ≠ 1) := by
  cases t with
  | leaf bl p => exact .inl ⟨⟨bl, p, rfl⟩, rfl⟩
  | split b k ts =>
    refine .inr ⟨⟨b, k, ts, rfl⟩, ?_⟩
    show k ≠ 1
    have := hk.1
    omega

theorem with_good (q : Int) : ∀ (N : Nat) (t : Tree), t.size ≤ N → t.size ≤ 100 → (∃ b k ts, t = .split b k ts) → t.sound = true → t.kinds → ∀ t', Shut q t t' → ∀ sl fp w, (nodeOf t).In w sl fp → Calls Try.prog 38 #[.agg (nodeV (nodeOf t) sl), .int .i64 q] w (StrN t' fp w)
  | 0, t, hN, _, _, _, _, _, _ => by
    have := t.size_pos
    omega
  | N + 1, t, hN, hz, ⟨b, k, ts, ht⟩, hs, hk, t', hS => by
    subst ht
    intro sl fp w hIn
    have hs0 := hs
    unfold Tree.sound at hs
    simp only [Bool.and_eq_true, decide_eq_true_eq] at hs
    have h2 := hs.1.1
    have hll := length_sizes ts
    have hz' : 1 + sizes ts ≤ 100 := hz
    have hN' : 1 + sizes ts ≤ N + 1 := hN
    have hIn0 := hIn
    obtain ⟨cs, fs, o1, o2, hfp⟩ := hIn
    have hnl : (nodesOf ts).length = ts.length := nodesOf_length ts
    obtain ⟨gk, cap, rfl⟩ : ∃ gk cap, sl = .slice (some ⟨gk, 0, none⟩) ts.length cap := by
      rcases o1.2 with ⟨_, e0⟩ | ⟨g, cap, cur, e, _⟩
      · omega
      · exact ⟨g, cap, by rw [e, hnl]⟩
    rw [hnl] at o1
    have hK : ∀ (i : Nat) t, ts[i]? = some t → ∃ sa sn sc f, (∀ y ∈ f, y ∈ fp) ∧ (nodeOf t).In w (.slice sa sn sc) f ∧ KidIn w gk (i * 5) (nodeOf t) (.slice sa sn sc) := fun i t hi => by
      obtain ⟨sl2, f2, g1, g2, g3⟩ := o2.get i (nodeOf t) (nodesOf_get ts i t hi)
      have hil := (List.getElem?_eq_some_iff.1 hi).1
      have hcell : ∀ o, o < 5 → w.cell? ⟨gk, i * 5 + o, none⟩ = (nodeL (nodeOf t) sl2)[o]? := fun o ho => by
        rw [World.ownsRow.cellAt o1 (i * 5 + o) (by omega), g3 o ho]
      obtain ⟨ad, c, hsl⟩ := g1.sl
      subst hsl
      exact ⟨ad, _, c, f2, fun y hy => by rw [hfp]; exact List.mem_append_right _ (g2 y hy), g1, ⟨hcell 0 (by omega), hcell 1 (by omega), hcell 2 (by omega), hcell 3 (by omega), hcell 4 (by omega)⟩⟩
    -- the answer, in either way out
    have hans : ∀ (t2 : Tree) wr sa sn sc f v0 v1 v2 v3 v4, Below w.heap.size w wr → (nodeOf t2).In wr (.slice sa sn sc) f → w.heap.size + 1 < wr.heap.size → (∀ y ∈ f, OkB fp w y) → StrN t2 fp w (.returned (.agg (nodeV (nodeOf t2) (.slice sa sn sc)))) (set5 wr (w.heap.size + 1) v0 v1 v2 v3 v4) := fun t2 wr sa sn sc f v0 v1 v2 v3 v4 hb hi hlt hok =>
      ⟨sa, sn, sc, f, rfl, hi.keep fun y hy => set5_block _ _ _ _ _ _ _ y (hok y hy).2, fun y hy => (hok y hy).1, set5_below hb _ (by omega) _ _ _ _ _⟩
    have hlenA : ∀ rs : List Tree, sizes rs ≤ 200 → ∀ j, (flats k (rs.take j)).length ≤ 1000 := fun rs hr j => by
      have h1 := length_sizes (flats k (rs.take j))
      have h3 := flats_sizes k (rs.take j)
      have h4 : sizes (rs.take j) ≤ sizes rs := by
        conv => rhs; rw [← List.take_append_drop j rs]
        rw [sizes_append]
        omega
      omega
    have hksA : ∀ r : Tree, r.size ≤ 200 → (nodeOf r).ks.length ≤ 1000 := fun r hr => by
      have := ks_length r (by omega)
      omega
    have hkid : ∀ (us : List Tree) (b' : Box), soundAll us b' k = true → kindsAll us → sizes us ≤ sizes ts → q ∉ idls us → ∀ (j : Nat) t r, us[j]? = some t → us[j]? = some r → ((nodeOf t).k = 1 ∧ r = t) ∨ ((nodeOf t).k ≠ 1 ∧ ∀ sl f X, (nodeOf t).In X sl f → Calls Try.prog 38 #[.agg (nodeV (nodeOf t) sl), .int .i64 q] X (StrN r f X)) := fun us b' hsu hku hzu hqu j t r hj hr => by
      rw [hj] at hr
      cases hr
      have hsd := soundAll_at us b' k j t hj hsu
      simp only [Bool.and_eq_true] at hsd
      have hkt := kindsAll_at us j t hj hku
      have hzt := sizes_at us j t hj
      rcases nodeOf_k1 t hkt with ⟨_, h1⟩ | ⟨h0, h1⟩
      · exact .inl ⟨h1, rfl⟩
      · exact .inr ⟨h1, fun sl f X hX => with_good q N t (by omega) (by omega) h0 hsd.1 hkt t (.keep t fun h => hqu (idls_at q us j t hj h)) sl f X hX⟩
    have hshow : ∀ Post, Calls Try.prog 38 #[.agg #[.int .i64 k, .int .i64 b.w, .int .i64 b.h, .int .i64 0, .slice (some ⟨gk, 0, none⟩) ts.length cap], .int .i64 q] w Post → Calls Try.prog 38 #[.agg (nodeV (nodeOf (.split b k ts)) (.slice (some ⟨gk, 0, none⟩) ts.length cap)), .int .i64 q] w Post := fun Post h => h
    cases hS with
    | keep _ hq =>
      have hq' : q ∉ idls ts := hq
      have hfull : kidsTo ts ts ts.length ts.length = ts := by
        unfold kidsTo
        rw [if_pos (Nat.le_refl _), List.take_length]
      refine hshow _ (with_one b k q ts ts ts.length gk ts.length cap fp w (with_keep q k ts hq') rfl ⟨h2, by omega⟩ (Nat.le_refl _) hK _ ts hk.2 hk.1 (by omega) (by rw [hfull]) (hlenA ts (by omega)) (fun r hr => ?_) (by rw [hfull]; exact hkid ts b hs.2.1 hk.2 (Nat.le_refl _) hq') (fun h => by rw [hfull] at h; omega) (fun _ wr sa sn sc f v0 v1 v2 v3 v4 hb hi hlt hok => ?_))
      · obtain ⟨j, hj⟩ := List.getElem?_of_mem hr
        have := sizes_at ts j r hj
        exact hksA r (by omega)
      · rw [flats_id b k ts hs.2.1] at hi
        exact hans (.split b k ts) wr sa sn sc f v0 v1 v2 v3 v4 hb hi hlt hok
    | here _ _ _ a bl x u us hG hq =>
      have hO := gone_ok hs0 hk hG
      have hul := hO.len
      have hus := hO.size
      have hal := (List.getElem?_eq_some_iff.1 hG.leaf).1
      have hids := gone_ids hs0 hk hG
      have hlsd : (Tree.leaf bl q).sound = true := by
        have := soundAll_at ts b k a _ hG.leaf hs.2.1
        simp only [Bool.and_eq_true] at this
        exact this.1
      have hbl := sides_ext bl k ((Tree.leaf bl q).sound_sides hlsd)
      have hfull : kidsTo ts us a ts.length = us := by
        unfold kidsTo
        rw [if_neg (by omega), List.take_of_length_le (by omega)]
      have hll2 := length_sizes us
      refine hshow _ (with_one b k q ts us a gk ts.length cap fp w (with_here hG h2 (by rw [← hids]; exact hq) hbl) rfl ⟨h2, by omega⟩ (by omega) hK _ us hk.2 hk.1 (by omega) (by rw [hfull]) (hlenA us (by omega)) (fun r hr => ?_) (by rw [hfull]; exact hkid us b hO.sound hO.kinds (by omega) hq) (fun h1 wr sa sn sc f v0 v1 v2 v3 v4 c hc hb hi hlt hok => ?_) (fun h1 wr sa sn sc f v0 v1 v2 v3 v4 hb hi hlt hok => ?_))
      · obtain ⟨j, hj⟩ := List.getElem?_of_mem hr
        have := sizes_at us j r hj
        exact hksA r (by omega)
      · rw [hfull] at hc
        rw [hc]
        exact hans c wr sa sn sc f v0 v1 v2 v3 v4 hb hi hlt hok
      · rw [hfull] at h1
        rw [flats_id b k us hO.sound] at hi
        rw [shut_many (by omega)]
        exact hans (.split b k us) wr sa sn sc f v0 v1 v2 v3 v4 hb hi hlt hok
    | deep _ _ _ i s s' hi hsp hSs hoth =>
      have hsd := soundAll_at ts b k i s hi hs.2.1
      simp only [Bool.and_eq_true, decide_eq_true_eq, Bool.not_eq_true'] at hsd
      have hks := kindsAll_at ts i s hi hk.2
      have hzs := sizes_at ts i s hi
      have hlt := (List.getElem?_eq_some_iff.1 hi).1
      have hsz := shut_size q hSs hsd.1 hks
      have hfull : kidsTo ts ts ts.length ts.length = ts := by
        unfold kidsTo
        rw [if_pos (Nat.le_refl _), List.take_length]
      have hleaf : ∀ (j : Nat) bl p, ts[j]? = some (.leaf bl p) → p ≠ q := fun j bl p hj e => by
        by_cases hji : j = i
        · subst hji
          rw [hi] at hj
          cases hj
          obtain ⟨_, _, _, h⟩ := hsp
          cases h
        · exact hoth j _ hji hj (by simp [Tree.idl, e])
      have hset := sizes_set s s' ts i hi
      have hfl : flats k (ts.set i s') = spliceT k ts i s' := by
        have hsa := hs.2.1
        rw [mid_eq hi, soundAll_append] at hsa
        simp only [Bool.and_eq_true] at hsa
        have hsb := hsa.2
        unfold soundAll at hsb
        simp only [Bool.and_eq_true] at hsb
        rw [List.set_eq_take_append_cons_drop, if_pos hlt, flats_append, flats_id b k _ hsa.1]
        show ts.take i ++ (flatT k s' ++ flats k (ts.drop (i + 1))) = spliceT k ts i s'
        rw [flats_id b k _ hsb.2]
        rfl
      refine hshow _ (with_one b k q ts ts ts.length gk ts.length cap fp w (with_keepO q k ts hleaf) rfl ⟨h2, by omega⟩ (Nat.le_refl _) hK _ (ts.set i s') hk.2 hk.1 (by omega) (by rw [hfull, List.length_set]) (hlenA _ (by omega)) (fun r hr => ?_) (fun j t r hj hr => ?_) (fun h => by rw [hfull] at h; omega) (fun _ wr sa sn sc f v0 v1 v2 v3 v4 hb hi' hlt' hok => ?_))
      · obtain ⟨j, hj⟩ := List.getElem?_of_mem hr
        have := sizes_at _ j r hj
        exact hksA r (by omega)
      · rw [hfull] at hj
        by_cases hji : j = i
        · subst hji
          rw [hi] at hj
          cases hj
          rw [List.getElem?_set_self hlt] at hr
          cases hr
          rcases nodeOf_k1 s hks with ⟨⟨bl, p, h0⟩, _⟩ | ⟨h0, h1⟩
          · obtain ⟨_, _, _, h⟩ := hsp
            rw [h0] at h
            cases h
          · exact .inr ⟨h1, fun sl f X hX => with_good q N s (by omega) (by omega) h0 hsd.1 hks s' hSs sl f X hX⟩
        · rw [List.getElem?_set_ne (Ne.symm hji)] at hr
          rw [hj] at hr
          cases hr
          have hsd2 := soundAll_at ts b k j t hj hs.2.1
          simp only [Bool.and_eq_true] at hsd2
          have hkt := kindsAll_at ts j t hj hk.2
          have hzt := sizes_at ts j t hj
          rcases nodeOf_k1 t hkt with ⟨_, h1⟩ | ⟨h0, h1⟩
          · exact .inl ⟨h1, rfl⟩
          · exact .inr ⟨h1, fun sl f X hX => with_good q N t (by omega) (by omega) h0 hsd2.1 hkt t (.keep t (hoth j t hji hj)) sl f X hX⟩
      · rw [hfl] at hi'
        exact hans (.split b k (spliceT k ts i s')) wr sa sn sc f v0 v1 v2 v3 v4 hb hi' hlt' hok

end Go.Proofs.Ytjnmjoigmbpodaa
