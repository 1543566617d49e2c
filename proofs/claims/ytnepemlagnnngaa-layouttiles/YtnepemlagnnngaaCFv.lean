/-
  Layouts: which panes there are behind every call, and how large the whole is.
  Layouts: every call of the program: what it answers, and what the list behind it is.
-/
import Derived.Test.YtnepemlagnnngaaCBp
import Derived.Test.YtnepemlagnnngaaCPv
import Derived.Test.YtnepemlagnnngaaCAg
import Derived.Test.YtnepemlagnnngaaCCa
import Derived.Test.YtnepemlagnnngaaCBw
import Derived.Test.YtnepemlagnnngaaCPu
namespace Go.Proofs.Ytnepemlagnnngaa
open Go.RowKit
set_option linter.unusedVariables false
set_option maxRecDepth 20000

theorem idls_setF {t t' : Tree} (he : t'.idl = t.idl) : ∀ (ts : List Tree) (i : Nat), ts[i]? = some t → idls (ts.set i t') = idls ts
  | [], i, h => by simp at h
  | a :: ts, 0, h => by
    have e : a = t := by simpa using h
    subst e
    show t'.idl ++ idls ts = a.idl ++ idls ts
    rw [he]
  | a :: ts, i + 1, h => by
    show a.idl ++ idls (ts.set i t') = a.idl ++ idls ts
    rw [idls_setF he ts i (by simpa using h)]
theorem idls_congrF : ∀ (ts rs : List Tree), rs.length = ts.length → (∀ (i : Nat) (t r : Tree), ts[i]? = some t → rs[i]? = some r → r.idl = t.idl) → idls rs = idls ts
  | [], [], _, _ => rfl
  | [], r :: rs, h, _ => by simp at h
  | t :: ts, [], h, _ => by simp at h
  | t :: ts, r :: rs, h, hi => by
    show r.idl ++ idls rs = t.idl ++ idls ts
    rw [hi 0 t r rfl rfl, idls_congrF ts rs (by simpa using h) fun i t' r' h1 h2 => hi (i + 1) t' r' (by simpa using h1) (by simpa using h2)]
mutual
theorem str_idsF : ∀ {t : Tree} {j n : Int} {t' : Tree}, Str t j n t' → t'.idl = t.idl
  | _, _, _, _, .leaf b p j n h => rfl
  | _, _, _, _, .across b k ts j n rs h hj hl hs => by
    show idls rs = idls ts
    exact idls_congrF ts rs hl fun i t r h1 h2 => str_idsF (hs i t r h1 h2)
  | _, _, _, _, .along b k ts n m rs h hd => deal_idsF hd
theorem deal_idsF : ∀ {k : Int} {m : Nat} {ts : List Tree} {i : Nat} {n : Int} {rs : List Tree}, Deal k m ts i n rs → idls rs = idls ts
  | _, _, _, _, _, _, .done k ts i h => rfl
  | _, _, _, _, _, _, .skip k m ts i n rs t h1 h2 h3 h4 h5 h6 h7 hd => deal_idsF hd
  | _, _, _, _, _, _, .give k m ts i n rs t t' h1 h2 h3 h4 h5 h6 h7 h8 hs hd => by
    rw [deal_idsF hd]
    exact idls_setF (str_idsF hs) ts i h3
end
theorem str_boxF {t : Tree} {j n : Int} {t' : Tree} (h : Str t j n t') : t'.box = t.box.str j n := by
  cases h <;> rfl
theorem put_idsF : ∀ (qs : List Nat) (t s s' : Tree), t.subAt qs = some s → s'.idl = s.idl → (t.putAt qs s').idl = t.idl
  | [], t, s, s', h, he => by
    have : t = s := by simpa [Tree.subAt] using h
    subst this
    exact he
  | i :: qs, .leaf b p, s, s', h, he => by simp [Tree.subAt] at h
  | i :: qs, .split b k ts, s, s', h, he => by
    cases hi : ts[i]? with
    | none => simp [Tree.subAt, hi] at h
    | some u =>
      have h' : u.subAt qs = some s := by simpa [Tree.subAt, hi] using h
      rw [put_cons hi]
      show idls (ts.set i (u.putAt qs s')) = idls ts
      exact idls_setF (put_idsF qs u s s' h' he) ts i hi

/-! Close. -/
theorem shut_ids {q : Int} {t t' : Tree} (h : Shut q t t') : t.sound = true → t.kinds → q ∈ t.idl → ∃ l1 l2, t.idl = l1 ++ q :: l2 ∧ t'.idl = l1 ++ l2 := by
  induction h with
  | keep t hq => exact fun _ _ h => absurd h hq
  | here b k ts a bl x u us hG hq =>
    intro hs hk _
    have h1 := gone_ids hs hk hG
    have he : (shutT b k us).idl = idls us := by
      match us with
      | [] => rfl
      | [c] => show c.idl = c.idl ++ []; simp
      | c :: d :: r => rfl
    refine ⟨idls (ts.take a), idls (ts.drop (a + 1)), ?_, ?_⟩
    · show idls ts = _
      conv => lhs; rw [mid_eq hG.leaf]
      rw [idls_append]
      rfl
    · rw [he, h1, List.eraseIdx_eq_take_drop_succ, idls_append]
  | deep b k ts i s s' hi hsp hS hoth ih =>
    intro hs hk hq
    unfold Tree.sound at hs
    simp only [Bool.and_eq_true, decide_eq_true_eq] at hs
    have hsd := soundAll_at ts b k i s hi hs.2.1
    simp only [Bool.and_eq_true, decide_eq_true_eq] at hsd
    have hks := kindsAll_at ts i s hi hk.2
    have hqs : q ∈ s.idl := Classical.byContradiction fun hn => by
      have hq' : q ∈ idls ts := hq
      obtain ⟨j, u, hj, _, hqu⟩ := cutd_ids.idls_mem ts hq'
      by_cases hji : j = i
      · subst hji
        rw [hi] at hj
        cases hj
        exact hn hqu
      · exact hoth j u hji hj hqu
    obtain ⟨l1, l2, e1, e2⟩ := ih hsd.1 hks hqs
    refine ⟨idls (ts.take i) ++ l1, l2 ++ idls (ts.drop (i + 1)), ?_, ?_⟩
    · show idls ts = _
      conv => lhs; rw [mid_eq hi]
      rw [idls_append]
      show idls (ts.take i) ++ (s.idl ++ idls (ts.drop (i + 1))) = _
      rw [e1]
      simp
    · show idls (ts.take i ++ (flatT k s' ++ ts.drop (i + 1))) = _
      rw [idls_append, idls_append, flat_idls, e2]
      simp

/-! Full. -/
theorem beside_ids (k : Int) (bf : Bool) (t : Tree) (b : Box) (id : Int) : (besideT k bf t (.leaf b id)).idl = if bf then id :: t.idl else t.idl ++ [id] := by
  show idls (besideL k bf t (.leaf b id)) = _
  unfold besideL
  cases bf with
  | true =>
    show [id] ++ idls (flatT k t) = id :: t.idl
    rw [flat_idls]
    rfl
  | false =>
    show idls (flatT k t ++ [.leaf b id]) = t.idl ++ [id]
    rw [idls_append, flat_idls]
    rfl

/-! Arrange. -/
theorem share_ids (k : Int) (b : Box) (n : Int) : ∀ (zs : List Int) (i : Int), idls (shareL k b n zs i) = zs
  | [], _ => rfl
  | z :: zs, i => by
    show [z] ++ idls (shareL k b n zs (i + 1)) = z :: zs
    rw [share_ids k b n zs (i + 1)]
    rfl
theorem even_ids (k : Int) (zs : List Int) (b : Box) (hne : zs ≠ []) : (evenT k zs b).idl = zs := by
  match zs, hne with
  | [z], _ => rfl
  | z :: y :: zs, _ => exact share_ids k b _ (z :: y :: zs) 0
theorem tile_ids (b : Box) (r : Int) (c : Nat) (hc : 0 < c) : ∀ (m : Nat) (zs : List Int) (j : Int), ((m - 1) * c < zs.length ∨ m = 0) → zs.length ≤ m * c → idls (tileL b r c zs m j) = zs
  | 0, zs, j, _, h => by
    have : zs = [] := List.length_eq_zero_iff.1 (by omega)
    subst this
    rfl
  | m + 1, zs, j, h1, h2 => by
    have hpos : 0 < zs.length := by
      rcases h1 with h | h
      · exact Nat.lt_of_le_of_lt (Nat.zero_le _) h
      · omega
    have hne : zs.take c ≠ [] := by
      intro e
      have h5 : min c zs.length = 0 := by
        have := congrArg List.length e
        rw [List.length_take] at this
        exact this
      omega
    show (evenT 2 (zs.take c) _).idl ++ idls (tileL b r c (zs.drop c) m (j + 1)) = zs
    rw [even_ids 2 _ _ hne, tile_ids b r c hc m (zs.drop c) (j + 1) ?_ ?_, List.take_append_drop]
    · cases m with
      | zero => exact .inr rfl
      | succ m =>
        left
        rw [List.length_drop]
        rcases h1 with h | h
        · have e : (m + 1 + 1 - 1) * c = m * c + c := by
            rw [Nat.add_sub_cancel, Nat.add_mul, Nat.one_mul]
          rw [e] at h
          rw [Nat.add_sub_cancel]
          omega
        · omega
    · rw [List.length_drop]
      have e : (m + 1) * c = m * c + c := by rw [Nat.add_mul, Nat.one_mul]
      omega
theorem arr_ids (how : Int) (z0 : Int) (zs : List Int) (b : Box) (sz : Int) (h1 : 1 ≤ zs.length) (h : zs.length ≤ 31) : (arrT how z0 zs b sz).idl = z0 :: zs := by
  have hne : zs ≠ [] := by
    intro e
    rw [e] at h1
    simp at h1
  unfold arrT
  split
  · exact even_ids 2 _ _ (by simp)
  · split
    · exact even_ids 3 _ _ (by simp)
    · split
      · show [z0] ++ ((evenT (acrossK 3) zs _).idl ++ []) = _
        rw [even_ids _ _ _ hne]
        simp
      · split
        · show [z0] ++ ((evenT (acrossK 2) zs _).idl ++ []) = _
          rw [even_ids _ _ _ hne]
          simp
        · obtain ⟨g1, g2, g3, g4, g5, g6⟩ := grid_facts (z0 :: zs).length (by simp; omega) (by simp; omega)
          exact tile_ids b _ _ g2 _ (z0 :: zs) 0 (.inl g3) g4
theorem arr_kindsF (how : Int) (z0 : Int) (zs : List Int) (b : Box) (sz : Int) : (arrT how z0 zs b sz).kinds := by
  have hev : ∀ k zs b, (k = 2 ∨ k = 3) → (evenT k zs b).kinds := fun k zs b hk => by
    match zs with
    | [] => exact ⟨hk, shareL_kinds k b _ [] 0⟩
    | [z] => exact trivial
    | z :: y :: zs => exact ⟨hk, shareL_kinds k b _ (z :: y :: zs) 0⟩
  have hti : ∀ (b : Box) (r : Int) (c : Nat) (m : Nat) (zs : List Int) (j : Int), kindsAll (tileL b r c zs m j) := fun b r c m => by
    induction m with
    | zero => intro zs j; exact trivial
    | succ m ih => intro zs j; exact ⟨hev 2 _ _ (.inl rfl), ih _ _⟩
  unfold arrT
  split
  · exact hev 2 _ _ (.inl rfl)
  · split
    · exact hev 3 _ _ (.inr rfl)
    · split
      · exact ⟨.inr rfl, trivial, hev (acrossK 3) _ _ (.inl rfl), trivial⟩
      · split
        · exact ⟨.inl rfl, trivial, hev (acrossK 2) _ _ (.inr rfl), trivial⟩
        · exact ⟨.inr rfl, hti _ _ _ _ _ _⟩
theorem even_boxF (k : Int) (zs : List Int) (b : Box) : (evenT k zs b).box = b := by
  match zs with
  | [] => rfl
  | [z] => rfl
  | z :: y :: zs => rfl
theorem arr_box (how : Int) (z0 : Int) (zs : List Int) (b : Box) (sz : Int) : (arrT how z0 zs b sz).box = b := by
  unfold arrT
  split
  · exact even_boxF 2 _ _
  · split
    · exact even_boxF 3 _ _
    · split
      · rfl
      · split
        · rfl
        · rfl

end Go.Proofs.Ytnepemlagnnngaa

namespace Go.Proofs.Ytnepemlagnnngaa
open Go.RowKit
set_option linter.unusedVariables false
set_option maxRecDepth 20000

/-- What holds of the tree behind a call. -/
structure BehindO (o : OpV) (t t' : Tree) : Prop where
  sound : t'.sound = true
  kinds : t'.kinds
  few : fewB t'.idl = true
  size : t'.size ≤ 100
  box : if o.k = 3 then t'.box.w = o.a ∧ t'.box.h = o.b else t'.box.w = t.box.w ∧ t'.box.h = t.box.h
  more : o.k = 0 ∨ o.k = 1 → o.id ∉ t.idl ∧ ∃ l1 l2, t.idl = l1 ++ l2 ∧ t'.idl = l1 ++ o.id :: l2
  less : o.k = 2 → ∃ l1 l2, t.idl = l1 ++ o.pane :: l2 ∧ t'.idl = l1 ++ l2
  swap : o.k = 6 → t'.idl = t.idl.map (swapI o.pane o.a)
  other : ¬ (o.k = 0 ∨ o.k = 1) → o.k ≠ 2 → o.k ≠ 6 → t'.idl = t.idl
  cut : o.k = 0 → ∃ c bl, Cutd o.pane c bl t (t'.moved 0 0) ∧ (c bl).kinds ∧ (∀ b k ts, c bl = .split b k ts → ∀ x ∈ ts, x.kindIs k = false)

/-- What a call answers of a layout. -/
def OpAns (t : Tree) (o : OpV) (er : Int) (r : List CellV) : Prop := (er ≠ 0 ∧ r = []) ∨ (er = 0 ∧ ∃ t', r = laidL t' ∧ BehindO o t t')
def OpProg (l : List CellV) (t : Tree) (o : OpV) : Prop := ∃ er r, (∀ v X, CellsIn X v l → Calls Try.prog 16 #[v, .agg o.vals] X (Ans2 er r X)) ∧ OpAns t o er r

theorem few_more {zs l1 l2 : List Int} {id : Int} (h : fewB zs = true) (hl : zs.length ≠ 32) (hid : id ∉ zs) (e : zs = l1 ++ l2) : fewB (l1 ++ id :: l2) = true := by
  obtain ⟨h1, h2⟩ := few_len h
  have hp : (l1 ++ id :: l2).Perm (id :: zs) := by
    rw [e]
    refine List.perm_iff_count.2 fun x => ?_
    simp only [List.count_cons, List.count_append]
    omega
  unfold fewB
  simp only [Bool.and_eq_true, decide_eq_true_eq]
  refine ⟨?_, hp.nodup_iff.2 (List.nodup_cons.2 ⟨hid, h2⟩)⟩
  rw [hp.length_eq]
  simp only [List.length_cons]
  omega
theorem few_less {zs l1 l2 : List Int} {q : Int} (h : fewB zs = true) (e : zs = l1 ++ q :: l2) : fewB (l1 ++ l2) = true := by
  obtain ⟨h1, h2⟩ := few_len h
  rw [e] at h1 h2
  have hp : (l1 ++ q :: l2).Perm (q :: (l1 ++ l2)) := by
    refine List.perm_iff_count.2 fun x => ?_
    simp only [List.count_cons, List.count_append]
    omega
  unfold fewB
  simp only [Bool.and_eq_true, decide_eq_true_eq]
  refine ⟨?_, (List.nodup_cons.1 (hp.nodup_iff.1 h2)).2⟩
  simp only [List.length_append, List.length_cons] at h1 ⊢
  omega
theorem lay_few {l : List CellV} {t : Tree} (h : IsLay l t) : fewB t.idl = true ∧ t.idl = idsOf l := by
  have hid : t.idl = idsOf l := by rw [idl_told t 0 h.kinds, h.tell]
  exact ⟨by rw [hid]; exact h.few, hid⟩

section
variable {l : List CellV} {t : Tree} (hF : readF l = some t) (o : OpV)
include hF

theorem opP_0 (h0 : o.k = 0) : OpProg l t o := by
  have hl := readF_lay hF
  obtain ⟨hf, hid⟩ := lay_few hl
  obtain ⟨er, r, h1, h2⟩ := split_prog l hF o.pane o.kind o.size o.id o.bf
  refine ⟨er, r, fun v X hv => call_0 v o X er r h0 fun Y hY => h1 v Y (hv.below hY), ?_⟩
  rcases h2 with h2 | ⟨e0, hk, hj, ps, bl, n, t', hp, hsub, hn, hC, hS, rfl⟩
  · exact .inl h2
  · refine .inr ⟨e0, t', rfl, ?_⟩
    obtain ⟨hq, hnid, hfew⟩ := cut_panes hF hp hj hS
    have hc : (cutT o.pane o.kind n o.id o.bf bl).idl = if o.bf then [o.id, o.pane] else [o.pane, o.id] := by cases o.bf <;> rfl
    obtain ⟨l1, l2, e1, e2⟩ := cutd_ids hc hS.cutd hq
    have hcm := cutd_moved hC.sound hC.kinds hC.box hS.cutd hl.sound hl.kinds 0 0 hl.moved
    refine ⟨hS.sound, hS.kinds, hfew, by have := hS.size; have := lay_size hl; omega, by rw [if_neg (by omega)]; exact hS.box, fun _ => ⟨hnid, ?_⟩, fun h => by omega, fun h => by omega, fun h => absurd (.inl h0) h, fun _ => ⟨_, bl, hcm, kinds_moved _ _ _ hC.kinds, ?_⟩⟩
    · cases hb : o.bf with
      | true =>
        rw [hb] at e2
        exact ⟨l1, o.pane :: l2, e1, by rw [e2]; simp⟩
      | false =>
        rw [hb] at e2
        exact ⟨l1 ++ [o.pane], l2, by rw [e1]; simp, by rw [e2]; simp⟩
    · intro b k ts he x hx
      have hsd : ((cutT o.pane o.kind n o.id o.bf bl).moved bl.x bl.y).sound = true := sound_moved _ _ _ hC.kinds hC.sound
      have he' : (cutT o.pane o.kind n o.id o.bf bl).moved bl.x bl.y = .split b k ts := he
      rw [he'] at hsd
      unfold Tree.sound at hsd
      simp only [Bool.and_eq_true] at hsd
      exact (soundAll_in b k ts hsd.2.1 x hx).2.1
theorem opP_1 (h0 : o.k = 1) : OpProg l t o := by
  have hl := readF_lay hF
  obtain ⟨hf, hid⟩ := lay_few hl
  by_cases hk : o.kind = 2 ∨ o.kind = 3
  · by_cases hj : joinE l o.id = 0
    · by_cases hr : t.room o.kind < 2
      · exact ⟨44, [], fun v X hv => call_1 v o X _ _ h0 fun Y hY => fulP_small v l o.kind o.size o.id o.bf Y (hv.below hY) hF hk hj hr, .inl ⟨by decide, rfl⟩⟩
      · obtain ⟨t1, n, hU⟩ := fulled_any hF o.kind o.size o.id o.bf hk hj (by omega)
        have hB := hU.beside
        obtain ⟨j1, j2, j3⟩ := join_zero hj
        rw [← hid] at j2 j3
        have hi := str_idsF hU.one
        have hids := beside_ids o.kind o.bf t1 (fullB t o.kind n) o.id
        rw [hi] at hids
        have hsp : ∃ l1 l2, t.idl = l1 ++ l2 ∧ (besideT o.kind o.bf t1 (.leaf (fullB t o.kind n) o.id)).idl = l1 ++ o.id :: l2 := by
          rw [hids]
          cases o.bf with
          | true => exact ⟨[], t.idl, rfl, rfl⟩
          | false => exact ⟨t.idl, [], by simp, rfl⟩
        refine ⟨0, laidL (besideT o.kind o.bf t1 (.leaf (fullB t o.kind n) o.id)), fun v X hv => call_1 v o X _ _ h0 fun Y hY => fulP_ok v l o.kind o.size o.id o.bf Y (hv.below hY) hF hU, .inr ⟨rfl, _, rfl, hB.sound, hB.kinds, ?_, ?_, ?_, fun _ => ⟨j2, hsp⟩, fun h => by omega, fun h => by omega, fun h => absurd (.inr h0) h, fun h => by omega⟩⟩
        · obtain ⟨l1, l2, e1, e2⟩ := hsp
          rw [e2]
          exact few_more hf j3 j2 e1
        · have h1 := hB.size
          have h2 := hU.z1
          have h3 := lay_size hl
          omega
        · rw [if_neg (by omega)]
          have hnd := hB.node
          rw [← nodeOf_w, ← nodeOf_h, hnd]
          have hfb := fullB_eq t o.kind n hk
          have hb1 := hU.box1
          rcases hk with hk | hk
          · rw [hk] at hfb hb1 ⊢
            rw [if_pos rfl] at hfb
            simp only [Node.w, Node.h, if_true]
            rw [hb1, hfb]
            simp [Box.str, Tree.box]
            omega
          · rw [hk] at hfb hb1 ⊢
            rw [if_neg (by decide)] at hfb
            simp only [Node.w, Node.h]
            rw [hb1, hfb]
            simp [Box.str, Tree.box]
            omega
    · exact ⟨joinE l o.id, [], fun v X hv => call_1 v o X _ _ h0 fun Y hY => fulP_join v l o.kind o.size o.id o.bf Y (hv.below hY) hF hk _ rfl hj, .inl ⟨hj, rfl⟩⟩
  · exact ⟨1, [], fun v X hv => call_1 v o X _ _ h0 fun Y hY => fulP_arg v l o.kind o.size o.id o.bf Y (hv.below hY) hF hk, .inl ⟨by decide, rfl⟩⟩
theorem opP_2 (h0 : o.k = 2) : OpProg l t o := by
  have hl := readF_lay hF
  obtain ⟨hf, hid⟩ := lay_few hl
  have hz := lay_size hl
  cases hp : t.path o.pane with
  | none => exact ⟨42, [], fun v X hv => call_2 v o X _ _ h0 fun Y hY => cloP_miss v l o.pane Y (hv.below hY) hF hp, .inl ⟨by decide, rfl⟩⟩
  | some ps =>
    by_cases he : ps = []
    · subst he
      exact ⟨46, [], fun v X hv => call_2 v o X _ _ h0 fun Y hY => cloP_last v l o.pane Y (hv.below hY) hF hp, .inl ⟨by decide, rfl⟩⟩
    · obtain ⟨t', hC⟩ := close_any o.pane ps t hl.sound hl.kinds (by omega) (few_len hf).2 hp he
      have hq : o.pane ∈ t.idl := by
        refine Classical.byContradiction fun hx => ?_
        rw [(path_mem t o.pane).2 hx] at hp
        cases hp
      obtain ⟨l1, l2, e1, e2⟩ := shut_ids hC.shut hl.sound hl.kinds hq
      refine ⟨0, laidL t', fun v X hv => call_2 v o X _ _ h0 fun Y hY => cloP_ok v l o.pane Y (hv.below hY) hF hp hC, .inr ⟨rfl, t', rfl, hC.sound, hC.kinds, ?_, by have := hC.size; omega, by rw [if_neg (by omega)]; exact hC.box, fun h => by omega, fun _ => ⟨l1, l2, e1, e2⟩, fun h => by omega, fun _ h => absurd h0 h, fun h => by omega⟩⟩
      rw [e2]
      exact few_less hf e1
theorem opP_3 (h0 : o.k = 3) : OpProg l t o := by
  have hl := readF_lay hF
  obtain ⟨hf, hid⟩ := lay_few hl
  have hz := lay_size hl
  by_cases hs : sideB o.a = true ∧ sideB o.b = true
  · by_cases hsm : o.a < leastT t 2 ∨ o.b < leastT t 3
    · exact ⟨44, [], fun v X hv => call_3 v o X _ _ h0 fun Y hY => resP_small v l o.a o.b Y (hv.below hY) hF hs.1 hs.2 hsm, .inl ⟨by decide, rfl⟩⟩
    · obtain ⟨t1, t2, hR⟩ := resized_any hF o.a o.b hs.1 hs.2 (by omega) (by omega)
      have hi : t2.idl = t.idl := (str_idsF hR.two).trans (str_idsF hR.one)
      refine ⟨0, laidL t2, fun v X hv => call_3 v o X _ _ h0 fun Y hY => resP_ok v l o.a o.b Y (hv.below hY) hF hR, .inr ⟨rfl, t2, rfl, hR.s2, hR.k2, by rw [hi]; exact hf, by have := hR.z2; omega, ?_, fun h => by omega, fun h => by omega, fun h => by omega, fun _ _ _ => hi, fun h => by omega⟩⟩
      rw [if_pos h0, str_boxF hR.two, str_boxF hR.one]
      simp [Box.str]
      omega
  · exact ⟨41, [], fun v X hv => call_3 v o X _ _ h0 fun Y hY => resP_side v l o.a o.b Y (hv.below hY) hF hs, .inl ⟨by decide, rfl⟩⟩
theorem opP_6 (h0 : o.k = 6) : OpProg l t o := by
  have hl := readF_lay hF
  obtain ⟨hf, hid⟩ := lay_few hl
  have hz := lay_size hl
  refine ⟨swapE l o.pane o.a, swapL l o.pane o.a, fun v X hv => call_6 v o X _ _ h0 fun Y hY => swap_prog v l o.pane o.a Y (hv.below hY), ?_⟩
  by_cases hm : o.pane ∈ idsOf l ∧ o.a ∈ idsOf l
  · obtain ⟨e1, e2⟩ := swap_both o.pane o.a hF hm.1 hm.2
    have hL := swap_lay hF hm.1 hm.2
    have hL2 := lay_few hL.1
    refine .inr ⟨e1, t.swap o.pane o.a, by rw [e2, laid_of hL.1], hL.1.sound, hL.1.kinds, hL2.1, by rw [swap_size]; omega, ?_, fun h => by omega, fun h => by omega, fun _ => by rw [hL2.2, hL.2, hid], fun _ _ h => absurd h0 h, fun h => by omega⟩
    rw [if_neg (by omega), swap_box]
    exact ⟨rfl, rfl⟩
  · obtain ⟨e1, e2⟩ := swap_miss o.pane o.a hF hm
    exact .inl ⟨by rw [e1]; decide, e2⟩
theorem opP_7 (h0 : ∀ n : Int, 0 ≤ n → n ≤ 6 → o.k ≠ n) (hb : -9223372036854775808 ≤ o.b ∧ o.b ≤ 9223372036854775807) : OpProg l t o := by
  have hl := readF_lay hF
  obtain ⟨hf, hid⟩ := lay_few hl
  have hz := lay_size hl
  have n0 := h0 0 (by decide) (by decide)
  have n1 := h0 1 (by decide) (by decide)
  have n2 := h0 2 (by decide) (by decide)
  have n3 := h0 3 (by decide) (by decide)
  have n6 := h0 6 (by decide) (by decide)
  by_cases hh : 1 ≤ o.a ∧ o.a ≤ 5
  · have hO := arr_of hF
    have key : ∀ T : Tree, T.kinds → T.idl = t.idl → T.box.w = t.box.w ∧ T.box.h = t.box.h → T.size ≤ 100 → (∀ v X, CellsIn X v l → Calls Try.prog 51 #[v, .int .i64 o.a, .int .i64 o.b] X (ArrAns T X)) → OpProg l t o := fun T hk hi hbx hsz hC => by
      cases hs : T.sound with
      | true =>
        refine ⟨0, laidL T, fun v X hv => call_7 v o X _ _ h0 fun Y hY => (hC v Y (hv.below hY)).mono fun e w' h => by unfold ArrAns at h; rw [if_pos hs] at h; exact h, .inr ⟨rfl, T, rfl, hs, hk, by rw [hi]; exact hf, hsz, by rw [if_neg n3]; exact hbx, fun h => by omega, fun h => by omega, fun h => by omega, fun _ _ _ => hi, fun h => by omega⟩⟩
      | false => exact ⟨44, [], fun v X hv => call_7 v o X _ _ h0 fun Y hY => (hC v Y (hv.below hY)).mono fun e w' h => by unfold ArrAns at h; rw [if_neg (by rw [hs]; decide)] at h; exact h, .inl ⟨by decide, rfl⟩⟩
    match hi : idsOf l, hO.some with
    | [], h1 => simp at h1
    | [z], _ => exact key t hl.kinds rfl ⟨rfl, rfl⟩ (by omega) fun v X hv => arrP_one v l o.a o.b X hv hF hh (by rw [hi]; rfl)
    | z0 :: z1 :: zs, _ =>
      have hfew := hO.few
      rw [hi] at hfew
      have hlz : (z1 :: zs).length ≤ 31 := by simp at hfew ⊢; omega
      refine key (arrT o.a z0 (z1 :: zs) ⟨0, 0, t.box.w, t.box.h⟩ o.b) (arr_kindsF _ _ _ _ _) ?_ ?_ (arr_size _ _ _ _ _ (by simp) hlz) fun v X hv => arrP_many v l o.a o.b X hv hF hh hb z0 (z1 :: zs) hi (by simp)
      · rw [arr_ids _ _ _ _ _ (by simp) hlz, hid, hi]
      · rw [arr_box]
        exact ⟨rfl, rfl⟩
  · exact ⟨1, [], fun v X hv => call_7 v o X _ _ h0 fun Y hY => arrP_arg v l o.a o.b Y (hv.below hY) hF hh, .inl ⟨by decide, rfl⟩⟩
theorem opP_4 (h0 : o.k = 4) (hn : -9223372036854775808 ≤ o.size ∧ o.size ≤ 9223372036854775807) : OpProg l t o := by
  have hl := readF_lay hF
  obtain ⟨hf, hid⟩ := lay_few hl
  have hz := lay_size hl
  by_cases hk : o.kind = 2 ∨ o.kind = 3
  · cases hp : t.path o.pane with
    | none => exact ⟨42, [], fun v X hv => call_4 v o X 0 _ _ h0 fun Y hY => pushP_err v o.pane o.kind o.size 42 Y (near_pane v l o.pane o.kind Y (hv.below hY) hF hk hp) (by decide), .inl ⟨by decide, rfl⟩⟩
    | some ps =>
      have hpl := path_len t o.pane ps hp
      cases hn' : nearF o.kind t ps with
      | none => exact ⟨47, [], fun v X hv => call_4 v o X 0 _ _ h0 fun Y hY => pushP_err v o.pane o.kind o.size 47 Y (near_alone v l o.pane o.kind Y (hv.below hY) hF hk ps hp (by omega) hn') (by decide), .inl ⟨by decide, rfl⟩⟩
      | some r =>
        obtain ⟨qs, a⟩ := r
        obtain ⟨b, ts, hsub, ha⟩ := near_sub o.kind ps t qs a hn'
        obtain ⟨s1, s2, s3⟩ := sub_sound qs t _ hsub hl.sound hl.kinds
        obtain ⟨rs, c, got, hT, hG, hi⟩ := push_both b o.kind ts a o.size s1 s2 (by omega) ha
        have hsm := put_same qs t _ _ hsub (same_split b o.kind ts rs hT.same)
        have hi2 := put_idsF qs t (.split b o.kind ts) (.split b o.kind rs) hsub hi
        exact ⟨0, laidL (t.putAt qs (.split b o.kind rs)), fun v X hv => call_4 v o X _ _ _ h0 fun Y hY => pushP_ok v o.pane o.kind o.size Y (near_found v l o.pane o.kind Y (hv.below hY) hF hk ps hp (by omega) qs a hn') hl.sound hl.kinds (by omega) hsub hT hn, .inr ⟨rfl, _, rfl, hsm.sound hl.sound, hsm.kinds hl.kinds, by rw [hi2]; exact hf, by rw [hsm.size]; omega, by rw [if_neg (by omega), hsm.box]; exact ⟨rfl, rfl⟩, fun h => by omega, fun h => by omega, fun h => by omega, fun _ _ _ => hi2, fun h => by omega⟩⟩
  · exact ⟨1, [], fun v X hv => call_4 v o X 0 _ _ h0 fun Y hY => pushP_err v o.pane o.kind o.size 1 Y (near_arg v l o.pane o.kind Y (hv.below hY) hF hk) (by decide), .inl ⟨by decide, rfl⟩⟩
theorem opP_5 (h0 : o.k = 5) : OpProg l t o := by
  have hl := readF_lay hF
  obtain ⟨hf, hid⟩ := lay_few hl
  have hz := lay_size hl
  by_cases hk : o.kind = 2 ∨ o.kind = 3
  · cases hp : t.path o.pane with
    | none => exact ⟨42, [], fun v X hv => call_5 v o X _ _ h0 fun Y hY => setP_err v o.pane o.kind o.size 42 Y (near_pane v l o.pane o.kind Y (hv.below hY) hF hk hp) (by decide), .inl ⟨by decide, rfl⟩⟩
    | some ps =>
      have hpl := path_len t o.pane ps hp
      cases hn' : nearF o.kind t ps with
      | none => exact ⟨47, [], fun v X hv => call_5 v o X _ _ h0 fun Y hY => setP_err v o.pane o.kind o.size 47 Y (near_alone v l o.pane o.kind Y (hv.below hY) hF hk ps hp (by omega) hn') (by decide), .inl ⟨by decide, rfl⟩⟩
      | some r =>
        obtain ⟨qs, a⟩ := r
        obtain ⟨b, ts, hsub, ha⟩ := near_sub o.kind ps t qs a hn'
        obtain ⟨s1, s2, s3⟩ := sub_sound qs t _ hsub hl.sound hl.kinds
        obtain ⟨s, hs⟩ : ∃ s, ts[a]? = some s := ⟨_, List.getElem?_eq_getElem ha⟩
        cases hsd : sideB o.size with
        | false => exact ⟨41, [], fun v X hv => call_5 v o X _ _ h0 fun Y hY => setP_side v o.pane o.kind o.size Y (near_found v l o.pane o.kind Y (hv.below hY) hF hk ps hp (by omega) qs a hn') hsd, .inl ⟨by decide, rfl⟩⟩
        | true =>
          have hnb : 1 ≤ o.size ∧ o.size ≤ 1000 := by
            simp only [sideB, Bool.and_eq_true, decide_eq_true_eq] at hsd
            exact hsd
          obtain ⟨E, hE⟩ : ∃ x, s.box.ext o.kind = x := ⟨_, rfl⟩
          have hEb : 1 ≤ E ∧ E ≤ 1000 := by
            have hs1 := s1
            unfold Tree.sound at hs1
            simp only [Bool.and_eq_true, decide_eq_true_eq] at hs1
            have hx := soundAll_at ts b o.kind a s hs hs1.2.1
            simp only [Bool.and_eq_true, decide_eq_true_eq] at hx
            have h := sides_ext s.box o.kind (s.sound_sides hx.1)
            rw [hE] at h
            omega
          have hfin : ∀ rs : List Tree, SameL b o.kind ts rs → idls rs = idls ts → (∀ v X, CellsIn X v l → Calls Try.prog 50 #[v, .int .i64 o.pane, .int .i64 o.kind, .int .i64 o.size] X (Ans2 0 (laidL (t.putAt qs (.split b o.kind rs))) X)) → OpProg l t o := fun rs hSa hi hC => by
            have hsm := put_same qs t _ _ hsub (same_split b o.kind ts rs hSa)
            have hi2 := put_idsF qs t (.split b o.kind ts) (.split b o.kind rs) hsub hi
            exact ⟨0, laidL (t.putAt qs (.split b o.kind rs)), fun v X hv => call_5 v o X _ _ h0 fun Y hY => hC v Y (hv.below hY), .inr ⟨rfl, _, rfl, hsm.sound hl.sound, hsm.kinds hl.kinds, by rw [hi2]; exact hf, by rw [hsm.size]; omega, by rw [if_neg (by omega), hsm.box]; exact ⟨rfl, rfl⟩, fun h => by omega, fun h => by omega, fun h => by omega, fun _ _ _ => hi2, fun h => by omega⟩⟩
          by_cases hca : min a (ts.length - 2) = a
          · obtain ⟨rs, c, got, hT, hG, hi⟩ := push_both b o.kind ts a (o.size - E) s1 s2 (by omega) ha
            exact hfin rs hT.same hi fun v X hv => setP_ok0 v o.pane o.kind o.size X (near_found v l o.pane o.kind X hv hF hk ps hp (by omega) qs a hn') hl.sound hl.kinds (by omega) hsub hs hnb E hE hEb hT (hT.mid.trans hca)
          · obtain ⟨rs, c, got, hT, hG, hi⟩ := push_both b o.kind ts a (-(o.size - E)) s1 s2 (by omega) ha
            exact hfin rs hT.same hi fun v X hv => setP_ok1 v o.pane o.kind o.size X (near_found v l o.pane o.kind X hv hF hk ps hp (by omega) qs a hn') hl.sound hl.kinds (by omega) hsub hs hnb E hE hEb hT (fun e => hca (hT.mid.symm.trans e))
  · exact ⟨1, [], fun v X hv => call_5 v o X _ _ h0 fun Y hY => setP_err v o.pane o.kind o.size 1 Y (near_arg v l o.pane o.kind Y (hv.below hY) hF hk) (by decide), .inl ⟨by decide, rfl⟩⟩

theorem opP_any (ho : o.Ok) : OpProg l t o := by
  by_cases h0 : o.k = 0
  · exact opP_0 hF o h0
  by_cases h1 : o.k = 1
  · exact opP_1 hF o h1
  by_cases h2 : o.k = 2
  · exact opP_2 hF o h2
  by_cases h3 : o.k = 3
  · exact opP_3 hF o h3
  by_cases h4 : o.k = 4
  · exact opP_4 hF o h4 ho.size
  by_cases h5 : o.k = 5
  · exact opP_5 hF o h5
  by_cases h6 : o.k = 6
  · exact opP_6 hF o h6
  · exact opP_7 hF o (fun n a1 a2 e => by omega) ho.b
end

end Go.Proofs.Ytnepemlagnnngaa
