/-
  The queue: own: whose the last bytes are.
-/
import Derived.Test.YtkpnolkbheoocaaQLook
import Derived.WalkKit
import Derived.Deep.RegionLaw
namespace Go.Proofs.Ytkpnolkbheoocaa
open Go.RowKit
set_option linter.unusedVariables false
set_option maxRecDepth 100000

theorem infoPc : (Try.prog.info? 64).map (fun i => (i.zero, i.size, i.bytes)) = some (some (.agg #[.int .i64 0, .int .i64 0, .int .i64 0]), 3, 24) := by kernel_rfl
theorem underPcs : Try.prog.underlying 51 = some (.slice 64) := by kernel_rfl

/-- What own leaves: the pieces behind it. -/
def ownP (ps : List Pc) (o : Int × Int) (n : Nat) : List Pc :=
  match ps.getLast? with
  | some p => if p.o = o then ps.set (ps.length - 1) ⟨o, p.n + n⟩ else ps ++ [⟨o, n⟩]
  | none => [⟨o, n⟩]
theorem own_spread (ps : List Pc) (o : Int × Int) (n : Nat) : spread Pc.o Pc.n (ownP ps o n) = spread Pc.o Pc.n ps ++ List.replicate n o := by
  have h1 : spread Pc.o Pc.n [⟨o, n⟩] = List.replicate n o := by simp [spread]
  unfold ownP
  rcases List.eq_nil_or_concat ps with rfl | ⟨l, p, rfl⟩
  · exact h1
  · simp only [List.concat_eq_append, List.getLast?_append, List.getLast?_singleton, Option.some_or]
    split
    · rename_i hp
      rw [List.length_append, List.length_singleton, Nat.add_sub_cancel, List.set_append_right _ _ (Nat.le_refl _), Nat.sub_self, List.set_cons_zero, spread_append, spread_append, List.append_assoc]
      congr 1
      show List.replicate (p.n + n) o ++ [] = (List.replicate p.n p.o ++ []) ++ List.replicate n o
      rw [hp, List.append_nil, List.append_nil, List.replicate_append_replicate]
    · rw [spread_append _ _ (l ++ [p]), h1]
theorem own_pos {ps : List Pc} (h : ∀ p ∈ ps, 0 < p.n) (o : Int × Int) {n : Nat} (hn : 0 < n) : ∀ p ∈ ownP ps o n, 0 < p.n := by
  intro x hx
  unfold ownP at hx
  split at hx
  · split at hx
    · rcases List.mem_or_eq_of_mem_set hx with hx | rfl
      · exact h x hx
      · show 0 < _ + n
        omega
    · rcases List.mem_append.1 hx with hx | hx
      · exact h x hx
      · rw [List.mem_singleton.1 hx]
        exact hn
  · rw [List.mem_singleton.1 hx]
    exact hn

theorem raw_setPc {w : World} {b : Nat} {vb : Value} {lim : Nat} {cl : Bool} {bs : List UInt8} {ps : List Pc} {g o n cap : Nat} (h : QRaw w b vb (.slice (some ⟨g, o, none⟩) n cap) lim cl bs ps) (hn : ps.length = n) {i : Nat} {p : Pc} (hi : ps[i]? = some p) (m : Nat) :
    QRaw (w.setCell ⟨g, o + i * 3 + 2, none⟩ (.int .i64 (m : Int))) b vb (.slice (some ⟨g, o, none⟩) n cap) lim cl bs (ps.set i ⟨p.o, m⟩) ∧ But [g] w (w.setCell ⟨g, o + i * 3 + 2, none⟩ (.int .i64 (m : Int))) := by
  subst hn
  have hlt := (List.getElem?_eq_some_iff.1 hi).1
  have hr := h.pieces.set (j := i * 3 + 2) (by omega) (.int .i64 (m : Int))
  rw [pcs_set ps i p hi m, ← Nat.add_assoc] at hr
  refine ⟨⟨?_, ?_, ?_⟩, But.setCell (But.refl _ _) (.inl (by simp)) _⟩
  · rw [Below.heap_setCell _ _ _ _ (fun e => h.bp (by rw [e]; rfl))]
    exact h.cells
  · exact h.bytes.keep fun k hk => Below.heap_setCell _ _ _ _ (fun e => h.ap hk (by rw [e]; rfl))
  · rw [List.length_set]
    exact hr

/-- What own leaves in memory. -/
def Owned (w w' : World) (b : Nat) (vb vp : Value) (lim : Nat) (cl : Bool) (bs : List UInt8) (ps : List Pc) : Prop :=
  ∃ vp', QRaw w' b vb vp' lim cl bs ps ∧ But (foot b vb vp) w w' ∧ (∀ k, vp'.ownBlock = some k → vp.ownBlock = some k ∨ w.heap.size ≤ k)

set_option maxHeartbeats 2000000 in
theorem own_same {w : World} {b : Nat} {vb vp : Value} {lim : Nat} {cl : Bool} {bs : List UInt8} {ps : List Pc} {p t : Int} {n m : Nat} (h : QRaw w b vb vp lim cl bs (ps ++ [⟨(p, t), m⟩])) (hf : ps.length ≤ 1000000) (hm : m ≤ 1000000) (hn : n ≤ 1000000) :
    Calls Try.prog 43 #[.pointer (some ⟨b, 0, none⟩), .agg #[.int .i64 p, .int .i64 t], .int .i64 (n : Int)] w fun x w' => x = .returned (.tuple #[]) ∧ Owned w w' b vb vp lim cl bs (ps ++ [⟨(p, t), m + n⟩]) := by
  obtain ⟨K, hK⟩ : ∃ K, ps.length = K := ⟨_, rfl⟩
  have hlen : (ps ++ [⟨(p, t), m⟩] : List Pc).length = K + 1 := by simp [hK]
  obtain ⟨ad, cap, rfl, hc1, hc2, hnil, hsome⟩ := h.pieces.shape
  rw [hlen] at h hc1 hnil hsome ⊢
  cases ad with
  | none => exact absurd (hnil rfl).1 (by omega)
  | some a =>
    obtain ⟨g, o, rfl, hown, hg, hcell⟩ := hsome a rfl
    have hb := h.below ((Below.refl _ w).alloc (Nat.le_refl _) (.cells #[.int .i64 p, .int .i64 t] 62))
    have hlast : (ps ++ [⟨(p, t), m⟩] : List Pc)[K]? = some ⟨(p, t), m⟩ := by rw [← hK]; simp
    obtain ⟨g0, g1, g2⟩ := pcs_get hlast
    obtain ⟨hc, hfz⟩ := hcell (w.alloc (.cells #[.int .i64 p, .int .i64 t] 62)) (Below.heap_alloc _ _ _ hg)
    have q0 : (w.alloc (.cells #[.int .i64 p, .int .i64 t] 62)).cell? ⟨g, o + K * 3, none⟩ = some (.int .i64 p) := hc _ _ g0
    have q1 : (w.alloc (.cells #[.int .i64 p, .int .i64 t] 62)).cell? ⟨g, o + K * 3 + 1, none⟩ = some (.int .i64 t) := by rw [Nat.add_assoc]; exact hc _ _ g1
    have q2 : (w.alloc (.cells #[.int .i64 p, .int .i64 t] 62)).cell? ⟨g, o + K * 3 + 2, none⟩ = some (.int .i64 (m : Int)) := by rw [Nat.add_assoc]; exact hc _ _ g2
    have c3 := hb.c3
    have HS := raw_setPc h hlen hlast (m + n)
    rw [← hK, List.set_append_right _ _ (Nat.le_refl _), Nat.sub_self, List.set_cons_zero, hK] at HS
    have HF : Hid (Owned w ((w.setCell ⟨g, o + K * 3 + 2, none⟩ (.int .i64 ((m : Int) + (n : Int)))).alloc (.cells #[.int .i64 p, .int .i64 t] 62)).drew b vb (.slice (some ⟨g, o, none⟩) (K + 1) cap) lim cl bs (ps ++ [⟨(p, t), m + n⟩])) := by
      rw [Int.natCast_add] at HS
      refine ⟨_, (HS.1.below ((Below.refl _ _).alloc (Nat.le_refl _) _)).drew, ?_, fun k hk => .inl hk⟩
      exact ((But.setCell (But.refl _ _) (.inl (foot_mem.2 (.inr (.inr rfl)))) _).alloc _).drewN 1
    have d1 : ((K : Int) + 1 - 1) = (K : Int) := by omega
    clear h hb hc hcell HS hlast g0 g1 g2 hnil hsome hlen
    go_enter Try.func43, Try.ntmps43
    go_wp2
    go_region
    go_wp2
    all_goals ((try simp only [Exit.inBlock, Exit.then]); refine bodyPost_ret (results_none rfl _ _ _) rfl ?_)
    all_goals exact ⟨rfl, HF.out⟩

/-- A row of pieces that grew, put in its place. -/
theorem QRaw.regrow {w w2 : World} {b : Nat} {vb vp vp' : Value} {lim : Nat} {cl : Bool} {bs : List UInt8} {ps ps' : List Pc} {n' : Nat} (h : QRaw w b vb vp lim cl bs ps) (hg : But vp.ownBlock.toList w w2) (hr : Row w2 64 3 vp' n' (pcsV ps')) (hn : n' = ps'.length) :
    QRaw (w2.setCell ⟨b, 3, none⟩ vp') b vb vp' lim cl bs ps' ∧ But (foot b vb vp) w (w2.setCell ⟨b, 3, none⟩ vp') := by
  subst hn
  have hlt := h.lt
  have hb2 : w2.heap[b]? = some (.cells #[.int .i64 (lim : Int), .bool cl, vb, vp] 53 (0, 0)) := (hg.block b (hlt b (by simp [foot])) (fun hh => h.bp (by simpa using hh))).trans h.cells
  refine ⟨⟨(set_cells hb2 _).2.2, h.bytes.keep fun g hh => ?_, hr.keep fun g hh => Below.heap_setCell _ _ _ _ (fun e => ?_)⟩, But.setCell (hg.mono fun k _ hk => foot_mem.2 (.inr (.inr (by simpa using hk)))) (.inl (by simp [foot])) _⟩
  · rw [Below.heap_setCell _ _ _ _ (fun e => h.bb (Eq.subst (motive := fun x => vb.ownBlock = some x) (show g = b from e) hh))]
    exact hg.block g (h.bytes.lt g hh) (fun h3 => h.ap hh (by simpa using h3))
  · subst e
    obtain ⟨cur, hc⟩ := hr.block hh
    have := hc.symm.trans hb2
    simp at this
theorem owned_more {w X w2 : World} {b : Nat} {vb vp vp' : Value} {lim : Nat} {cl : Bool} {bs : List UInt8} {ps ps' : List Pc} {n' : Nat} (h : QRaw w b vb vp lim cl bs ps) (hX : Below w.heap.size w X) (hr : Row w2 64 3 vp' n' (pcsV ps')) (hn : n' = ps'.length) (hg : Grown X w2 vp vp' vp.ownBlock.toList) :
    Owned w (w2.setCell ⟨b, 3, none⟩ vp') b vb vp lim cl bs ps' := by
  have h1 := (h.below hX).regrow hg.but hr hn
  refine ⟨vp', h1.1, But.trans (.of hX) h1.2, fun k hk => ?_⟩
  rcases hg.own with e | e
  · exact .inl (e ▸ hk)
  · rw [e] at hk
    cases hk
    exact .inr hX.size
theorem QRaw.ahead {w X w2 : World} {b : Nat} {vb vp : Value} {lim : Nat} {cl : Bool} {bs : List UInt8} {ps : List Pc} {S : List Nat} (h : QRaw w b vb vp lim cl bs ps) (hX : Below w.heap.size w X) (hg : But S X w2) (hS : b ∉ S) :
    w2.cell? ⟨b, 0, none⟩ = some (.int .i64 (lim : Int)) ∧ w2.cell? ⟨b, 1, none⟩ = some (.bool cl) ∧ w2.cell? ⟨b, 2, none⟩ = some vb ∧ w2.cell? ⟨b, 3, none⟩ = some vp ∧ ∀ o, w2.frozen? ⟨b, o, none⟩ = false := by
  have h1 := (hg.block b ((h.below hX).lt b (by simp [foot])) hS).trans (h.below hX).cells
  exact ⟨cell_atT h1 0, cell_atT h1 1, cell_atT h1 2, cell_atT h1 3, fun o => free_atT h1 o⟩
theorem QRaw.bps {w : World} {b : Nat} {vb vp : Value} {lim : Nat} {cl : Bool} {bs : List UInt8} {ps : List Pc} (h : QRaw w b vb vp lim cl bs ps) : b ∉ vp.ownBlock.toList := fun hh => h.bp (by simpa using hh)
theorem QRaw.bbs {w : World} {b : Nat} {vb vp : Value} {lim : Nat} {cl : Bool} {bs : List UInt8} {ps : List Pc} (h : QRaw w b vb vp lim cl bs ps) : b ∉ vb.ownBlock.toList := fun hh => h.bb (by simpa using hh)
theorem Owned.drew {w w2 : World} {b : Nat} {vb vp : Value} {lim : Nat} {cl : Bool} {bs : List UInt8} {ps : List Pc} (h : Owned w w2 b vb vp lim cl bs ps) : Owned w w2.drew b vb vp lim cl bs ps := by
  obtain ⟨vp', h1, h2, h3⟩ := h
  exact ⟨vp', h1.drew, h2.drewN 1, h3⟩

set_option maxHeartbeats 2000000 in
theorem own_other {w : World} {b : Nat} {vb vp : Value} {lim : Nat} {cl : Bool} {bs : List UInt8} {ps : List Pc} {p t p' t' : Int} {n m : Nat} (h : QRaw w b vb vp lim cl bs (ps ++ [⟨(p', t'), m⟩])) (hne : ¬ (p' = p ∧ t' = t)) (hf : ps.length ≤ 1000000) (hn : n ≤ 1000000) :
    Calls Try.prog 43 #[.pointer (some ⟨b, 0, none⟩), .agg #[.int .i64 p, .int .i64 t], .int .i64 (n : Int)] w fun x w' => x = .returned (.tuple #[]) ∧ Owned w w' b vb vp lim cl bs (ps ++ [⟨(p', t'), m⟩] ++ [⟨(p, t), n⟩]) := by
  obtain ⟨K, hK⟩ : ∃ K, ps.length = K := ⟨_, rfl⟩
  have hlen : (ps ++ [⟨(p', t'), m⟩] : List Pc).length = K + 1 := by simp [hK]
  obtain ⟨ad, cap, rfl, hc1, hc2, hnil, hsome⟩ := h.pieces.shape
  rw [hlen] at h hc1 hnil hsome ⊢
  cases ad with
  | none => exact absurd (hnil rfl).1 (by omega)
  | some a =>
    obtain ⟨g, o, rfl, hown, hg, hcell⟩ := hsome a rfl
    have hlast : (ps ++ [⟨(p', t'), m⟩] : List Pc)[K]? = some ⟨(p', t'), m⟩ := by rw [← hK]; simp
    obtain ⟨g0, g1, g2⟩ := pcs_get hlast
    obtain ⟨hc, hfz⟩ := hcell (w.alloc (.cells #[.int .i64 p, .int .i64 t] 62)) (Below.heap_alloc _ _ _ hg)
    have q0 : (w.alloc (.cells #[.int .i64 p, .int .i64 t] 62)).cell? ⟨g, o + K * 3, none⟩ = some (.int .i64 p') := hc _ _ g0
    have q1 : (w.alloc (.cells #[.int .i64 p, .int .i64 t] 62)).cell? ⟨g, o + K * 3 + 1, none⟩ = some (.int .i64 t') := by rw [Nat.add_assoc]; exact hc _ _ g1
    have c3 := (h.below ((Below.refl _ w).alloc (Nat.le_refl _) (.cells #[.int .i64 p, .int .i64 t] 62))).c3
    have c3b : ((w.alloc (.cells #[.int .i64 p, .int .i64 t] 62)).alloc (.cells #[.int .i64 p, .int .i64 t, .int .i64 (n : Int)] 64)).cell? ⟨b, 3, none⟩ = some (.slice (some ⟨g, o, none⟩) (K + 1) cap) := (h.below (heap_two w _ _).2.2.2).c3
    have HR : Hid (QRaw w b vb (.slice (some ⟨g, o, none⟩) (K + 1) cap) lim cl bs (ps ++ [⟨(p', t'), m⟩])) := h
    have HL : Hid ((ps ++ [⟨(p', t'), m⟩] : List Pc).length = K + 1) := hlen
    have d1 : ((K : Int) + 1 - 1) = (K : Int) := by omega
    have HB : Hid (∀ X, Below w.heap.size w X → Row X 64 3 (.slice (some ⟨g, o, none⟩) (K + 1) cap) (K + 1) (pcsV (ps ++ [⟨(p', t'), m⟩]))) := fun X hX => by
      have h9 := (h.below hX).pieces
      rw [hlen] at h9
      exact h9
    clear h hc hcell hlast g0 g1 g2 hnil hsome hlen
    go_enter Try.func43, Try.ntmps43
    go_wp2
    by_cases hp : p' = p
    · have ht : ¬ t' = t := fun e => hne ⟨hp, e⟩
      subst hp
      go_region
      go_wp2_with fail
      go_region_law (refine step_append_row _ rfl _ _ _ _ rfl underPcs infoPc rfl (v := .slice (some ⟨g, o, none⟩) (K + 1) cap) (by simp [Act.eval]) (u := .slice (some ⟨w.heap.size + 1, 0, none⟩) 1 1) (by simp [Act.eval]) (m := 1) (news := pcV ⟨(p', t), n⟩) (HB.out _ (heap_two w _ _).2.2.2.drew.drew) (Src.block underPcs _ _ _ _ 3 (heap_two w _ _).2.1 rfl rfl) (by omega) (by unfold maxLen; omega) ?_; intro vp' w2 hrow hgrw; have HO : Hid (Owned w (w2.setCell ⟨b, 3, none⟩ vp') b vb (.slice (some ⟨g, o, none⟩) (K + 1) cap) lim cl bs (ps ++ [⟨(p', t'), m⟩] ++ [⟨(p', t), n⟩])) := owned_more HR.out (heap_two w _ _).2.2.2.drew.drew (by rw [pcs_snoc]; exact hrow.out) (by rw [List.length_append, HL.out]; rfl) hgrw.out; obtain ⟨_, _, _, e3, ef⟩ := HR.out.ahead (heap_two w _ _).2.2.2.drew.drew hgrw.out.but HR.out.bps; obtain ⟨ad', cap', rfl, -, -, -, -⟩ := hrow.out.shape; clear hrow hgrw)
      go_wp2
      all_goals go_end0
      all_goals exact ⟨rfl, HO.out⟩
    · go_region
      go_wp2_with fail
      go_region_law (refine step_append_row _ rfl _ _ _ _ rfl underPcs infoPc rfl (v := .slice (some ⟨g, o, none⟩) (K + 1) cap) (by simp [Act.eval]) (u := .slice (some ⟨w.heap.size + 1, 0, none⟩) 1 1) (by simp [Act.eval]) (m := 1) (news := pcV ⟨(p, t), n⟩) (HB.out _ (heap_two w _ _).2.2.2.drew.drew) (Src.block underPcs _ _ _ _ 3 (heap_two w _ _).2.1 rfl rfl) (by omega) (by unfold maxLen; omega) ?_; intro vp' w2 hrow hgrw; have HO : Hid (Owned w (w2.setCell ⟨b, 3, none⟩ vp') b vb (.slice (some ⟨g, o, none⟩) (K + 1) cap) lim cl bs (ps ++ [⟨(p', t'), m⟩] ++ [⟨(p, t), n⟩])) := owned_more HR.out (heap_two w _ _).2.2.2.drew.drew (by rw [pcs_snoc]; exact hrow.out) (by rw [List.length_append, HL.out]; rfl) hgrw.out; obtain ⟨_, _, _, e3, ef⟩ := HR.out.ahead (heap_two w _ _).2.2.2.drew.drew hgrw.out.but HR.out.bps; obtain ⟨ad', cap', rfl, -, -, -, -⟩ := hrow.out.shape; clear hrow hgrw)
      go_wp2
      all_goals go_end0
      all_goals exact ⟨rfl, HO.out⟩

theorem own_first {w : World} {b : Nat} {vb vp : Value} {lim : Nat} {cl : Bool} {bs : List UInt8} {p t : Int} {n : Nat} (h : QRaw w b vb vp lim cl bs []) (hn : n ≤ 1000000) :
    Calls Try.prog 43 #[.pointer (some ⟨b, 0, none⟩), .agg #[.int .i64 p, .int .i64 t], .int .i64 (n : Int)] w fun x w' => x = .returned (.tuple #[]) ∧ Owned w w' b vb vp lim cl bs [⟨(p, t), n⟩] := by
  obtain ⟨ad, cap, rfl, -, -, -, -⟩ := h.pieces.shape
  have HR : Hid (QRaw w b vb (.slice ad 0 cap) lim cl bs []) := h
  have c3 : (w.alloc (.cells #[.int .i64 p, .int .i64 t] 62)).cell? ⟨b, 3, none⟩ = some (.slice ad 0 cap) := (h.below ((Below.refl _ w).alloc (Nat.le_refl _) _)).c3
  have c3b : ((w.alloc (.cells #[.int .i64 p, .int .i64 t] 62)).alloc (.cells #[.int .i64 p, .int .i64 t, .int .i64 (n : Int)] 64)).cell? ⟨b, 3, none⟩ = some (.slice ad 0 cap) := (h.below (heap_two w _ _).2.2.2).c3
  have HB : Hid (∀ X, Below w.heap.size w X → Row X 64 3 (.slice ad 0 cap) 0 []) := fun X hX => (h.below hX).pieces
  show Calls _ _ _ _ (fun x w' => x = .returned (.tuple #[]) ∧ Owned w w' b vb (.slice ad 0 cap) lim cl bs [⟨(p, t), n⟩])
  clear h
  go_enter Try.func43, Try.ntmps43
  go_wp2
  go_region
  go_wp2_with fail
  go_region_law (refine step_append_row _ rfl _ _ _ _ rfl underPcs infoPc rfl (v := .slice ad 0 cap) (by simp [Act.eval]) (u := .slice (some ⟨w.heap.size + 1, 0, none⟩) 1 1) (by simp [Act.eval]) (m := 1) (news := pcV ⟨(p, t), n⟩) (HB.out _ (heap_two w _ _).2.2.2.drew.drew) (Src.block underPcs _ _ _ _ 3 (heap_two w _ _).2.1 rfl rfl) (by omega) (by unfold maxLen; omega) ?_; intro vp' w2 hrow hgrw; have HO : Hid (Owned w (w2.setCell ⟨b, 3, none⟩ vp') b vb (.slice ad 0 cap) lim cl bs [⟨(p, t), n⟩]) := owned_more HR.out (heap_two w _ _).2.2.2.drew.drew hrow.out rfl hgrw.out; obtain ⟨_, _, _, e3, ef⟩ := HR.out.ahead (heap_two w _ _).2.2.2.drew.drew hgrw.out.but HR.out.bps; obtain ⟨ad', cap', rfl, -, -, -, -⟩ := hrow.out.shape; clear hrow hgrw)
  go_wp2
  all_goals go_end0
  all_goals exact ⟨rfl, HO.out⟩

/-- own, of all pieces. -/
theorem own_any {w : World} {b : Nat} {vb vp : Value} {lim : Nat} {cl : Bool} {bs : List UInt8} {ps : List Pc} {o : Int × Int} {n : Nat} (h : QRaw w b vb vp lim cl bs ps) (hf : ps.length ≤ 1000000) (hm : ∀ p ∈ ps, p.n ≤ 1000000) (hn : n ≤ 1000000) :
    Calls Try.prog 43 #[.pointer (some ⟨b, 0, none⟩), .agg #[.int .i64 o.1, .int .i64 o.2], .int .i64 (n : Int)] w fun x w' => x = .returned (.tuple #[]) ∧ Owned w w' b vb vp lim cl bs (ownP ps o n) := by
  obtain ⟨p, t⟩ := o
  rcases List.eq_nil_or_concat ps with rfl | ⟨l, ⟨⟨p', t'⟩, m⟩, rfl⟩
  · exact own_first h hn
  · simp only [List.concat_eq_append] at h hf hm ⊢
    have hl : l.length ≤ 1000000 := by rw [List.length_append] at hf; omega
    by_cases hp : p' = p ∧ t' = t
    · obtain ⟨rfl, rfl⟩ := hp
      have e : ownP (l ++ [⟨(p', t'), m⟩]) (p', t') n = l ++ [⟨(p', t'), m + n⟩] := by
        unfold ownP
        simp [List.set_append_right]
      rw [e]
      exact own_same h hl (hm ⟨(p', t'), m⟩ (by simp)) hn
    · have e : ownP (l ++ [⟨(p', t'), m⟩]) (p, t) n = l ++ [⟨(p', t'), m⟩] ++ [⟨(p, t), n⟩] := by
        unfold ownP
        simp [hp]
      rw [e]
      exact own_other h hp hl hn

end Go.Proofs.Ytkpnolkbheoocaa
