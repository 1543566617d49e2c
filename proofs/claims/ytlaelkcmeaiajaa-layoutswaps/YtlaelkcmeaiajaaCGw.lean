/-
  Layouts: the document's grown, walked.
-/
import Derived.Test.YtlaelkcmeaiajaaCRf
import Derived.BigQuiet
namespace Go.Proofs.Ytlaelkcmeaiajaa
open Go.RowKit
set_option linter.unusedVariables false
set_option maxRecDepth 100000

theorem In_set {n : Node} {sl : Value} {fp : List Nat} {W : World} {g : Nat} (h : n.In W sl fp) (hg : ∀ q ∈ fp, q ≠ g) (o : Nat) (v : Value) : n.In (W.setCell ⟨g, o, none⟩ v) sl fp := h.keep fun q hq => Below.heap_setCell _ _ _ _ (hg q hq)

theorem GrowTo.keep {l : List CellV} {c : CellV} {r0 : List CellV} {w : World} {sl : Value} {ts : List Node} {pre r : List CellV} {wr w2 : World} (h : GrowTo l c r0 w sl ts pre r wr) (hb : Below wr.heap.size wr w2) : GrowTo l c r0 w sl ts pre r w2 := by
  obtain ⟨cs, fs, h1, h2, h3, h4⟩ := h.row
  exact ⟨(hb.block _ (lt_of_block h.res)).trans h.res, (hb.block _ (lt_of_block h.cel)).trans h.cel, (hb.block _ (lt_of_block h.nod)).trans h.nod, ⟨cs, fs, own_kept5 h1 fun q hq => hb.block q (own_lt5 h1 q hq), h2.below hb, h3, h4⟩, h.eq, h.at_, below_step h.below hb, h.len⟩

def set5 (W : World) (g : Nat) (a b c d e : Value) : World := ((((W.setCell ⟨g, 0, none⟩ a).setCell ⟨g, 1, none⟩ b).setCell ⟨g, 2, none⟩ c).setCell ⟨g, 3, none⟩ d).setCell ⟨g, 4, none⟩ e
theorem set5_block (W : World) (g : Nat) (a b c d e : Value) (q : Nat) (hq : q ≠ g) : (set5 W g a b c d e).heap[q]? = W.heap[q]? :=
  (Below.heap_setCell _ _ _ _ hq).trans ((Below.heap_setCell _ _ _ _ hq).trans ((Below.heap_setCell _ _ _ _ hq).trans ((Below.heap_setCell _ _ _ _ hq).trans (Below.heap_setCell _ _ _ _ hq))))
theorem set5_below {W0 W : World} (h : Below W0.heap.size W0 W) (g : Nat) (hg : W0.heap.size ≤ g) (a b c d e : Value) : Below W0.heap.size W0 (set5 W g a b c d e) :=
  below_grown (below_grown (below_grown (below_grown (below_grown h (grownBy_set _ _ _ _) hg) (grownBy_set _ _ _ _) hg) (grownBy_set _ _ _ _) hg) (grownBy_set _ _ _ _) hg) (grownBy_set _ _ _ _) hg
theorem GrowTo.fin {l : List CellV} {c : CellV} {r0 : List CellV} {w : World} {sa : Option Addr} {sn sc : Nat} {ts : List Node} {pre r : List CellV} {wr : World} (h : GrowTo l c r0 w (.slice sa sn sc) ts pre r wr) (hr : growAllF c.depth r = ([], r)) (j : Nat) (hj : pre.length = j) (v0 v1 v2 v3 v4 : Value) :
    GrowGood l c r0 w (.returned (.tuple #[.agg #[.int .i64 c.kind, .int .i64 c.w, .int .i64 c.h, .int .i64 c.p, .slice sa sn sc], .int .i64 j])) (set5 wr w.heap.size v0 v1 v2 v3 v4) := by
  obtain ⟨cs, fs, h1, h2, h3, h4⟩ := h.row
  have hd := h.done hr
  refine ⟨sa, sn, sc, (Value.slice sa sn sc).ownBlock.toList ++ fs, pre, ?_, ?_, ?_, h3, fun q hq => by have := h4 q hq; omega, set5_below h.below _ (Nat.le_refl _) _ _ _ _ _⟩
  · rw [hd, hj]
    rfl
  · rw [hd]
    exact h.at_
  · rw [hd]
    have hk : ∀ q ∈ (Value.slice sa sn sc).ownBlock.toList ++ fs, (set5 wr w.heap.size v0 v1 v2 v3 v4).heap[q]? = wr.heap[q]? := fun q hq => set5_block _ _ _ _ _ _ _ q (by have := h4 q hq; omega)
    exact ⟨cs, fs, own_kept5 h1 fun q hq => hk q (List.mem_append_left _ hq), h2.keep fun q hq => hk q (List.mem_append_right _ hq), rfl⟩
structure EndIn (w : World) (c : CellV) (sl : Value) (W : World) : Prop where
  r0 : W.cell? ⟨w.heap.size, 0, none⟩ = some (.int .i64 0)
  r1 : W.cell? ⟨w.heap.size, 1, none⟩ = some (.int .i64 0)
  r2 : W.cell? ⟨w.heap.size, 2, none⟩ = some (.int .i64 0)
  r3 : W.cell? ⟨w.heap.size, 3, none⟩ = some (.int .i64 0)
  r4 : W.cell? ⟨w.heap.size, 4, none⟩ = some (.slice none 0 0)
  f0 : W.frozen? ⟨w.heap.size, 0, none⟩ = false
  f1 : W.frozen? ⟨w.heap.size, 1, none⟩ = false
  f2 : W.frozen? ⟨w.heap.size, 2, none⟩ = false
  f3 : W.frozen? ⟨w.heap.size, 3, none⟩ = false
  f4 : W.frozen? ⟨w.heap.size, 4, none⟩ = false
  n0 : W.cell? ⟨w.heap.size + 1 + 1, 0, none⟩ = some (.int .i64 c.kind)
  n1 : W.cell? ⟨w.heap.size + 1 + 1, 1, none⟩ = some (.int .i64 c.w)
  n2 : W.cell? ⟨w.heap.size + 1 + 1, 2, none⟩ = some (.int .i64 c.h)
  n3 : W.cell? ⟨w.heap.size + 1 + 1, 3, none⟩ = some (.int .i64 c.p)
  n4 : W.cell? ⟨w.heap.size + 1 + 1, 4, none⟩ = some sl
theorem GrowTo.ends {l : List CellV} {c : CellV} {r0 : List CellV} {w : World} {sl : Value} {ts : List Node} {pre r : List CellV} {wr : World} (h : GrowTo l c r0 w sl ts pre r wr) : EndIn w c sl wr :=
  ⟨cell_atL h.res 0, cell_atL h.res 1, cell_atL h.res 2, cell_atL h.res 3, cell_atL h.res 4, free_atL h.res 0, free_atL h.res 1, free_atL h.res 2, free_atL h.res 3, free_atL h.res 4, cell_atL h.nod 0, cell_atL h.nod 1, cell_atL h.nod 2, cell_atL h.nod 3, cell_atL h.nod 4⟩

set_option maxHeartbeats 4000000 in
theorem grown_step (l : List CellV) (pre : List CellV) (c : CellV) (r : List CellV) (b off cap : Nat) (w : World) (hl : l = pre ++ c :: r) (hn : l.length ≤ 1000) (hs : SeenIn w b off l)
    (HI : ∀ pre' c' r' X, r'.length < r.length → l = pre' ++ c' :: r' → Below w.heap.size w X → Calls Try.prog 46 #[.slice (some ⟨b, off, none⟩) l.length cap, .int .i64 (pre' : List CellV).length] X (GrowGood l c' r' X)) :
    Calls Try.prog 46 #[.slice (some ⟨b, off, none⟩) l.length cap, .int .i64 pre.length] w (GrowGood l c r w) := by
  have hget : l[pre.length]? = some c := by rw [hl, List.getElem?_append_right (Nat.le_refl _), Nat.sub_self]; rfl
  have hq : ∀ o, HeadIn (w.alloc o) b (off + pre.length * 7) c := fun o => (hs.below ((Below.refl _ _).alloc (Nat.le_refl _) o)) pre.length c hget
  have HS : Hid (SeenIn w b off l) := hs
  have HG : Hid (∀ pre' c' r' X, r'.length < r.length → l = pre' ++ c' :: r' → Below w.heap.size w X → Calls Try.prog 46 #[.slice (some ⟨b, off, none⟩) l.length cap, .int .i64 (pre' : List CellV).length] X (GrowGood l c' r' X)) := HI
  obtain ⟨n, hnn⟩ : ∃ n, l.length = n := ⟨_, rfl⟩
  obtain ⟨i, hii⟩ : ∃ i, pre.length = i := ⟨_, rfl⟩
  have hlen : i + 1 + r.length = n := by rw [← hnn, ← hii, hl]; simp; omega
  have HL : Hid (l.length = n) := hnn
  have H0 : Hid (GrowTo l c r w (.slice none 0 0) [] (pre ++ [c]) r _) := GrowTo.start l c r (pre ++ [c]) w (by rw [hl]; simp)
  have HP : Hid ((pre ++ [c]).length = i + 1) := by show _ = _; rw [List.length_append, hii]; rfl
  rw [hnn] at HG hn ⊢
  rw [hii] at hq ⊢
  have q0 := fun o => (hq o).q0
  have q1 := fun o => (hq o).q1
  have q2 := fun o => (hq o).q2
  have q3 := fun o => (hq o).q3
  have q4 := fun o => (hq o).q4
  have q5 := fun o => (hq o).q5
  have q6 := fun o => (hq o).q6
  have hin : i < n := by omega
  have hw1 : IntKind.i64.wrap ((i : Int) + 1) = (i : Int) + 1 := by rw [IntKind.wrap_i64]; omega
  have HRl : Hid (r.length ≤ 1000) := by show _ ≤ _; omega
  clear HI hs hl hget hii hnn hlen hq
  go_enter Try.func46, Try.ntmps46
  go_wp2
  go_loopw [8] (fun v wr => ∃ (ts : List Node) (p : List CellV) (s : List CellV) (sa : Option Addr) (sn sc : Nat), v = .int .i64 p.length ∧ Hid (GrowTo l c r w (.slice sa sn sc) ts p s wr)) (fun v _ => n - (intOf v).toNat)
  case atStart => exact ⟨[], pre ++ [c], r, none, 0, 0, by rw [HP.out]; rfl, H0⟩
  case round =>
    obtain ⟨ts, p, s, sa, sn, sc, rfl, HT⟩ := hrel
    clear q0 q1 q2 q3 q4 q5 q6 H0 hw1
    have c0 : wr.cell? ⟨w.heap.size + 1, 0, none⟩ = some (.int .i64 c.depth) := cell_atL HT.out.cel 0
    have hlp := congrArg List.length HT.out.at_
    rw [HL.out, List.length_append] at hlp
    obtain ⟨j, hj⟩ : ∃ j, p.length = j := ⟨_, rfl⟩
    rw [hj] at hlp ⊢
    have HJ : Hid (p.length = j) := hj
    clear hj
    cases s with
    | nil =>
      have hjn : j = n := by simpa using hlp.symm
      subst hjn
      have hd : decide ((j : Int) < (j : Int)) = false := decide_eq_false (by omega)
      have hd2 : decide (j < j) = false := decide_eq_false (by omega)
      have HRn : Hid (growAllF c.depth [] = ([], [])) := growAllF_nil _
      have HX : Hid True := trivial
      clear hlp c0
      go_wp2_with fail
      · skip
        · skip
          refine wp_region_qw (fun X => Below wr.heap.size wr X) (by kernel_rfl) (by kernel_rfl) (Below.refl _ _).drew ?_
          repeat (
            refine qw_take (v := ?_) (by rfl) (fun X hX => ?_) ?_
            rotate_left
            · go_simp
              all_goals with_reducible rfl
            intro K hK
            go_simp
            try simp only [hd, hd2]
            refine hK.out _ ?_
            clear hK K)
          repeat (
            refine qw_skip (by rfl) ?_
            intro K hK
            go_simp
            refine hK.out _ ?_
            clear hK K)
          repeat (
            refine qw_take (v := ?_) (by rfl) (fun X hX => ?_) ?_
            rotate_left
            · go_simp
              all_goals with_reducible rfl
            intro K hK
            go_simp
            try simp only [hd, hd2]
            refine hK.out _ ?_
            clear hK K)
          refine qw_nil ?_
          intro w2 hB2
          have HF : Hid (∀ v0 v1 v2 v3 v4, GrowGood l c r w (.returned (.tuple #[.agg #[.int .i64 c.kind, .int .i64 c.w, .int .i64 c.h, .int .i64 c.p, .slice sa sn sc], .int .i64 j])) (set5 w2 w.heap.size v0 v1 v2 v3 v4)) := fun v0 v1 v2 v3 v4 => (HT.out.keep hB2).fin HRn.out j HJ.out v0 v1 v2 v3 v4
          obtain ⟨r0, r1, r2, r3, r4, f0, f1, f2, f3, f4, n0, n1, n2, n3, n4⟩ := (HT.out.keep hB2).ends
          clear hB2 HT HX
          go_wp2
          exact bodyPost_ret (v := .tuple #[.agg #[.int .i64 c.kind, .int .i64 c.w, .int .i64 c.h, .int .i64 c.p, .slice sa sn sc], .int .i64 j]) (by simp [results, Try.results46, go_sem, r0, r1, r2, r3, r4]) rfl (HF.out _ _ _ _ _)
    | cons c' s =>
      rw [List.length_cons] at hlp
      have hjn : j < n := by omega
      have hget : l[j]? = some c' := by rw [HT.out.at_, ← HJ.out, List.getElem?_append_right (Nat.le_refl _), Nat.sub_self]; rfl
      have hh := (HS.out.below HT.out.below) j c' hget
      have p0 := hh.q0
      have hd : decide ((j : Int) < (n : Int)) = true := decide_eq_true (by omega)
      have HLP : Hid (n = j + (s.length + 1)) := hlp
      clear hh hget hlp
      have HX : Hid (∀ X, Below wr.heap.size wr X → X.cell? ⟨w.heap.size + 1, 0, none⟩ = some (.int .i64 c.depth) ∧ X.cell? ⟨b, off + j * 7, none⟩ = some (.int .i64 c'.depth)) := fun X hX => ⟨(hX.cell (p := ⟨w.heap.size + 1, 0, none⟩) (World.block_lt_of_cell? wr _ c0)).trans c0, (hX.cell (p := ⟨b, off + j * 7, none⟩) (World.block_lt_of_cell? wr _ p0)).trans p0⟩
      clear c0 p0
      have hd2 : decide (j < n) = true := decide_eq_true hjn
      by_cases hdep : c.depth < c'.depth
      · have hd3 : decide (c.depth < c'.depth) = true := decide_eq_true hdep
        go_wp2_with fail
        · skip
          refine wp_region_qw (fun X => Below wr.heap.size wr X) (by kernel_rfl) (by kernel_rfl) (Below.refl _ _).drew ?_
          repeat (
            refine qw_take (v := ?_) (by rfl) (fun X hX => ?_) ?_
            rotate_left
            · have x0 := (HX.out X hX).1
              have x1 := (HX.out X hX).2
              go_simp
              all_goals with_reducible rfl
            intro K hK
            go_simp
            try simp only [hd, hd2, hd3]
            refine hK.out _ ?_
            clear hK K)
          refine qw_nil ?_
          intro w2 hB2
          have HT2 : Hid (GrowTo l c r w (.slice sa sn sc) ts p (c' :: s) w2) := HT.out.keep hB2
          have HC2 : Hid (Calls Try.prog 46 #[.slice (some ⟨b, off, none⟩) n cap, .int .i64 j] w2 (GrowGood l c' s w2)) := by
            have h1 := HT2.out.len
            rw [List.length_cons] at h1
            have := HG.out p c' s w2 (by omega) HT2.out.at_ HT2.out.below
            rw [HJ.out] at this
            exact this
          clear hB2 HT HX
          go_wp2_with fail
          refine HC2.out.mono ?_
          rintro e w3 ⟨sa', sn', sc', fp, pre', rfl, e1, e2, e3, e4, e5⟩
          obtain ⟨f1, cs, f2, f3, f4⟩ := HT2.out.next hdep e1 e2 e3 e4 e5 (.cells (nodeV (growF c' s).1 (.slice sa' sn' sc')) 58)
          have HM : Hid (n - pre'.length < n - j) := by
            have h1 := congrArg List.length e1
            rw [HL.out, List.length_append] at h1
            have h2 := growF_shorter c' s
            have h3 := HLP.out
            show _ < _
            omega
          obtain ⟨nn, hnn⟩ : ∃ x, (growF c' s).1 = x := ⟨_, rfl⟩
          have HE1 : Hid (l = pre' ++ (growF c' s).2) := e1
          rw [hnn] at f2 f4 ⊢
          have HO : Hid ((w3.alloc (.cells (nodeV nn (.slice sa' sn' sc')) 58)).ownsRow 0 58 5 (.slice sa sn sc) ts.length cs) := f2
          have HK : Hid (∀ sl' w5, w5.ownsRow 0 58 5 sl' (ts.length + 1) (cs ++ nodeL nn (.slice sa' sn' sc')) → ((w3.alloc (.cells (nodeV nn (.slice sa' sn' sc')) 58)).alloc (.cells (nodeV nn (.slice sa' sn' sc')) 58)).grownBy w5 (Value.slice sa sn sc).ownBlock → (sl'.ownBlock = (Value.slice sa sn sc).ownBlock ∨ sl'.ownBlock = some ((w3.alloc (.cells (nodeV nn (.slice sa' sn' sc')) 58)).alloc (.cells (nodeV nn (.slice sa' sn' sc')) 58)).heap.size) → _) := f4 (.cells (nodeV nn (.slice sa' sn' sc')) 58)
          have HTS : Hid (ts.length ≤ 1000000) := by
            have h1 := HT2.out.len
            have h2 := HRl.out
            show _ ≤ _
            omega
          have hlt3 : w.heap.size + 1 + 1 < w3.heap.size := lt_of_block f1
          have n4 : ∀ o, (w3.alloc o).cell? ⟨w.heap.size + 1 + 1, 4, none⟩ = some (.slice sa sn sc) := fun o => by
            rw [(((Below.refl w3.heap.size w3).alloc (Nat.le_refl _) o).cell (p := ⟨w.heap.size + 1 + 1, 4, none⟩) hlt3)]
            exact cell_atL f1 4
          clear e1 e2 e3 e4 e5 f1 f2 f3 f4 HC2 HT2 hnn hlt3
          unfold nodeV at HO HK
          unfold nodeV
          go_wp2_with (at_builtin; refine wpList_append_node (w3.alloc (.cells (nodeV nn (.slice sa' sn' sc')) 58)) rfl (.tmp 47) (.tmp 49) rfl (.slice sa sn sc) ts.length cs nn sa' sn' sc' (by simp [Act.eval]) HO.out (by simp [Act.eval]) HTS.out ?_; intro sl' w5 a1 a2 a3; have hsl := own_sl5 a1; have hj := HK.out sl' w5 a1 a2 a3; have c5 : w5.cell? ⟨w.heap.size + 1 + 1, 4, none⟩ = some (.slice sa sn sc) := cell_atL hj.1 4; have g5 : w5.frozen? ⟨w.heap.size + 1 + 1, 4, none⟩ = false := free_atL hj.1 4; have HJ5 : Hid _ := hj.2; clear a1 a2 a3 hj; obtain ⟨sb, sd, hsl'⟩ := hsl; subst hsl')
          go_roundw
          case rel => exact ⟨_, pre', _, _, _, _, rfl, HJ5⟩
          case measure =>
            have := HM.out
            simp [intOf]
            omega
      · have hd3 : decide (c.depth < c'.depth) = false := decide_eq_false hdep
        have HRn : Hid (growAllF c.depth (c' :: s) = ([], c' :: s)) := by show _ = _; rw [growAllF_cons, if_neg hdep]
        go_wp2_with fail
        · skip
          refine wp_region_qw (fun X => Below wr.heap.size wr X) (by kernel_rfl) (by kernel_rfl) (Below.refl _ _).drew ?_
          repeat (
            refine qw_take (v := ?_) (by rfl) (fun X hX => ?_) ?_
            rotate_left
            · have x0 := (HX.out X hX).1
              have x1 := (HX.out X hX).2
              go_simp
              all_goals with_reducible rfl
            intro K hK
            go_simp
            try simp only [hd, hd2, hd3]
            refine hK.out _ ?_
            clear hK K)
          refine qw_nil ?_
          intro w2 hB2
          have HF : Hid (∀ v0 v1 v2 v3 v4, GrowGood l c r w (.returned (.tuple #[.agg #[.int .i64 c.kind, .int .i64 c.w, .int .i64 c.h, .int .i64 c.p, .slice sa sn sc], .int .i64 j])) (set5 w2 w.heap.size v0 v1 v2 v3 v4)) := fun v0 v1 v2 v3 v4 => (HT.out.keep hB2).fin HRn.out j HJ.out v0 v1 v2 v3 v4
          obtain ⟨r0, r1, r2, r3, r4, f0, f1, f2, f3, f4, n0, n1, n2, n3, n4⟩ := (HT.out.keep hB2).ends
          clear hB2 HT HX
          go_wp2
          exact bodyPost_ret (v := .tuple #[.agg #[.int .i64 c.kind, .int .i64 c.w, .int .i64 c.h, .int .i64 c.p, .slice sa sn sc], .int .i64 j]) (by simp [results, Try.results46, go_sem, r0, r1, r2, r3, r4]) rfl (HF.out _ _ _ _ _)

theorem grown_any : ∀ (m : Nat) (l pre : List CellV) (c : CellV) (r : List CellV) (b off cap : Nat) (w : World), r.length ≤ m → l = pre ++ c :: r → l.length ≤ 1000 → SeenIn w b off l → Calls Try.prog 46 #[.slice (some ⟨b, off, none⟩) l.length cap, .int .i64 pre.length] w (GrowGood l c r w)
  | 0, l, pre, c, r, b, off, cap, w, hm, hl, hn, hs => grown_step l pre c r b off cap w hl hn hs fun pre' c' r' X h => by omega
  | m + 1, l, pre, c, r, b, off, cap, w, hm, hl, hn, hs => grown_step l pre c r b off cap w hl hn hs fun pre' c' r' X h hl' hX => grown_any m l pre' c' r' b off cap X (by omega) hl' hn (hs.below hX)

end Go.Proofs.Ytlaelkcmeaiajaa
