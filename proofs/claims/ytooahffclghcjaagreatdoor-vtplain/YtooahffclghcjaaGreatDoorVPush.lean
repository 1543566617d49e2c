/-
  The history of a screen.
-/
import Derived.Test.YtooahffclghcjaaGreatDoorVDrop
import Derived.Test.YtooahffclghcjaaGreatDoorVRef
import Derived.Test.YtooahffclghcjaaGreatDoorMD
namespace Go.Proofs.YtooahffclghcjaaGreatDoor
open Go.RowKit
set_option linter.unusedVariables false
set_option maxRecDepth 100000

theorem infoGlV : (Tryz.prog.info? 85).map (fun i => (i.zero, i.size, i.bytes)) = some (some (.agg #[.int .i32 0, .int .i64 0, .int .i64 0, .int .i64 0, .int .i64 0]), 5, 40) := by kernel_rfl
theorem underRowV : Tryz.prog.underlying 81 = some (.slice 85) := by kernel_rfl
theorem gls_one (gs : List Gl) : ∀ u ∈ glsV gs, u.oneCell' = true := by
  intro u hu
  unfold glsV at hu
  obtain ⟨x, _, hx⟩ := List.mem_flatMap.1 hu
  simp only [Gl.cells, List.mem_cons, List.mem_nil_iff, or_false] at hx
  rcases hx with rfl | rfl | rfl | rfl | rfl <;> rfl
theorem GAt.src {w : World} {g : Nat} {gs : List Gl} (h : GAt w g gs) (W : World) (hW : W.heap[g]? = w.heap[g]?) : Src Tryz.prog 5 81 (.slice (some ⟨g, 0, none⟩) gs.length gs.length) gs.length (glsV gs) W := by
  refine Src.ofSlice W underRowV _ _ _ (glsV gs) (gls_len gs) (fun j u hu => ?_) (gls_one gs)
  rw [Addr.add_lit, Nat.zero_add, cell_atT (hW.trans h), List.getElem?_toArray]
  exact hu
theorem row_notnil (w : World) (g n c : Nat) : (binOp .eql 81 (.slice (some ⟨g, 0, none⟩) n c) (.slice none 0 0)).run Tryz.prog w = .ok (.bool false) w := by kernel_rfl
set_option maxHeartbeats 2000000 in
theorem clone_row {w : World} {g : Nat} {gs : List Gl} (h : GAt w g gs) (hl : gs.length ≤ 1000) : Calls Tryz.prog 108 #[.slice (some ⟨g, 0, none⟩) gs.length gs.length] w fun x w' => ∃ v, x = .returned v ∧ Mine w w' 85 5 v gs.length (glsV gs) := by
  have H := hidK h
  have heq := row_notnil w g gs.length gs.length
  clear h
  go_enter Tryz.func108, Tryz.ntmps108
  have HM : Hid (Mine w (w.alloc (.cells #[] 85)) 85 5 (.slice (some ⟨w.heap.size, 0, none⟩) 0 0) 0 []) := ⟨⟨rfl, .inr ⟨w.heap.size, 0, 0, #[], rfl, heap_alloc_new w _, Nat.le_refl _, Nat.zero_le _, by simp, fun j u hu => by simp at hu⟩⟩, (Below.refl _ _).alloc (Nat.le_refl _) _, fun g hg => by cases hg; exact Nat.le_refl _⟩
  have HSr : Hid (Src Tryz.prog 5 81 (.slice (some ⟨g, 0, none⟩) gs.length gs.length) gs.length (glsV gs) (w.alloc (.cells #[] 85))) := H.out.src _ (Below.heap_alloc _ _ _ H.out.lt)
  go_wp2_with (at_builtin; refine wpList_append_row (w.alloc (.cells #[] 85)) rfl (.tmp 5) (.tmp 6) 81 81 rfl underRowV infoGlV rfl (v := .slice (some ⟨w.heap.size, 0, none⟩) 0 0) (by simp [Act.eval]) (u := .slice (some ⟨g, 0, none⟩) gs.length gs.length) (by simp [Act.eval]) HM.out.row HSr.out ?x1 ?x2 ?x3)
  case x1 => omega
  case x2 => unfold maxLen; omega
  intro v2 w2 hr2 hg2
  go_wp2_with fail
  go_ret
  exact ⟨v2, rfl, (HM.out.grown (Below.refl _ _) hr2.out hg2.out).cast rfl (List.nil_append _)⟩
/-- Rows that are kept, apart from these blocks. -/
structure Hist (w0 w : World) (v : Value) (hs : List (Value × List Gl)) (av : List Nat) : Prop where
  row : Row w 81 1 v hs.length (hs.map Prod.fst)
  each : ∀ h ∈ hs, Row w 85 5 h.1 h.2.length (glsV h.2)
  yv : ∀ g, v.ownBlock = some g → w0.heap.size ≤ g ∧ g ∉ av
  ye : ∀ h ∈ hs, ∀ g, h.1.ownBlock = some g → w0.heap.size ≤ g ∧ g ∉ av
theorem Hist.but {w0 w w' : World} {v : Value} {hs : List (Value × List Gl)} {av S : List Nat} (h : Hist w0 w v hs av) (hb : But S w w') (hS : ∀ k ∈ S, k ∈ av) : Hist w0 w' v hs av :=
  ⟨h.row.but hb (fun g hg hm => (h.yv g hg).2 (hS g hm)), fun q hq => (h.each q hq).but hb (fun g hg hm => (h.ye q hq g hg).2 (hS g hm)), h.yv, h.ye⟩
theorem Hist.more {w0 w w' : World} {v : Value} {hs : List (Value × List Gl)} {av : List Nat} (h : Hist w0 w v hs av) (hb : Below w.heap.size w w') : Hist w0 w' v hs av :=
  ⟨h.row.below hb, fun q hq => (h.each q hq).below hb, h.yv, h.ye⟩
theorem Hist.grow {w0 X w' : World} {v v' vc : Value} {hs : List (Value × List Gl)} {gs : List Gl} {av : List Nat} (h : Hist w0 X v hs av) (hX : w0.heap.size ≤ X.heap.size) (hav : ∀ k ∈ av, k < X.heap.size) (hc : Row X 85 5 vc gs.length (glsV gs)) (hy : ∀ g, vc.ownBlock = some g → w0.heap.size ≤ g ∧ g ∉ av) (hr : Row w' 81 1 v' (hs.length + 1) (hs.map Prod.fst ++ [vc])) (hg : Grown X w' v v' v.ownBlock.toList) : Hist w0 w' v' (hs ++ [(vc, gs)]) av := by
  have hk : ∀ q n xs, Row X 85 5 q n xs → Row w' 85 5 q n xs := fun q n xs hq => hq.but hg.but (fun g hgq hm => by
    obtain ⟨cur, hc⟩ := hq.block hgq
    obtain ⟨cur2, hc2⟩ := h.row.block (by simpa using hm : v.ownBlock = some g)
    rw [hc] at hc2
    simp at hc2)
  refine ⟨by simpa using hr, fun q hq => ?_, fun g hg' => ?_, fun q hq => ?_⟩
  · rcases List.mem_append.1 hq with hq | hq
    · exact hk _ _ _ (h.each q hq)
    · have e : q = (vc, gs) := by simpa using hq
      rw [e]
      exact hk _ _ _ hc
  · rcases hg.own with e | e
    · exact h.yv g (by rw [← e]; exact hg')
    · rw [e] at hg'
      cases hg'
      exact ⟨hX, fun hm => Nat.lt_irrefl _ (hav _ hm)⟩
  · rcases List.mem_append.1 hq with hq | hq
    · exact h.ye q hq
    · have e : q = (vc, gs) := by simpa using hq
      rw [e]
      exact hy
/-- The oldest goes. -/
theorem Hist.drop {w0 w : World} {g o n cap : Nat} {x : Value × List Gl} {hs : List (Value × List Gl)} {av : List Nat} (h : Hist w0 w (.slice (some ⟨g, o, none⟩) n cap) (x :: hs) av) (v : Value) (hv : v = .slice (some ⟨g, o + 1, none⟩) hs.length (cap - 1) ∨ (cap = 1 ∧ v = .slice (some ⟨g, o, none⟩) 0 0)) : Hist w0 (w.setCell ⟨g, o, none⟩ (.slice none 0 0)) v hs av := by
  obtain ⟨hl, ⟨e, _⟩ | ⟨g', o', cap', cur, e, hg, h1, h2, h3, h4⟩⟩ := h.row
  · cases e
  · cases e
    have hgv := h.yv g rfl
    have hblk := put_at hg o (.slice none 0 0)
    have hk : ∀ q m xs, Row w 85 5 q m xs → Row (w.setCell ⟨g, o, none⟩ (.slice none 0 0)) 85 5 q m xs := fun q m xs hq => hq.keep (fun k hk => Below.heap_setCell _ _ _ _ (fun e => by
      obtain ⟨cur2, hc⟩ := hq.block hk
      have e2 : k = g := e
      rw [e2, hg] at hc
      simp at hc))
    have hown : v.ownBlock = some g := by rcases hv with rfl | ⟨_, rfl⟩ <;> rfl
    refine ⟨?_, fun q hq => hk _ _ _ (h.each q (by simp [hq])), fun k hk' => ?_, fun q hq => h.ye q (by simp [hq])⟩
    · rcases hv with rfl | ⟨hc, rfl⟩
      · refine ⟨by simp, .inr ⟨g, o + 1, cap - 1, _, rfl, hblk, ?_, by omega, ?_, fun j u hu => ?_⟩⟩
        · simp at h1
          omega
        · simp at h1
          simp
          omega
        · have := h4 (j + 1) u (by simpa using hu)
          rw [Array.getElem?_setIfInBounds_ne (by omega), Nat.add_assoc, Nat.add_comm 1 j]
          exact this
      · simp at h1
        have hz : hs.length = 0 := by omega
        have hz2 : hs = [] := List.length_eq_zero_iff.1 hz
        subst hz2
        exact ⟨by simp, .inr ⟨g, o, 0, _, rfl, hblk, Nat.le_refl _, Nat.zero_le _, by simp; omega, fun j u hu => by simp at hu⟩⟩
    · rw [hown] at hk'
      cases hk'
      exact hgv
/-- A screen with its history. -/
structure Scr (w0 w : World) (b : Nat) (s : Sc) (G : Nat) (rs : List (Nat × List Gl)) (hs : List (Value × List Gl)) : Prop where
  scn : Scn w b s G rs
  hist : Hist w0 w s.past hs (b :: G :: rs.map Prod.fst)
  below : Below w0.heap.size w0 w
  young : ∀ k ∈ b :: G :: rs.map Prod.fst, w0.heap.size ≤ k
theorem Scr.av {w0 w : World} {b : Nat} {s : Sc} {G : Nat} {rs : List (Nat × List Gl)} {hs : List (Value × List Gl)} (h : Scr w0 w b s G rs hs) : ∀ k ∈ b :: G :: rs.map Prod.fst, k < w.heap.size := by
  intro k hk
  simp only [List.mem_cons, List.mem_map] at hk
  rcases hk with rfl | rfl | ⟨r, hr, rfl⟩
  · exact h.scn.at_.lt
  · exact lt_of_block h.scn.rows.blk
  · exact (h.scn.rows.row r hr).lt
theorem Scr.more {w0 w w' : World} {b : Nat} {s : Sc} {G : Nat} {rs : List (Nat × List Gl)} {hs : List (Value × List Gl)} (h : Scr w0 w b s G rs hs) (hb : Below w.heap.size w w') : Scr w0 w' b s G rs hs := ⟨h.scn.below hb, h.hist.more hb, h.below.trans (hb.mono h.below.size), h.young⟩
/-- Only the screen itself turns. -/
theorem Scr.turn {w0 w w' : World} {b : Nat} {s s' : Sc} {G : Nat} {rs rs' : List (Nat × List Gl)} {hs : List (Value × List Gl)} {S : List Nat} (h : Scr w0 w b s G rs hs) (hs' : Scn w' b s' G rs') (hb : But S w w') (hS : ∀ k ∈ S, k ∈ b :: G :: rs.map Prod.fst) (hp : s'.past = s.past) (hr : ∀ k, k ∈ rs'.map Prod.fst ↔ k ∈ rs.map Prod.fst) : Scr w0 w' b s' G rs' hs := by
  have hav : ∀ k, k ∈ b :: G :: rs'.map Prod.fst ↔ k ∈ b :: G :: rs.map Prod.fst := fun k => by rw [List.mem_cons, List.mem_cons, List.mem_cons, List.mem_cons, hr k]
  have h1 := h.hist.but hb hS
  refine ⟨hs', ⟨by rw [hp]; exact h1.row, h1.each, fun g hg => ?_, fun q hq g hg => ?_⟩, hb.under h.below h.below.size (fun k hk => h.young k (hS k hk)), fun k hk => h.young k ((hav k).1 hk)⟩
  · rw [hp] at hg
    exact ⟨(h1.yv g hg).1, fun hm => (h1.yv g hg).2 ((hav g).1 hm)⟩
  · exact ⟨(h1.ye q hq g hg).1, fun hm => (h1.ye q hq g hg).2 ((hav g).1 hm)⟩
/-- Texts in memory stay. -/
def Fk (w w' : World) : Prop := ∀ (k : Nat) (cs : Array Value), w.heap[k]? = some (Obj.cells cs 9 (0, 0)) → w'.heap[k]? = w.heap[k]?
theorem Fk.refl (w : World) : Fk w w := fun _ _ _ => rfl
theorem Fk.trans {a b c : World} (h : Fk a b) (k : Fk b c) : Fk a c := fun i cs hi => (k i cs ((h i cs hi).trans hi)).trans (h i cs hi)
theorem Fk.below {w w' : World} (h : Below w.heap.size w w') : Fk w w' := fun k cs hk => h.block k (lt_of_block hk)
theorem Fk.but {w w' : World} {S : List Nat} (h : But S w w') (hS : ∀ k ∈ S, ∀ cs : Array Value, w.heap[k]? ≠ some (Obj.cells cs 9 (0, 0))) : Fk w w' := fun k cs hk => h.block k (lt_of_block hk) (fun hm => hS k hm cs hk)
theorem Fk.row {w w' : World} (h : Fk w w') {v : Value} {n : Nat} {xs : List Value} (hr : Row w 9 1 v n xs) : Row w' 9 1 v n xs := hr.keep (fun g hg => by
  obtain ⟨cur, hc⟩ := hr.block hg
  exact h g cur hc)
theorem Scr.no9 {w0 w : World} {b : Nat} {s : Sc} {G : Nat} {rs : List (Nat × List Gl)} {hs : List (Value × List Gl)} (h : Scr w0 w b s G rs hs) : ∀ k ∈ s.past.ownBlock.toList ++ (b :: G :: rs.map Prod.fst), ∀ cs : Array Value, w.heap[k]? ≠ some (Obj.cells cs 9 (0, 0)) := by
  intro k hk cs hc
  rcases List.mem_append.1 hk with hk | hk
  · obtain ⟨cur, h1⟩ := h.hist.row.block (by simpa using hk : s.past.ownBlock = some k)
    rw [h1] at hc
    simp at hc
  · simp only [List.mem_cons, List.mem_map] at hk
    rcases hk with rfl | rfl | ⟨r, hr, rfl⟩
    · have h1 : w.heap[k]? = _ := h.scn.at_
      rw [h1] at hc
      simp at hc
    · have h1 : w.heap[k]? = _ := h.scn.rows.blk
      rw [h1] at hc
      simp at hc
    · have h1 : w.heap[r.1]? = _ := h.scn.rows.row r hr
      rw [h1] at hc
      simp at hc
theorem Scr.fk {w0 w w' : World} {b : Nat} {s : Sc} {G : Nat} {rs : List (Nat × List Gl)} {hs : List (Value × List Gl)} (h : Scr w0 w b s G rs hs) (hb : But (s.past.ownBlock.toList ++ (b :: G :: rs.map Prod.fst)) w w') : Fk w w' := Fk.but hb h.no9
end Go.Proofs.YtooahffclghcjaaGreatDoor
