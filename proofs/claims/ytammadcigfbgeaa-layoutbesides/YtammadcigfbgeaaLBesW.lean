/-
  Layouts: Beside on both sides.
-/
import Derived.Test.YtammadcigfbgeaaLBeside
import Derived.Test.YtammadcigfbgeaaLLooksX
namespace Go.Proofs.Ytammadcigfbgeaa
open Go.RowKit
set_option linter.unusedVariables false
set_option maxRecDepth 100000

def PredIn (w : World) (g : Nat) (lb : Array Value) (P : CellV → Bool) (l : List CellV) : Prop := ∀ X c, c ∈ l → Below w.heap.size w X → Calls Try.prog g (#[.agg c.vals] ++ lb) X fun e w' => e = .returned (.bool (P c)) ∧ Below X.heap.size X w'
set_option maxHeartbeats 2000000 in
theorem findCell_in (v : Value) (l : List CellV) (F : Nat) (lb : Array Value) (P : CellV → Bool) (i : Nat) (c : CellV) (bb : Bool) (w : World) (h : CellsIn w v l) (hE : EntersL F) (hP : PredIn w F lb P l) (hI : FindIs l (isPane P) i c bb) : Calls Try.prog 39 #[v, .func (.func F) #[] lb] w fun x w' => x = .returned (.tuple #[.int .i64 (i : Int), .bool bb]) ∧ Below w.heap.size w w' := by
  have HR : Hid (Calls Try.prog 45 #[v] w (ReadGood l w)) := read_any v l w h
  have HV : Hid (CellsIn w v l) := h
  have HP : Hid (PredIn w F lb P l) := hP
  have HI : Hid (FindIs l (isPane P) i c bb) := hI
  unfold EntersL at hE
  clear h hP hI
  go_enter Try.func39, Try.ntmps39
  go_wp2_with fail
  refine HR.out.mono ?_
  rintro x w1 (⟨hF, rfl, hb⟩ | ⟨t, T, g, fp, hF, rfl, hAt, hnd, hge, hb⟩)
  · have HE : Hid (i = 0 ∧ bb = false) := HI.out.at_none hF
    unfold nilPart
    clear hF
    go_wp2
    go_ret2
    exact ⟨by rw [HE.out.1, HE.out.2]; rfl, hb⟩
  · have HS : Hid ((readF l).isSome = true) := by show _ = _; rw [hF]; rfl
    obtain ⟨hl63, hne⟩ := read_len HS.out
    obtain ⟨b, off, cap, e1, _, hs⟩ := HV.out.seen hne
    obtain ⟨n, hn⟩ : ∃ n, l.length = n := ⟨_, rfl⟩
    rw [hn] at e1 hl63
    subst e1
    have HN : Hid (l.length = n) := hn
    have HSe : Hid (SeenIn w b off l) := hs
    have HB1 : Hid (Below w.heap.size w w1) := hb
    clear hF hAt hnd hge hb hne hs hn HV
    go_wp2
    go_loopw [13] (fun v wr => ∃ j : Nat, j ≤ n ∧ v = .int .i64 j ∧ Hid (∀ (a : Nat) d, a < j → l[a]? = some d → isPane P d = false) ∧ Hid (Below w.heap.size w wr)) (fun v _ => n - (intOf v).toNat)
    case atStart => exact ⟨0, Nat.zero_le _, rfl, fun a d ha => by omega, HB1⟩
    case round =>
      obtain ⟨j, hj, rfl, HJ, HB⟩ := hrel
      by_cases hlt : j < n
      · obtain ⟨y, hy⟩ : ∃ y, l[j]? = some y := ⟨_, List.getElem?_eq_getElem (by rw [HN.out]; exact hlt)⟩
        obtain ⟨q0, q1, q2, q3, q4, q5, q6⟩ := (HSe.out.below HB.out) j y hy
        have HY : Hid (l[j]? = some y) := hy
        have HA : Hid (∀ o, Below w.heap.size w (wr.alloc o)) := fun o => below_step HB.out ((Below.refl _ _).alloc (Nat.le_refl _) o)
        have HCa : Hid (∀ o, Calls Try.prog F (#[.agg #[.int .i64 y.depth, .int .i64 y.kind, .int .i64 y.x, .int .i64 y.y, .int .i64 y.w, .int .i64 y.h, .int .i64 y.p]] ++ lb) (wr.alloc o) fun e w' => e = .returned (.bool (P y)) ∧ Below (wr.alloc o).heap.size (wr.alloc o) w') := fun o => HP.out _ y (List.mem_of_getElem? hy) (HA.out o)
        have HNx : Hid (isPane P y = false → ∀ (a : Nat) d, a < j + 1 → l[a]? = some d → isPane P d = false) := fun hq a d ha hd => by
          by_cases e : a = j
          · subst e; rw [HY.out] at hd; cases hd; exact hq
          · exact HJ.out a d (by omega) hd
        clear hy
        by_cases hk : y.kind = 1
        · have hk' : (y.kind == 1) = true := by simpa using hk
          have HK : Hid (isPane P y = P y) := by show _ = _; unfold isPane; rw [decide_eq_true hk]; rfl
          clear hk
          go_wp2_with fail
          refine (HCa.out _).mono ?_
          rintro x w2 ⟨rfl, hb2⟩
          obtain ⟨r, hr⟩ : ∃ r, P y = r := ⟨_, rfl⟩
          rw [hr]
          have HRr : Hid (P y = r) := hr
          have HB2 : Hid (Below w.heap.size w w2) := below_step (HA.out _) hb2
          clear hr hb2 HCa
          cases r
          · go_wp2
            go_roundw
            case rel => exact ⟨j + 1, by omega, by go_num, HNx.out (by rw [HK.out, HRr.out]), HB2⟩
            case measure => simp [intOf]; omega
          · have HH : Hid (j = i ∧ y = c ∧ bb = true) := HI.out.at_hit HS.out ⟨HY.out, by rw [HK.out, HRr.out], HJ.out⟩
            go_wp2
            go_ret2
            exact ⟨by rw [HH.out.2.2, ← HH.out.1]; rfl, HB2.out⟩
        · have hk' : (y.kind == 1) = false := by simpa using hk
          have HK : Hid (isPane P y = false) := by show _ = _; unfold isPane; rw [decide_eq_false hk]; rfl
          clear hk HCa
          go_wp2
          go_roundw
          case rel => exact ⟨j + 1, by omega, by go_num, HNx.out HK.out, HA.out _⟩
          case measure => simp [intOf]; omega
      · have HE : Hid (i = 0 ∧ bb = false) := HI.out.at_miss HS.out fun a d hd => HJ.out a d (by have := (List.getElem?_eq_some_iff.1 hd).1; rw [HN.out] at this; omega) hd
        go_wp2
        go_ret2
        exact ⟨by rw [HE.out.1, HE.out.2]; rfl, HB.out⟩


/-- Lies it beside, and is it another one? -/
def besB (pane : Int) (f : CellV) (W H side : Int) (c : CellV) : Bool := (c.p != pane) && liesB f c W H side
theorem enters_bes : EntersL 42 := by intro args w; kernel_rfl
structure BesEnv (w : World) (gp gf gw gs : Nat) (pane side : Int) (f wh : CellV) : Prop where
  p : w.cell? ⟨gp, 0, none⟩ = some (.int .i64 pane)
  s : w.cell? ⟨gs, 0, none⟩ = some (.int .i64 side)
  f : HeadIn w gf 0 f
  wh : HeadIn w gw 0 wh
theorem HeadIn.below {w w' : World} {b off : Nat} {c : CellV} (h : HeadIn w b off c) (hb : Below w.heap.size w w') : HeadIn w' b off c := by
  have lt : b < w.heap.size := World.block_lt_of_cell? w _ h.q0
  have go : ∀ o, w'.cell? ⟨b, o, none⟩ = w.cell? ⟨b, o, none⟩ := fun o => hb.cell (p := ⟨b, o, none⟩) lt
  exact ⟨(go _).trans h.q0, (go _).trans h.q1, (go _).trans h.q2, (go _).trans h.q3, (go _).trans h.q4, (go _).trans h.q5, (go _).trans h.q6⟩
theorem BesEnv.below {w w' : World} {gp gf gw gs : Nat} {pane side : Int} {f wh : CellV} (h : BesEnv w gp gf gw gs pane side f wh) (hb : Below w.heap.size w w') : BesEnv w' gp gf gw gs pane side f wh :=
  ⟨(hb.cell (p := ⟨gp, 0, none⟩) (World.block_lt_of_cell? w _ h.p)).trans h.p, (hb.cell (p := ⟨gs, 0, none⟩) (World.block_lt_of_cell? w _ h.s)).trans h.s, h.f.below hb, h.wh.below hb⟩
set_option maxHeartbeats 1000000 in
theorem bes1_ok (pane side : Int) (f wh : CellV) (gp gf gw gs : Nat) (w : World) (l : List CellV) (h : BesEnv w gp gf gw gs pane side f wh) (hf : Within f 0 0 wh.w wh.h) (hl : ∀ c ∈ l, Within c 0 0 wh.w wh.h) (hw : wh.w ≤ 1000) (hh : wh.h ≤ 1000) : PredIn w 42 #[.pointer (some ⟨gp, 0, none⟩), .pointer (some ⟨gf, 0, none⟩), .pointer (some ⟨gw, 0, none⟩), .pointer (some ⟨gs, 0, none⟩)] (besB pane f wh.w wh.h side) l := by
  intro X c hc hX
  have hE : ∀ o, BesEnv (X.alloc o) gp gf gw gs pane side f wh := fun o => h.below (below_step hX ((Below.refl _ _).alloc (Nat.le_refl _) o))
  have HL : Hid (∀ o, Calls Try.prog 43 #[.agg #[.int .i64 f.depth, .int .i64 f.kind, .int .i64 f.x, .int .i64 f.y, .int .i64 f.w, .int .i64 f.h, .int .i64 f.p], .agg #[.int .i64 c.depth, .int .i64 c.kind, .int .i64 c.x, .int .i64 c.y, .int .i64 c.w, .int .i64 c.h, .int .i64 c.p], .agg #[.int .i64 wh.depth, .int .i64 wh.kind, .int .i64 wh.x, .int .i64 wh.y, .int .i64 wh.w, .int .i64 wh.h, .int .i64 wh.p], .int .i64 side] (X.alloc o) fun e w' => e = .returned (.bool (liesB f c wh.w wh.h side)) ∧ Below (X.alloc o).heap.size (X.alloc o) w') := fun o => lies_any f c wh side (X.alloc o) hf (hl c hc) hw hh
  have c1 := fun o => (hE o).p
  have c2 := fun o => (hE o).s
  have a0 : ∀ o, (X.alloc o).cell? ⟨gf, 0, none⟩ = some (.int .i64 f.depth) := fun o => (hE o).f.q0
  have a1 : ∀ o, (X.alloc o).cell? ⟨gf, 1, none⟩ = some (.int .i64 f.kind) := fun o => by simpa using (hE o).f.q1
  have a2 : ∀ o, (X.alloc o).cell? ⟨gf, 2, none⟩ = some (.int .i64 f.x) := fun o => by simpa using (hE o).f.q2
  have a3 : ∀ o, (X.alloc o).cell? ⟨gf, 3, none⟩ = some (.int .i64 f.y) := fun o => by simpa using (hE o).f.q3
  have a4 : ∀ o, (X.alloc o).cell? ⟨gf, 4, none⟩ = some (.int .i64 f.w) := fun o => by simpa using (hE o).f.q4
  have a5 : ∀ o, (X.alloc o).cell? ⟨gf, 5, none⟩ = some (.int .i64 f.h) := fun o => by simpa using (hE o).f.q5
  have a6 : ∀ o, (X.alloc o).cell? ⟨gf, 6, none⟩ = some (.int .i64 f.p) := fun o => by simpa using (hE o).f.q6
  have d0 : ∀ o, (X.alloc o).cell? ⟨gw, 0, none⟩ = some (.int .i64 wh.depth) := fun o => (hE o).wh.q0
  have d1 : ∀ o, (X.alloc o).cell? ⟨gw, 1, none⟩ = some (.int .i64 wh.kind) := fun o => by simpa using (hE o).wh.q1
  have d2 : ∀ o, (X.alloc o).cell? ⟨gw, 2, none⟩ = some (.int .i64 wh.x) := fun o => by simpa using (hE o).wh.q2
  have d3 : ∀ o, (X.alloc o).cell? ⟨gw, 3, none⟩ = some (.int .i64 wh.y) := fun o => by simpa using (hE o).wh.q3
  have d4 : ∀ o, (X.alloc o).cell? ⟨gw, 4, none⟩ = some (.int .i64 wh.w) := fun o => by simpa using (hE o).wh.q4
  have d5 : ∀ o, (X.alloc o).cell? ⟨gw, 5, none⟩ = some (.int .i64 wh.h) := fun o => by simpa using (hE o).wh.q5
  have d6 : ∀ o, (X.alloc o).cell? ⟨gw, 6, none⟩ = some (.int .i64 wh.p) := fun o => by simpa using (hE o).wh.q6
  have HB : Hid (∀ o, Below X.heap.size X (X.alloc o)) := fun o => (Below.refl _ _).alloc (Nat.le_refl _) o
  show Calls Try.prog 42 #[.agg #[.int .i64 c.depth, .int .i64 c.kind, .int .i64 c.x, .int .i64 c.y, .int .i64 c.w, .int .i64 c.h, .int .i64 c.p], .pointer (some ⟨gp, 0, none⟩), .pointer (some ⟨gf, 0, none⟩), .pointer (some ⟨gw, 0, none⟩), .pointer (some ⟨gs, 0, none⟩)] X _
  obtain ⟨R, hR⟩ : ∃ r, liesB f c wh.w wh.h side = r := ⟨_, rfl⟩
  rw [hR] at HL
  obtain ⟨r, hr⟩ : ∃ r, (c.p != pane) = r := ⟨_, rfl⟩
  have HBe : Hid (besB pane f wh.w wh.h side c = (r && R)) := by show _ = _; unfold besB; rw [hr, hR]
  clear hX h hf hl hw hh hc hE hR
  cases r
  · go_enter Try.func42, Try.ntmps42
    go_wp2
    go_ret
    exact ⟨by rw [HBe.out]; rfl, HB.out _⟩
  · go_enter Try.func42, Try.ntmps42
    go_wp2_with fail
    refine (HL.out _).mono ?_
    rintro e w1 ⟨rfl, hb⟩
    have HB1 : Hid (Below X.heap.size X w1) := below_step (HB.out _) hb
    clear hb
    go_wp2
    go_ret
    exact ⟨by rw [HBe.out]; rfl, HB1.out⟩

theorem ids_inj : ∀ (l : List CellV), (idsOf l).Nodup → ∀ (i j : Nat) (c d : CellV), l[i]? = some c → l[j]? = some d → c.kind = 1 → d.kind = 1 → c.p = d.p → i = j
  | [], h, i, j, c, d, hi, hj, hc, hd, e => by simp at hi
  | a :: l, h, i, j, c, d, hi, hj, hc, hd, e => by
    have hmem : ∀ (k : Nat) (x : CellV), l[k]? = some x → x.kind = 1 → x.p ∈ idsOf l := fun k x hk hx => by
      unfold idsOf
      exact List.mem_map.2 ⟨x, List.mem_filter.2 ⟨List.mem_of_getElem? hk, by simpa using hx⟩, rfl⟩
    have hnd : (idsOf l).Nodup ∧ (a.kind = 1 → a.p ∉ idsOf l) := by
      unfold idsOf at h ⊢
      by_cases ha : a.kind = 1
      · rw [List.filter_cons_of_pos (by simpa using ha), List.map_cons, List.nodup_cons] at h
        exact ⟨h.2, fun _ => h.1⟩
      · rw [List.filter_cons_of_neg (by simpa using ha)] at h
        exact ⟨h, fun e => absurd e ha⟩
    cases i with
    | zero =>
      simp at hi
      subst hi
      cases j with
      | zero => rfl
      | succ j =>
        exfalso
        refine hnd.2 hc ?_
        rw [e]
        exact hmem j d (by simpa using hj) hd
    | succ i =>
      cases j with
      | zero =>
        simp at hj
        subst hj
        exfalso
        refine hnd.2 hd ?_
        rw [← e]
        exact hmem i c (by simpa using hi) hc
      | succ j =>
        have := ids_inj l hnd.1 i j c d (by simpa using hi) (by simpa using hj) hc hd e
        omega

/-- What Beside answers. -/
def BesIs (l : List CellV) (pane side y : Int) (b : Bool) : Prop := ∃ i c b1, FindIs l (isPane (hasId pane)) i c b1 ∧ ((b1 = false ∧ y = 0 ∧ b = false) ∨ (b1 = true ∧ ∃ wh i2 c2, l[0]? = some wh ∧ FindIs l (isPane (besB pane c wh.w wh.h side)) i2 c2 b ∧ y = if b = true then c2.p else 0))
theorem bes_ex (l : List CellV) (pane side : Int) : ∃ y b, BesIs l pane side y b := by
  obtain ⟨i, c, b1, h⟩ := find_ex l (isPane (hasId pane))
  cases b1 with
  | false => exact ⟨0, false, i, c, false, h, .inl ⟨rfl, rfl, rfl⟩⟩
  | true =>
    have hne : l ≠ [] := by
      rintro rfl
      rcases h with ⟨_, _, h⟩ | ⟨_, _, _, h⟩ | ⟨_, h, _⟩
      · cases h
      · cases h
      · have := h.1; simp at this
    obtain ⟨wh, hwh⟩ : ∃ wh, l[0]? = some wh := by
      cases l with
      | nil => exact absurd rfl hne
      | cons a l => exact ⟨a, rfl⟩
    obtain ⟨i2, c2, b2, h2⟩ := find_ex l (isPane (besB pane c wh.w wh.h side))
    exact ⟨_, b2, i, c, true, h, .inr ⟨rfl, wh, i2, c2, hwh, h2, rfl⟩⟩

end Go.Proofs.Ytammadcigfbgeaa
