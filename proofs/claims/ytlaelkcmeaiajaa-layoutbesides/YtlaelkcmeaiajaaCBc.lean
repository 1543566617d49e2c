/-
  Layouts: Beside on both sides.
  Layouts: the program's Beside.
-/
import Derived.Test.YtlaelkcmeaiajaaCBb
import Derived.Test.YtlaelkcmeaiajaaCBa
namespace Go.Proofs.Ytlaelkcmeaiajaa
open Go.RowKit
set_option linter.unusedVariables false
set_option maxRecDepth 100000

def PredIn (w : World) (g : Nat) (lb : Array Value) (P : CellV → Bool) (l : List CellV) : Prop := ∀ X c, c ∈ l → Below w.heap.size w X → Calls Try.prog g (#[.agg c.vals] ++ lb) X fun e w' => e = .returned (.bool (P c)) ∧ Below X.heap.size X w'
set_option maxHeartbeats 2000000 in
theorem findCell_in (v : Value) (l : List CellV) (F : Nat) (lb : Array Value) (P : CellV → Bool) (i : Nat) (c : CellV) (bb : Bool) (w : World) (h : CellsIn w v l) (hE : EntersL F) (hP : PredIn w F lb P l) (hI : FindIs l (isPane P) i c bb) : Calls Try.prog 14 #[v, .func (.func F) #[] lb] w fun x w' => x = .returned (.tuple #[.int .i64 (i : Int), .bool bb]) ∧ Below w.heap.size w w' := by
  have HR : Hid (Calls Try.prog 22 #[v] w (ReadGood l w)) := read_any v l w h
  have HV : Hid (CellsIn w v l) := h
  have HP : Hid (PredIn w F lb P l) := hP
  have HI : Hid (FindIs l (isPane P) i c bb) := hI
  unfold EntersL at hE
  clear h hP hI
  go_enter Try.func14, Try.ntmps14
  go_wp2_with fail
  refine HR.out.mono ?_
  rintro x w1 (⟨hF, rfl, hb⟩ | ⟨t, T, g, fp, hF, rfl, hAt, hnd, hge, hb⟩)
  · have HE : Hid (i = 0 ∧ bb = false) := HI.out.at_none hF
    unfold nilPart
    clear hF
    go_wp2
    go_ret2
    exact ⟨by rw [HE.out.1, HE.out.2]; rfl, hb⟩
  · have HS : Hid ((readF l).isSome = true) := by show _ = _; rw [hF]; rfl
    obtain ⟨hl63, hne⟩ := read_len HS.out
    obtain ⟨b, off, cap, e1, _, hs⟩ := HV.out.seen hne
    obtain ⟨n, hn⟩ : ∃ n, l.length = n := ⟨_, rfl⟩
    rw [hn] at e1 hl63
    subst e1
    have HN : Hid (l.length = n) := hn
    have HSe : Hid (SeenIn w b off l) := hs
    have HB1 : Hid (Below w.heap.size w w1) := hb
    clear hF hAt hnd hge hb hne hs hn HV
    go_wp2
    go_loopw [13] (fun v wr => ∃ j : Nat, j ≤ n ∧ v = .int .i64 j ∧ Hid (∀ (a : Nat) d, a < j → l[a]? = some d → isPane P d = false) ∧ Hid (Below w.heap.size w wr)) (fun v _ => n - (intOf v).toNat)
    case atStart => exact ⟨0, Nat.zero_le _, rfl, fun a d ha => by omega, HB1⟩
    case round =>
      obtain ⟨j, hj, rfl, HJ, HB⟩ := hrel
      by_cases hlt : j < n
      · obtain ⟨y, hy⟩ : ∃ y, l[j]? = some y := ⟨_, List.getElem?_eq_getElem (by rw [HN.out]; exact hlt)⟩
        obtain ⟨q0, q1, q2, q3, q4, q5, q6⟩ := (HSe.out.below HB.out) j y hy
        have HY : Hid (l[j]? = some y) := hy
        have HA : Hid (∀ o, Below w.heap.size w (wr.alloc o)) := fun o => below_step HB.out ((Below.refl _ _).alloc (Nat.le_refl _) o)
        have HCa : Hid (∀ o, Calls Try.prog F (#[.agg #[.int .i64 y.depth, .int .i64 y.kind, .int .i64 y.x, .int .i64 y.y, .int .i64 y.w, .int .i64 y.h, .int .i64 y.p]] ++ lb) (wr.alloc o) fun e w' => e = .returned (.bool (P y)) ∧ Below (wr.alloc o).heap.size (wr.alloc o) w') := fun o => HP.out _ y (List.mem_of_getElem? hy) (HA.out o)
        have HNx : Hid (isPane P y = false → ∀ (a : Nat) d, a < j + 1 → l[a]? = some d → isPane P d = false) := fun hq a d ha hd => by
          by_cases e : a = j
          · subst e; rw [HY.out] at hd; cases hd; exact hq
          · exact HJ.out a d (by omega) hd
        clear hy
        by_cases hk : y.kind = 1
        · have hk' : (y.kind == 1) = true := by simpa using hk
          have HK : Hid (isPane P y = P y) := by show _ = _; unfold isPane; rw [decide_eq_true hk]; rfl
          clear hk
          go_wp2_with fail
          refine (HCa.out _).mono ?_
          rintro x w2 ⟨rfl, hb2⟩
          obtain ⟨r, hr⟩ : ∃ r, P y = r := ⟨_, rfl⟩
          rw [hr]
          have HRr : Hid (P y = r) := hr
          have HB2 : Hid (Below w.heap.size w w2) := below_step (HA.out _) hb2
          clear hr hb2 HCa
          cases r
          · go_wp2
            go_roundw
            case rel => exact ⟨j + 1, by omega, by go_num, HNx.out (by rw [HK.out, HRr.out]), HB2⟩
            case measure => simp [intOf]; omega
          · have HH : Hid (j = i ∧ y = c ∧ bb = true) := HI.out.at_hit HS.out ⟨HY.out, by rw [HK.out, HRr.out], HJ.out⟩
            go_wp2
            go_ret2
            exact ⟨by rw [HH.out.2.2, ← HH.out.1]; rfl, HB2.out⟩
        · have hk' : (y.kind == 1) = false := by simpa using hk
          have HK : Hid (isPane P y = false) := by show _ = _; unfold isPane; rw [decide_eq_false hk]; rfl
          clear hk HCa
          go_wp2
          go_roundw
          case rel => exact ⟨j + 1, by omega, by go_num, HNx.out HK.out, HA.out _⟩
          case measure => simp [intOf]; omega
      · have HE : Hid (i = 0 ∧ bb = false) := HI.out.at_miss HS.out fun a d hd => HJ.out a d (by have := (List.getElem?_eq_some_iff.1 hd).1; rw [HN.out] at this; omega) hd
        go_wp2
        go_ret2
        exact ⟨by rw [HE.out.1, HE.out.2]; rfl, HB.out⟩


/-- Lies it beside, and is it another one? -/
def besB (pane : Int) (f : CellV) (W H side : Int) (c : CellV) : Bool := (c.p != pane) && liesB f c W H side
theorem enters_bes : EntersL 15 := by intro args w; kernel_rfl
structure BesEnv (w : World) (gp gf gw gs : Nat) (pane side : Int) (f wh : CellV) : Prop where
  p : w.cell? ⟨gp, 0, none⟩ = some (.int .i64 pane)
  s : w.cell? ⟨gs, 0, none⟩ = some (.int .i64 side)
  f : HeadIn w gf 0 f
  wh : HeadIn w gw 0 wh
theorem HeadIn.below {w w' : World} {b off : Nat} {c : CellV} (h : HeadIn w b off c) (hb : Below w.heap.size w w') : HeadIn w' b off c := by
  have lt : b < w.heap.size := World.block_lt_of_cell? w _ h.q0
  have go : ∀ o, w'.cell? ⟨b, o, none⟩ = w.cell? ⟨b, o, none⟩ := fun o => hb.cell (p := ⟨b, o, none⟩) lt
  exact ⟨(go _).trans h.q0, (go _).trans h.q1, (go _).trans h.q2, (go _).trans h.q3, (go _).trans h.q4, (go _).trans h.q5, (go _).trans h.q6⟩
theorem BesEnv.below {w w' : World} {gp gf gw gs : Nat} {pane side : Int} {f wh : CellV} (h : BesEnv w gp gf gw gs pane side f wh) (hb : Below w.heap.size w w') : BesEnv w' gp gf gw gs pane side f wh :=
  ⟨(hb.cell (p := ⟨gp, 0, none⟩) (World.block_lt_of_cell? w _ h.p)).trans h.p, (hb.cell (p := ⟨gs, 0, none⟩) (World.block_lt_of_cell? w _ h.s)).trans h.s, h.f.below hb, h.wh.below hb⟩
set_option maxHeartbeats 1000000 in
theorem bes1_ok (pane side : Int) (f wh : CellV) (gp gf gw gs : Nat) (w : World) (l : List CellV) (h : BesEnv w gp gf gw gs pane side f wh) (hf : Within f 0 0 wh.w wh.h) (hl : ∀ c ∈ l, Within c 0 0 wh.w wh.h) (hw : wh.w ≤ 1000) (hh : wh.h ≤ 1000) : PredIn w 15 #[.pointer (some ⟨gp, 0, none⟩), .pointer (some ⟨gf, 0, none⟩), .pointer (some ⟨gw, 0, none⟩), .pointer (some ⟨gs, 0, none⟩)] (besB pane f wh.w wh.h side) l := by
  intro X c hc hX
  have hE : ∀ o, BesEnv (X.alloc o) gp gf gw gs pane side f wh := fun o => h.below (below_step hX ((Below.refl _ _).alloc (Nat.le_refl _) o))
  have HL : Hid (∀ o, Calls Try.prog 16 #[.agg #[.int .i64 f.depth, .int .i64 f.kind, .int .i64 f.x, .int .i64 f.y, .int .i64 f.w, .int .i64 f.h, .int .i64 f.p], .agg #[.int .i64 c.depth, .int .i64 c.kind, .int .i64 c.x, .int .i64 c.y, .int .i64 c.w, .int .i64 c.h, .int .i64 c.p], .agg #[.int .i64 wh.depth, .int .i64 wh.kind, .int .i64 wh.x, .int .i64 wh.y, .int .i64 wh.w, .int .i64 wh.h, .int .i64 wh.p], .int .i64 side] (X.alloc o) fun e w' => e = .returned (.bool (liesB f c wh.w wh.h side)) ∧ Below (X.alloc o).heap.size (X.alloc o) w') := fun o => lies_any f c wh side (X.alloc o) hf (hl c hc) hw hh
  have c1 := fun o => (hE o).p
  have c2 := fun o => (hE o).s
  have a0 : ∀ o, (X.alloc o).cell? ⟨gf, 0, none⟩ = some (.int .i64 f.depth) := fun o => (hE o).f.q0
  have a1 : ∀ o, (X.alloc o).cell? ⟨gf, 1, none⟩ = some (.int .i64 f.kind) := fun o => by simpa using (hE o).f.q1
  have a2 : ∀ o, (X.alloc o).cell? ⟨gf, 2, none⟩ = some (.int .i64 f.x) := fun o => by simpa using (hE o).f.q2
  have a3 : ∀ o, (X.alloc o).cell? ⟨gf, 3, none⟩ = some (.int .i64 f.y) := fun o => by simpa using (hE o).f.q3
  have a4 : ∀ o, (X.alloc o).cell? ⟨gf, 4, none⟩ = some (.int .i64 f.w) := fun o => by simpa using (hE o).f.q4
  have a5 : ∀ o, (X.alloc o).cell? ⟨gf, 5, none⟩ = some (.int .i64 f.h) := fun o => by simpa using (hE o).f.q5
  have a6 : ∀ o, (X.alloc o).cell? ⟨gf, 6, none⟩ = some (.int .i64 f.p) := fun o => by simpa using (hE o).f.q6
  have d0 : ∀ o, (X.alloc o).cell? ⟨gw, 0, none⟩ = some (.int .i64 wh.depth) := fun o => (hE o).wh.q0
  have d1 : ∀ o, (X.alloc o).cell? ⟨gw, 1, none⟩ = some (.int .i64 wh.kind) := fun o => by simpa using (hE o).wh.q1
  have d2 : ∀ o, (X.alloc o).cell? ⟨gw, 2, none⟩ = some (.int .i64 wh.x) := fun o => by simpa using (hE o).wh.q2
  have d3 : ∀ o, (X.alloc o).cell? ⟨gw, 3, none⟩ = some (.int .i64 wh.y) := fun o => by simpa using (hE o).wh.q3
  have d4 : ∀ o, (X.alloc o).cell? ⟨gw, 4, none⟩ = some (.int .i64 wh.w) := fun o => by simpa using (hE o).wh.q4
  have d5 : ∀ o, (X.alloc o).cell? ⟨gw, 5, none⟩ = some (.int .i64 wh.h) := fun o => by simpa using (hE o).wh.q5
  have d6 : ∀ o, (X.alloc o).cell? ⟨gw, 6, none⟩ = some (.int .i64 wh.p) := fun o => by simpa using (hE o).wh.q6
  have HB : Hid (∀ o, Below X.heap.size X (X.alloc o)) := fun o => (Below.refl _ _).alloc (Nat.le_refl _) o
  show Calls Try.prog 15 #[.agg #[.int .i64 c.depth, .int .i64 c.kind, .int .i64 c.x, .int .i64 c.y, .int .i64 c.w, .int .i64 c.h, .int .i64 c.p], .pointer (some ⟨gp, 0, none⟩), .pointer (some ⟨gf, 0, none⟩), .pointer (some ⟨gw, 0, none⟩), .pointer (some ⟨gs, 0, none⟩)] X _
  obtain ⟨R, hR⟩ : ∃ r, liesB f c wh.w wh.h side = r := ⟨_, rfl⟩
  rw [hR] at HL
  obtain ⟨r, hr⟩ : ∃ r, (c.p != pane) = r := ⟨_, rfl⟩
  have HBe : Hid (besB pane f wh.w wh.h side c = (r && R)) := by show _ = _; unfold besB; rw [hr, hR]
  clear hX h hf hl hw hh hc hE hR
  cases r
  · go_enter Try.func15, Try.ntmps15
    go_wp2
    go_ret
    exact ⟨by rw [HBe.out]; rfl, HB.out _⟩
  · go_enter Try.func15, Try.ntmps15
    go_wp2_with fail
    refine (HL.out _).mono ?_
    rintro e w1 ⟨rfl, hb⟩
    have HB1 : Hid (Below X.heap.size X w1) := below_step (HB.out _) hb
    clear hb
    go_wp2
    go_ret
    exact ⟨by rw [HBe.out]; rfl, HB1.out⟩

theorem ids_inj : ∀ (l : List CellV), (idsOf l).Nodup → ∀ (i j : Nat) (c d : CellV), l[i]? = some c → l[j]? = some d → c.kind = 1 → d.kind = 1 → c.p = d.p → i = j
  | [], h, i, j, c, d, hi, hj, hc, hd, e => by simp at hi
  | a :: l, h, i, j, c, d, hi, hj, hc, hd, e => by
    have hmem : ∀ (k : Nat) (x : CellV), l[k]? = some x → x.kind = 1 → x.p ∈ idsOf l := fun k x hk hx => by
      unfold idsOf
      exact List.mem_map.2 ⟨x, List.mem_filter.2 ⟨List.mem_of_getElem? hk, by simpa using hx⟩, rfl⟩
    have hnd : (idsOf l).Nodup ∧ (a.kind = 1 → a.p ∉ idsOf l) := by
      unfold idsOf at h ⊢
      by_cases ha : a.kind = 1
      · rw [List.filter_cons_of_pos (by simpa using ha), List.map_cons, List.nodup_cons] at h
        exact ⟨h.2, fun _ => h.1⟩
      · rw [List.filter_cons_of_neg (by simpa using ha)] at h
        exact ⟨h, fun e => absurd e ha⟩
    cases i with
    | zero =>
      simp at hi
      subst hi
      cases j with
      | zero => rfl
      | succ j =>
        exfalso
        refine hnd.2 hc ?_
        rw [e]
        exact hmem j d (by simpa using hj) hd
    | succ i =>
      cases j with
      | zero =>
        simp at hj
        subst hj
        exfalso
        refine hnd.2 hd ?_
        rw [← e]
        exact hmem i c (by simpa using hi) hc
      | succ j =>
        have := ids_inj l hnd.1 i j c d (by simpa using hi) (by simpa using hj) hc hd e
        omega

/-- What Beside answers. -/
def BesIs (l : List CellV) (pane side y : Int) (b : Bool) : Prop := ∃ i c b1, FindIs l (isPane (hasId pane)) i c b1 ∧ ((b1 = false ∧ y = 0 ∧ b = false) ∨ (b1 = true ∧ ∃ wh i2 c2, l[0]? = some wh ∧ FindIs l (isPane (besB pane c wh.w wh.h side)) i2 c2 b ∧ y = if b = true then c2.p else 0))
theorem bes_ex (l : List CellV) (pane side : Int) : ∃ y b, BesIs l pane side y b := by
  obtain ⟨i, c, b1, h⟩ := find_ex l (isPane (hasId pane))
  cases b1 with
  | false => exact ⟨0, false, i, c, false, h, .inl ⟨rfl, rfl, rfl⟩⟩
  | true =>
    have hne : l ≠ [] := by
      rintro rfl
      rcases h with ⟨_, _, h⟩ | ⟨_, _, _, h⟩ | ⟨_, h, _⟩
      · cases h
      · cases h
      · have := h.1; simp at this
    obtain ⟨wh, hwh⟩ : ∃ wh, l[0]? = some wh := by
      cases l with
      | nil => exact absurd rfl hne
      | cons a l => exact ⟨a, rfl⟩
    obtain ⟨i2, c2, b2, h2⟩ := find_ex l (isPane (besB pane c wh.w wh.h side))
    exact ⟨_, b2, i, c, true, h, .inr ⟨rfl, wh, i2, c2, hwh, h2, rfl⟩⟩

end Go.Proofs.Ytlaelkcmeaiajaa

namespace Go.Proofs.Ytlaelkcmeaiajaa
open Go.RowKit
set_option linter.unusedVariables false
set_option maxRecDepth 100000

/-- Two cells set down one behind the other. -/
theorem heads_new (w : World) (a b : CellV) (t : TypeId) : HeadIn ((w.alloc (.cells a.vals t)).alloc (.cells b.vals t)).drew w.heap.size 0 a ∧ HeadIn ((w.alloc (.cells a.vals t)).alloc (.cells b.vals t)).drew (w.heap.size + 1) 0 b := by
  constructor
  · refine HeadIn.of fun j u hj => ?_
    show ((w.alloc (.cells a.vals t)).alloc (.cells b.vals t)).cell? ⟨w.heap.size, 0 + j, none⟩ = some u
    rw [((Below.refl _ _).alloc (Nat.le_refl _) _).cell (p := ⟨w.heap.size, 0 + j, none⟩) (by simp), cell_newL, Nat.zero_add]
    exact hj
  · refine HeadIn.of fun j u hj => ?_
    show ((w.alloc (.cells a.vals t)).alloc (.cells b.vals t)).cell? ⟨w.heap.size + 1, 0 + j, none⟩ = some u
    have := cell_newL (w.alloc (.cells a.vals t)) b.vals t (0 + j)
    rw [show (w.alloc (.cells a.vals t)).heap.size = w.heap.size + 1 by simp] at this
    rw [this, Nat.zero_add]
    exact hj

set_option maxHeartbeats 4000000 in
theorem bes_prog (v : Value) (l : List CellV) (pane side y : Int) (b : Bool) (w : World) (h : CellsIn w v l) (hI : BesIs l pane side y b) : Calls Try.prog 6 #[v, .int .i64 pane, .int .i64 side] w fun e w' => e = .returned (.tuple #[.int .i64 y, .bool b]) ∧ Below w.heap.size w w' := by
  obtain ⟨i, c, b1, hF, hR⟩ := hI
  have hb0 : ∀ o o', Below w.heap.size w ((w.alloc o).alloc o') := fun o o' => ((Below.refl _ _).alloc (Nat.le_refl _) _).alloc (by simp) _
  have HF : Hid (∀ o o', Calls Try.prog 13 #[v, .int .i64 pane] ((w.alloc o).alloc o') fun x w' => x = .returned (.tuple #[.int .i64 (i : Int), .bool b1]) ∧ Below ((w.alloc o).alloc o').heap.size ((w.alloc o).alloc o') w') := fun o o' => find_prog v l pane i c b1 _ (h.below (hb0 o o')) hF
  have HB0 : Hid (∀ o o', Below w.heap.size w ((w.alloc o).alloc o')) := hb0
  have HV : Hid (CellsIn w v l) := h
  rcases hR with ⟨rfl, rfl, rfl⟩ | ⟨rfl, wh, i2, c2, hwh, hI2, hy⟩
  · clear h hF hb0
    go_enter Try.func6, Try.ntmps6
    go_wp2_with fail
    refine (HF.out _ _).mono ?_
    rintro e w1 ⟨rfl, hb⟩
    have HB1 : Hid (Below w.heap.size w w1) := below_step (HB0.out _ _) hb
    clear hb
    go_wp2
    go_ret2
    exact ⟨rfl, HB1.out⟩
  · obtain ⟨hs, hfc⟩ : (readF l).isSome = true ∧ FC l (isPane (hasId pane)) i c := by
      rcases hF with ⟨_, _, h⟩ | ⟨_, _, _, h⟩ | ⟨h1, h2, _⟩
      · cases h
      · cases h
      · exact ⟨h1, h2⟩
    obtain ⟨W0, H0, hW0, hH0, hwh0, hin⟩ := lay_within hs
    obtain ⟨e1, e2⟩ := hwh0 wh hwh
    rw [← e1, ← e2] at hin
    obtain ⟨hl, hne⟩ := read_len hs
    obtain ⟨bk, off, cap, ev, _, hse⟩ := h.seen hne
    obtain ⟨n, hn⟩ : ∃ n, l.length = n := ⟨_, rfl⟩
    have hilt : i < n := by have := (List.getElem?_eq_some_iff.1 hfc.1).1; omega
    have HFd : Hid (∀ X gp gf gw gs, Below w.heap.size w X → BesEnv X gp gf gw gs pane side c wh → Calls Try.prog 14 #[v, .func (.func 15) #[] #[.pointer (some ⟨gp, 0, none⟩), .pointer (some ⟨gf, 0, none⟩), .pointer (some ⟨gw, 0, none⟩), .pointer (some ⟨gs, 0, none⟩)]] X fun x w' => x = .returned (.tuple #[.int .i64 (i2 : Int), .bool b]) ∧ Below X.heap.size X w') := fun X gp gf gw gs hX hEn => findCell_in v l _ _ _ i2 c2 b X (h.below hX) enters_bes (bes1_ok pane side c wh gp gf gw gs X l hEn (hin c (List.mem_of_getElem? hfc.1)) hin (by omega) (by omega)) hI2
    have HQ : Hid (∀ X, Below w.heap.size w X → HeadIn X bk (off + i * 7) c ∧ HeadIn X bk off wh) := fun X hX => ⟨(hse.below hX) i c hfc.1, by have := (hse.below hX) 0 wh hwh; rwa [show off + 0 * 7 = off by omega] at this⟩
    have HQ2 : Hid (b = true → i2 < n ∧ ∀ X, Below w.heap.size w X → X.cell? ⟨bk, off + i2 * 7 + 6, none⟩ = some (.int .i64 c2.p)) := fun hb => by
      rcases hI2 with ⟨_, _, h⟩ | ⟨_, _, _, h⟩ | ⟨_, h2, _⟩
      · rw [hb] at h; cases h
      · rw [hb] at h; cases h
      · exact ⟨by have := (List.getElem?_eq_some_iff.1 h2.1).1; omega, fun X hX => ((hse.below hX) i2 c2 h2.1).q6⟩
    have hnp : 0 < n := by omega
    rw [hn] at ev
    subst ev
    have HP : Hid (∀ X, Below ((w.alloc (.cells #[.int .i64 pane] 3)).alloc (.cells #[.int .i64 side] 3)).heap.size ((w.alloc (.cells #[.int .i64 pane] 3)).alloc (.cells #[.int .i64 side] 3)) X → X.cell? ⟨w.heap.size, 0, none⟩ = some (.int .i64 pane) ∧ X.cell? ⟨w.heap.size + 1, 0, none⟩ = some (.int .i64 side)) := fun X hX => by
      have e1 : ((w.alloc (.cells #[.int .i64 pane] 3)).alloc (.cells #[.int .i64 side] 3)).cell? ⟨w.heap.size, 0, none⟩ = some (.int .i64 pane) := by
        rw [((Below.refl _ _).alloc (Nat.le_refl _) _).cell (p := ⟨w.heap.size, 0, none⟩) (by simp), cell_newL]
        rfl
      have e2 : ((w.alloc (.cells #[.int .i64 pane] 3)).alloc (.cells #[.int .i64 side] 3)).cell? ⟨w.heap.size + 1, 0, none⟩ = some (.int .i64 side) := by
        have := cell_newL (w.alloc (.cells #[.int .i64 pane] 3)) #[.int .i64 side] 3 0
        rw [show (w.alloc (.cells #[.int .i64 pane] 3)).heap.size = w.heap.size + 1 by simp] at this
        exact this
      exact ⟨(hX.cell (p := ⟨w.heap.size, 0, none⟩) (World.block_lt_of_cell? _ _ e1)).trans e1, (hX.cell (p := ⟨w.heap.size + 1, 0, none⟩) (World.block_lt_of_cell? _ _ e2)).trans e2⟩
    have HYy : Hid (y = if b = true then c2.p else 0) := hy
    clear h hF hb0 hs hfc hW0 hH0 hwh0 hin e1 e2 hl hne hse hn hI2 hwh hy HV
    go_enter Try.func6, Try.ntmps6
    go_wp2_with fail
    refine (HF.out _ _).mono ?_
    rintro e w1 ⟨rfl, hb⟩
    obtain ⟨p1, p2⟩ := HP.out w1 hb
    have HB1 : Hid (Below w.heap.size w w1) := below_step (HB0.out _ _) hb
    obtain ⟨⟨q0, q1, q2, q3, q4, q5, q6⟩, ⟨u0, u1, u2, u3, u4, u5, u6⟩⟩ := HQ.out w1 HB1.out
    have qa0 : ∀ o, (w1.alloc o).cell? ⟨bk, off + i * 7, none⟩ = some (.int .i64 c.depth) := fun o => (HQ.out (w1.alloc o) (below_step HB1.out ((Below.refl _ _).alloc (Nat.le_refl _) o))).1.q0
    have qa1 : ∀ o, (w1.alloc o).cell? ⟨bk, off + i * 7 + 1, none⟩ = some (.int .i64 c.kind) := fun o => (HQ.out (w1.alloc o) (below_step HB1.out ((Below.refl _ _).alloc (Nat.le_refl _) o))).1.q1
    have qa2 : ∀ o, (w1.alloc o).cell? ⟨bk, off + i * 7 + 2, none⟩ = some (.int .i64 c.x) := fun o => (HQ.out (w1.alloc o) (below_step HB1.out ((Below.refl _ _).alloc (Nat.le_refl _) o))).1.q2
    have qa3 : ∀ o, (w1.alloc o).cell? ⟨bk, off + i * 7 + 3, none⟩ = some (.int .i64 c.y) := fun o => (HQ.out (w1.alloc o) (below_step HB1.out ((Below.refl _ _).alloc (Nat.le_refl _) o))).1.q3
    have qa4 : ∀ o, (w1.alloc o).cell? ⟨bk, off + i * 7 + 4, none⟩ = some (.int .i64 c.w) := fun o => (HQ.out (w1.alloc o) (below_step HB1.out ((Below.refl _ _).alloc (Nat.le_refl _) o))).1.q4
    have qa5 : ∀ o, (w1.alloc o).cell? ⟨bk, off + i * 7 + 5, none⟩ = some (.int .i64 c.h) := fun o => (HQ.out (w1.alloc o) (below_step HB1.out ((Below.refl _ _).alloc (Nat.le_refl _) o))).1.q5
    have qa6 : ∀ o, (w1.alloc o).cell? ⟨bk, off + i * 7 + 6, none⟩ = some (.int .i64 c.p) := fun o => (HQ.out (w1.alloc o) (below_step HB1.out ((Below.refl _ _).alloc (Nat.le_refl _) o))).1.q6
    have ua0 : ∀ o, (w1.alloc o).cell? ⟨bk, off, none⟩ = some (.int .i64 wh.depth) := fun o => (HQ.out (w1.alloc o) (below_step HB1.out ((Below.refl _ _).alloc (Nat.le_refl _) o))).2.q0
    have ua1 : ∀ o, (w1.alloc o).cell? ⟨bk, off + 1, none⟩ = some (.int .i64 wh.kind) := fun o => (HQ.out (w1.alloc o) (below_step HB1.out ((Below.refl _ _).alloc (Nat.le_refl _) o))).2.q1
    have ua2 : ∀ o, (w1.alloc o).cell? ⟨bk, off + 2, none⟩ = some (.int .i64 wh.x) := fun o => (HQ.out (w1.alloc o) (below_step HB1.out ((Below.refl _ _).alloc (Nat.le_refl _) o))).2.q2
    have ua3 : ∀ o, (w1.alloc o).cell? ⟨bk, off + 3, none⟩ = some (.int .i64 wh.y) := fun o => (HQ.out (w1.alloc o) (below_step HB1.out ((Below.refl _ _).alloc (Nat.le_refl _) o))).2.q3
    have ua4 : ∀ o, (w1.alloc o).cell? ⟨bk, off + 4, none⟩ = some (.int .i64 wh.w) := fun o => (HQ.out (w1.alloc o) (below_step HB1.out ((Below.refl _ _).alloc (Nat.le_refl _) o))).2.q4
    have ua5 : ∀ o, (w1.alloc o).cell? ⟨bk, off + 5, none⟩ = some (.int .i64 wh.h) := fun o => (HQ.out (w1.alloc o) (below_step HB1.out ((Below.refl _ _).alloc (Nat.le_refl _) o))).2.q5
    have ua6 : ∀ o, (w1.alloc o).cell? ⟨bk, off + 6, none⟩ = some (.int .i64 wh.p) := fun o => (HQ.out (w1.alloc o) (below_step HB1.out ((Below.refl _ _).alloc (Nat.le_refl _) o))).2.q6
    have qb0 : ∀ o o', ((w1.alloc o).alloc o').cell? ⟨bk, off + i * 7, none⟩ = some (.int .i64 c.depth) := fun o o' => (HQ.out ((w1.alloc o).alloc o') (below_step HB1.out (((Below.refl _ _).alloc (Nat.le_refl _) o).alloc (by simp) o'))).1.q0
    have qb1 : ∀ o o', ((w1.alloc o).alloc o').cell? ⟨bk, off + i * 7 + 1, none⟩ = some (.int .i64 c.kind) := fun o o' => (HQ.out ((w1.alloc o).alloc o') (below_step HB1.out (((Below.refl _ _).alloc (Nat.le_refl _) o).alloc (by simp) o'))).1.q1
    have qb2 : ∀ o o', ((w1.alloc o).alloc o').cell? ⟨bk, off + i * 7 + 2, none⟩ = some (.int .i64 c.x) := fun o o' => (HQ.out ((w1.alloc o).alloc o') (below_step HB1.out (((Below.refl _ _).alloc (Nat.le_refl _) o).alloc (by simp) o'))).1.q2
    have qb3 : ∀ o o', ((w1.alloc o).alloc o').cell? ⟨bk, off + i * 7 + 3, none⟩ = some (.int .i64 c.y) := fun o o' => (HQ.out ((w1.alloc o).alloc o') (below_step HB1.out (((Below.refl _ _).alloc (Nat.le_refl _) o).alloc (by simp) o'))).1.q3
    have qb4 : ∀ o o', ((w1.alloc o).alloc o').cell? ⟨bk, off + i * 7 + 4, none⟩ = some (.int .i64 c.w) := fun o o' => (HQ.out ((w1.alloc o).alloc o') (below_step HB1.out (((Below.refl _ _).alloc (Nat.le_refl _) o).alloc (by simp) o'))).1.q4
    have qb5 : ∀ o o', ((w1.alloc o).alloc o').cell? ⟨bk, off + i * 7 + 5, none⟩ = some (.int .i64 c.h) := fun o o' => (HQ.out ((w1.alloc o).alloc o') (below_step HB1.out (((Below.refl _ _).alloc (Nat.le_refl _) o).alloc (by simp) o'))).1.q5
    have qb6 : ∀ o o', ((w1.alloc o).alloc o').cell? ⟨bk, off + i * 7 + 6, none⟩ = some (.int .i64 c.p) := fun o o' => (HQ.out ((w1.alloc o).alloc o') (below_step HB1.out (((Below.refl _ _).alloc (Nat.le_refl _) o).alloc (by simp) o'))).1.q6
    have ub0 : ∀ o o', ((w1.alloc o).alloc o').cell? ⟨bk, off, none⟩ = some (.int .i64 wh.depth) := fun o o' => (HQ.out ((w1.alloc o).alloc o') (below_step HB1.out (((Below.refl _ _).alloc (Nat.le_refl _) o).alloc (by simp) o'))).2.q0
    have ub1 : ∀ o o', ((w1.alloc o).alloc o').cell? ⟨bk, off + 1, none⟩ = some (.int .i64 wh.kind) := fun o o' => (HQ.out ((w1.alloc o).alloc o') (below_step HB1.out (((Below.refl _ _).alloc (Nat.le_refl _) o).alloc (by simp) o'))).2.q1
    have ub2 : ∀ o o', ((w1.alloc o).alloc o').cell? ⟨bk, off + 2, none⟩ = some (.int .i64 wh.x) := fun o o' => (HQ.out ((w1.alloc o).alloc o') (below_step HB1.out (((Below.refl _ _).alloc (Nat.le_refl _) o).alloc (by simp) o'))).2.q2
    have ub3 : ∀ o o', ((w1.alloc o).alloc o').cell? ⟨bk, off + 3, none⟩ = some (.int .i64 wh.y) := fun o o' => (HQ.out ((w1.alloc o).alloc o') (below_step HB1.out (((Below.refl _ _).alloc (Nat.le_refl _) o).alloc (by simp) o'))).2.q3
    have ub4 : ∀ o o', ((w1.alloc o).alloc o').cell? ⟨bk, off + 4, none⟩ = some (.int .i64 wh.w) := fun o o' => (HQ.out ((w1.alloc o).alloc o') (below_step HB1.out (((Below.refl _ _).alloc (Nat.le_refl _) o).alloc (by simp) o'))).2.q4
    have ub5 : ∀ o o', ((w1.alloc o).alloc o').cell? ⟨bk, off + 5, none⟩ = some (.int .i64 wh.h) := fun o o' => (HQ.out ((w1.alloc o).alloc o') (below_step HB1.out (((Below.refl _ _).alloc (Nat.le_refl _) o).alloc (by simp) o'))).2.q5
    have ub6 : ∀ o o', ((w1.alloc o).alloc o').cell? ⟨bk, off + 6, none⟩ = some (.int .i64 wh.p) := fun o o' => (HQ.out ((w1.alloc o).alloc o') (below_step HB1.out (((Below.refl _ _).alloc (Nat.le_refl _) o).alloc (by simp) o'))).2.q6
    have HX : Hid (∀ a d : CellV, Below w.heap.size w ((w1.alloc (.cells a.vals 35)).alloc (.cells d.vals 35)).drew) := fun a d => below_step HB1.out (((Below.refl _ _).alloc (Nat.le_refl _) _).alloc (by simp) _).drew
    have HPp : Hid (∀ a d : CellV, ((w1.alloc (.cells a.vals 35)).alloc (.cells d.vals 35)).drew.cell? ⟨w.heap.size, 0, none⟩ = some (.int .i64 pane) ∧ ((w1.alloc (.cells a.vals 35)).alloc (.cells d.vals 35)).drew.cell? ⟨w.heap.size + 1, 0, none⟩ = some (.int .i64 side)) := fun a d => by
      have k := (((Below.refl w1.heap.size w1).alloc (Nat.le_refl _) (.cells a.vals 35)).alloc (by simp) (.cells d.vals 35)).drew
      exact ⟨(k.cell (p := ⟨w.heap.size, 0, none⟩) (World.block_lt_of_cell? _ _ p1)).trans p1, (k.cell (p := ⟨w.heap.size + 1, 0, none⟩) (World.block_lt_of_cell? _ _ p2)).trans p2⟩
    have HC1 : Hid (Calls Try.prog 14 #[.slice (some ⟨bk, off, none⟩) n cap, .func (.func 15) #[] #[.pointer (some ⟨w.heap.size, 0, none⟩), .pointer (some ⟨w1.heap.size, 0, none⟩), .pointer (some ⟨w1.heap.size + 1, 0, none⟩), .pointer (some ⟨w.heap.size + 1, 0, none⟩)]] ((w1.alloc (.cells #[.int .i64 c.depth, .int .i64 c.kind, .int .i64 c.x, .int .i64 c.y, .int .i64 c.w, .int .i64 c.h, .int .i64 c.p] 35)).alloc (.cells #[.int .i64 wh.depth, .int .i64 wh.kind, .int .i64 wh.x, .int .i64 wh.y, .int .i64 wh.w, .int .i64 wh.h, .int .i64 wh.p] 35)).drew fun x w' => x = .returned (.tuple #[.int .i64 (i2 : Int), .bool b]) ∧ Below w.heap.size w w') :=
      (HFd.out ((w1.alloc (.cells c.vals 35)).alloc (.cells wh.vals 35)).drew _ _ _ _ (HX.out c wh) ⟨(HPp.out c wh).1, (HPp.out c wh).2, (heads_new w1 c wh _).1, (heads_new w1 c wh _).2⟩).mono fun x w' hh => ⟨hh.1, below_step (HX.out c wh) hh.2⟩
    have HC2 : Hid (Calls Try.prog 14 #[.slice (some ⟨bk, off, none⟩) n cap, .func (.func 15) #[] #[.pointer (some ⟨w.heap.size, 0, none⟩), .pointer (some ⟨w1.heap.size + 1, 0, none⟩), .pointer (some ⟨w1.heap.size, 0, none⟩), .pointer (some ⟨w.heap.size + 1, 0, none⟩)]] ((w1.alloc (.cells #[.int .i64 wh.depth, .int .i64 wh.kind, .int .i64 wh.x, .int .i64 wh.y, .int .i64 wh.w, .int .i64 wh.h, .int .i64 wh.p] 35)).alloc (.cells #[.int .i64 c.depth, .int .i64 c.kind, .int .i64 c.x, .int .i64 c.y, .int .i64 c.w, .int .i64 c.h, .int .i64 c.p] 35)).drew fun x w' => x = .returned (.tuple #[.int .i64 (i2 : Int), .bool b]) ∧ Below w.heap.size w w') :=
      (HFd.out ((w1.alloc (.cells wh.vals 35)).alloc (.cells c.vals 35)).drew _ _ _ _ (HX.out wh c) ⟨(HPp.out wh c).1, (HPp.out wh c).2, (heads_new w1 wh c _).2, (heads_new w1 wh c _).1⟩).mono fun x w' hh => ⟨hh.1, below_step (HX.out wh c) hh.2⟩
    clear hb HF HP HQ HX HPp HFd p1 p2
    go_wp2
    go_region
    all_goals clear q0 q1 q2 q3 q4 q5 q6 u0 u1 u2 u3 u4 u5 u6 qa0 qa1 qa2 qa3 qa4 qa5 qa6 ua0 ua1 ua2 ua3 ua4 ua5 ua6 qb0 qb1 qb2 qb3 qb4 qb5 qb6 ub0 ub1 ub2 ub3 ub4 ub5 ub6
    · go_wp2_with fail
      refine HC1.out.mono ?_
      rintro e w2 ⟨rfl, hb2⟩
      cases b
      · have HY : Hid (y = 0) := HYy.out
        go_wp2
        go_ret2
        exact ⟨by rw [HY.out]; rfl, hb2⟩
      · obtain ⟨hi2, hq⟩ := HQ2.out rfl
        have q6 := hq w2 hb2
        have HY : Hid (y = c2.p) := HYy.out
        clear hq
        go_wp2
        go_ret2
        exact ⟨by rw [HY.out]; rfl, hb2⟩
    · go_wp2_with fail
      refine HC2.out.mono ?_
      rintro e w2 ⟨rfl, hb2⟩
      cases b
      · have HY : Hid (y = 0) := HYy.out
        go_wp2
        go_ret2
        exact ⟨by rw [HY.out]; rfl, hb2⟩
      · obtain ⟨hi2, hq⟩ := HQ2.out rfl
        have q6 := hq w2 hb2
        have HY : Hid (y = c2.p) := HYy.out
        clear hq
        go_wp2
        go_ret2
        exact ⟨by rw [HY.out]; rfl, hb2⟩

end Go.Proofs.Ytlaelkcmeaiajaa
