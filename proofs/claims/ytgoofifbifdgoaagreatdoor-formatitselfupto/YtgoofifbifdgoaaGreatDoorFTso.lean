/-
  Formats: the turns that a head names; a text turned by them.
-/
import Derived.Test.YtgoofifbifdgoaaGreatDoorFNew
import Derived.Test.YtgoofifbifdgoaaGreatDoorFSplit
namespace Go.Proofs.YtgoofifbifdgoaaGreatDoor
open Go.RowKit
set_option linter.unusedVariables false
set_option maxRecDepth 100000

/-- A turn that still does what it did, whatever is laid into block g. -/
def TurnOff (W : World) (v : Value) (t : Turn) (g : Option Nat) : Prop := ∃ B w0, TurnOk B w0 v t ∧ Since B w0 W ∧ ∀ k, g = some k → ¬ (B ≤ k ∧ k < w0.heap.size)
theorem TurnOff.below {W W' : World} {v : Value} {t : Turn} {g : Option Nat} (h : TurnOff W v t g) (hb : Below W.heap.size W W') : TurnOff W' v t g := by
  obtain ⟨B, w0, h1, h2, h3⟩ := h
  exact ⟨B, w0, h1, h2.trans (.of_below hb), h3⟩
theorem TurnOff.grown {X W' : World} {sv sv' v : Value} {t : Turn} (h : TurnOff X v t sv.ownBlock) (hg : Grown X W' sv sv' sv.ownBlock.toList) : TurnOff W' v t sv'.ownBlock := by
  obtain ⟨B, w0, h1, h2, h3⟩ := h
  refine ⟨B, w0, h1, ⟨Nat.le_trans h2.size hg.but.size, fun k hk hl => (hg.but.block k (Nat.lt_of_lt_of_le hl h2.size) fun hm => h3 k (by simpa using hm) ⟨hk, hl⟩).trans (h2.block k hk hl)⟩, fun k hk hh => ?_⟩
  rcases hg.own with e | e
  · exact h3 k (e ▸ hk) hh
  · rw [e] at hk
    cases hk
    have := h2.size
    omega
/-- A list of turns of one's own. -/
def Tl (w W : World) (sv : Value) (ts : List Turn) : Prop := ∃ vals, Mine w W 94 1 sv ts.length vals ∧ ∀ (i : Nat) t v, ts[i]? = some t → vals[i]? = some v → TurnOff W v t sv.ownBlock
theorem Tl.nil {w W : World} (h : Below w.heap.size w W) : Tl w W (.slice none 0 0) [] := ⟨[], Mine.nil h, fun i t v h => by simp at h⟩
theorem Tl.below {w W W' : World} {sv : Value} {ts : List Turn} (h : Tl w W sv ts) (hb : Below W.heap.size W W') : Tl w W' sv ts := by
  obtain ⟨vals, h1, h2⟩ := h
  exact ⟨vals, h1.more hb, fun i t v ht hv => (h2 i t v ht hv).below hb⟩
theorem Tl.world {w W : World} {sv : Value} {ts : List Turn} (h : Tl w W sv ts) : Below w.heap.size w W := by
  obtain ⟨vals, h1, h2⟩ := h
  exact h1.below
theorem Tl.grow {w Wc W1 X W' : World} {sv sv' tv : Value} {ts : List Turn} {t : Turn} {vals : List Value} (hm : Mine w Wc 94 1 sv ts.length vals) (hv : ∀ (i : Nat) t v, ts[i]? = some t → vals[i]? = some v → TurnOff Wc v t sv.ownBlock)
    (hb : Below Wc.heap.size Wc W1) (ht : TurnOk Wc.heap.size W1 tv t) (hX : Below W1.heap.size W1 X) (hr : Row W' 94 1 sv' (ts.length + 1) (vals ++ [tv])) (hg : Grown X W' sv sv' sv.ownBlock.toList) : Tl w W' sv' (ts ++ [t]) := by
  have hbX : Below Wc.heap.size Wc X := hb.trans (hX.mono hb.size)
  refine ⟨vals ++ [tv], (hm.grown hbX hr hg).cast (by simp) rfl, fun i t' v' h1 h2 => ?_⟩
  have hl : vals.length = ts.length := by have := hm.row.1; omega
  by_cases hi : i < ts.length
  · rw [List.getElem?_append_left hi] at h1
    rw [List.getElem?_append_left (by omega)] at h2
    exact ((hv i t' v' h1 h2).below hbX).grown hg
  · rw [List.getElem?_append_right (by omega)] at h1
    rw [List.getElem?_append_right (by omega)] at h2
    have hi0 : i - ts.length = 0 := by
      have := (List.getElem?_eq_some_iff.1 h1).1
      simp at this
      omega
    rw [hi0] at h1
    rw [hl, hi0] at h2
    simp at h1 h2
    subst h1 h2
    refine TurnOff.grown (X := X) ⟨Wc.heap.size, W1, ht, .of_below hX, fun k hk hh => ?_⟩ hg
    have := hm.row.lt k hk
    omega
/-- How far the turns are read. -/
def joinT (ts : List Turn) : Option (Option (List Turn)) → Option (Option (List Turn))
  | none => none
  | some none => some none
  | some (some us) => some (some (ts ++ us))
theorem join_nil (r : Option (Option (List Turn))) : joinT [] r = r := by
  cases r with
  | none => rfl
  | some r => cases r <;> rfl
theorem join_cons (ts : List Turn) (p : List UInt8) (ps : List (List UInt8)) : joinT ts (turnsG (p :: ps)) = match turnF p with | none => none | some none => some none | some (some t) => joinT (ts ++ [t]) (turnsG ps) := by
  simp only [turnsG]
  cases turnF p with
  | none => rfl
  | some r =>
    cases r with
    | none => rfl
    | some t =>
      simp only []
      cases turnsG ps with
      | none => rfl
      | some r => cases r with
        | none => rfl
        | some us => simp [joinT]
theorem infoTurn : (Tryz.prog.info? 94).map (fun i => (i.zero, i.size, i.bytes)) = some (some .nilFunc, 1, 8) := by kernel_rfl
theorem underTurnL : Tryz.prog.underlying 169 = some (.slice 94) := by kernel_rfl

/-- What is read of Split's list. -/
theorem split_cells {w W : World} {ps : List (List UInt8)} (h : Below (w.alloc (.cells ((ps.map str).map Value.string).toArray 9)).heap.size (w.alloc (.cells ((ps.map str).map Value.string).toArray 9)) W) {i : Nat} {p : List UInt8} (hp : ps[i]? = some p) : W.cell? ⟨w.heap.size, i, none⟩ = some (.string (str p)) := by
  rw [cell_atT ((h.block w.heap.size (by simp)).trans (heap_alloc_new w _)) i]
  simp [hp]
/-- What the expander shows of its turners. -/
structure TurnX (W : World) (xb mt : Nat) (w0 : World) : Prop where
  cell : W.cell? ⟨xb, 3, none⟩ = some (.map (some mt))
  turns : TurnsAt w0 W mt
  max : ∃ m, W.cell? ⟨1, 0, none⟩ = some (.int .i64 m)
theorem TurnX.below {W W' : World} {xb mt : Nat} {w0 : World} (h : TurnX W xb mt w0) (hb : Below W.heap.size W W') : TurnX W' xb mt w0 := by
  obtain ⟨m, hm⟩ := h.max
  exact ⟨(hb.cell (p := ⟨xb, 3, none⟩) (World.block_lt_of_cell? W _ h.cell)).trans h.cell, h.turns.below hb, m, (hb.cell (p := ⟨1, 0, none⟩) (World.block_lt_of_cell? W _ hm)).trans hm⟩
theorem zeroTurner (w : World) : (zeroValue 89).run Tryz.prog w = .ok .nilFunc w := by kernel_rfl

theorem tl_older {w w1 W : World} {sv : Value} {ts : List Turn} (hb : Below w.heap.size w w1) (h : Tl w1 W sv ts) : Tl w W sv ts := by
  obtain ⟨vals, h1, h2⟩ := h
  exact ⟨vals, ⟨h1.row, hb.trans (h1.below.mono hb.size), fun g hg => Nat.le_trans hb.size (h1.young g hg)⟩, h2⟩
theorem splitG_count (c : UInt8) : ∀ (l cur : List UInt8), (splitG c cur l).length ≤ l.length + 1
  | [], cur => by simp [splitG]
  | d :: r, cur => by
    simp only [splitG]
    split
    · have := splitG_count c r []
      simp
      omega
    · have := splitG_count c r (cur ++ [d])
      simp
      omega
theorem turn_known {w0 W : World} {mt : Nat} (h : TurnsAt w0 W mt) {c : UInt8} {r : List UInt8} {x : Option Turn} (hx : turnF (c :: r) = some x) : ∃ m v f, MapB W mt m ∧ lookB m c = some v ∧ TurnerOk (mt + 1) w0 v f ∧ x = f r ∧ Since (mt + 1) w0 W := by
  obtain ⟨hs, m, h1, ⟨v1, h2, h3⟩, ⟨v2, h4, h5⟩, _⟩ := h
  simp only [turnF] at hx
  by_cases h61 : c.toNat = 61
  · obtain rfl : c = 61 := UInt8.toNat_inj.1 h61
    rw [if_pos h61] at hx
    exact ⟨m, v1, _, h1, h2, h3, (Option.some.inj hx).symm, hs⟩
  · rw [if_neg h61] at hx
    by_cases h112 : c.toNat = 112
    · obtain rfl : c = 112 := UInt8.toNat_inj.1 h112
      rw [if_pos h112] at hx
      exact ⟨m, v2, _, h1, h4, h5, (Option.some.inj hx).symm, hs⟩
    · rw [if_neg h112] at hx
      cases hx

set_option maxHeartbeats 4000000 in
theorem turnsOf_any {w : World} {xb mt : Nat} {w0 : World} (h : TurnX w xb mt w0) (name : List UInt8) (hl : name.length ≤ 2147483647) (R : Option (List Turn)) (hR : turnsF name = some R) :
    Calls Tryz.prog 146 #[.pointer (some ⟨xb, 0, none⟩), .string (str name)] w fun e w' => Below w.heap.size w w' ∧ ∃ sv ok, e = .returned (.tuple #[sv, .bool ok]) ∧ ((∃ ts, R = some ts ∧ ok = true ∧ Tl w w' sv ts) ∨ (R = none ∧ ok = false)) := by
  have HSp := hidK (split_any name 59 hl w h.max)
  have e59 : str [59] = (⟨#[59]⟩ : ByteArray) := rfl
  rw [e59] at HSp
  obtain ⟨ps, hps⟩ : ∃ ps, splitG 59 [] name = ps := ⟨_, rfl⟩
  have hsh : ∀ p ∈ ps, p.length ≤ 2147483647 := fun p hp => by
    rw [← hps] at hp
    have := splitG_short 59 name [] p hp
    simp at this
    omega
  have HR : Hid (joinT [] (turnsG ps) = some R) := by
    rw [join_nil, ← hps]
    exact hR
  rw [hps] at HSp
  have HSh := hidK hsh
  have HX := hidK h
  obtain ⟨n, hn⟩ : ∃ n, ps.length = n := ⟨_, rfl⟩
  have HN := hidK hn
  rw [hn] at HSp
  have hn1 : n ≤ 4294967296 := by
    have := splitG_count 59 name []
    rw [hps, hn] at this
    omega
  obtain ⟨z, hz⟩ : ∃ z, str name = z := ⟨_, rfl⟩
  rw [hz] at HSp ⊢
  clear h e59 hps hsh hn hz hR
  go_enter Tryz.func146, Tryz.ntmps146
  go_wp2_with fail
  refine HSp.out.mono ?_
  rintro x w1 ⟨rfl, rfl⟩
  have HB1 : Hid (Below w.heap.size w (w.alloc (.cells ((ps.map str).map Value.string).toArray 9))) := (Below.refl _ _).alloc (Nat.le_refl _) _
  have HCe := hidK (fun W (hW : Below (w.alloc (.cells ((ps.map str).map Value.string).toArray 9)).heap.size (w.alloc (.cells ((ps.map str).map Value.string).toArray 9)) W) (i : Nat) (p : List UInt8) (hp : ps[i]? = some p) => split_cells hW hp)
  obtain ⟨w1, hw1⟩ : ∃ w1, w.alloc (.cells ((ps.map str).map Value.string).toArray 9) = w1 := ⟨_, rfl⟩
  have HX1 := hidK (HX.out.below HB1.out)
  rw [hw1] at HB1 HCe HX1 ⊢
  clear HSp hw1 HX
  go_wp2_with fail
  go_loopw [6, 15] (fun s6 s15 wx => ∃ (k : Nat) (ts : List Turn), k ≤ n ∧ ts.length ≤ k ∧ s15 = .int .i64 (k : Int) ∧ Hid (Tl w1 wx s6 ts) ∧ Hid (joinT ts (turnsG (ps.drop k)) = some R)) (fun _ v _ => n - (intOf v).toNat)
  case atStart => exact ⟨0, [], Nat.zero_le _, Nat.le_refl _, rfl, Tl.nil (Below.refl _ _), HR.out⟩
  case round =>
    obtain ⟨k, ts, hk, htk, rfl, HT, HJ⟩ := hrel
    obtain ⟨sp, hsp⟩ : ∃ sp, u6 = sp := ⟨_, rfl⟩
    rw [hsp] at HT ⊢
    clear hsp
    have HBw : Hid (Below w.heap.size w wr) := HB1.out.trans (HT.out.world.mono HB1.out.size)
    by_cases hkn : k < n
    · obtain ⟨p, hp⟩ : ∃ p, ps[k]? = some p := ⟨_, List.getElem?_eq_getElem (by rw [HN.out]; exact hkn)⟩
      have q0 := HCe.out wr HT.out.world k p hp
      have hpl := HSh.out p (List.mem_of_getElem? hp)
      have hdr : ps.drop k = p :: ps.drop (k + 1) := by
        obtain ⟨h1, h2⟩ := List.getElem?_eq_some_iff.1 hp
        rw [List.drop_eq_getElem_cons h1, h2]
      rw [hdr, join_cons] at HJ
      have HXr := hidK (HX1.out.below HT.out.world)
      clear hp hdr
      cases p with
      | nil =>
        have hRn : R = none := by
          have := HJ.out
          simp only [turnF] at this
          exact (Option.some.inj this).symm
        have HRn := hidK hRn
        clear hRn
        have h0 : (str []).toList = [] := str_toList []
        have h1 : (str []).toList.isEmpty = true := by rw [h0]; rfl
        clear HJ HXr HX1 HR
        go_wp2_with fail
        all_goals go_ret2
        all_goals exact ⟨HBw.out, _, _, rfl, .inr ⟨HRn.out, rfl⟩⟩
      | cons c r =>
        cases htf : turnF (c :: r) with
        | none =>
          rw [htf] at HJ
          have := HJ.out
          cases this
        | some tr =>
          rw [htf] at HJ
          obtain ⟨m, v, f, hm, hv, ⟨g, lb, rfl, eg, hcall⟩, rfl, hsi⟩ := turn_known HXr.out.turns htf
          have l0 := lookB_some hm underTurns Tryz.underlying5 hv
          have l1 := lookB_some (w := wr.drew) hm underTurns Tryz.underlying5 hv
          have c3 := HXr.out.cell
          have hs' : (str (c :: r)).size = r.length + 1 := rfl
          have hD : (str (c :: r)).extract 1 (str (c :: r)).size = str r := str_dropF (c :: r) 1
          have hnil : ¬ (str (c :: r)).toList = [] := by rw [str_toList]; simp
          have hemp : (str (c :: r)).toList.isEmpty = false := by rw [str_toList]; rfl
          have hg0 : ∀ h : 0 < (str (c :: r)).size, (str (c :: r))[0] = c := fun h => str_getF _ 0 c rfl h
          have hrl : r.length + 1 ≤ 2147483647 := hpl
          have HCall := hidK (fun W (hW : Below wr.heap.size wr W) => hcall W (hsi.trans (.of_below hW)) r (by omega))
          unfold Enters at eg
          obtain ⟨y, hy⟩ : ∃ y, str (c :: r) = y := ⟨_, rfl⟩
          obtain ⟨yr, hyr⟩ : ∃ yr, str r = yr := ⟨_, rfl⟩
          rw [hy] at hs' hD hnil hemp hg0 q0
          rw [hyr] at hD HCall
          rw [hs'] at hD
          have hy0 : 0 < y.size := by omega
          have g0 := hg0 hy0
          have HV := HT.out
          obtain ⟨vals, hmine, hoff⟩ := HV
          have HMi := hidK hmine
          have HOf := hidK hoff
          clear hg0 hy hyr hcall hm hv htf HX1 HXr HR hpl hsi hmine hoff
          go_wp2_with fail
          go_region
          all_goals go_wp2_with fail
          all_goals (
            refine (HCall.out _ (by repeat (first | exact Below.refl _ _ | apply Below.drew))).mono ?_
            rintro x w5 ⟨tv, ok, rfl, hb5, hres⟩)
          all_goals (rcases hres with ⟨t, hft, rfl, ht5⟩ | ⟨hft, rfl⟩)
          · have HJ2 : Hid (joinT (ts ++ [t]) (turnsG (ps.drop (k + 1))) = some R) := by
              have h := HJ.out
              rw [hft] at h
              exact h
            have HB5 := hidK (show Below wr.heap.size wr w5 from ((Below.refl _ _).drew : Below wr.heap.size wr wr.drew).trans hb5)
            have HT5 := hidK ht5
            obtain ⟨g2, lb2, rfl, -, -⟩ := ht5
            clear hft hb5 HJ HCall l0 l1
            go_wp2_with (refine wpList_append_row (w5.alloc (.cells #[.func (.func g2) #[] lb2] 94)) rfl _ _ 169 169 rfl underTurnL infoTurn rfl (v := sp) (by simp [Act.eval]) (u := .slice (some ⟨w5.heap.size, 0, none⟩) 1 1) (by simp [Act.eval]) (HMi.out.row.below (HB5.out.trans (((Below.refl w5.heap.size w5).alloc (Nat.le_refl _) _).mono HB5.out.size))) (Src.block underTurnL _ _ [.func (.func g2) #[] lb2] _ 1 (heap_alloc_new w5 _) rfl rfl) ?x1 ?x2 ?x3)
            case x1 => omega
            case x2 => unfold maxLen; omega
            case x3 =>
              intro v7 w7 hr7 hg7
              have HT7 := hidK (Tl.grow HMi.out HOf.out HB5.out HT5.out ((Below.refl _ _).alloc (Nat.le_refl _) _) hr7.out hg7.out)
              clear hr7 hg7 HMi HOf HT
              go_wp2_with fail
              go_roundw
              case rel => exact ⟨k + 1, ts ++ [t], by omega, by simp; omega, by go_num, HT7.out, HJ2.out⟩
              case measure => simp [intOf]; omega
          · have HRn : Hid (R = none) := by
              have h := HJ.out
              rw [hft] at h
              exact (Option.some.inj h).symm
            have HB5 : Hid (Below w.heap.size w w5) := HBw.out.trans ((((Below.refl _ _).drew : Below wr.heap.size wr wr.drew).trans hb5).mono HBw.out.size)
            clear hft hb5 HJ HCall l0 l1
            go_wp2_with fail
            all_goals go_ret2
            all_goals exact ⟨HB5.out, _, _, rfl, .inr ⟨HRn.out, rfl⟩⟩
    · obtain rfl : k = n := by omega
      have hRs : R = some ts := by
        have h := HJ.out
        rw [List.drop_eq_nil_of_le (by rw [HN.out]; exact Nat.le_refl _)] at h
        have h2 : some (some (ts ++ [])) = some R := h
        rw [List.append_nil] at h2
        exact (Option.some.inj h2).symm
      have HRs := hidK hRs
      clear HJ HX1 HR hRs
      go_wp2_with fail
      all_goals go_ret2
      all_goals exact ⟨HBw.out, _, _, rfl, .inl ⟨ts, HRs.out, rfl, tl_older HB1.out HT.out⟩⟩

end Go.Proofs.YtgoofifbifdgoaaGreatDoor
