/-
  Lines of commands: the law of one's own lists.
-/
import Derived.Test.YtghkhnnlhkdceaaXOwnS
import Derived.Test.YtghkhnnlhkdceaaXSure
import Derived.BigQuiet
namespace Go.Proofs.Ytghkhnnlhkdceaa
open Go.RowKit
set_option linter.unusedVariables false
set_option maxRecDepth 100000

theorem Rows2.ones {w : World} {lo : Nat} {vs : List Value} {cs : List (List (List UInt8))} {hi : Nat} (h : Rows2 w lo vs cs hi) : ∀ u ∈ vs, u.oneCell' = true := by
  induction h with
  | nil hi h0 => intro u hu; cases hu
  | snoc vs cs mid hi v c _ hv hlt hle ih =>
    intro u hu
    rcases List.mem_append.1 hu with h | h
    · exact ih u h
    · rw [List.mem_singleton.1 h]
      obtain ⟨a, k, e, _⟩ := own_slice hv
      rw [e]
      rfl
/-- One row of lists appended to another. -/
theorem wpList_append_rows {ops : Array Oper} {rest : List Oper} {o : Oper} {a : Act} {Q : Exit → Act → World → Prop} (w : World) (hgd : o.guard = none) (s x : Operand) (t : TypeId)
    (ho : o.op = .call { callee := .builtin .append, args := #[s, x], argTypes := #[t, t] }) (ht : Try.prog.underlying t = some (.slice 29))
    (B B' : Nat) (v : Value) (k : Nat) (xs : List Value) (u : Value) (m : Nat) (ys : List Value) (hs : a.eval s = v) (hown : w.ownsRow B 29 1 v k xs) (hx : a.eval x = u) (hu : w.ownsRow B' 29 1 u m ys) (hy : ∀ y ∈ ys, y.oneCell' = true) (hlen : k + m ≤ 16777216) (hB : B ≤ w.heap.size)
    (h : ∀ v' w', w'.ownsRow B 29 1 v' (k + m) (xs ++ ys) → Below B w w' → wpList Try.prog ops Q rest (a.put o.dst v') w') : wpList Try.prog ops Q (o :: rest) a w := by
  obtain ⟨i0, hi, hz0, hz1, hz2⟩ := info_parts infoSS
  have hlm : ys.length = m * 1 := hu.1
  rcases hu.2 with ⟨rfl, h0⟩ | ⟨g, cap, cur, rfl, hb, hg, h1, h2, h3, h4⟩
  · subst h0
    have : ys = [] := List.length_eq_zero_iff.1 (by omega)
    subst this
    refine wpList_append_own_none hgd s x t ho B 29 i0 1 ht hi v k xs hs hown hx (h v w ?_ (Below.refl _ _))
    rw [List.append_nil]
    exact hown
  · refine wpList_append_own w hgd s x t ho B 29 i0 (.slice none 0 0) 1 24 ht hi hz0 hz1 hz2 rfl (by decide) v k xs hs hown ⟨g, 0, none⟩ m cap ys hx hlm (fun j y hy => ?_) hy (by unfold maxLen; omega) (by omega) hB ?_
    · rw [show (⟨g, 0, none⟩ : Addr).add j = ⟨g, j, none⟩ by unfold Addr.add; split <;> simp_all]
      have hj := (List.getElem?_eq_some_iff.1 hy).1
      rw [World.ownsRow.cellAt hu j (by omega)]
      exact hy
    · intro v' w' h2 h3 _
      exact h v' w' h2 ((Below.refl B w).grown h3 hB fun k hk => (World.ownsRow.lt hown k hk).1)
theorem cmds_bound (l : List UInt8) : (cmdsF l).1.length ≤ 16 ∧ ∀ c ∈ (cmdsF l).1, c.length ≤ 64 := by
  unfold cmdsF
  split
  · exact ⟨by simp, by simp⟩
  · split
    · exact ⟨by simp, by simp⟩
    · next cs _ =>
      split
      · exact ⟨by simp, by simp⟩
      · next h =>
        refine ⟨by show cs.length ≤ 16; omega, fun c hc => ?_⟩
        have := wcount_mem cs c hc
        omega
theorem row_base {w : World} {B B' : Nat} {e : TypeId} {v : Value} {n : Nat} {xs : List Value} (h : w.ownsRow B e 1 v n xs) (hB : B' ≤ B) : w.ownsRow B' e 1 v n xs := by
  refine ⟨h.1, ?_⟩
  rcases h.2 with h0 | ⟨g, cap, cur, e, hb, r⟩
  · exact .inl h0
  · exact .inr ⟨g, cap, cur, e, Nat.le_trans hB hb, r⟩

set_option maxHeartbeats 16000000 in
theorem own_walk (s : ByteArray) (w : World) (hs : s.size ≤ 140737488355328) : Calls Try.prog 3 #[.string s] w fun x w' => x = .returned (.bool true) ∧ Below w.heap.size w w' := by
  have HSu : Hid (∀ W, Calls Try.prog 7 #[] W fun e w' => e = .returned (.bool true) ∧ Below W.heap.size W w') := sure_true
  have hsm := cmds_smT s.data.toList
  have hN16 : (cmdsF s.data.toList).1.length ≤ 16 ∧ ∀ c ∈ (cmdsF s.data.toList).1, c.length ≤ 64 := cmds_bound _
  obtain ⟨cs, p, er, hC⟩ : ∃ a b c, cmdsF s.data.toList = (a, b, c) := ⟨_, _, _, rfl⟩
  rw [hC] at hsm hN16
  obtain ⟨hN16, hL64⟩ := hN16
  have HL64 : Hid (∀ c ∈ cs, c.length ≤ 64) := hL64
  have HC : Hid (∀ W, Calls Try.prog 5 #[.string s] W fun x w' => ∃ v, x = .returned (.tuple #[v, .int .i64 (p : Int), .int .i64 (er : Int)]) ∧ CmdsAt w' W.heap.size v cs ∧ Below W.heap.size W w') := fun W => by
    have h1 := commands_any s W hs
    rw [hC] at h1
    exact h1
  have HR : Hid (∀ W, Calls Try.prog 4 #[.string s] W fun x w' => ∃ v, x = .returned (.tuple #[v, .int .i64 (p : Int), .int .i64 (er : Int)]) ∧ SeeC w' v cs ∧ Below W.heap.size W w') := fun W => by
    have h1 := commandsR_any s W hs
    rw [hC] at h1
    exact h1.mono fun x w' ⟨v, e1, e2, e3⟩ => ⟨v, e1, e2.see, e3⟩
  have HSm : Hid (∀ v u X, SeeC X v cs → SeeC X u cs → Calls Try.prog 6 #[v, u] X fun e w' => e = .returned (.bool true) ∧ Below X.heap.size X w') := fun v u X h1 h2 => same_true v u cs X h1 h2 hsm
  obtain ⟨N, hN⟩ : ∃ x, cs.length = x := ⟨_, rfl⟩
  have HN : Hid (cs.length = N) := hN
  rw [hN] at hN16
  clear hC hsm hL64 hN
  go_enter Try.func3, Try.ntmps3
  go_wp2_with fail
  refine (HR.out _).mono ?_
  rintro e w1 ⟨vw, rfl, hv1, hb1⟩
  obtain ⟨wa, wk, rfl⟩ : ∃ x z, vw = .slice x N z := by
    obtain ⟨a, c, e, _⟩ := hv1
    exact ⟨a, c, by rw [e, HN.out]⟩
  have HW1 : Hid (SeeC w1 (.slice wa N wk) cs) := hv1
  have HB1 : Hid (Below w.heap.size w w1) := hb1
  clear hv1 hb1
  go_wp2_with fail
  refine (HC.out _).mono ?_
  rintro e w2 ⟨va, rfl, hv2, hb2⟩
  have HA2 : Hid (CmdsAt w2 w1.heap.size va cs) := hv2
  have HB2 : Hid (Below w1.heap.size w1 w2) := hb2
  clear hv2 hb2
  go_wp2_with fail
  refine (HC.out _).mono ?_
  rintro e w3 ⟨vb, rfl, hv3, hb3⟩
  have HA3 : Hid (CmdsAt w3 w2.heap.size vb cs) := hv3
  have HB3 : Hid (Below w2.heap.size w2 w3) := hb3
  clear hv3 hb3
  obtain ⟨xa, ra, ka⟩ := HA2.out
  obtain ⟨xb, rb, kb⟩ := HA3.out
  rw [HN.out] at ra rb
  have HRa : Hid (w3.ownsRow w1.heap.size 29 1 va N xa) := row24_keep ra fun g cur _ hg => HB3.out.block g (lt_block hg)
  have HRb : Hid (w3.ownsRow w2.heap.size 29 1 vb N xb) := rb
  have HKa : Hid (Rows2 w3 w1.heap.size xa cs w2.heap.size) := ka.keep fun g cur hg _ => HB3.out.block g hg
  have HKb : Hid (Rows2 w3 w2.heap.size xb cs w3.heap.size) := kb
  have HAl : Hid (∀ g, va.ownBlock = some g → g < w2.heap.size) := fun g hg => (World.ownsRow.lt ra g hg).2
  have HSa : Hid (SeeC w3 va cs) := HA2.out.see.below HB3.out
  have HSb : Hid (SeeC w3 vb cs) := HA3.out.see
  have HSw : Hid (SeeC w3 (.slice wa N wk) cs) := (HW1.out.below HB2.out).below HB3.out
  have HB13 : Hid (Below w1.heap.size w1 w3) := HB2.out.trans (HB3.out.mono HB2.out.size)
  have HZ23 : Hid (w2.heap.size ≤ w3.heap.size) := HB3.out.size
  have HZ12 : Hid (w1.heap.size ≤ w2.heap.size) := HB2.out.size
  clear ra rb ka kb
  go_wp2_with fail
  refine (HSm.out _ _ _ HSa.out HSw.out).mono ?_
  rintro e w4 ⟨rfl, hb4⟩
  have HB4 : Hid (Below w3.heap.size w3 w4) := hb4
  clear hb4
  go_wp2_with fail
  refine (HSm.out _ _ _ (HSb.out.below HB4.out) (HSw.out.below HB4.out)).mono ?_
  rintro e w5 ⟨rfl, hb5⟩
  have HB5 : Hid (Below w3.heap.size w3 w5) := HB4.out.trans (hb5.mono HB4.out.size)
  clear hb5 HSa HSb HA2 HA3 HB4
  obtain ⟨aa, ak, rfl, hag⟩ := own_slice HRa.out
  obtain ⟨ba, bk, rfl, hbg⟩ := own_slice HRb.out
  clear hag hbg
  go_upto_region 7 with fail
  obtain ⟨W6, hW6⟩ : ∃ x, w5.alloc (.cells #[] 29) = x := ⟨_, rfl⟩
  have H6 : Hid (W6.ownsRow w5.heap.size 29 1 (.slice (some ⟨w5.heap.size, 0, none⟩) 0 0) 0 []) := by rw [← hW6]; exact World.ownsRow_made w5 #[] 0 (Nat.le_refl _) (by unfold maxLen; omega) rfl
  have HB6 : Hid (Below w5.heap.size w5 W6) := by rw [← hW6]; exact (Below.refl _ _).alloc (Nat.le_refl _) _
  have HRa6 : Hid (W6.ownsRow w1.heap.size 29 1 (.slice aa N ak) N xa) := row24_keep (row24_keep HRa.out fun g cur _ hg => HB5.out.block g (lt_block hg)) fun g cur _ hg => HB6.out.block g (lt_block hg)
  have HRb6 : Hid (W6.ownsRow w2.heap.size 29 1 (.slice ba N bk) N xb) := row24_keep (row24_keep HRb.out fun g cur _ hg => HB5.out.block g (lt_block hg)) fun g cur _ hg => HB6.out.block g (lt_block hg)
  have hl1 : 0 + N ≤ 16777216 := by omega
  have hl2 : 0 + N + N ≤ 16777216 := by omega
  obtain ⟨NL, hNL⟩ : ∃ x, 0 + N + N = x := ⟨_, rfl⟩
  have HNL : Hid (0 + N + N = NL) := hNL
  have hNL32 : NL ≤ 32 := by omega
  rw [hW6]
  clear hW6 hNL
  go_wp2_with (first
    | (at_builtin; refine wpList_append_rows W6 rfl (.tmp 56) (.tmp 57) 22 rfl Try.underlying22 w5.heap.size w1.heap.size _ 0 [] _ N xa rfl H6.out rfl HRa6.out HKa.out.ones hl1 HB6.out.size ?_; intro v3 w7 h3 b3; have H7 : Hid (w7.ownsRow w5.heap.size 29 1 v3 (0 + N) ([] ++ xa)) := h3; have HB7 : Hid (Below w5.heap.size w5 w7) := HB6.out.trans b3; have R7 : Hid (w7.ownsRow w2.heap.size 29 1 (.slice ba N bk) N xb) := (row24_keep (row24_keep HRb.out fun g cur _ hg => HB5.out.block g (lt_block hg)) fun g cur _ hg => HB7.out.block g (lt_block hg)); clear h3 b3)
    | (at_builtin; refine wpList_append_rows w7 rfl (.tmp 59) (.tmp 60) 22 rfl Try.underlying22 w5.heap.size w2.heap.size _ (0 + N) ([] ++ xa) _ N xb rfl H7.out rfl R7.out HKb.out.ones hl2 HB7.out.size ?_; intro v4 w8 h4 b4; rw [HNL.out] at h4; have H8 : Hid (w8.ownsRow w5.heap.size 29 1 v4 NL ([] ++ xa ++ xb)) := h4; have HB8 : Hid (Below w5.heap.size w5 w8) := (HB7.out.trans b4); obtain ⟨la, lk, rfl, hlg⟩ := own_slice h4; have HLg : Hid (0 < NL → ∃ g, la = some ⟨g, 0, none⟩) := hlg; clear h4 b4 hlg))
  rw [List.nil_append] at H8
  have HB18 : Hid (Below w1.heap.size w1 w8) := (HB13.out.trans (HB5.out.mono (Nat.le_trans HZ12.out HZ23.out))).trans (HB8.out.mono (Nat.le_trans HZ12.out (Nat.le_trans HZ23.out HB5.out.size)))
  have HK38 : Hid (∀ g, g < w3.heap.size → w8.heap[g]? = w3.heap[g]?) := fun g hg => (HB8.out.block g (Nat.lt_of_lt_of_le hg HB5.out.size)).trans (HB5.out.block g hg)
  have HRa8 : Hid (w8.ownsRow w1.heap.size 29 1 (.slice aa N ak) N xa) := row24_keep HRa.out fun g cur _ hg => HK38.out g (lt_block hg)
  have HRb8 : Hid (w8.ownsRow w2.heap.size 29 1 (.slice ba N bk) N xb) := row24_keep HRb.out fun g cur _ hg => HK38.out g (lt_block hg)
  have HF8 : Hid (Rows2 w8 w1.heap.size (xa ++ xb) (cs ++ cs) w3.heap.size) := ((HKa.out.app HKb.out).keep fun g cur hg _ => HK38.out g hg)
  obtain ⟨vs, hvs⟩ : ∃ x, xa ++ xb = x := ⟨_, rfl⟩
  obtain ⟨Ls, hLs⟩ : ∃ x, (cs ++ cs).map List.length = x := ⟨_, rfl⟩
  rw [hvs] at H8 HF8
  have HVl : Hid (vs.length = NL) := by show _ = _; rw [HF8.out.length, List.length_append, HN.out, ← HNL.out]; omega
  have HLl : Hid (Ls.length = NL) := by show _ = _; rw [← hLs, List.length_map, List.length_append, HN.out, ← HNL.out]; omega
  have HL6 : Hid (∀ (i : Nat) L, Ls[i]? = some L → L ≤ 64) := fun i L hL => by
    have h1 := List.mem_of_getElem? hL
    rw [← hLs] at h1
    obtain ⟨c, h2, h3⟩ := List.mem_map.1 h1
    rw [← h3]
    rcases List.mem_append.1 h2 with h | h
    · exact HL64.out c h
    · exact HL64.out c h
  generalize hnb : (⟨#[97, 98, 99, 100, 101, 102, 103, 104, 105, 106, 107, 108, 109, 110, 111, 112, 113, 114, 115, 116, 117, 118, 119, 120, 121, 122, 65, 66, 67, 68, 69, 70, 71, 72, 73, 74, 75, 76, 77, 78, 79, 80, 81, 82, 83, 84, 85, 86, 87, 88, 89, 90]⟩ : ByteArray) = nb
  have hns : nb.size = 52 := by rw [← hnb]; rfl
  obtain ⟨M, hM⟩ : ∃ M : Nat → Value, ∀ i, M i = .string (nb.extract i (i + 1)) := ⟨_, fun _ => rfl⟩
  have HSl : Hid (∀ i : Nat, i < 52 → ∀ wx, (Instr.slice 9 (.string nb) (some (.int .i64 (i : Int))) (some (.int .i64 ((i : Int) + 1))) none).run Try.prog wx = .ok (M i) wx) := fun i hi wx => by
    rw [hM i]
    exact run_slice_string (P := Try.prog) wx 9 nb .i64 .i64 (i : Int) ((i : Int) + 1) Try.underlying9 (by omega) (by omega) (by omega)
  have HMs : Hid (∀ i, ∃ b, M i = .string b) := fun i => ⟨_, hM i⟩
  have HO1 : Hid (Own1 w1.heap.size w1 w8 vs Ls M 0 0 w8) := ⟨_, HF8.out.fam, by rw [List.map_map, ← hLs]; exact List.map_congr_left fun c _ => by simp, Done.start _ _, Same24.refl _, HB18.out, Nat.le_refl _⟩
  have HAp : Hid (∀ g, (Value.slice aa N ak).ownBlock = some g → (Value.slice ba N bk).ownBlock ≠ some g) := fun g hg hn => by
    have h1 := HAl.out g hg
    have h2 := (World.ownsRow.lt HRb.out g hn).1
    omega
  clear hvs hLs hM hnb hns
  go_loopw [15] (fun vi wr => ∃ i : Nat, i ≤ NL ∧ vi = .int .i64 i ∧ Hid (Own1 w1.heap.size w1 w8 vs Ls M i 0 wr)) (fun vi _ => NL - (intOf vi).toNat)
  case atStart => exact ⟨0, Nat.zero_le _, rfl, HO1⟩
  case round =>
    obtain ⟨i, hi, rfl, HO⟩ := hrel
    by_cases hlt : i < NL
    · obtain ⟨v, hv⟩ : ∃ v, vs[i]? = some v := ⟨_, List.getElem?_eq_getElem (by rw [HVl.out]; exact hlt)⟩
      obtain ⟨L, hL⟩ : ∃ v, Ls[i]? = some v := ⟨_, List.getElem?_eq_getElem (by rw [HLl.out]; exact hlt)⟩
      have HV : Hid (vs[i]? = some v) := hv
      have HLL : Hid (Ls[i]? = some L) := hL
      have hL64 := HL6.out i L hL
      obtain ⟨lg, rfl⟩ := HLg.out (by omega)
      obtain ⟨xs0, hxl, hr0⟩ := HO.out.row hv hL
      obtain ⟨ga, gk, rfl, hga⟩ := own_slice hr0
      have HGa : Hid (0 < L → ∃ g, ga = some ⟨g, 0, none⟩) := hga
      have HD : Hid (∀ k W, Own1 w1.heap.size w1 w8 vs Ls M i k W → W.cell? ⟨lg, i, none⟩ = some (.slice ga L gk)) := fun k W hW => by
        obtain ⟨xss, _, _, _, h5, _⟩ := hW
        exact (World.ownsRow.cellAt (h5.row H8.out) i (by omega)).trans HV.out
      have hwi : IntKind.i64.wrap ((i : Int) + 1) = ((i + 1 : Nat) : Int) := by rw [IntKind.wrap_i64]; omega
      clear hv hL hga hr0 hxl
      go_wp2
      go_loopw [16] (fun vk wk => ∃ k : Nat, k ≤ L ∧ vk = .int .i64 k ∧ Hid (Own1 w1.heap.size w1 w8 vs Ls M i k wk)) (fun vk _ => L - (intOf vk).toNat)
      case atStart => exact ⟨0, Nat.zero_le _, rfl, HO⟩
      case round =>
        obtain ⟨k, hk, rfl, HOk⟩ := hrel
        have d0 := HD.out k wr HOk.out
        by_cases hkl : k < L
        · obtain ⟨g, rfl⟩ := HGa.out (by omega)
          obtain ⟨xs, hxl, hrk⟩ := HOk.out.row HV.out HLL.out
          obtain ⟨cur, hcur⟩ := own_block hrk (g := g) rfl
          have hck := World.ownsRow.cellAt hrk k (by omega)
          obtain ⟨x0, dk⟩ : ∃ x, wr.cell? ⟨g, k, none⟩ = some x := ⟨_, hck.trans (List.getElem?_eq_getElem (by omega))⟩
          have fk : wr.frozen? ⟨g, k, none⟩ = false := free_at hcur k
          have sk : wr.shape? g = some (9, cur.size) := shape_at hcur
          clear hxl hrk hcur hck
          have hsl := HSl.out i (by omega)
          obtain ⟨mb, hmb⟩ := HMs.out i
          rw [hmb] at hsl
          have HNx : Hid (Own1 w1.heap.size w1 w8 vs Ls M i (k + 1) (wr.setCell ⟨g, k, none⟩ (.string mb)).drew) := by show Own1 _ _ _ _ _ _ _ _ _; rw [← hmb]; exact (HOk.out.set HV.out HLL.out hkl).drew
          clear hmb
          go_wp2
          go_region
          go_wp2
          go_roundw
          case rel => exact ⟨k + 1, by omega, by go_num, HNx⟩
          case measure => simp [intOf]; omega
        · have hke : k = L := by omega
          have HNx : Hid (Own1 w1.heap.size w1 w8 vs Ls M (i + 1) 0 wr) := HOk.out.next HLL.out (by omega)
          clear hke
          go_wp2
          go_roundw
          case rel => exact ⟨i + 1, by omega, by go_num, HNx⟩
          case measure => simp [intOf]; omega
    · obtain rfl : NL = i := by omega
      obtain ⟨HO2, HAp9⟩ : Hid (Own2 w1.heap.size wr.heap.size w1 w8 vs Ls M 0 [] wr) ∧ Hid (Apart9 wr.heap.size vs) := by
        have h := HO.out
        rw [← HVl.out] at h
        exact h.own2
      have HZ8 : Hid (w8.heap.size ≤ wr.heap.size) := by obtain ⟨_, _, _, _, _, _, h⟩ := HO.out; exact h
      have HZB : Hid (w1.heap.size ≤ wr.heap.size) := Nat.le_trans HB18.out.size HZ8.out
      have HH : Hid (∃ x, wr.heap.size = x) := ⟨_, rfl⟩
      obtain ⟨H, hH⟩ := HH.out
      rw [hH] at HO2 HAp9 HZ8 HZB
      clear HH HO
      go_wp2
      go_loopw [14, 17] (fun gv vi w9 => ∃ (i : Nat) (us : List Value), i ≤ NL ∧ vi = .int .i64 i ∧ Hid (Own2 w1.heap.size H w1 w8 vs Ls M i us w9) ∧ Hid (w9.ownsRow H 29 1 gv i us)) (fun _ vi _ => NL - (intOf vi).toNat)
      case atStart => exact ⟨0, [], Nat.zero_le _, rfl, HO2, World.ownsRow_nil _ _ _ _⟩
      case round =>
        obtain ⟨i, us, hi, rfl, HO, HG⟩ := hrel
        obtain ⟨wo, hwo⟩ : ∃ x, x = wr := ⟨_, rfl⟩
        subst hwo
        by_cases hlt : i < NL
        · obtain ⟨v, hv⟩ : ∃ v, vs[i]? = some v := ⟨_, List.getElem?_eq_getElem (by rw [HVl.out]; exact hlt)⟩
          obtain ⟨L, hL⟩ : ∃ v, Ls[i]? = some v := ⟨_, List.getElem?_eq_getElem (by rw [HLl.out]; exact hlt)⟩
          have HV : Hid (vs[i]? = some v) := hv
          have HLL : Hid (Ls[i]? = some L) := hL
          have hL64 := HL6.out i L hL
          obtain ⟨lg, rfl⟩ := HLg.out (by omega)
          have hr0 := (HO.out.1 i v L hv hL).2 (Nat.le_refl _)
          have HR0 : Hid (wo.ownsRow w1.heap.size 9 1 v L (List.replicate L (M i))) := hr0
          obtain ⟨ga, gk, rfl, hga⟩ := own_slice hr0
          have d0 : wo.cell? ⟨lg, i, none⟩ = some (.slice ga L gk) := (World.ownsRow.cellAt (HO.out.2.2.2.1.row H8.out) i (by omega)).trans hv
          have HLt : Hid (∀ g, (Value.slice ga L gk).ownBlock = some g → g < wo.heap.size) := fun g hg => (World.ownsRow.lt hr0 g hg).2
          have hsl := HSl.out i (by omega)
          obtain ⟨mb, hmb⟩ := HMs.out i
          rw [hmb] at hsl HR0
          have HMb : Hid (M i = .string mb) := hmb
          clear hv hL hga hr0 hmb
          go_wp2
          go_loopw [18, 19] (fun vg vk wk => ∃ k : Nat, k ≤ 64 ∧ vk = .int .i64 k ∧ Hid (Own2k w1.heap.size wo (.slice ga L gk) L (.string mb) k vg wk)) (fun _ vk _ => 64 - (intOf vk).toNat)
          case atStart => exact ⟨0, Nat.zero_le _, rfl, own2k_start HR0.out⟩
          case round =>
            obtain ⟨k, hk, rfl, HK⟩ := hrel
            have HzB : Hid (w1.heap.size ≤ wr.heap.size) := Nat.le_trans HZB.out (Nat.le_trans HO.out.2.2.2.2.2 HK.out.2.2.2.size)
            have hlen : L + k ≤ 16777216 := by omega
            by_cases hkl : k < 64
            · go_wp2_with (at_builtin; refine wpList_append_oneF wr rfl (.tmp 102) (.tmp 108) 29 9 rfl (.string .empty) 16 Try.underlying29 infoS rfl (by decide) w1.heap.size _ (L + k) (List.replicate (L + k) (.string mb)) (.string mb) rfl rfl HK.out.1 (by first | rfl | simp [Act.eval]) hlen HzB.out ?_; intro v2 w2' h2 h3 h4; have HNx : Hid (Own2k w1.heap.size wo (.slice ga L gk) L (.string mb) (k + 1) v2 w2') := (own2k_step HK.out HLt.out h2 h3 h4); clear h2 h3 h4)
              go_roundw
              case rel => exact ⟨k + 1, by omega, by go_num, HNx⟩
              case measure => simp [intOf]; omega
            · obtain rfl : 64 = k := by omega
              have HGk : Hid (wr.ownsRow H 29 1 u14 i us) := own2_row HO.out HV.out HLL.out HK.out HG.out
              have HzH : Hid (H ≤ wr.heap.size) := Nat.le_trans HO.out.2.2.2.2.2 HK.out.2.2.2.size
              obtain ⟨ea, ek, rfl, _⟩ := own_slice HK.out.1
              have hleni : i ≤ 16777216 := by omega
              go_wp2_with (at_builtin; refine wpList_append_oneF wr rfl (.tmp 110) (.tmp 112) 22 29 rfl (.slice none 0 0) 24 Try.underlying22 infoSS rfl (by decide) H _ i us (.slice ea (L + 64) ek) rfl rfl HGk.out (by first | rfl | simp [Act.eval]) hleni HzH.out ?_; intro v2 w2' h2 h3 h4; have HNx : Hid (Own2 w1.heap.size H w1 w8 vs Ls M (i + 1) (us ++ [.slice ea (L + 64) ek]) w2') := (own2_next HO.out HAp9.out HV.out HLL.out (by rw [HMb.out]; exact HK.out) HG.out HZB.out HZ8.out h3); have HNg : Hid (w2'.ownsRow H 29 1 v2 (i + 1) (us ++ [.slice ea (L + 64) ek])) := h2; clear h2 h3 h4)
              go_roundw
              case rel => exact ⟨i + 1, _, by omega, by go_num, HNx, HNg⟩
              case measure => simp [intOf]; omega
        · obtain rfl : NL = i := by omega
          obtain ⟨ea, ek, rfl, heg⟩ := own_slice HG.out
          have HEg : Hid (0 < NL → ∃ g, ea = some ⟨g, 0, none⟩) := heg
          have HUl : Hid (us.length = NL) := HO.out.2.1
          clear heg
          go_wp2
          have HQ0 : Hid (wo.heap = wo.heap ∧ Below w1.heap.size w1 wo) := ⟨rfl, HO.out.2.2.2.2.1⟩
          go_loopw [20] (fun vi wr => ∃ i : Nat, i ≤ NL ∧ vi = .int .i64 i ∧ Hid (wr.heap = wo.heap ∧ Below w1.heap.size w1 wr)) (fun vi _ => NL - (intOf vi).toNat)
          case atStart => exact ⟨0, Nat.zero_le _, rfl, HQ0⟩
          case round =>
            obtain ⟨i, hi, rfl, HQ⟩ := hrel
            by_cases hlt : i < NL
            · obtain ⟨v, hv⟩ : ∃ v, vs[i]? = some v := ⟨_, List.getElem?_eq_getElem (by rw [HVl.out]; exact hlt)⟩
              obtain ⟨u, hu⟩ : ∃ v, us[i]? = some v := ⟨_, List.getElem?_eq_getElem (by rw [HUl.out]; exact hlt)⟩
              obtain ⟨L, hL⟩ : ∃ v, Ls[i]? = some v := ⟨_, List.getElem?_eq_getElem (by rw [HLl.out]; exact hlt)⟩
              have hL64 := HL6.out i L hL
              obtain ⟨lg, rfl⟩ := HLg.out (by omega)
              obtain ⟨eg, rfl⟩ := HEg.out (by omega)
              have hsl := HSl.out i (by omega)
              obtain ⟨mb, hmb⟩ := HMs.out i
              have hs1 := (HO.out.1 i v L hv hL).1
              have hs2 := (HO.out.2.2.1 i u v L hu hv hL).1
              rw [hmb] at hsl hs1 hs2
              have HS1 : Hid (See9 wo v (List.replicate L (.string mb))) := hs1
              have HS2 : Hid (See9 wo u (List.replicate (L + 64) (.string mb))) := hs2
              obtain ⟨ga, gk, rfl, _⟩ := hs1
              obtain ⟨ja, jk, rfl, _⟩ := hs2
              rw [List.length_replicate] at *
              obtain ⟨L2, hL2⟩ : ∃ x, L + 64 = x := ⟨_, rfl⟩
              have HL2 : Hid (L + 64 = L2) := hL2
              have HD : Hid (∀ W : World, W.heap = wo.heap → W.cell? ⟨lg, i, none⟩ = some (.slice ga L gk) ∧ W.cell? ⟨eg, i, none⟩ = some (.slice ja L2 jk)) := fun W hW => by
                have d1 : wo.cell? ⟨lg, i, none⟩ = some (.slice ga L gk) := (World.ownsRow.cellAt (HO.out.2.2.2.1.row H8.out) i (by omega)).trans hv
                have d2 : wo.cell? ⟨eg, i, none⟩ = some (.slice ja (L + 64) jk) := (World.ownsRow.cellAt HG.out i (by omega)).trans hu
                rw [hL2] at d2
                have e : ∀ p, W.cell? p = wo.cell? p := fun p => World.cell?_of_block (by rw [hW])
                exact ⟨(e _).trans d1, (e _).trans d2⟩
              rw [hL2] at HS2
              have hL3 : L2 ≤ 128 := by omega
              clear hv hu hL hmb hL2
              go_wp2
              go_loopw [21] (fun vi wr => ∃ k : Nat, k ≤ L2 ∧ vi = .int .i64 k ∧ Hid (wr.heap = wo.heap ∧ Below w1.heap.size w1 wr)) (fun vi _ => L2 - (intOf vi).toNat)
              case atStart => exact ⟨0, Nat.zero_le _, rfl, HQ⟩
              case round =>
                obtain ⟨k, hk, rfl, HQk⟩ := hrel
                obtain ⟨d1, d2⟩ := HD.out wr HQk.out.1
                have HQd : Hid (∀ nq, Hid ((wr.drewN nq).heap = wo.heap ∧ Below w1.heap.size w1 (wr.drewN nq))) := fun nq => ⟨HQk.out.1, by obtain ⟨_, h⟩ := HQk.out; exact ⟨h.os, h.tape, h.output, h.size, h.block⟩⟩
                by_cases hkl : k < L2
                · obtain ⟨g2, c2, e2, f2⟩ := HS2.out.cell (k := k) (x := .string mb) (by rw [List.getElem?_replicate, if_pos hkl])
                  rw [List.length_replicate] at e2
                  cases e2
                  have d3 : wr.cell? ⟨g2, k, none⟩ = some (.string mb) := (World.cell?_of_block (by rw [HQk.out.1])).trans f2
                  clear f2
                  by_cases hkL : k < L
                  · obtain ⟨g1, c1, e1, f1⟩ := HS1.out.cell (k := k) (x := .string mb) (by rw [List.getElem?_replicate, if_pos hkL])
                    rw [List.length_replicate] at e1
                    cases e1
                    have d4 : wr.cell? ⟨g1, k, none⟩ = some (.string mb) := (World.cell?_of_block (by rw [HQk.out.1])).trans f1
                    have hdL : decide ((k : Int) < (L : Int)) = true := decide_eq_true (by omega)
                    clear f1
                    go_wp2
                    go_quiet (fail)
                    go_wp2
                    go_roundw
                    case rel => exact ⟨k + 1, by omega, by go_num, HQd.out _⟩
                    case measure => simp [intOf]; omega
                  · have hdL : decide ((k : Int) < (L : Int)) = false := decide_eq_false (by omega)
                    go_wp2
                    go_quiet (fail)
                    go_wp2
                    go_roundw
                    case rel => exact ⟨k + 1, by omega, by go_num, HQd.out _⟩
                    case measure => simp [intOf]; omega
                · go_wp2
                  go_roundw
                  case rel => exact ⟨i + 1, by omega, by go_num, HQk⟩
                  case measure => simp [intOf]; omega
            · have hie : i = NL := by omega
              have HO4 : Hid (Own4 w1.heap.size w1 xa xb (.string ⟨#[120]⟩) (.string ⟨#[121]⟩) (.slice aa N ak) (.slice ba N bk) (N + 0) (N + 0) wr) := by
                have hs : Same24 w8 wo := HO.out.2.2.2.1
                have hk : ∀ {B : Nat} {v : Value} {xs : List Value}, w8.ownsRow B 29 1 v N xs → wr.ownsRow B 29 1 v N xs := fun h => own_same (hs.row h) fun g cur _ _ => by rw [HQ.out.1]
                have hz : w1.heap.size ≤ wr.heap.size := HQ.out.2.size
                refine ⟨[], [], by rw [List.append_nil]; exact hk HRa8.out, by rw [List.append_nil]; exact row_base (hk HRb8.out) HZ12.out, nofun, nofun, HAp.out, HQ.out.2, hz⟩
              clear hie
              go_wp2
              go_loopw [6, 9, 22] (fun v6 v9 vk wr => ∃ k : Nat, k ≤ 64 ∧ vk = .int .i64 k ∧ Hid (Own4 w1.heap.size w1 xa xb (.string ⟨#[120]⟩) (.string ⟨#[121]⟩) v6 v9 (N + k) (N + k) wr)) (fun _ _ vk _ => 64 - (intOf vk).toNat)
              case atStart => exact ⟨0, Nat.zero_le _, rfl, HO4⟩
              case round =>
                obtain ⟨k, hk, rfl, HK⟩ := hrel
                by_cases hkl : k < 64
                · obtain ⟨ya, yb, q1, q2, _, _, _, _, qz⟩ := HK.out
                  have HQ1 : Hid (wr.ownsRow w1.heap.size 29 1 u6 (N + k) (xa ++ ya)) := q1
                  have HQ1a : Hid ((wr.alloc (.cells #[.string ⟨#[120]⟩] 9)).ownsRow w1.heap.size 29 1 u6 (N + k) (xa ++ ya)) := World.ownsRow.alloc q1 _
                  have HQz : Hid (w1.heap.size ≤ (wr.alloc (.cells #[.string ⟨#[120]⟩] 9)).heap.size) := Nat.le_trans qz (by simp)
                  have hlen : N + k ≤ 16777216 := by omega
                  clear q1 q2 qz
                  go_wp2_with (first
                    | (at_builtin; refine wpList_append_oneF (wr.alloc (.cells #[.string ⟨#[120]⟩] 9)) rfl (.tmp 170) (.tmp 172) 22 29 rfl (.slice none 0 0) 24 Try.underlying22 infoSS rfl (by decide) w1.heap.size _ (N + k) (xa ++ ya) (.slice (some ⟨wr.heap.size, 0, none⟩) 1 1) rfl rfl HQ1a.out (by first | rfl | simp [Act.eval]) hlen HQz.out ?_; intro v2 wm h2 h3 h4; have HM4 : Hid (Own4 w1.heap.size w1 xb xa (.string ⟨#[121]⟩) (.string ⟨#[120]⟩) u9 v2 (N + k) (N + k + 1) wm) := (HK.out.step HQ1.out h2 h3 h4).swap; clear h2 h3 h4; obtain ⟨yb2, _, q1, _, _, _, _, _, qz⟩ := HM4.out; have HQ2 : Hid (wm.ownsRow w1.heap.size 29 1 u9 (N + k) (xb ++ yb2)) := q1; have HQ2a : Hid ((wm.alloc (.cells #[.string ⟨#[121]⟩] 9)).ownsRow w1.heap.size 29 1 u9 (N + k) (xb ++ yb2)) := World.ownsRow.alloc q1 _; have HQz2 : Hid (w1.heap.size ≤ (wm.alloc (.cells #[.string ⟨#[121]⟩] 9)).heap.size) := Nat.le_trans qz (by simp); clear q1 qz)
                    | (at_builtin; refine wpList_append_oneF (wm.alloc (.cells #[.string ⟨#[121]⟩] 9)) rfl (.tmp 174) (.tmp 176) 22 29 rfl (.slice none 0 0) 24 Try.underlying22 infoSS rfl (by decide) w1.heap.size _ (N + k) (xb ++ yb2) (.slice (some ⟨wm.heap.size, 0, none⟩) 1 1) rfl rfl HQ2a.out (by first | rfl | simp [Act.eval]) hlen HQz2.out ?_; intro v3 wn h2 h3 h4; have HM5 : Hid (Own4 w1.heap.size w1 xa xb (.string ⟨#[120]⟩) (.string ⟨#[121]⟩) v2 v3 (N + (k + 1)) (N + (k + 1)) wn) := (HM4.out.step HQ2.out h2 h3 h4).swap; clear h2 h3 h4))
                  go_roundw
                  case rel => exact ⟨k + 1, by omega, by go_num, HM5⟩
                  case measure => simp [intOf]; omega
                · obtain rfl : 64 = k := by omega
                  obtain ⟨ya, yb, q1, q2, q3, q4, _, q6, qz⟩ := HK.out
                  have HQ1 : Hid (wr.ownsRow w1.heap.size 29 1 u6 (N + 64) (xa ++ ya)) := q1
                  have HQ2 : Hid (wr.ownsRow w1.heap.size 29 1 u9 (N + 64) (xb ++ yb)) := q2
                  have HQ3 : Hid (∀ y ∈ ya, See9 wr y [.string ⟨#[120]⟩]) := q3
                  have HQ4 : Hid (∀ y ∈ yb, See9 wr y [.string ⟨#[121]⟩]) := q4
                  have HBr : Hid (Below w1.heap.size w1 wr) := q6
                  have HXa : Hid (xa.length = N) := by show _ = _; rw [HKa.out.length, HN.out]
                  have HXb : Hid (xb.length = N) := by show _ = _; rw [HKb.out.length, HN.out]
                  obtain ⟨a6, k6, rfl, g6⟩ := own_slice q1
                  obtain ⟨a9, k9, rfl, g9⟩ := own_slice q2
                  obtain ⟨h6, rfl⟩ := g6 (by omega)
                  obtain ⟨h9, rfl⟩ := g9 (by omega)
                  obtain ⟨wf, hwf⟩ : ∃ x, x = wr := ⟨_, rfl⟩
                  subst hwf
                  obtain ⟨N6, hN6⟩ : ∃ x, N + 64 = x := ⟨_, rfl⟩
                  have HN6 : Hid (N + 64 = N6) := hN6
                  rw [hN6] at HQ1 HQ2
                  rw [hN6]
                  have hN7 : N6 ≤ 80 := by omega
                  have hN8 : N ≤ N6 := by omega
                  clear q1 q2 q3 q4 q6 qz hN6 HK
                  go_wp2
                  go_loopw [23] (fun vk wr => ∃ j : Nat, N ≤ j ∧ j ≤ N6 ∧ vk = .int .i64 j ∧ wf = wr) (fun vk _ => N6 - (intOf vk).toNat)
                  case atStart => exact ⟨N, Nat.le_refl _, hN8, rfl, rfl⟩
                  case round =>
                    obtain ⟨j, hj0, hj, rfl, rfl⟩ := hrel
                    by_cases hlt6 : j < N6
                    · have hl1 := HQ1.out.1
                      have hl2 := HQ2.out.1
                      rw [List.length_append, HXa.out] at hl1
                      rw [List.length_append, HXb.out] at hl2
                      have c1 := World.ownsRow.cellAt HQ1.out j (by omega)
                      have c2 := World.ownsRow.cellAt HQ2.out j (by omega)
                      rw [List.getElem?_append_right (by rw [HXa.out]; exact hj0), HXa.out, List.getElem?_eq_getElem (by omega)] at c1
                      rw [List.getElem?_append_right (by rw [HXb.out]; exact hj0), HXb.out, List.getElem?_eq_getElem (by omega)] at c2
                      obtain ⟨g1, t1, e1, f1⟩ := (HQ3.out _ (List.getElem_mem (by omega : j - N < ya.length))).cell (k := 0) rfl
                      obtain ⟨g2, t2, e2, f2⟩ := (HQ4.out _ (List.getElem_mem (by omega : j - N < yb.length))).cell (k := 0) rfl
                      rw [e1] at c1
                      rw [e2] at c2
                      clear e1 e2 hl1 hl2
                      go_wp2
                      exact ⟨⟨j + 1, by omega, by omega, by go_num, trivial⟩, by simp [intOf]; omega⟩
                    · have HSwf : Hid (SeeC wf (.slice wa N wk) cs) := HW1.out.below HBr.out
                      have HBf : Hid (Below w.heap.size w wf) := HB1.out.trans (HBr.out.mono HB1.out.size)
                      go_wp2_with fail
                      refine (HC.out _).mono ?_
                      rintro e wc ⟨vc, rfl, hvc, hbc⟩
                      have HSc : Hid (SeeC wc vc cs) := hvc.see
                      have HSwc : Hid (SeeC wc (.slice wa N wk) cs) := HSwf.out.below hbc
                      have HBc : Hid (Below w.heap.size w wc) := HBf.out.trans (hbc.mono HBf.out.size)
                      clear hvc hbc
                      go_wp2_with fail
                      refine (HSm.out _ _ _ HSc.out HSwc.out).mono ?_
                      rintro e wd ⟨rfl, hbd⟩
                      have HBd : Hid (Below w.heap.size w wd) := HBc.out.trans (hbd.mono HBc.out.size)
                      clear hbd
                      go_wp2_with fail
                      refine (HSu.out _).mono ?_
                      rintro e we ⟨rfl, hbe⟩
                      have HBe : Hid (Below w.heap.size w we) := HBd.out.trans (hbe.mono HBd.out.size)
                      clear hbe
                      go_wp2
                      go_ret
                      exact ⟨rfl, HBe.out⟩

end Go.Proofs.Ytghkhnnlhkdceaa
