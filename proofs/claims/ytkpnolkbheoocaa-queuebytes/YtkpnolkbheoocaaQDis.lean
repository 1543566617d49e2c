/-
  The queue: disown, Drain.
-/
import Derived.Test.YtkpnolkbheoocaaQPut
import Derived.WalkKit
namespace Go.Proofs.Ytkpnolkbheoocaa
open Go.RowKit
set_option linter.unusedVariables false
set_option maxRecDepth 100000

theorem raw_dropPc {w : World} {b : Nat} {vb : Value} {lim : Nat} {cl : Bool} {bs : List UInt8} {p : Pc} {ps : List Pc} {g o n cap : Nat} (h : QRaw w b vb (.slice (some ⟨g, o, none⟩) (n + 1) cap) lim cl bs (p :: ps)) (hn : ps.length = n) :
    QRaw (w.setCell ⟨b, 3, none⟩ (.slice (some ⟨g, if cap = 1 then o else o + 3, none⟩) n (cap - 1))) b vb (.slice (some ⟨g, if cap = 1 then o else o + 3, none⟩) n (cap - 1)) lim cl bs ps := by
  have h1 := h.pieces
  rw [List.length_cons, hn] at h1
  have h2 := h1.drop (j := 1) (by omega)
  rw [pcs_drop, Nat.one_mul, Nat.add_sub_cancel] at h2
  refine (h.setPieces ?_).1
  rw [hn]
  exact h2

/-- What disown leaves. -/
def Disowned (w w' : World) (b : Nat) (vb vp : Value) (lim : Nat) (cl : Bool) (bs : List UInt8) (os : List (Int × Int)) : Prop :=
  ∃ vp' ps, QRaw w' b vb vp' lim cl bs ps ∧ But (b :: vp.ownBlock.toList) w w' ∧ vp'.ownBlock = vp.ownBlock ∧ (∀ p ∈ ps, 0 < p.n) ∧ spread Pc.o Pc.n ps = os

set_option maxHeartbeats 4000000 in
theorem disown_any {w : World} {b : Nat} {vb vp : Value} {lim : Nat} {cl : Bool} {bs : List UInt8} {ps : List Pc} {n : Nat} (h : QRaw w b vb vp lim cl bs ps) (hp : ∀ p ∈ ps, 0 < p.n) (hn : n ≤ (spread Pc.o Pc.n ps).length) (hl : (spread Pc.o Pc.n ps).length ≤ 1000000) :
    Calls Try.prog 25 #[.pointer (some ⟨b, 0, none⟩), .int .i64 (n : Int)] w fun x w' => x = .returned (.tuple #[]) ∧ Disowned w w' b vb vp lim cl bs ((spread Pc.o Pc.n ps).drop n) := by
  have HD : Hid (Disowned w w b vb vp lim cl bs (spread Pc.o Pc.n ps)) := ⟨vp, ps, h, But.refl _ _, rfl, hp, rfl⟩
  obtain ⟨os, hos⟩ : ∃ os, spread Pc.o Pc.n ps = os := ⟨_, rfl⟩
  rw [hos] at HD hn hl ⊢
  clear h hp hos
  go_enter Try.func25, Try.ntmps25
  go_wp2_with fail
  go_loopw [1] (fun s1 wr => ∃ m : Nat, m ≤ n ∧ s1 = .int .i64 (m : Int) ∧ Hid (Disowned w wr b vb vp lim cl bs (os.drop (n - m)))) (fun v _ => (intOf v).toNat)
  case atStart => exact ⟨n, Nat.le_refl _, rfl, by rw [Nat.sub_self]; exact HD⟩
  case round =>
    obtain ⟨m, hm, rfl, HDm⟩ := hrel
    by_cases hm0 : m = 0
    · subst hm0
      go_wp2
      all_goals go_end0
      all_goals exact ⟨rfl, by have h := HDm.out; rwa [Nat.sub_zero] at h⟩
    · obtain ⟨vp', ps', hraw, hbut, hown, hpos, hspr⟩ := HDm.out
      have hlen : (spread Pc.o Pc.n ps').length = os.length - (n - m) := by rw [hspr, List.length_drop]
      cases ps' with
      | nil => exact absurd hlen (by show ¬ (0 = _); omega)
      | cons p ps' =>
        obtain ⟨K, hK⟩ : ∃ K, ps'.length = K := ⟨_, rfl⟩
        obtain ⟨ad, cap, rfl, hc1, hc2, hnil, hsome⟩ := hraw.pieces.shape
        rw [List.length_cons, hK] at hraw hc1 hnil hsome hown
        cases ad with
        | none => exact absurd (hnil rfl).1 (by omega)
        | some a =>
          obtain ⟨g, o, rfl, hog, hg, hcell⟩ := hsome a rfl
          obtain ⟨hc, hfz⟩ := hcell wr rfl
          obtain ⟨g0, g1, g2⟩ := pcs_get (ps := p :: ps') (i := 0) rfl
          have q2 : wr.cell? ⟨g, o + 2, none⟩ = some (.int .i64 (p.n : Int)) := hc _ _ g2
          have c3 := hraw.c3
          have cf := hraw.free 3
          have hp0 := hpos p List.mem_cons_self
          obtain ⟨po, s⟩ := p
          have HR : Hid (QRaw wr b vb (.slice (some ⟨g, o, none⟩) (K + 1) cap) lim cl bs (⟨po, s⟩ :: ps')) := hraw
          have HP : Hid (∀ p ∈ (⟨po, s⟩ :: ps' : List Pc), 0 < p.n) := hpos
          have HS : Hid (List.replicate s po ++ spread Pc.o Pc.n ps' = os.drop (n - m)) := hspr
          have HBu : Hid (But (b :: vp.ownBlock.toList) w wr ∧ (Value.slice (some ⟨g, o, none⟩) (K + 1) cap).ownBlock = vp.ownBlock) := ⟨hbut, hown⟩
          have HK : Hid (ps'.length = K) := hK
          have hs1 : s ≤ 1000000 := by
            rw [spread_cons, List.length_append, List.length_replicate] at hlen
            have h9 : s + _ = _ := hlen
            omega
          have hbg : g ≠ b := fun e => hraw.bp (by rw [← e]; rfl)
          have hbg2 : b ≠ g := Ne.symm hbg
          have hs0 : 0 < s := hp0
          have q2' : wr.cell? ⟨g, o + 2, none⟩ = some (.int .i64 (s : Int)) := q2
          have qf := hfz (o + 2)
          clear hraw hpos hspr hbut hown hK hc hfz hcell g0 g1 g2 hsome hnil hlen hp0 q2 HDm HD hog
          by_cases hsm : s ≤ m
          · obtain ⟨r, hr⟩ : ∃ r, m - s = r := ⟨_, rfl⟩
            have d1 : (m : Int) - (s : Int) = (r : Int) := by omega
            have d2 : ¬ (m : Int) < (s : Int) := by omega
            have d3 : (s : Int) ≤ (m : Int) := by omega
            have dm : min (m : Int) (s : Int) = (s : Int) := by omega
            have d5 : (1 : Int) ≤ (K : Int) + 1 := by omega
            have HFin : Hid (Disowned w ((wr.setCell ⟨g, o + 2, none⟩ (.int .i64 0)).setCell ⟨b, 3, none⟩ (.slice (some ⟨g, if cap = 1 then o else o + 3, none⟩) K (cap - 1))) b vb vp lim cl bs (os.drop (n - r))) := by
              have h1 := raw_setPc HR.out (by rw [List.length_cons, HK.out]) (i := 0) (p := ⟨po, s⟩) rfl 0
              simp only [Nat.zero_mul, Nat.add_zero, List.set_cons_zero] at h1
              have h2 := raw_dropPc h1.1 HK.out
              refine ⟨_, ps', h2, ?_, HBu.out.2, fun p hp => HP.out p (List.mem_cons_of_mem _ hp), ?_⟩
              · refine (HBu.out.1.chain h1.2 fun k hk => .inl ?_).setCell (.inl (by simp)) _
                rw [List.mem_singleton.1 hk, ← HBu.out.2]
                simp [Value.ownBlock]
              · have h3 := congrArg (List.drop s) HS.out
                rw [List.drop_left' (by simp), List.drop_drop] at h3
                rw [h3]
                congr 1
                omega
            by_cases hcap : cap = 1
            · rw [if_pos hcap, hcap] at HFin
              subst hcap
              obtain rfl : K = 0 := by omega
              go_wp2
              go_roundw
              case rel => exact ⟨r, by omega, rfl, HFin⟩
              case measure => simp [intOf]; omega
            · rw [if_neg hcap] at HFin
              have hcap2 : (1 : Int) ≤ (cap : Int) := by omega
              go_wp2
              go_roundw
              case rel => exact ⟨r, by omega, rfl, HFin⟩
              case measure => simp [intOf]; omega
          · obtain ⟨r, hr⟩ : ∃ r, s - m = r := ⟨_, rfl⟩
            have d1 : (s : Int) - (m : Int) = (r : Int) := by omega
            have d2 : (m : Int) < (s : Int) := by omega
            have dm : min (m : Int) (s : Int) = (m : Int) := by omega
            have d4 : ¬ (r : Int) = 0 := by omega
            have HFin : Hid (Disowned w (wr.setCell ⟨g, o + 2, none⟩ (.int .i64 (r : Int))) b vb vp lim cl bs (os.drop (n - 0))) := by
              have h1 := raw_setPc HR.out (by rw [List.length_cons, HK.out]) (i := 0) (p := ⟨po, s⟩) rfl r
              simp only [Nat.zero_mul, Nat.add_zero, List.set_cons_zero] at h1
              refine ⟨_, _, h1.1, ?_, HBu.out.2, fun p hp => ?_, ?_⟩
              · refine HBu.out.1.chain h1.2 fun k hk => .inl ?_
                rw [List.mem_singleton.1 hk, ← HBu.out.2]
                simp [Value.ownBlock]
              · rcases List.mem_cons.1 hp with rfl | hp
                · show 0 < r
                  omega
                · exact HP.out p (List.mem_cons_of_mem _ hp)
              · have h3 := congrArg (List.drop m) HS.out
                rw [List.drop_append_of_le_length (by simp; omega), List.drop_replicate, List.drop_drop] at h3
                show List.replicate r po ++ spread Pc.o Pc.n ps' = _
                rw [← hr, h3]
                congr 1
                omega
            go_wp2
            go_roundw
            case rel => exact ⟨0, by omega, rfl, HFin⟩
            case measure => simp [intOf]; omega

theorem raw_dropB {w : World} {b : Nat} {vp : Value} {lim : Nat} {cl : Bool} {bs : List UInt8} {ps : List Pc} {g o n cap j : Nat} (h : QRaw w b (.slice (some ⟨g, o, none⟩) n cap) vp lim cl bs ps) (hn : bs.length = n) (hj : j ≤ n) :
    QRaw (w.setCell ⟨b, 2, none⟩ (.slice (some ⟨g, if cap = j then o else o + j, none⟩) (n - j) (cap - j))) b (.slice (some ⟨g, if cap = j then o else o + j, none⟩) (n - j) (cap - j)) vp lim cl (bs.drop j) ps := by
  have h1 := h.bytes
  rw [hn] at h1
  have h2 := h1.drop hj
  rw [Nat.mul_one, ← List.map_drop] at h2
  refine (h.setBytes ?_).1
  rw [List.length_drop, hn]
  exact h2
theorem bytes_text {w : World} {g o n cap j : Nat} {bs : List UInt8} (h : Row w 5 1 (.slice (some ⟨g, o, none⟩) n cap) n (bs.map bv)) (hn : bs.length = n) (hj : j ≤ n) (src dst e : TypeId) (c2 : Nat) (hs : Try.prog.underlying src = some (.slice e)) (he : Try.prog.underlying e = some (.int .u8)) (hd : Try.prog.underlying dst = some .string) :
    (convert src dst (.slice (some ⟨g, o, none⟩) j c2)).run Try.prog w = .ok (.string (str (bs.take j))) w := by
  have hlen : (bs.take j).length = j := by rw [List.length_take, hn]; omega
  have h2 := run_convert_bytes_back (P := Try.prog) w src dst e ⟨g, o, none⟩ c2 (bs.take j) hs he hd (fun i hi => ?_)
  · rw [hlen] at h2
    exact h2
  · obtain ⟨_, ⟨hh, _⟩ | ⟨g', o', cap', cur, hh, hg, h1, h3, h4, h5⟩⟩ := h
    · cases hh
    · cases hh
      rw [show (⟨g, o, none⟩ : Addr).add i = ⟨g, o + i, none⟩ by unfold Addr.add; split <;> simp_all, cell_atT hg]
      refine (h5 i _ ?_).trans rfl
      rw [List.getElem?_map, List.getElem_take, List.getElem?_eq_getElem]
      rfl

set_option maxHeartbeats 4000000 in
theorem drain_any {w : World} {F : List Nat} {b : Nat} {q : Qs} (n : Int) (hq : QAt w F b q) (h1 : -9223372036854775808 ≤ n) (h2 : n ≤ 9223372036854775807) :
    Calls Try.prog 11 #[.pointer (some ⟨b, 0, none⟩), .int .i64 n] w fun x w' => x = .returned (.string (str (q.bs.take n.toNat))) ∧ Went w w' F b (drainQ q n.toNat) := by
  obtain ⟨vb, vp, ps, hraw, hpos, hspr, hqok, rfl⟩ := hq
  obtain ⟨L, hL⟩ : ∃ L, q.bs.length = L := ⟨_, rfl⟩
  obtain ⟨m, hm⟩ : ∃ m, min n.toNat L = m := ⟨_, rfl⟩
  have e1 : q.bs.take n.toNat = q.bs.take m := by rw [← hm, ← hL, List.take_eq_take_min]
  have e2 : drainQ q n.toNat = drainQ q m := by
    unfold drainQ
    by_cases hc : n.toNat ≤ L
    · rw [← hm, Nat.min_eq_left hc]
    · rw [← hm, Nat.min_eq_right (by omega), List.drop_eq_nil_of_le (by omega), List.drop_eq_nil_of_le (by rw [hqok.len]; omega), List.drop_eq_nil_of_le (by omega), List.drop_eq_nil_of_le (by rw [hqok.len]; omega)]
  rw [e1, e2]
  have hfew := hqok.few
  have HSi : Hid (Calls Try.prog 7 #[.pointer (some ⟨b, 0, none⟩)] w fun x w' => x = .returned (.int .i64 (L : Int)) ∧ w = w') := size_raw hraw L hL (by omega)
  have dm : max (0 : Int) (min n (L : Int)) = (m : Int) := by omega
  have hmL : m ≤ L := by omega
  have HOk : Hid ((drainQ q m).Ok) := hqok.drain m
  have HP : Hid (∀ p ∈ ps, 0 < p.n) := hpos
  have HSp : Hid (spread Pc.o Pc.n ps = q.os) := hspr
  have hos : q.os.length = L := hqok.len.trans hL
  have HDi : Hid (∀ W vb', QRaw W b vb' vp q.lim q.cl (q.bs.drop m) ps → Calls Try.prog 25 #[.pointer (some ⟨b, 0, none⟩), .int .i64 (m : Int)] W fun x w' => x = .returned (.tuple #[]) ∧ Disowned W w' b vb' vp q.lim q.cl (q.bs.drop m) (q.os.drop m)) := fun W vb' h => by
    have h3 := disown_any (n := m) h HP.out (by rw [HSp.out, hos]; omega) (by rw [HSp.out, hos]; omega)
    rw [HSp.out] at h3
    exact h3
  have HFin : Hid (∀ W w' vb', But [b] w W → vb'.ownBlock = vb.ownBlock → Disowned W w' b vb' vp q.lim q.cl (q.bs.drop m) (q.os.drop m) → Went w w' (foot b vb vp) b (drainQ q m)) := by
    rintro W w' vb' hb ho ⟨vp', ps', h3, h4, h5, h6, h7⟩
    refine ⟨foot b vb' vp', ⟨vb', vp', ps', h3, h6, h7, HOk.out, rfl⟩, (hb.mono fun k _ hk => foot_mem.2 (.inl (List.mem_singleton.1 hk))).chain h4 fun k hk => .inl ?_, fun k hk => .inl ?_⟩
    · rcases List.mem_cons.1 hk with e | e
      · exact foot_mem.2 (.inl e)
      · exact foot_mem.2 (.inr (.inr (by simpa using e)))
    · rcases foot_mem.1 hk with e | e | e
      · exact foot_mem.2 (.inl e)
      · exact foot_mem.2 (.inr (.inl (ho ▸ e)))
      · exact foot_mem.2 (.inr (.inr (h5 ▸ e)))
  have c2 := hraw.c2
  have cf := hraw.free 2
  obtain ⟨ad, cap, rfl, hc1, hc2, hnil, hsome⟩ := hraw.bytes.shape
  rw [hL] at hraw hc1 hnil c2 HFin hsome ⊢
  have hcm : cap ≤ 9223372036854775807 := by unfold maxLen at hc2; omega
  clear e1 e2 hspr hpos hm hqok
  cases ad with
  | none =>
    obtain ⟨rfl, rfl⟩ := hnil rfl
    obtain rfl : m = 0 := by omega
    have HRb : Hid (QRaw (w.setCell ⟨b, 2, none⟩ (.slice none 0 0)) b (.slice none 0 0) vp q.lim q.cl (q.bs.drop 0) ps ∧ But [b] w (w.setCell ⟨b, 2, none⟩ (.slice none 0 0))) := hraw.setBytes (by rw [List.drop_zero]; exact hraw.bytes)
    have z0 : ((0 : Nat) : Int) = 0 := rfl
    rw [z0] at dm HSi HDi
    have hT : (convert 50 9 (.slice none 0 0)).run Try.prog w = .ok (.string (str (q.bs.take 0))) w := by
      rw [run_convert_bytes_string w _ _ 5 none 0 0 underBytes Try.underlying5 Try.underlying9]
      rfl
    clear hraw hsome hnil
    go_enter Try.func11, Try.ntmps11
    go_wp2_with fail
    refine HSi.out.mono ?_; rintro x w1 ⟨rfl, rfl⟩
    go_wp2_with fail
    refine (HDi.out _ _ HRb.out.1).mono ?_; rintro x w1 ⟨rfl, hd⟩; have HW : Hid (Went w w1 (foot b (.slice none 0 0) vp) b (drainQ q 0)) := HFin.out _ _ _ HRb.out.2 (by rfl) hd; clear hd
    go_wp2
    all_goals go_ret
    all_goals exact ⟨rfl, HW.out⟩
  | some a =>
    obtain ⟨g, o, rfl, hog, hg, hcell⟩ := hsome a rfl
    have hT : (convert 50 9 (.slice (some ⟨g, o, none⟩) m cap)).run Try.prog w = .ok (.string (str (q.bs.take m))) w := bytes_text (by have h := hraw.bytes; rw [hL] at h; exact h) hL hmL _ _ 5 cap underBytes Try.underlying5 Try.underlying9
    have HRb : Hid (QRaw (w.setCell ⟨b, 2, none⟩ (.slice (some ⟨g, if cap = m then o else o + m, none⟩) (L - m) (cap - m))) b (.slice (some ⟨g, if cap = m then o else o + m, none⟩) (L - m) (cap - m)) vp q.lim q.cl (q.bs.drop m) ps) := raw_dropB hraw hL hmL
    have HRc : Hid (∀ u, But [b] w (w.setCell ⟨b, 2, none⟩ u)) := fun u => But.setCell (But.refl _ _) (.inl (by simp)) _
    have d1 : (m : Int) ≤ (L : Int) := by omega
    have d2 : (m : Int) ≤ (cap : Int) := by omega
    obtain ⟨tx, htx⟩ : ∃ tx, str (q.bs.take m) = tx := ⟨_, rfl⟩
    rw [htx] at hT ⊢
    clear hraw hsome hcell hnil htx
    by_cases hcap : cap = m
    · rw [if_pos hcap] at HRb
      subst hcap
      obtain rfl : L = cap := by omega
      simp only [Nat.sub_self] at HRb
      go_enter Try.func11, Try.ntmps11
      go_wp2_with fail
      refine HSi.out.mono ?_; rintro x w1 ⟨rfl, rfl⟩
      go_wp2_with fail
      refine (HDi.out _ _ HRb.out).mono ?_; rintro x w1 ⟨rfl, hd⟩; have HW : Hid (Went w w1 (foot b (.slice (some ⟨g, o, none⟩) L L) vp) b (drainQ q L)) := HFin.out _ _ _ (HRc.out _) (by rfl) hd; clear hd
      go_wp2
      all_goals go_ret
      all_goals exact ⟨rfl, HW.out⟩
    · rw [if_neg hcap] at HRb
      go_enter Try.func11, Try.ntmps11
      go_wp2_with fail
      refine HSi.out.mono ?_; rintro x w1 ⟨rfl, rfl⟩
      go_wp2_with fail
      refine (HDi.out _ _ HRb.out).mono ?_; rintro x w1 ⟨rfl, hd⟩; have HW : Hid (Went w w1 (foot b (.slice (some ⟨g, o, none⟩) L cap) vp) b (drainQ q m)) := HFin.out _ _ _ (HRc.out _) (by rfl) hd; clear hd
      go_wp2
      all_goals go_ret
      all_goals exact ⟨rfl, HW.out⟩

end Go.Proofs.Ytkpnolkbheoocaa
