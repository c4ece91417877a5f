
/- What the program's Same does. -/
import Derived.Test.YtlgkbdebpnbndaaGreatDoorJsSamP
import Derived.Test.YtlgkbdebpnbndaaGreatDoorJsRnW
import Derived.Deep.DeepCutAuto
import Derived.Deep.RegionLaw
namespace Go.Proofs.YtlgkbdebpnbndaaGreatDoor
set_option linter.unusedVariables false
set_option linter.unusedSimpArgs false
open Go.RowKit Go.BigFrame
attribute [local go_sem ↓] loadV_eq loadP_eq

theorem one_row {P : Nat → Prop} {d : Nat} {w : World} {g : Nat} {cs : Array Value} {t : VJ d} (hr : w.heap[g]? = some (.cells cs 25 (0, 0))) (hP : P g) (h : VAt P d w cs t) : VsAt P d w (some ⟨g, 0, none⟩) [t] :=
  row_nds (b := 0) (cap := 1) (css := [cs]) rfl (OwnK.of_row (n := 1) (Nat.zero_le _) (by simp [vjvs, h.size]) (by simpa [vjvs] using hr)) (fun c hc => by rw [List.mem_singleton.1 hc]; exact h.size) hP fun j hj => by
    obtain rfl : j = 0 := by simpa using hj
    exact h
set_option maxHeartbeats 16000000 in
set_option maxRecDepth 100000 in
theorem sameK_any (D : Nat) (a b : VJ D) (hwa : wtJ D a ≤ 100000) (hwb : wtJ D b ≤ 100000) (P P' : Nat → Prop) (ca cb : Array Value) (w : World) (hA : VAt P D w ca a) (hB : VAt P' D w cb b) : Calls Tryz.prog 16 #[.agg ca, .agg cb] w fun x w' => x = .returned (.bool (eqJ D a b)) ∧ Below w.heap.size w w' := by
  have hca := hA.size
  have hcb := hB.size
  have hIF := eqJ_iff D a b
  generalize hRES : eqJ D a b = RES at hIF ⊢
  clear hRES
  obtain ⟨W0, hW0⟩ : ∃ W0, (w.alloc (.cells ca 25)).alloc (.cells cb 25) = W0 := ⟨_, rfl⟩
  have hb0 : Below w.heap.size w W0 := by rw [← hW0]; exact ((Below.refl _ _).alloc (Nat.le_refl _) _).alloc (by simp) _
  have HXA : Hid (W0.heap[w.heap.size]? = some (.cells ca 25 (0, 0))) := by show _ = _; rw [← hW0]; exact heap_first w _ _
  have HXB : Hid (W0.heap[w.heap.size + 1]? = some (.cells cb 25 (0, 0))) := by show _ = _; rw [← hW0]; exact heap_second w _ _
  obtain ⟨W1, hW1⟩ : ∃ W1, W0.alloc (.cells ca 25) = W1 := ⟨_, rfl⟩
  have hb1 : Below W0.heap.size W0 W1 := by rw [← hW1]; exact (Below.refl _ _).alloc (Nat.le_refl _) _
  have hs1 : W1.heap.size = W0.heap.size + 1 := by rw [← hW1]; simp
  have hr1 : W1.heap[W0.heap.size]? = some (.cells ca 25 (0, 0)) := by rw [← hW1]; exact heap_alloc_new W0 _
  have HXB1 : Hid (W1.heap[w.heap.size + 1]? = some (.cells cb 25 (0, 0))) := row_keep hb1 HXB.out
  obtain ⟨W2, hW2⟩ : ∃ W2, W1.alloc (.cells cb 25) = W2 := ⟨_, rfl⟩
  have hb2 : Below W1.heap.size W1 W2 := by rw [← hW2]; exact (Below.refl _ _).alloc (Nat.le_refl _) _
  have hs2 : W2.heap.size = W1.heap.size + 1 := by rw [← hW2]; simp
  have hr2 : W2.heap[W1.heap.size]? = some (.cells cb 25 (0, 0)) := by rw [← hW2]; exact heap_alloc_new W1 _
  have hr12 := row_keep hb2 hr1
  have hbw2 : Below w.heap.size w W2 := (hb0.trans (hb1.mono hb0.size)).trans (hb2.mono (hb0.trans (hb1.mono hb0.size)).size)
  have hA2 : VAt (fun q => q < W2.heap.size) D W2 ca a := hA.frame hbw2.size fun q hq hl => ⟨hbw2.block q hl, by have := hbw2.size; omega⟩
  have hB2 : VAt (fun q => q < W2.heap.size) D W2 cb b := hB.frame hbw2.size fun q hq hl => ⟨hbw2.block q hl, by have := hbw2.size; omega⟩
  have hok : Pq.Ok W2.heap.size W2 ⟨D, (some ⟨W0.heap.size, 0, none⟩, 1), (some ⟨W1.heap.size, 0, none⟩, 1), [a], [b]⟩ := ⟨one_row hr12 (by omega) hA2, one_row hr2 (by omega) hB2, rfl, fun t ht => by rw [List.mem_singleton.1 ht]; exact hwa, fun t ht => by rw [List.mem_singleton.1 ht]; exact hwb⟩
  obtain ⟨W3, hW3⟩ : ∃ W3, W2.alloc (.cells #[.slice (some ⟨W0.heap.size, 0, none⟩) 1 1, .slice (some ⟨W1.heap.size, 0, none⟩) 1 1] 64) = W3 := ⟨_, rfl⟩
  have hb3 : Below W2.heap.size W2 W3 := by rw [← hW3]; exact (Below.refl _ _).alloc (Nat.le_refl _) _
  have hr3 : W3.heap[W2.heap.size]? = some (.cells #[.slice (some ⟨W0.heap.size, 0, none⟩) 1 1, .slice (some ⟨W1.heap.size, 0, none⟩) 1 1] 64 (0, 0)) := by rw [← hW3]; exact heap_alloc_new W2 _
  have HM : Hid (szPq [(⟨D, (some ⟨W0.heap.size, 0, none⟩, 1), (some ⟨W1.heap.size, 0, none⟩, 1), [a], [b]⟩ : Pq)] ≤ 1000000) := by
    have := szN_le D a
    show (1 + (szN D a + 0)) + 0 ≤ _
    omega
  have HS0 : Hid (SS W2.heap.size RES W2 (szPq [⟨D, (some ⟨W0.heap.size, 0, none⟩, 1), (some ⟨W1.heap.size, 0, none⟩, 1), [a], [b]⟩]) W2.heap.size 1 [⟨D, (some ⟨W0.heap.size, 0, none⟩, 1), (some ⟨W1.heap.size, 0, none⟩, 1), [a], [b]⟩] W3) := by
    refine ⟨OwnK.of_row (n := 1) (Nat.le_refl _) rfl hr3, fun p hp => by rw [List.mem_singleton.1 hp]; exact hok.below hb3, ?_, rfl, hb3⟩
    rw [hIF]
    exact ⟨fun h p hp => by rw [List.mem_singleton.1 hp]; show [a] = [b]; rw [h], fun h => by
      have : [a] = [b] := h _ (List.mem_singleton.2 rfl)
      injection this⟩
  obtain ⟨mu, hmu⟩ := least_of (fun (m : Nat) (x : Nat × Nat × Nat) (wr : World) => ∃ ps, x.2.1 = ps.length ∧ SS W2.heap.size RES W2 m x.1 x.2.2 ps wr)
  have HMU := hid hmu
  have HBW := hid hbw2
  have hldA := loadV_run HXA.out hca
  have hldB := loadV_run HXB1.out hcb
  obtain ⟨a0, a1, a2, a3, a4, hcs⟩ : ∃ a b c e f, ca = #[a, b, c, e, f] := by
    obtain ⟨kA, kc, nA, nc, e1, _⟩ := hA.parts
    exact ⟨_, _, _, _, _, e1⟩
  obtain ⟨b0, b1, b2, b3, b4, hcs2⟩ : ∃ a b c e f, cb = #[a, b, c, e, f] := by
    obtain ⟨kA, kc, nA, nc, e1, _⟩ := hB.parts
    exact ⟨_, _, _, _, _, e1⟩
  subst hcs hcs2
  have NO : Hid (∀ W, RES = false → Below w.heap.size w W → (fun (x : Ending) (w' : World) => x = .returned (.bool RES) ∧ Below w.heap.size w w') (.returned (.bool false)) W) := fun W h hb => ⟨by rw [h], hb⟩
  clear hmu hA hB hA2 hB2 hok hIF hr1 hr2 hr3 hr12 hb0 hb1 hb2 hb3 hbw2 hwa hwb hca hcb hs1 hs2
  go_enter Tryz.func16, Tryz.ntmps16
  go_wp2_with fail
  clear hldA hldB hW0 hW1 hW2 hW3
  obtain ⟨n0, hn0⟩ : ∃ n0, W2.heap.size = n0 := ⟨_, rfl⟩
  rw [hn0] at HS0 HMU
  have HN0 := hid hn0
  go_loopw [5] (fun v wr => ∃ (ps : List Pq) (B cap : Nat), v = .slice (some ⟨B, 0, none⟩) ps.length cap ∧ szPq ps ≤ 1000000 ∧ Hid (SS n0 RES W2 (szPq ps) B cap ps wr)) (fun v wr => mu (tri v) wr)
  case atStart => exact ⟨_, n0, _, by rw [hn0]; rfl, HM.out, HS0⟩
  case round =>
    obtain ⟨ps0, B, cap, rfl, hfew0, HO0⟩ := hrel
    obtain ⟨⟨ps, hlen, hout⟩, hle⟩ := HMU.out _ (B, ps0.length, cap) wr ⟨ps0, rfl, HO0.out⟩
    change ps0.length = ps.length at hlen
    have HMM : Hid (szPq ps = mu (B, ps0.length, cap) wr) := hout.few
    rw [← HMM.out] at hout
    change SS n0 RES W2 (szPq ps) B cap ps wr at hout
    have hfew : szPq ps ≤ 1000000 := by have := HMM.out; omega
    rw [hlen]
    rw [hlen] at HMM
    have HOU := hid hout
    clear hlen hle hout hfew0 HO0 hn0
    rcases List.eq_nil_or_concat ps with hps | ⟨qs, p, hps⟩
    · subst hps
      have HR : Hid (RES = true) := HOU.out.iff.2 (fun p hp => by cases hp)
      have HL : Hid (Below w.heap.size w wr) := HBW.out.trans (HOU.out.low.mono (by rw [← HN0.out]; exact HBW.out.size))
      clear HMM hfew
      go_wp2_with fail
      go_ret
      exact ⟨by rw [HR.out]; rfl, HL.out⟩
    · obtain ⟨d, ⟨A, c⟩, ⟨A', c'⟩, la, lb⟩ := p
      rw [List.concat_eq_append] at hps
      subst hps
      obtain ⟨hin, hok⟩ := HOU.out.take
      change SI n0 RES W2 _ d la lb B cap 0 qs wr at hin
      have HIN := hid hin
      have HOK := hid hok
      have hll2 : la.length = lb.length := hok.2.2.1
      have HWA : Hid (∀ t ∈ la, wtJ d t ≤ 100000) := hok.2.2.2.1
      have HWB : Hid (∀ t ∈ lb, wtJ d t ≤ 100000) := hok.2.2.2.2
      have hl2 : (pvs qs).length = qs.length * 2 := pvs_len qs
      have cB1 : wr.cell? ⟨B, qs.length * 2, none⟩ = some (.slice A la.length c) := by
        have ho := HOU.out.own
        rw [pvs_app] at ho
        exact ho.at (qs.length * 2) _ (by rw [List.getElem?_append_right (by omega), hl2, Nat.sub_self]; rfl)
      have cB2 : wr.cell? ⟨B, qs.length * 2 + 1, none⟩ = some (.slice A' lb.length c') := by
        have ho := HOU.out.own
        rw [pvs_app] at ho
        exact ho.at (qs.length * 2 + 1) _ (by rw [List.getElem?_append_right (by omega), hl2, show qs.length * 2 + 1 - qs.length * 2 = 1 from by omega]; rfl)
      have hld := loadP_mid cB1 cB2
      have hcap : qs.length + 1 ≤ cap := by
        have := HOU.out.own.le
        rw [List.length_append] at this
        exact this
      have HME : Hid (szPq (qs ++ [⟨d, (A, c), (A', c'), la, lb⟩]) = mu (B, qs.length + 1, cap) wr) := by
        have := HMM.out
        rw [List.length_append] at this
        exact this
      have hql : qs.length ≤ 1000000 := by
        have := szPq_len qs
        rw [szPq_app] at hfew
        omega
      have hll : la.length ≤ 1000000 := by
        rw [szPq_app, szPq_one, szR_eq] at hfew
        have h2 := sum_len d la
        have e : szPq qs + (1 + sumN d la) ≤ 1000000 := hfew
        omega
      have HFW := hid hfew
      have e1 : (qs ++ [(⟨d, (A, c), (A', c'), la, lb⟩ : Pq)]).length = qs.length + 1 := by simp
      rw [e1]
      obtain ⟨M, hMM⟩ : ∃ M, szPq (qs ++ [(⟨d, (A, c), (A', c'), la, lb⟩ : Pq)]) = M := ⟨_, rfl⟩
      rw [hMM] at HIN HME HFW
      have hBl : B < wr.heap.size := HIN.out.own.lt
      have hnw : n0 ≤ wr.heap.size := Nat.le_trans HIN.out.own.ge (Nat.le_of_lt hBl)
      clear HMM HOU hfew e1 hMM hl2 hin hok cB1 cB2
      generalize hnq : qs.length = n at hcap hql HME hld ⊢
      have HNQ := hid hnq
      generalize hnl : la.length = L at hll2 hll hld ⊢
      have HNL := hid hnl
      rw [← hll2] at hld
      have HNL2 := hid hll2
      clear hnq hnl hll2
      have f1 : ((n + 1 : Nat) : Int) - 1 = (n : Int) := by omega
      have f2 : (n : Int) + 1 - 1 = (n : Int) := by omega
      obtain ⟨V0, hV0⟩ : ∃ V0, wr.alloc (.cells #[.slice A L c, .slice A' L c'] 64) = V0 := ⟨_, rfl⟩
      have hbV : Below wr.heap.size wr V0 := by rw [← hV0]; exact (Below.refl _ _).alloc (Nat.le_refl _) _
      have HX0 : Hid (V0.heap[wr.heap.size]? = some (.cells #[.slice A L c, .slice A' L c'] 64 (0, 0))) := by show _ = _; rw [← hV0]; exact heap_alloc_new wr _
      have HI0 := hid (HIN.out.below hbV hnw)
      have HOK0 := hid (HOK.out.below (hbV.mono hnw))
      have x0 : V0.cell? ⟨wr.heap.size, 0, none⟩ = some (.slice A L c) := cell_of_row _ _ _ _ _ _ HX0.out
      clear hbV
      obtain ⟨X, hX⟩ : ∃ X, wr.heap.size = X := ⟨_, rfl⟩
      have HNW : Hid (n0 ≤ X) := by show _ ≤ _; rw [← hX]; exact hnw
      have hBX : B ≠ X := by omega
      rw [hX] at HX0 x0
      go_wp2_with fail
      clear x0 hld hX hnw hBl hV0
      go_loopw [5, 32] (fun v i wx => ∃ (k : Nat) (rs : List Pq) (B' cap' : Nat), k ≤ L ∧ i = .int .i64 (k : Int) ∧ v = .slice (some ⟨B', 0, none⟩) rs.length cap' ∧ B' ≠ X ∧ Hid (SI n0 RES W2 M d la lb B' cap' k rs wx) ∧ Hid (wx.heap[X]? = some (.cells #[.slice A L c, .slice A' L c'] 64 (0, 0))) ∧ Hid (Pq.Ok n0 wx ⟨d, (A, c), (A', c'), la, lb⟩)) (fun v i wx => L - (intOf i).toNat)
      case atStart => exact ⟨0, qs, B, cap, Nat.zero_le _, rfl, by rw [HNQ.out], hBX, HI0, HX0, HOK0⟩
      case round =>
        obtain ⟨V, hV⟩ : ∃ V, V = wr := ⟨_, rfl⟩
        subst hV
        obtain ⟨k, rs, B', cap', hk, rfl, rfl, hBn, HI, HXR, HOKX⟩ := hrel
        by_cases hlt : k < L
        · have hi : (k : Int) < (L : Int) := by omega
          have hka : k < la.length := by have := HNL.out; omega
          have hkb : k < lb.length := by have := HNL2.out; omega
          obtain ⟨q, o, x0, x1, x2, x3, x4, hq, hql2, k1, k2, k3, k4, k5, hnd⟩ := HOKX.out.1.at k hka
          obtain ⟨q', o', y0, y1, y2, y3, y4, hq', hql2', j1, j2, j3, j4, j5, hnd'⟩ := HOKX.out.2.1.at k hkb
          have hwa2 := HWA.out _ (getD_mem9 (z := zeroJ d) hka)
          have hwb2 := HWB.out _ (getD_mem9 (z := zeroJ d) hkb)
          have hld1 := loadV_mid k1 k2 k3 k4 k5
          obtain ⟨t, hT⟩ : ∃ t, la.getD k (zeroJ d) = t := ⟨_, rfl⟩
          obtain ⟨s, hSq⟩ : ∃ s, lb.getD k (zeroJ d) = s := ⟨_, rfl⟩
          have HNO := hid (HI.out.no hka hkb)
          have HNX := hid (fun (W : World) (h : SI n0 RES W2 M d la lb B' cap' k rs W) => h.next hka hkb)
          have HPU : Hid (∀ (W W' : World) (B2 cap2 : Nat) (A1 A2 : Option Addr) (c1 c2 : Nat), SI n0 RES W2 M d la lb B' cap' k rs W → labJ d (la.getD k (zeroJ d)) = labJ d (lb.getD k (zeroJ d)) → (kidsJ d (la.getD k (zeroJ d))).length ≠ 0 → Pq.Ok n0 W ⟨d - 1, (A1, c1), (A2, c2), kidsJ d (la.getD k (zeroJ d)), kidsJ d (lb.getD k (zeroJ d))⟩ → OwnK W' 2 64 n0 B2 (rs.length + 1) cap2 (pvs rs ++ [.slice A1 (kidsJ d (la.getD k (zeroJ d))).length c1, .slice A2 (kidsJ d (lb.getD k (zeroJ d))).length c2]) → Below n0 W W' → SI n0 RES W2 M d la lb B2 cap2 (k + 1) (rs ++ [⟨d - 1, (A1, c1), (A2, c2), kidsJ d (la.getD k (zeroJ d)), kidsJ d (lb.getD k (zeroJ d))⟩]) W') := fun W W' B2 cap2 A1 A2 c1 c2 h e1 e2 e3 e4 e5 => h.push hka hkb e1 e2 A1 A2 c1 c2 e3 e4 e5
          rw [hT] at hnd hwa2 HNO HNX HPU
          rw [hSq] at hnd' hwb2 HNO HNX HPU
          have HWK : Hid ((∀ x ∈ kidsJ d t, wtJ (d - 1) x ≤ 100000) ∧ ∀ x ∈ kidsJ d s, wtJ (d - 1) x ≤ 100000) := ⟨(wtJ_parts hwa2).2.2.2.2, (wtJ_parts hwb2).2.2.2.2⟩
          obtain ⟨kA, kc, nA, nc, hcs, _, hkx, _⟩ := hnd.parts
          obtain ⟨kB, kd, nB, nd, hcs', _, hky, _⟩ := hnd'.parts
          have hx3 : x3 = .slice kA (kidsJ d t).length kc := by
            have := congrArg (fun z : Array Value => z[3]?) hcs
            simp [vcs] at this
            exact this
          have hy3 : y3 = .slice kB (kidsJ d s).length kd := by
            have := congrArg (fun z : Array Value => z[3]?) hcs'
            simp [vcs] at this
            exact this
          subst hx3 hy3
          have HKX := hid hkx
          have HKY := hid hky
          have hone := vcs_one hnd
          have HON := hid hone
          have hVX : X < V.heap.size := (Array.getElem?_eq_some_iff.1 HXR.out).1
          have hnV : n0 ≤ V.heap.size := Nat.le_trans HNW.out (Nat.le_of_lt hVX)
          have HNE := hid (heap_alloc_new V (.cells #[.int .i64 0, .int .i64 0, .string ⟨#[]⟩, .slice none 0 0, .slice none 0 0] 25 (0, 0)))
          have HAL := hid ((Below.refl V.heap.size V).alloc (Nat.le_refl _) (.cells #[.int .i64 0, .int .i64 0, .string ⟨#[]⟩, .slice none 0 0, .slice none 0 0] 25))
          have HLK : Hid (∀ W, Below V.heap.size V W → Calls Tryz.prog 38 #[.agg #[x0, x1, x2, .slice kA (kidsJ d t).length kc, x4], .agg #[y0, y1, y2, .slice kB (kidsJ d s).length kd, y4]] W fun x w' => ∃ v, x = .returned v ∧ (v = .bool (likeJ d t s) ∧ Below W.heap.size W w')) := fun W hb => (alike_any d t s hwa2 hwb2 _ _ _ _ W (hnd.below hb (Nat.le_refl _)) (hnd'.below hb (Nat.le_refl _))).mono fun x w' hp => ⟨_, hp.1, rfl, hp.2⟩
          have HJC : Hid (∀ W, Below V.heap.size V W → W.cell? ⟨q', o' + k * 5, none⟩ = some y0 ∧ W.cell? ⟨q', o' + k * 5 + 1, none⟩ = some y1 ∧ W.cell? ⟨q', o' + k * 5 + 2, none⟩ = some y2 ∧ W.cell? ⟨q', o' + k * 5 + 3, none⟩ = some (.slice kB (kidsJ d s).length kd) ∧ W.cell? ⟨q', o' + k * 5 + 4, none⟩ = some y4) := fun W hb => ⟨(hb.cell (p := ⟨q', _, none⟩) hql2').trans j1, (hb.cell (p := ⟨q', _, none⟩) hql2').trans j2, (hb.cell (p := ⟨q', _, none⟩) hql2').trans j3, (hb.cell (p := ⟨q', _, none⟩) hql2').trans j4, (hb.cell (p := ⟨q', _, none⟩) hql2').trans j5⟩
          have HLD : Hid (likeJ d t s = true ↔ labJ d t = labJ d s ∧ (kidsJ d t).length = (kidsJ d s).length) := decide_eq_true_iff
          have htl : (kidsJ d t).length ≤ 100000 := (wtJ_parts hwa2).2.2.2.1
          have HENa := hid (enters_of Tryz.func38 (by kernel_rfl) rfl)
          clear k1 k2 k3 k4 k5 j1 j2 j3 j4 j5 hnd hnd' hwa2 hwb2 hcs hcs' hkx hky hone hT hSq hka hkb hql2 hql2'
          subst hq hq'
          generalize likeJ d t s = lk at HLK HLD
          go_upto_region 9 with (first
            | (refine wpList_store_abs rfl 25 (.tmp 9) (.tmp 36) rfl V.heap.size 0 #[x0, x1, x2, .slice kA (kidsJ d t).length kc, x4] rfl rfl 25 _ HNE.out (Nat.le_refl 5) infoVj HON.out ?_; intro V1 hO hW; rw [over_whole #[.int .i64 0, .int .i64 0, .string ⟨#[]⟩, .slice none 0 0, .slice none 0 0] #[x0, x1, x2, .slice kA (kidsJ d t).length kc, x4] rfl] at hW; have HYR := hid hW; have HBV : Hid (Below V.heap.size V V1) := HAL.out.trans (hO.below (Nat.le_refl _)); clear hO hW)
            | fail)
          clear hld1 HNE HAL HON
          have HX1 := hid (row_keep HBV.out HXR.out)
          have hldY := loadV_run (w := V1.drew) HYR.out rfl
          have g1 : V1.drew.cell? ⟨X, 1, none⟩ = some (.slice (some ⟨q', o', none⟩) L c') := cell_of_row _ _ _ _ _ _ (show V1.drew.heap[X]? = _ from HX1.out)
          obtain ⟨r1, r2, r3, r4, r5⟩ := HJC.out V1.drew HBV.out.drew
          have hldZ := loadV_mid r1 r2 r3 r4 r5
          have HC := hid (HLK.out V1.drew HBV.out.drew)
          clear r1 r2 r3 r4 r5 HLK
          go_simp
          go_cut [44] (fun v44 wx => v44 = .bool (!lk) ∧ Hid (Below V1.heap.size V1 wx))
          case first =>
            go_region_law ((first
              | (refine step_give2 (by rfl) 38 _ _ _ (by rfl) HENa.out (.agg #[x0, x1, x2, .slice kA (kidsJ d t).length kc, x4]) (.agg #[y0, y1, y2, .slice kB (kidsJ d s).length kd, y4]) (by rfl) (by rfl) HC.out ?_; intro v1 w1 ha; obtain ⟨hv1, hb1⟩ := ha; subst hv1; have HB2 : Hid (Below V1.heap.size V1 w1) := ((Below.refl _ _).drew).trans hb1; clear hb1)
              | fail))
            all_goals
              go_simp
              go_wp2_with fail
              go_meet
              case rel => exact ⟨rfl, HB2⟩
          case rest =>
            obtain ⟨hv44, HB2⟩ := hcut
            subst hv44
            have HBc := hid (HBV.out.trans (HB2.out.mono HBV.out.size))
            clear hldY g1 hldZ HC
            cases lk with
            | false =>
              have HR := hid (HNO.out (fun h => by have := HLD.out.2 h; cases this))
              have HLW : Hid (Below w.heap.size w wc) := (HBW.out.trans (HI.out.low.mono (by rw [← HN0.out]; exact HBW.out.size))).trans (HBc.out.mono (Nat.le_trans (Nat.le_trans HBW.out.size (by rw [HN0.out]; exact Nat.le_refl _)) hnV))
              clear HNO HNX HPU HLD
              go_wp2_with fail
              go_ret
              exact NO.out _ HR.out HLW.out
            | true =>
              obtain ⟨hl, hkk⟩ := HLD.out.1 rfl
              have HLB := hid hl
              have HKK := hid hkk
              have HYc := hid (row_keep HB2.out HYR.out)
              have HXc := hid (row_keep HB2.out HX1.out)
              have HSc := hid (HI.out.below HBc.out hnV)
              have HOc := hid (HOKX.out.below (HBc.out.mono hnV))
              have HOKp : Hid (Pq.Ok n0 wc ⟨d - 1, (kA, kc), (kB, kd), kidsJ d t, kidsJ d s⟩) := ⟨HKX.out.below HBc.out (Nat.le_refl _), HKY.out.below HBc.out (Nat.le_refl _), hkk, HWK.out.1, HWK.out.2⟩
              have HP2 := hid (fun (W' : World) B2 cap2 h0 => HPU.out wc W' B2 cap2 kA kB kc kd HSc.out HLB.out h0 HOKp.out)
              have HN2 := hid (HNX.out wc HSc.out HLB.out HKK.out)
              have c3 : wc.cell? ⟨V.heap.size, 3, none⟩ = some (.slice kA (kidsJ d t).length kc) := cell_of_row _ _ _ _ _ _ HYc.out
              have HCJ := hid (HJC.out wc HBc.out).2.2.2.1
              have hrl : rs.length ≤ 1000000 := by
                have h1 := szPq_len rs
                have h2 := HI.out.few
                have h3 := HFW.out
                omega
              have hXc : X < wc.heap.size := (Array.getElem?_eq_some_iff.1 HXc.out).1
              have hnc : n0 ≤ wc.heap.size := Nat.le_trans HNW.out (Nat.le_of_lt hXc)
              clear hl hkk HLD HNO HNX HPU HLB HKX HKY HOKp HJC HX1 HYR
              generalize (kidsJ d t).length = kn at c3 HYc HP2 HN2 HKK htl ⊢
              generalize (kidsJ d s).length = km at HCJ HP2 HN2 HKK
              by_cases h0 : kn = 0
              · subst h0
                have HN3 := hid (HN2.out rfl)
                clear HP2 HN2
                go_wp2_with fail
                go_roundw
                case rel => exact ⟨k + 1, rs, B', cap', by omega, by go_num, rfl, hBn, HN3, HXc, HOc⟩
                case measure => simp [intOf]; omega
              · have hpos : 0 < kn := by omega
                have hpi : (0 : Int) < (kn : Int) := by omega
                have HP3 := hid (fun (W' : World) B2 cap2 => HP2.out W' B2 cap2 h0)
                clear HP2 HN2
                go_wp2_with fail
                have e3 : wc.drew.cell? ⟨V.heap.size, 3, none⟩ = some (.slice kA kn kc) := cell_of_row _ _ _ _ _ _ (show wc.drew.heap[V.heap.size]? = _ from HYc.out)
                have g1 : wc.drew.cell? ⟨X, 1, none⟩ = some (.slice (some ⟨q', o', none⟩) L c') := cell_of_row _ _ _ _ _ _ (show wc.drew.heap[X]? = _ from HXc.out)
                have g3 : wc.drew.cell? ⟨q', o' + k * 5 + 3, none⟩ = some (.slice kB km kd) := HCJ.out
                have HDA := hid ((Below.refl wc.heap.size wc).drew.alloc (Nat.le_refl _) (.cells #[.slice kA kn kc, .slice kB km kd] 64))
                have HOW := hid (HSc.out.own.below HDA.out (Nat.le_refl _))
                have HXd := hid (row_keep HDA.out HXc.out)
                have HOd := hid (HOc.out.below (HDA.out.mono hnc))
                clear c3
                go_region_law ((first
                  | (refine step_pq (by rfl) _ _ (by rfl) n0 B' rs.length cap' (pvs rs) _ (.slice kA kn kc) (.slice kB km kd) (by rfl) (by rfl) HOW.out (src_litK pqK _ wc.drew.heap.size 1 1 [.slice kA kn kc, .slice kB km kd] rfl (heap_alloc_new _ _) (fun u hu => by
                      simp only [List.mem_cons, List.not_mem_nil, or_false] at hu
                      rcases hu with rfl | rfl <;> rfl)) (by omega) (Nat.le_trans hnc HDA.out.size) ?_; intro g' cap2 w5 h1 h2 h3; have HN5 := hid h1; have HG5 := hid h2; have HE5 := hid h3; clear h1 h2 h3)
                  | fail))
                all_goals
                  have HL5 : Hid (Below n0 wc w5) := HOW.out.grown (HDA.out.mono hnc) (Nat.le_trans hnc HDA.out.size) HG5.out
                  have HX5 : Hid (w5.heap[X]? = some (.cells #[.slice (some ⟨q, o, none⟩) L c, .slice (some ⟨q', o', none⟩) L c'] 64 (0, 0))) := (HG5.out.block X (Nat.lt_of_lt_of_le hXc HDA.out.size) (fun e => hBn (by injection e with e; exact e.symm))).trans HXd.out
                  have hgX : g' ≠ X := by
                    rcases HE5.out with e | e
                    · rw [e]; exact hBn
                    · intro e2
                      exact absurd (e.symm.trans e2) (Nat.ne_of_gt (Nat.lt_of_lt_of_le hXc HDA.out.size))
                  have HS5 := hid (HP3.out w5 g' cap2 HN5.out HL5.out)
                  have HO5 := hid (HOc.out.below HL5.out)
                  clear e3 g1 g3
                  go_simp
                  go_wp2_with fail
                  go_roundw
                  case rel => exact ⟨k + 1, _, g', cap2, by omega, by go_num, by rw [List.length_append]; rfl, hgX, HS5, HX5, HO5⟩
                  case measure => simp [intOf]; omega
        · have hi : ¬ (k : Int) < (L : Int) := by omega
          obtain ⟨hout, hless⟩ := HI.out.done (by have := HNL.out; omega) (by have := HNL2.out; omega)
          have HOT := hid hout
          have HLS := hid hless
          clear hout hless
          go_wp2_with fail
          go_roundw
          case rel => exact ⟨rs, B', cap', rfl, by have := HLS.out; have := HFW.out; omega, HOT⟩
          case measure =>
            have h1 := (HMU.out _ (B', rs.length, cap') _ ⟨rs, rfl, HOT.out⟩).2
            have h2 := HLS.out
            have h3 := HME.out
            show mu (B', rs.length, cap') _ < mu (B, n + 1, cap) _
            omega
end Go.Proofs.YtlgkbdebpnbndaaGreatDoor
