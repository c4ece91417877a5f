
/- What renew of package xml does: the rows are the same nodes, made anew. -/
import Derived.Test.YthjibliaofmlhaaGreatDoorXmRnT
namespace Go.Proofs.YthjibliaofmlhaaGreatDoor
set_option linter.unusedVariables false
set_option linter.unusedSimpArgs false
open Go.RowKit Go.BigFrame
attribute [local go_sem ↓] loadN_eq

theorem sum_len (d : Nat) : ∀ l : List (Tr d), l.length ≤ sumN d l
  | [] => Nat.le_refl _
  | t :: l => by
    have h1 := sum_len d l
    have h2 := szN_pos d t
    show l.length + 1 ≤ szN d t + sumN d l
    omega
set_option maxHeartbeats 2000000 in
set_option maxRecDepth 100000 in
theorem renew_any (n0 D g0 c0 : Nat) (L : List (Tr D)) (w : World) (hn0 : n0 ≤ w.heap.size) (hrow : RowO n0 w D g0 c0 L) (hpos : 0 < L.length) (hlt : ∀ t ∈ L, wtT D t ≤ 12000) (hsz : szR D L ≤ 1000000) : Calls Tryz.prog 45 #[.slice (some ⟨g0, 0, none⟩) L.length c0] w fun e w' => (∃ v, e = .returned v) ∧ NdsAt (fun _ => True) D w' (some ⟨g0, 0, none⟩) L ∧ Below n0 w w' := by
  have HR := hid (fun d t hw cs W h1 h2 => renewed_any n0 d t hw cs W h1 h2)
  obtain ⟨mu, hmu⟩ := least_of (fun (m : Nat) (a : Nat × Nat × Nat) (wr : World) => ∃ ps Bs, a.2.1 = ps.length ∧ OutN n0 D g0 L w m Bs a.1 a.2.2 ps wr)
  have HMU := hid hmu
  clear hmu
  obtain ⟨W0, hW0⟩ : ∃ W0, w.alloc (.cells #[.slice (some ⟨g0, 0, none⟩) L.length c0] 23) = W0 := ⟨_, rfl⟩
  have hb0 : Below w.heap.size w W0 := by rw [← hW0]; exact (Below.refl _ _).alloc (Nat.le_refl _) _
  have HOUT : Hid (OutN n0 D g0 L w (szQ [⟨D, g0, c0, L⟩]) [w.heap.size] w.heap.size 1 [⟨D, g0, c0, L⟩] W0) := by
    have hl := hrow.lt
    have hnw : W0.heap[w.heap.size]? = some (.cells #[.slice (some ⟨g0, 0, none⟩) L.length c0] 23 (0, 0)) := by rw [← hW0]; exact heap_alloc_new w _
    have hsz0 : w.heap.size < W0.heap.size := by rw [← hW0]; simp
    refine ⟨OwnV.of_row (xs := [.slice (some ⟨g0, 0, none⟩) L.length c0]) hn0 hnw, by simp, ?_, fun p hp => ?_, by simp, fun b hb => ?_, fun p hp => ?_, rfl, hb0.mono hn0⟩
    · intro W _ _ h3
      exact h3 ⟨D, g0, c0, L⟩ (by simp)
    · rw [List.mem_singleton.1 hp]
      exact ⟨hrow.below hb0, hpos⟩
    · rw [List.mem_singleton.1 hb]
      refine ⟨hn0, hsz0, fun hm => ?_⟩
      have e : w.heap.size = g0 := List.mem_singleton.1 hm
      omega
    · rw [List.mem_singleton.1 hp]; exact hlt
  have hM : szQ [(⟨D, g0, c0, L⟩ : Pn)] ≤ 1000000 := hsz
  have HM := hid hM
  clear hrow hlt hM hsz hb0
  go_enter Tryz.func45, Tryz.ntmps45
  go_wp2_with fail
  clear hW0
  go_loopw [2] (fun v wr => ∃ (ps : List Pn) (Bs : List Nat) (B cap : Nat), v = .slice (some ⟨B, 0, none⟩) ps.length cap ∧ szQ ps ≤ 1000000 ∧ Hid (OutN n0 D g0 L w (szQ ps) Bs B cap ps wr)) (fun v wr => mu (tri v) wr)
  case atStart => exact ⟨_, _, _, _, rfl, HM.out, HOUT⟩
  case round =>
    obtain ⟨ps0, Bs0, B, cap, rfl, hfew0, HO0⟩ := hrel
    obtain ⟨⟨ps, Bs, hlen, hout⟩, hle⟩ := HMU.out _ (B, ps0.length, cap) wr ⟨ps0, Bs0, rfl, HO0.out⟩
    change ps0.length = ps.length at hlen
    have HMM : Hid (szQ ps = mu (B, ps0.length, cap) wr) := hout.few
    rw [← HMM.out] at hout
    change OutN n0 D g0 L w (szQ ps) Bs B cap ps wr at hout
    have hfew : szQ ps ≤ 1000000 := by have := HMM.out; omega
    rw [hlen]
    rw [hlen] at HMM
    have HOU := hid hout
    clear hlen hle hout hfew0 HO0
    rcases List.eq_nil_or_concat ps with hps | ⟨qs, p, hps⟩
    · subst hps
      have HF : Hid (NdsAt (fun _ => True) D wr (some ⟨g0, 0, none⟩) L) := HOU.out.root wr (Nat.le_refl _) (fun _ _ _ => rfl) (fun p hp => by cases hp)
      have HL := hid HOU.out.low
      clear HMM hfew
      go_wp2_with fail
      exact ⟨by simp, _, results_none rfl _ _ _, ⟨⟨_, rfl⟩, HF.out, HL.out⟩⟩
    · obtain ⟨d, g, c, l⟩ := p
      rw [List.concat_eq_append] at hps
      subst hps
      have HIN := hid HOU.out.take
      have cB : wr.cell? ⟨B, qs.length, none⟩ = some (.slice (some ⟨g, 0, none⟩) l.length c) := by
        have ho := HOU.out.own
        rw [List.map_append] at ho
        exact ho.at qs.length _ (by rw [List.getElem?_append_right (by simp)]; simp [Pn.val])
      have hcap : qs.length + 1 ≤ cap := by
        have := HOU.out.own.le
        rw [List.length_append] at this
        exact this
      have HLT : Hid (∀ t ∈ l, wtT d t ≤ 12000) := HOU.out.light ⟨d, g, c, l⟩ (by simp)
      have hlp : 0 < l.length := (HOU.out.rows ⟨d, g, c, l⟩ (by simp)).2
      have HME : Hid (szQ (qs ++ [⟨d, g, c, l⟩]) = mu (B, qs.length + 1, cap) wr) := by
        have := HMM.out
        rw [List.length_append] at this
        exact this
      have hql : qs.length ≤ 1000000 := by
        have := szQ_len qs
        rw [szQ_app] at hfew
        omega
      have hll : l.length ≤ 1000000 := by
        rw [szQ_app, szQ_one, szR_eq] at hfew
        have h2 := sum_len d l
        have e : szQ qs + (1 + sumN d l) ≤ 1000000 := hfew
        omega
      have HFW := hid hfew
      have e1 : (qs ++ [(⟨d, g, c, l⟩ : Pn)]).length = qs.length + 1 := by simp
      rw [e1]
      obtain ⟨M, hMM⟩ : ∃ M, szQ (qs ++ [(⟨d, g, c, l⟩ : Pn)]) = M := ⟨_, rfl⟩
      rw [hMM] at HIN HME HFW
      have HLOW := hid HIN.out.low
      clear HMM HOU hfew e1 hMM
      generalize hnq : qs.length = n at cB hcap hql HME ⊢
      have HNQ := hid hnq
      clear hnq
      have f1 : ((n + 1 : Nat) : Int) - 1 = (n : Int) := by omega
      have f2 : (n : Int) + 1 - 1 = (n : Int) := by omega
      go_wp2_with fail
      go_loopw [2, 23] (fun v i wx => ∃ (k : Nat) (rs : List Pn) (Bs' : List Nat) (B' cap' : Nat), k ≤ l.length ∧ i = .int .i64 (k : Int) ∧ v = .slice (some ⟨B', 0, none⟩) rs.length cap' ∧ Hid (InN n0 D g0 L w M d g c l Bs' B' cap' k rs wx)) (fun v i wx => l.length - (intOf i).toNat)
      case atStart => exact ⟨0, qs, Bs, B, cap, Nat.zero_le _, rfl, by rw [HNQ.out], HIN⟩
      case round =>
        obtain ⟨V, hV⟩ : ∃ V, V = wr := ⟨_, rfl⟩
        subst hV
        obtain ⟨k, rs, Bs', B', cap', hk, rfl, rfl, HI⟩ := hrel
        by_cases hlt : k < l.length
        · have hi : (k : Int) < (l.length : Int) := by omega
          obtain ⟨a, b, x, e, k1, k2, k3, k4, hnd⟩ := HI.out.mid.load hlt
          have hld := loadN_mid k1 k2 k3 k4
          obtain ⟨t, hT⟩ : ∃ t, l.getD k (zeroT d) = t := ⟨_, rfl⟩
          rw [hT] at hnd
          have hmt : t ∈ l := by rw [← hT]; exact getD_mem9 hlt
          have hwt := HLT.out t hmt
          have hn1 : n0 ≤ V.heap.size := Nat.le_trans hn0 HI.out.low.size
          have HRC := hid (HR.out d t hwt #[a, b, x, e] V hn1 hnd)
          have HKW : Hid (∀ t' ∈ kidsT d t, wtT (d - 1) t' ≤ 12000) := (wt_parts hwt).2.2.2.2.2
          have HT := hid hT
          have HN1 := hid hn1
          obtain ⟨rc, hrc⟩ : ∃ rc, V.heap[g]? = some (.cells rc 25 (0, 0)) := by
            obtain ⟨css, _, c2, _⟩ := HI.out.mid.row
            obtain ⟨rest, r1, _⟩ := c2.row
            exact ⟨_, r1⟩
          have hrz : l.length * 4 ≤ rc.size := by
            obtain ⟨css, c1, c2, c3, _⟩ := HI.out.mid.row
            obtain ⟨rest, r1, _⟩ := c2.row
            rw [hrc] at r1
            injection r1 with r1
            injection r1 with r1
            rw [r1, List.size_toArray, List.length_append, ndvs_len css c3, c1]
            omega
          have HRO := hid hrc
          have hcc : l.length ≤ c := by
            obtain ⟨css, _, c2, _⟩ := HI.out.mid.row
            exact c2.le
          have hrl := szQ_len rs
          have hrf := HI.out.few
          have hrm := HFW.out
          have hrs : rs.length ≤ 1000000 := by omega
          clear k1 k2 k3 k4 hnd hmt hwt hn1 hT hrc hrl hrf hrm
          go_wp2_with fail
          refine HRC.out.mono ?_
          rintro e9 w1 ⟨hb1, v1, kv, rfl, hH, hK⟩
          obtain ⟨vA, vc, hvs⟩ := hH.slice
          have hko : kv.oneCell' = true := by
            rcases hK with ⟨_, h⟩ | ⟨gK, cK, h, _⟩ <;> (rw [h]; rfl)
          have hvo : v1.oneCell' = true := by rw [hvs]; rfl
          have hrow1 := (hb1.block g (Array.getElem?_eq_some_iff.1 HRO.out).1).trans HRO.out
          have HONE : Hid ((#[.string (asS (nmT d t)), v1, .string (asS (txT d t)), kv] : Array Value).all (·.oneCell') = true) := msg_one _ _ _ _ rfl hvo rfl hko
          have HH := hid hH
          have HKO := hid hK
          have HB1 := hid hb1
          have HRW := hid hrow1
          have hz4 : k * 4 + 4 ≤ rc.size := by omega
          clear hvs hko hvo hrow1 hH hK hb1
          go_upto_region 9 with (first
            | (refine wpList_store_abs rfl 25 (.tmp 33) (.tmp 32) rfl g (k * 4) #[.string (asS (nmT d t)), v1, .string (asS (txT d t)), kv] rfl rfl 25 rc HRW.out hz4 infoN HONE.out ?_; intro W2 hO2 hW2)
            | fail)
          obtain ⟨hcell, hcase⟩ := HI.out.mid.renew hlt HT.out HN1.out (fun b hb => (HI.out.sep b hb).2.1) HB1.out HH.out HKO.out hO2 (fun rc' h' => by rw [HRW.out] at h'; cases h'; exact hW2)
          have HO2 := hid hO2
          clear hW2 hO2 HKO HH HONE
          rcases hcase with ⟨⟨h0, rfl⟩, hmid⟩ | ⟨gK, cK, rfl, hp, hge, hmid⟩
          · have HNX := hid (HI.out.next hlt HN1.out HB1.out HO2.out hmid)
            clear hmid h0
            go_wp2_with fail
            go_roundw
            case rel => exact ⟨k + 1, rs, Bs', B', cap', by omega, by go_num, rfl, HNX⟩
            case measure => simp [intOf]; omega
          · have hpi : 0 < (((kidsT d t).length : Nat) : Int) := by omega
            have HMD := hid hmid
            have HGE := hid hge
            have HP := hid hp
            have HOW : Hid (OwnV W2 23 n0 B' rs.length cap' (rs.map Pn.val)) := (HI.out.own.below HB1.out (Nat.le_refl _)).kept (HO2.out.block B' (HI.out.sep B' HI.out.inB).2.2.1)
            have HZ2 : Hid (n0 ≤ W2.heap.size) := by show _ ≤ _; rw [HO2.out.size]; exact Nat.le_trans HN1.out HB1.out.size
            have HBG : Hid (n0 ≤ B') := (HI.out.sep B' HI.out.inB).1
            clear hmid hge hp
            generalize hkn : (kidsT d t).length = kn at hcell hpi ⊢
            have HKN := hid hkn
            clear hkn
            have HSA : Hid (∀ o : Obj, n0 ≤ (W2.alloc o).heap.size) := fun o => by have h9 := HZ2.out; show _ ≤ _; simp; omega
            go_wp2_with (first
              | (refine wpList_ownV cellN rfl _ _ rfl n0 B' rs.length cap' 1 (rs.map Pn.val) [.slice (some ⟨gK, 0, none⟩) kn cK] _ rfl rfl (HOW.out.alloc _) (src_lit cellN _ W2.heap.size 1 [.slice (some ⟨gK, 0, none⟩) kn cK] (heap_alloc_new W2 _) (fun u hu => by rw [List.mem_singleton.1 hu]; rfl)) (by omega) (HSA.out _) ?_)
              | fail)
            intro g' cap'' W4 j1 j2 j3
            have HNX : Hid (InN n0 D g0 L w M d g c l (g' :: Bs') g' cap'' (k + 1) (rs ++ [⟨d - 1, gK, cK, kidsT d t⟩]) W4) := by
              have hal : ∀ q, q < W2.heap.size → q < (W2.alloc (.cells #[.slice (some ⟨gK, 0, none⟩) kn cK] 23)).heap.size := fun q hq => by simp; omega
              refine HI.out.push hlt HT.out HKW.out HN1.out HB1.out HO2.out HGE.out HP.out HMD.out (by rw [HKN.out]; exact j1) (Nat.le_trans (by simp) j2.size) (fun q hq hne => (j2.block q (hal q hq) (fun e => hne (by injection e))).trans (Below.heap_alloc W2 _ q hq)) ?_ ((HOW.out.alloc _).grown ((Below.refl n0 W2).alloc HZ2.out _) (HSA.out _) j2)
              rcases j3 with j3 | j3
              · exact .inl j3
              · exact .inr (by rw [j3]; simp)
            clear j1 j2 j3
            go_wp2_with fail
            go_roundw
            case rel => exact ⟨k + 1, rs ++ [⟨d - 1, gK, cK, kidsT d t⟩], g' :: Bs', g', cap'', by omega, by go_num, by rw [List.length_append]; rfl, HNX⟩
            case measure => simp [intOf]; omega
        · have hi : ¬ (k : Int) < (l.length : Int) := by omega
          obtain ⟨hout, hless⟩ := HI.out.done (by omega)
          have HOT := hid hout
          have HLS := hid hless
          clear hout hless
          go_wp2_with fail
          go_roundw
          case rel => exact ⟨rs, Bs', B', cap', rfl, by have := HLS.out; have := HFW.out; omega, HOT⟩
          case measure =>
            have h1 := (HMU.out _ (B', rs.length, cap') _ ⟨rs, Bs', rfl, HOT.out⟩).2
            have h2 := HLS.out
            have h3 := HME.out
            show mu (B', rs.length, cap') _ < mu (B, n + 1, cap) _
            omega
end Go.Proofs.YthjibliaofmlhaaGreatDoor
