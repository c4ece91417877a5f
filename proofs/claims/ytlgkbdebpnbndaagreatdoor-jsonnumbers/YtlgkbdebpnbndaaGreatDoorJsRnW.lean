
/- What renewed does: the same value, made anew. -/
import Derived.Test.YtlgkbdebpnbndaaGreatDoorJsRnT
import Derived.Test.YtlgkbdebpnbndaaGreatDoorJsRnA
namespace Go.Proofs.YtlgkbdebpnbndaaGreatDoor
set_option linter.unusedVariables false
set_option linter.unusedSimpArgs false
open Go.RowKit Go.BigFrame
attribute [local go_sem ↓] loadV_eq

def tri : Value → Nat × Nat × Nat
  | .slice (some a) n c => (a.block, n, c)
  | _ => (0, 0, 0)
theorem szN_le : ∀ (d : Nat) (t : VJ d), szN d t ≤ 2 * wtJ d t
  | 0, t => by
    have := wtJ_pos 0 t
    show 2 ≤ _
    omega
  | d + 1, t => by
    have hs : ∀ l : List (VJ d), (l.map (szN d)).foldr (· + ·) 0 ≤ 2 * (l.map (wtJ d)).sum := fun l => by
      induction l with
      | nil => exact Nat.le_refl _
      | cons x r ih =>
        have := szN_le d x
        rw [List.map_cons, List.map_cons, List.foldr_cons, List.sum_cons]
        omega
    have h1 := hs t.2
    have h2 : wtJ (d + 1) t = 1 + t.1.2.2.1.length + nmsW t.1.2.2.2 + (t.2.map (wtJ d)).sum := rfl
    show 2 + (t.2.map (szN d)).foldr (· + ·) 0 ≤ _
    omega
set_option maxHeartbeats 4000000 in
set_option maxRecDepth 100000 in
theorem renewed_any (D : Nat) (T0 : VJ D) (P0 : Nat → Prop) (hw : wtJ D T0 ≤ 100000) (cs0 : Array Value) (w : World) (hnd0 : VAt P0 D w cs0 T0) : Calls Tryz.prog 44 #[.agg cs0] w fun e w' => Below w.heap.size w w' ∧ ∃ cs', e = .returned (.agg cs') ∧ VAt (fun q => w.heap.size ≤ q) D w' cs' T0 := by
  have HR := hid (fun n0 d t hw cs W h1 h2 => renewedA_any n0 d t hw cs W h1 h2)
  have hcz := hnd0.size
  have hone := vcs_one hnd0
  obtain ⟨W0, hW0⟩ : ∃ W0, (w.alloc (.cells cs0 25)).alloc (.cells #[.int .i64 0, .int .i64 0, .string ⟨#[]⟩, .slice none 0 0, .slice none 0 0] 25) = W0 := ⟨_, rfl⟩
  have hb0 : Below w.heap.size w W0 := by rw [← hW0]; exact ((Below.refl _ _).alloc (Nat.le_refl _) _).alloc (by simp) _
  have hs0 : W0.heap.size = w.heap.size + 2 := by rw [← hW0]; simp
  have HBX : Hid (W0.heap[w.heap.size]? = some (.cells cs0 25 (0, 0))) := by show _ = _; rw [← hW0]; exact heap_first w _ _
  have HQ0 : Hid (W0.heap[w.heap.size + 1]? = some (.cells #[.int .i64 0, .int .i64 0, .string ⟨#[]⟩, .slice none 0 0, .slice none 0 0] 25 (0, 0))) := by show _ = _; rw [← hW0]; exact heap_second w _ _
  have hnd : VAt (fun q => q < W0.heap.size) D W0 cs0 T0 := hnd0.frame hb0.size fun q hq hl => ⟨hb0.block q hl, by omega⟩
  have HB0 := hid hb0
  clear hnd0 hb0
  obtain ⟨W1, hW1⟩ : ∃ W1, W0.alloc (.cells cs0 25) = W1 := ⟨_, rfl⟩
  have hb1 : Below W0.heap.size W0 W1 := by rw [← hW1]; exact (Below.refl _ _).alloc (Nat.le_refl _) _
  have hs1 : W1.heap.size = W0.heap.size + 1 := by rw [← hW1]; simp
  have hr1 : W1.heap[W0.heap.size]? = some (.cells cs0 25 (0, 0)) := by rw [← hW1]; exact heap_alloc_new W0 _
  have hrow : RowO W0.heap.size W1 D W0.heap.size 1 [T0] := ⟨[cs0], rfl, ⟨Nat.le_refl _, by simp [vjvs, hcz], [], by simp [vjvs]; exact hr1, rfl, Nat.le_refl _⟩, fun c hc => by rw [List.mem_singleton.1 hc]; exact hcz, fun j hj => by
    obtain rfl : j = 0 := by simpa using hj
    exact hnd.below hb1 (Nat.le_refl _)⟩
  obtain ⟨mu, hmu⟩ := least_of (fun (m : Nat) (a : Nat × Nat × Nat) (wr : World) => ∃ ps Bs, a.2.1 = ps.length ∧ OutN W0.heap.size D W0.heap.size [T0] W1 m Bs a.1 a.2.2 ps wr)
  have HMU := hid hmu
  clear hmu
  obtain ⟨W2, hW2⟩ : ∃ W2, W1.alloc (.cells #[.slice (some ⟨W0.heap.size, 0, none⟩) 1 1] 22) = W2 := ⟨_, rfl⟩
  have hb2 : Below W1.heap.size W1 W2 := by rw [← hW2]; exact (Below.refl _ _).alloc (Nat.le_refl _) _
  have HOUT : Hid (OutN W0.heap.size D W0.heap.size [T0] W1 (szQ [⟨D, W0.heap.size, 1, [T0]⟩]) [W1.heap.size] W1.heap.size 1 [⟨D, W0.heap.size, 1, [T0]⟩] W2) := by
    have hnw : W2.heap[W1.heap.size]? = some (.cells #[.slice (some ⟨W0.heap.size, 0, none⟩) 1 1] 22 (0, 0)) := by rw [← hW2]; exact heap_alloc_new W1 _
    have hsz0 : W1.heap.size < W2.heap.size := by rw [← hW2]; simp
    refine ⟨OwnV.of_row (xs := [.slice (some ⟨W0.heap.size, 0, none⟩) 1 1]) (by omega) hnw, by simp, ?_, fun p hp => ?_, by simp, fun b hb => ?_, fun p hp => ?_, rfl, hb2.mono (by omega)⟩
    · intro W _ _ h3
      exact h3 ⟨D, W0.heap.size, 1, [T0]⟩ (by simp)
    · rw [List.mem_singleton.1 hp]
      exact ⟨hrow.below hb2, Nat.zero_lt_one⟩
    · rw [List.mem_singleton.1 hb]
      refine ⟨by omega, hsz0, fun hm => ?_⟩
      have e : W1.heap.size = W0.heap.size := List.mem_singleton.1 hm
      omega
    · rw [List.mem_singleton.1 hp]
      intro t ht
      rw [List.mem_singleton.1 ht]
      exact hw
  have hM : szQ [(⟨D, W0.heap.size, 1, [T0]⟩ : Pn)] ≤ 1000000 := by
    have := szN_le D T0
    show (1 + (szN D T0 + 0)) + 0 ≤ _
    omega
  have HM := hid hM
  have HB1 := hid hb1
  have HS1 := hid hs1
  have HS0 := hid hs0
  have hldB := loadV_run HBX.out hcz
  obtain ⟨a0, b0, c0, e0, f0, hcs⟩ : ∃ a b c e f, cs0 = #[a, b, c, e, f] := by
    obtain ⟨kA, kc, nA, nc, e1, _⟩ := hnd.parts
    exact ⟨_, _, _, _, _, e1⟩
  subst hcs
  clear hrow hM hw hone hnd hr1 hb1 hb2 hs1 hs0 hcz
  go_enter Tryz.func44, Tryz.ntmps44
  go_wp2_with fail
  clear hldB hW0 hW1 hW2
  go_loopw [4] (fun v wr => ∃ (ps : List Pn) (Bs : List Nat) (B cap : Nat), v = .slice (some ⟨B, 0, none⟩) ps.length cap ∧ szQ ps ≤ 1000000 ∧ Hid (OutN W0.heap.size D W0.heap.size [T0] W1 (szQ ps) Bs B cap ps wr)) (fun v wr => mu (tri v) wr)
  case atStart => exact ⟨_, _, _, _, rfl, HM.out, HOUT⟩
  case round =>
    obtain ⟨ps0, Bs0, B, cap, rfl, hfew0, HO0⟩ := hrel
    obtain ⟨⟨ps, Bs, hlen, hout⟩, hle⟩ := HMU.out _ (B, ps0.length, cap) wr ⟨ps0, Bs0, rfl, HO0.out⟩
    change ps0.length = ps.length at hlen
    have HMM : Hid (szQ ps = mu (B, ps0.length, cap) wr) := hout.few
    rw [← HMM.out] at hout
    change OutN W0.heap.size D W0.heap.size [T0] W1 (szQ ps) Bs B cap ps wr at hout
    have hfew : szQ ps ≤ 1000000 := by have := HMM.out; omega
    rw [hlen]
    rw [hlen] at HMM
    have HOU := hid hout
    clear hlen hle hout hfew0 HO0
    rcases List.eq_nil_or_concat ps with hps | ⟨qs, p, hps⟩
    · subst hps
      have HF : Hid (VsAt (fun q => W0.heap.size ≤ q) D wr (some ⟨W0.heap.size, 0, none⟩) [T0]) := HOU.out.root wr (Nat.le_refl _) (fun _ _ _ => rfl) (fun p hp => by cases hp)
      have hlow := HOU.out.low
      have HL : Hid (Below W0.heap.size W0 wr) := HB1.out.trans hlow
      have HQ : Hid (wr.heap[w.heap.size + 1]? = some (.cells #[.int .i64 0, .int .i64 0, .string ⟨#[]⟩, .slice none 0 0, .slice none 0 0] 25 (0, 0))) := row_keep HL.out HQ0.out
      obtain ⟨q, o, a, b, c, e, f, hA, _, k1, k2, k3, k4, k5, hv⟩ := HF.out.at 0 Nat.zero_lt_one
      injection hA with hA
      injection hA with hA1 hA2
      subst hA1 hA2
      have HV : Hid (VAt (fun q => W0.heap.size ≤ q) D wr #[a, b, c, e, f] T0) := hv
      have hld := loadV_mid (q := W0.heap.size) (o := 0) k1 k2 k3 k4 k5
      clear HMM hfew hlow hv k1 k2 k3 k4 k5
      have hz1 : w.heap.size + 1 < W0.heap.size := by have := HS0.out; omega
      go_wp2_with (first
        | (refine wpList_store_abs rfl 25 (.tmp 2) (.tmp 56) rfl (w.heap.size + 1) 0 #[a, b, c, e, f] rfl rfl 25 _ HQ.out (Nat.le_refl 5) infoVj (vcs_one HV.out) ?_; intro W9 hO9 hW9)
        | fail)
      rw [over_whole #[.int .i64 0, .int .i64 0, .string ⟨#[]⟩, .slice none 0 0, .slice none 0 0] #[a, b, c, e, f] rfl] at hW9
      refine bodyPost_ret (ret_v (p := 2) Tryz.results44 _ _ (w.heap.size + 1) _ rfl (0, 0) rfl hW9) rfl ⟨(HB0.out.trans (HL.out.mono HB0.out.size)).trans (hO9.below (by omega)), _, rfl, HV.out.frame (Nat.le_of_eq hO9.size.symm) fun q hq hl => ⟨hO9.block q (by omega), by omega⟩⟩
    · obtain ⟨d, g, c, l⟩ := p
      rw [List.concat_eq_append] at hps
      subst hps
      have HIN := hid HOU.out.take
      have cB : wr.cell? ⟨B, qs.length, none⟩ = some (.slice (some ⟨g, 0, none⟩) l.length c) := by
        have ho := HOU.out.own
        rw [List.map_append] at ho
        exact ho.at qs.length _ (by rw [List.getElem?_append_right (by simp)]; simp [Pn.val])
      have hcap : qs.length + 1 ≤ cap := by
        have := HOU.out.own.le
        rw [List.length_append] at this
        exact this
      have HLT : Hid (∀ t ∈ l, wtJ d t ≤ 100000) := HOU.out.light ⟨d, g, c, l⟩ (by simp)
      have hlp : 0 < l.length := (HOU.out.rows ⟨d, g, c, l⟩ (by simp)).2
      have HME : Hid (szQ (qs ++ [⟨d, g, c, l⟩]) = mu (B, qs.length + 1, cap) wr) := by
        have := HMM.out
        rw [List.length_append] at this
        exact this
      have hql : qs.length ≤ 1000000 := by
        have := szQ_len qs
        rw [szQ_app] at hfew
        omega
      have hll : l.length ≤ 1000000 := by
        rw [szQ_app, szQ_one, szR_eq] at hfew
        have h2 := sum_len d l
        have e : szQ qs + (1 + sumN d l) ≤ 1000000 := hfew
        omega
      have HFW := hid hfew
      have e1 : (qs ++ [(⟨d, g, c, l⟩ : Pn)]).length = qs.length + 1 := by simp
      rw [e1]
      obtain ⟨M, hMM⟩ : ∃ M, szQ (qs ++ [(⟨d, g, c, l⟩ : Pn)]) = M := ⟨_, rfl⟩
      rw [hMM] at HIN HME HFW
      have HLOW := hid HIN.out.low
      clear HMM HOU hfew e1 hMM
      generalize hnq : qs.length = n at cB hcap hql HME ⊢
      have HNQ := hid hnq
      clear hnq
      have f1 : ((n + 1 : Nat) : Int) - 1 = (n : Int) := by omega
      have f2 : (n : Int) + 1 - 1 = (n : Int) := by omega
      obtain ⟨n0, hn0⟩ : ∃ n0, W0.heap.size = n0 := ⟨_, rfl⟩
      have HN0 := hid hn0
      have HNW : Hid (n0 ≤ W1.heap.size) := by show _ ≤ _; have := HS1.out; omega
      rw [hn0] at HIN HMU HLOW
      clear hn0
      go_wp2_with fail
      go_loopw [4, 27] (fun v i wx => ∃ (k : Nat) (rs : List Pn) (Bs' : List Nat) (B' cap' : Nat), k ≤ l.length ∧ i = .int .i64 (k : Int) ∧ v = .slice (some ⟨B', 0, none⟩) rs.length cap' ∧ Hid (InN n0 D n0 [T0] W1 M d g c l Bs' B' cap' k rs wx)) (fun v i wx => l.length - (intOf i).toNat)
      case atStart => exact ⟨0, qs, Bs, B, cap, Nat.zero_le _, rfl, by rw [HNQ.out], HIN⟩
      case round =>
        obtain ⟨V, hV⟩ : ∃ V, V = wr := ⟨_, rfl⟩
        subst hV
        obtain ⟨k, rs, Bs', B', cap', hk, rfl, rfl, HI⟩ := hrel
        by_cases hlt : k < l.length
        · have hi : (k : Int) < (l.length : Int) := by omega
          obtain ⟨a, b, x, e, f, k1, k2, k3, k4, k5, hnd⟩ := HI.out.mid.load hlt
          have hld := loadV_mid k1 k2 k3 k4 k5
          obtain ⟨t, hT⟩ : ∃ t, l.getD k (zeroJ d) = t := ⟨_, rfl⟩
          rw [hT] at hnd
          have hmt : t ∈ l := by rw [← hT]; exact getD_mem9 hlt
          have hwt := HLT.out t hmt
          have hn1 : n0 ≤ V.heap.size := Nat.le_trans HNW.out HI.out.low.size
          have HRC := hid (HR.out n0 d t hwt #[a, b, x, e, f] V hn1 hnd)
          have HKW : Hid (∀ t' ∈ kidsJ d t, wtJ (d - 1) t' ≤ 100000) := (wtJ_parts hwt).2.2.2.2
          have HT := hid hT
          have HN1 := hid hn1
          obtain ⟨rc, hrc⟩ : ∃ rc, V.heap[g]? = some (.cells rc 25 (0, 0)) := by
            obtain ⟨css, _, c2, _⟩ := HI.out.mid.row
            obtain ⟨rest, r1, _⟩ := c2.row
            exact ⟨_, r1⟩
          have hrz : l.length * 5 ≤ rc.size := by
            obtain ⟨css, c1, c2, c3, _⟩ := HI.out.mid.row
            obtain ⟨rest, r1, _⟩ := c2.row
            rw [hrc] at r1
            injection r1 with r1
            injection r1 with r1
            rw [r1, List.size_toArray, List.length_append, vjvs_len css c3, c1]
            omega
          have HRO := hid hrc
          have hcc : l.length ≤ c := by
            obtain ⟨css, _, c2, _⟩ := HI.out.mid.row
            exact c2.le
          have hrl := szQ_len rs
          have hrf := HI.out.few
          have hrm := HFW.out
          have hrs : rs.length ≤ 1000000 := by omega
          clear k1 k2 k3 k4 k5 hnd hmt hwt hn1 hT hrc hrl hrf hrm
          go_wp2_with fail
          refine HRC.out.mono ?_
          rintro e9 w1 ⟨hb1, v1, kv, rfl, hH, hK⟩
          have hko : kv.oneCell' = true := by
            rcases hK with ⟨_, h⟩ | ⟨gK, cK, h, _⟩ <;> (rw [h]; rfl)
          have hvo : v1.oneCell' = true := hH.one
          have hrow1 := (hb1.block g (Array.getElem?_eq_some_iff.1 HRO.out).1).trans HRO.out
          have HONE : Hid ((#[.int .i64 (labJ d t).1, .int .i64 (labJ d t).2.1, .string (asS (labJ d t).2.2.1), kv, v1] : Array Value).all (·.oneCell') = true) := five_one _ _ _ _ _ rfl rfl rfl hko hvo
          have HH := hid hH
          have HKO := hid hK
          have HB1 := hid hb1
          have HRW := hid hrow1
          have hz4 : k * 5 + 5 ≤ rc.size := by omega
          clear hko hvo hrow1 hH hK hb1
          go_upto_region 11 with (first
            | (refine wpList_store_abs rfl 25 (.tmp 37) (.tmp 36) rfl g (k * 5) #[.int .i64 (labJ d t).1, .int .i64 (labJ d t).2.1, .string (asS (labJ d t).2.2.1), kv, v1] rfl rfl 25 rc HRW.out hz4 infoVj HONE.out ?_; intro V2 hO2 hW2)
            | fail)
          obtain ⟨hcell, hcase⟩ := HI.out.mid.renew hlt HT.out HN1.out (fun b hb => (HI.out.sep b hb).2.1) HB1.out HH.out HKO.out hO2 (fun rc' h' => by rw [HRW.out] at h'; cases h'; exact hW2)
          have HO2 := hid hO2
          clear hW2 hO2 HKO HH HONE
          rcases hcase with ⟨⟨h0, rfl⟩, hmid⟩ | ⟨gK, cK, rfl, hp, hge, hmid⟩
          · have HNX := hid (HI.out.next hlt HN1.out HB1.out HO2.out hmid)
            clear hmid h0
            go_wp2_with fail
            go_roundw
            case rel => exact ⟨k + 1, rs, Bs', B', cap', by omega, by go_num, rfl, HNX⟩
            case measure => simp [intOf]; omega
          · have hpi : 0 < (((kidsJ d t).length : Nat) : Int) := by omega
            have HMD := hid hmid
            have HGE := hid hge
            have HP := hid hp
            have HOW : Hid (OwnV V2 22 n0 B' rs.length cap' (rs.map Pn.val)) := (HI.out.own.below HB1.out (Nat.le_refl _)).kept (HO2.out.block B' (HI.out.sep B' HI.out.inB).2.2.1)
            have HZ2 : Hid (n0 ≤ V2.heap.size) := by show _ ≤ _; rw [HO2.out.size]; exact Nat.le_trans HN1.out HB1.out.size
            have HBG : Hid (n0 ≤ B') := (HI.out.sep B' HI.out.inB).1
            clear hmid hge hp
            generalize hkn : (kidsJ d t).length = kn at hcell hpi ⊢
            have HKN := hid hkn
            clear hkn
            have HSA : Hid (∀ o : Obj, n0 ≤ (V2.alloc o).heap.size) := fun o => by have h9 := HZ2.out; show _ ≤ _; simp; omega
            go_wp2_with (first
              | (refine wpList_ownV cellN rfl _ _ rfl n0 B' rs.length cap' 1 (rs.map Pn.val) [.slice (some ⟨gK, 0, none⟩) kn cK] _ rfl rfl (HOW.out.alloc _) (src_lit cellN _ V2.heap.size 1 [.slice (some ⟨gK, 0, none⟩) kn cK] (heap_alloc_new V2 _) (fun u hu => by rw [List.mem_singleton.1 hu]; rfl)) (by omega) (HSA.out _) ?_)
              | fail)
            intro g' cap'' W4 j1 j2 j3
            have HNX : Hid (InN n0 D n0 [T0] W1 M d g c l (g' :: Bs') g' cap'' (k + 1) (rs ++ [⟨d - 1, gK, cK, kidsJ d t⟩]) W4) := by
              have hal : ∀ q, q < V2.heap.size → q < (V2.alloc (.cells #[.slice (some ⟨gK, 0, none⟩) kn cK] 22)).heap.size := fun q hq => by simp; omega
              refine HI.out.push hlt HT.out HKW.out HN1.out HB1.out HO2.out HGE.out HP.out HMD.out (by rw [HKN.out]; exact j1) (Nat.le_trans (by simp) j2.size) (fun q hq hne => (j2.block q (hal q hq) (fun e => hne (by injection e))).trans (Below.heap_alloc V2 _ q hq)) ?_ ((HOW.out.alloc _).grown ((Below.refl n0 V2).alloc HZ2.out _) (HSA.out _) j2)
              rcases j3 with j3 | j3
              · exact .inl j3
              · exact .inr (by rw [j3]; simp)
            clear j1 j2 j3
            go_wp2_with fail
            go_roundw
            case rel => exact ⟨k + 1, rs ++ [⟨d - 1, gK, cK, kidsJ d t⟩], g' :: Bs', g', cap'', by omega, by go_num, by rw [List.length_append]; rfl, HNX⟩
            case measure => simp [intOf]; omega
        · have hi : ¬ (k : Int) < (l.length : Int) := by omega
          obtain ⟨hout, hless⟩ := HI.out.done (by omega)
          have HOT := hid hout
          have HLS := hid hless
          clear hout hless
          go_wp2_with fail
          go_roundw
          case rel => exact ⟨rs, Bs', B', cap', rfl, by have := HLS.out; have := HFW.out; omega, by rw [HN0.out]; exact HOT⟩
          case measure =>
            have h1 := (HMU.out _ (B', rs.length, cap') _ ⟨rs, Bs', rfl, HOT.out⟩).2
            have h2 := HLS.out
            have h3 := HME.out
            show mu (B', rs.length, cap') _ < mu (B, n + 1, cap) _
            omega
end Go.Proofs.YtlgkbdebpnbndaaGreatDoor
