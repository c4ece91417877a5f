
/- What the reference's Join and Long do, and the law's long. -/
import Derived.Test.YtlblefcmilfjdaaGreatDoorUrPri
import Derived.Test.YtlblefcmilfjdaaGreatDoorUrUn
import Derived.Deep.DeepCutAuto
namespace Go.Proofs.YtlblefcmilfjdaaGreatDoor
set_option linter.unusedVariables false
set_option linter.unusedSimpArgs false
open Go.RowKit Go.BigFrame
attribute [local go_sem ↓] loadU_eq

set_option maxHeartbeats 8000000 in
set_option maxRecDepth 100000 in
theorem refJoin_any (u : UrlV) (hu : LenU 100000 u) (w : World) : Calls Tryz.prog 22 #[.agg (ucs u)] w fun e w' => e = .returned (.string (asS (joinU u))) ∧ Below w.heap.size w w' := by
  obtain ⟨o1, ho1⟩ : ∃ o, o = (if u.scheme = [] then [] else u.scheme ++ [58]) := ⟨_, rfl⟩
  obtain ⟨o2, ho2⟩ : ∃ o, o = o1 ++ (if u.hasAuth = true then [47, 47] else []) := ⟨_, rfl⟩
  obtain ⟨o3, ho3⟩ : ∃ o, o = o2 ++ (if u.hasUser = true then u.user ++ [64] else []) := ⟨_, rfl⟩
  obtain ⟨o4, ho4⟩ : ∃ o, o = o3 ++ u.host := ⟨_, rfl⟩
  obtain ⟨o5, ho5⟩ : ∃ o, o = o4 ++ (if u.hasPort = true then 58 :: u.port else []) := ⟨_, rfl⟩
  obtain ⟨o6, ho6⟩ : ∃ o, o = o5 ++ u.path := ⟨_, rfl⟩
  obtain ⟨o7, ho7⟩ : ∃ o, o = o6 ++ (if u.hasQuery = true then 63 :: u.query else []) := ⟨_, rfl⟩
  obtain ⟨o8, ho8⟩ : ∃ o, o = o7 ++ (if u.hasFrag = true then 35 :: u.frag else []) := ⟨_, rfl⟩
  have HJ : Hid (joinU u = o8) := by show _ = _; unfold joinU; rw [ho8, ho7, ho6, ho5, ho4, ho3, ho2, ho1]
  have g1 := hu.scheme; have g2 := hu.user; have g3 := hu.host; have g4 := hu.port; have g5 := hu.path; have g6 := hu.query; have g7 := hu.frag
  have l1 : o1.length ≤ 100001 := by rw [ho1]; split <;> simp <;> omega
  have l2 : o2.length ≤ 100003 := by rw [ho2, List.length_append]; split <;> simp <;> omega
  have l3 : o3.length ≤ 200004 := by rw [ho3, List.length_append]; split <;> simp <;> omega
  have l4 : o4.length ≤ 300004 := by rw [ho4, List.length_append]; omega
  have l5 : o5.length ≤ 400005 := by rw [ho5, List.length_append]; split <;> simp <;> omega
  have l6 : o6.length ≤ 500005 := by rw [ho6, List.length_append]; omega
  have l7 : o7.length ≤ 600006 := by rw [ho7, List.length_append]; split <;> simp <;> omega
  have H1 := hid ho1; have H2 := hid ho2; have H3 := hid ho3; have H4 := hid ho4; have H5 := hid ho5; have H6 := hid ho6; have H7 := hid ho7; have H8 := hid ho8
  have HG : Hid (LenU 100000 u) := hu
  generalize joinU u = J at HJ ⊢
  clear ho1 ho2 ho3 ho4 ho5 ho6 ho7 ho8 g1 g2 g3 g4 g5 g6 g7 hu
  go_enter Tryz.func22, Tryz.ntmps22
  obtain ⟨V, hV⟩ : ∃ V, V = w.alloc (Obj.cells (ucs u) 26) := ⟨_, rfl⟩
  have HR : Hid (V.heap[w.heap.size]? = some (.cells (ucs u) 26 (0, 0))) := by rw [hV]; exact heap_alloc_new w _
  have HB : Hid (Below w.heap.size w V) := by rw [hV]; exact alloc_below (Below.refl _ w) (Nat.le_refl _) _
  have c0 : (w.alloc (Obj.cells (ucs u) 26)).cell? ⟨w.heap.size, 0, none⟩ = some (.string (asS u.scheme)) := cellU (heap_alloc_new w _) 0 _ rfl
  have he := empty_dec u.scheme
  generalize hfs : decide (u.scheme = []) = fs at he
  have HFS := hid hfs
  clear hfs
  go_upto_if 6 with (fail)
  rw [← hV]
  rw [← hV] at c0
  clear hV
  go_cut [3] (fun v wx => v = .string (asS o1) ∧ V = wx)
  case first =>
    cases fs with
    | true =>
      have HE : Hid (o1 = []) := by show _ = _; rw [H1.out, if_pos (of_decide_eq_true HFS.out)]
      go_wp2_with fail
      go_meet
      case rel => exact ⟨by first | (rw [HE.out]; rfl) | rw [HE.out], rfl⟩
    | false =>
      have HE : Hid (o1 = u.scheme ++ [58]) := by show _ = _; rw [H1.out, if_neg (of_decide_eq_false HFS.out)]
      have g1 := HG.out.scheme; have g2 := HG.out.user; have g3 := HG.out.host; have g4 := HG.out.port; have g5 := HG.out.path; have g6 := HG.out.query; have g7 := HG.out.frag
      have e0 : asS (u.scheme) ++ (⟨#[58]⟩ : ByteArray) = asS (u.scheme ++ [58]) := asS_app (u.scheme) [58]
      have k0 : ¬ (9223372036854775807 < (asS (u.scheme)).size + 1) := cat_size (u.scheme) [58] (by first | omega | (simp; omega) | simp)
      clear g1 g2 g3 g4 g5 g6 g7
      go_wp2_with fail
      go_meet
      case rel => exact ⟨by first | (rw [HE.out]; done) | (rw [HE.out]; rfl) | (rw [HE.out]; simp; done), rfl⟩
  case rest =>
    obtain ⟨rfl, rfl⟩ := hcut
    clear c0
    have c6 := cellU HR.out 6 (.bool u.hasAuth) rfl
    go_upto_if 11 with (fail)
    go_cut [3] (fun v wx => v = .string (asS o2) ∧ V = wx)
    case first =>
      cases hc : u.hasAuth with
      | false =>
        have HE : Hid (o2 = o1) := by show _ = _; rw [H2.out, hc]; simp
        clear hc
        go_wp2_with fail
        go_meet
        case rel => exact ⟨by first | (rw [HE.out]; rfl) | rw [HE.out], rfl⟩
      | true =>
        have HE : Hid (o2 = o1 ++ [47, 47]) := by show _ = _; rw [H2.out, hc]; simp
        clear hc
        have g1 := HG.out.scheme; have g2 := HG.out.user; have g3 := HG.out.host; have g4 := HG.out.port; have g5 := HG.out.path; have g6 := HG.out.query; have g7 := HG.out.frag
        have e0 : asS (o1) ++ (⟨#[47, 47]⟩ : ByteArray) = asS (o1 ++ [47, 47]) := asS_app (o1) [47, 47]
        have k0 : ¬ (9223372036854775807 < (asS (o1)).size + 2) := cat_size (o1) [47, 47] (by first | omega | (simp; omega) | simp)
        clear g1 g2 g3 g4 g5 g6 g7
        go_wp2_with fail
        go_meet
        case rel => exact ⟨by first | (rw [HE.out]; done) | (rw [HE.out]; rfl) | (rw [HE.out]; simp; done), rfl⟩
    case rest =>
      obtain ⟨rfl, rfl⟩ := hcut
      clear c6
      have c2 := cellU HR.out 2 (.bool u.hasUser) rfl
      go_upto_if 15 with (fail)
      go_cut [3] (fun v wx => v = .string (asS o3) ∧ V = wx)
      case first =>
        have c1 := cellU HR.out 1 (.string (asS u.user)) rfl
        cases hc : u.hasUser with
        | false =>
          have HE : Hid (o3 = o2) := by show _ = _; rw [H3.out, hc]; simp
          clear hc
          go_wp2_with fail
          go_meet
          case rel => exact ⟨by first | (rw [HE.out]; rfl) | rw [HE.out], rfl⟩
        | true =>
          have HE : Hid (o3 = o2 ++ u.user ++ [64]) := by show _ = _; rw [H3.out, hc]; simp
          clear hc
          have g1 := HG.out.scheme; have g2 := HG.out.user; have g3 := HG.out.host; have g4 := HG.out.port; have g5 := HG.out.path; have g6 := HG.out.query; have g7 := HG.out.frag
          have e0 : asS (o2) ++ asS u.user = asS (o2 ++ u.user) := asS_app (o2) u.user
          have k0 := cat_size (o2) u.user (by first | omega | (simp; omega) | simp)
          have e1 : asS (o2 ++ u.user) ++ (⟨#[64]⟩ : ByteArray) = asS (o2 ++ u.user ++ [64]) := asS_app (o2 ++ u.user) [64]
          have k1 : ¬ (9223372036854775807 < (asS (o2 ++ u.user)).size + 1) := cat_size (o2 ++ u.user) [64] (by first | omega | (simp; omega) | simp)
          clear g1 g2 g3 g4 g5 g6 g7
          go_wp2_with fail
          go_meet
          case rel => exact ⟨by first | (rw [HE.out]; done) | (rw [HE.out]; rfl) | (rw [HE.out]; simp; done), rfl⟩
      case rest =>
        obtain ⟨rfl, rfl⟩ := hcut
        clear c2
        have c3 := cellU HR.out 3 (.string (asS u.host)) rfl
        have eh : asS o3 ++ asS u.host = asS o4 := by rw [H4.out]; exact asS_app o3 u.host
        have g1 := HG.out.scheme; have g2 := HG.out.user; have g3 := HG.out.host; have g4 := HG.out.port; have g5 := HG.out.path; have g6 := HG.out.query; have g7 := HG.out.frag
        have kh := cat_size o3 u.host (by omega)
        clear g1 g2 g3 g4 g5 g6 g7
        have c5 := cellU HR.out 5 (.bool u.hasPort) rfl
        go_upto_if 26 with (fail)
        clear eh kh c3
        go_cut [3] (fun v wx => v = .string (asS o5) ∧ V = wx)
        case first =>
          have c4 := cellU HR.out 4 (.string (asS u.port)) rfl
          cases hc : u.hasPort with
          | false =>
            have HE : Hid (o5 = o4) := by show _ = _; rw [H5.out, hc]; simp
            clear hc
            go_wp2_with fail
            go_meet
            case rel => exact ⟨by first | (rw [HE.out]; rfl) | rw [HE.out], rfl⟩
          | true =>
            have HE : Hid (o5 = o4 ++ [58] ++ u.port) := by show _ = _; rw [H5.out, hc]; simp
            clear hc
            have g1 := HG.out.scheme; have g2 := HG.out.user; have g3 := HG.out.host; have g4 := HG.out.port; have g5 := HG.out.path; have g6 := HG.out.query; have g7 := HG.out.frag
            have e0 : asS (o4) ++ (⟨#[58]⟩ : ByteArray) = asS (o4 ++ [58]) := asS_app (o4) [58]
            have k0 : ¬ (9223372036854775807 < (asS (o4)).size + 1) := cat_size (o4) [58] (by first | omega | (simp; omega) | simp)
            have e1 : asS (o4 ++ [58]) ++ asS u.port = asS (o4 ++ [58] ++ u.port) := asS_app (o4 ++ [58]) u.port
            have k1 := cat_size (o4 ++ [58]) u.port (by first | omega | (simp; omega) | simp)
            clear g1 g2 g3 g4 g5 g6 g7
            go_wp2_with fail
            go_meet
            case rel => exact ⟨by first | (rw [HE.out]; done) | (rw [HE.out]; rfl) | (rw [HE.out]; simp; done), rfl⟩
        case rest =>
          obtain ⟨rfl, rfl⟩ := hcut
          clear c5
          have c7 := cellU HR.out 7 (.string (asS u.path)) rfl
          have eh : asS o5 ++ asS u.path = asS o6 := by rw [H6.out]; exact asS_app o5 u.path
          have g1 := HG.out.scheme; have g2 := HG.out.user; have g3 := HG.out.host; have g4 := HG.out.port; have g5 := HG.out.path; have g6 := HG.out.query; have g7 := HG.out.frag
          have kh := cat_size o5 u.path (by omega)
          clear g1 g2 g3 g4 g5 g6 g7
          have c9 := cellU HR.out 9 (.bool u.hasQuery) rfl
          go_upto_if 37 with (fail)
          clear eh kh c7
          go_cut [3] (fun v wx => v = .string (asS o7) ∧ V = wx)
          case first =>
            have c8 := cellU HR.out 8 (.string (asS u.query)) rfl
            cases hc : u.hasQuery with
            | false =>
              have HE : Hid (o7 = o6) := by show _ = _; rw [H7.out, hc]; simp
              clear hc
              go_wp2_with fail
              go_meet
              case rel => exact ⟨by first | (rw [HE.out]; rfl) | rw [HE.out], rfl⟩
            | true =>
              have HE : Hid (o7 = o6 ++ [63] ++ u.query) := by show _ = _; rw [H7.out, hc]; simp
              clear hc
              have g1 := HG.out.scheme; have g2 := HG.out.user; have g3 := HG.out.host; have g4 := HG.out.port; have g5 := HG.out.path; have g6 := HG.out.query; have g7 := HG.out.frag
              have e0 : asS (o6) ++ (⟨#[63]⟩ : ByteArray) = asS (o6 ++ [63]) := asS_app (o6) [63]
              have k0 : ¬ (9223372036854775807 < (asS (o6)).size + 1) := cat_size (o6) [63] (by first | omega | (simp; omega) | simp)
              have e1 : asS (o6 ++ [63]) ++ asS u.query = asS (o6 ++ [63] ++ u.query) := asS_app (o6 ++ [63]) u.query
              have k1 := cat_size (o6 ++ [63]) u.query (by first | omega | (simp; omega) | simp)
              clear g1 g2 g3 g4 g5 g6 g7
              go_wp2_with fail
              go_meet
              case rel => exact ⟨by first | (rw [HE.out]; done) | (rw [HE.out]; rfl) | (rw [HE.out]; simp; done), rfl⟩
          case rest =>
            obtain ⟨rfl, rfl⟩ := hcut
            clear c9
            have c11 := cellU HR.out 11 (.bool u.hasFrag) rfl
            go_upto_if 44 with (fail)
            go_cut [3] (fun v wx => v = .string (asS o8) ∧ V = wx)
            case first =>
              have c10 := cellU HR.out 10 (.string (asS u.frag)) rfl
              cases hc : u.hasFrag with
              | false =>
                have HE : Hid (o8 = o7) := by show _ = _; rw [H8.out, hc]; simp
                clear hc
                go_wp2_with fail
                go_meet
                case rel => exact ⟨by first | (rw [HE.out]; rfl) | rw [HE.out], rfl⟩
              | true =>
                have HE : Hid (o8 = o7 ++ [35] ++ u.frag) := by show _ = _; rw [H8.out, hc]; simp
                clear hc
                have g1 := HG.out.scheme; have g2 := HG.out.user; have g3 := HG.out.host; have g4 := HG.out.port; have g5 := HG.out.path; have g6 := HG.out.query; have g7 := HG.out.frag
                have e0 : asS (o7) ++ (⟨#[35]⟩ : ByteArray) = asS (o7 ++ [35]) := asS_app (o7) [35]
                have k0 : ¬ (9223372036854775807 < (asS (o7)).size + 1) := cat_size (o7) [35] (by first | omega | (simp; omega) | simp)
                have e1 : asS (o7 ++ [35]) ++ asS u.frag = asS (o7 ++ [35] ++ u.frag) := asS_app (o7 ++ [35]) u.frag
                have k1 := cat_size (o7 ++ [35]) u.frag (by first | omega | (simp; omega) | simp)
                clear g1 g2 g3 g4 g5 g6 g7
                go_wp2_with fail
                go_meet
                case rel => exact ⟨by first | (rw [HE.out]; done) | (rw [HE.out]; rfl) | (rw [HE.out]; simp; done), rfl⟩
            case rest =>
              obtain ⟨rfl, rfl⟩ := hcut
              clear c11
              go_wp2_with fail
              go_ret
              exact ⟨by rw [HJ.out]; rfl, HB.out⟩

theorem refLong_any (u : UrlV) (hu : LenU 100000 u) (w : World) : Calls Tryz.prog 16 #[.agg (ucs u)] w fun e w' => e = .returned (.bool (decide (2048 < (joinU u).length))) ∧ Below w.heap.size w w' := by
  have HJ := hid (fun W => refJoin_any u hu W)
  have hd : decide ((2048 : Int) < ((asS (joinU u)).size : Int)) = decide (2048 < (joinU u).length) := by rw [asS_size]; exact decide_eq_decide.2 (by omega)
  generalize decide (2048 < (joinU u).length) = R at hd ⊢
  generalize asS (joinU u) = S at HJ hd
  have l0 : (loadI 26 (.pointer (some ⟨w.heap.size, 0, none⟩))).run Tryz.prog (w.alloc (.cells (ucs u) 26)) = .ok (.agg (ucs u)) (w.alloc (.cells (ucs u) 26)) := loadU_row (heap_alloc_new w _)
  go_enter Tryz.func16, Tryz.ntmps16
  go_wp2_with fail
  refine (HJ.out _).mono ?_
  rintro e W1 ⟨rfl, hb1⟩
  have HB1 : Hid (Below w.heap.size w W1) := (alloc_below (Below.refl _ w) (Nat.le_refl _) _).trans (hb1.mono (by simp))
  clear hb1 l0
  go_wp2_with fail
  go_ret
  exact ⟨rfl, HB1.out⟩
end Go.Proofs.YtlblefcmilfjdaaGreatDoor
