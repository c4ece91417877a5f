
/- Lines cut out of bytes: what bytes.Cut at a line feed and bytes.TrimSuffix at a carriage return do; rows of headers appended to. -/
import Derived.Test.YtclonnpglikddaaGreatDoorHdRead
import Derived.Lib.SlBytesRowKit2
namespace Go.Proofs.YtclonnpglikddaaGreatDoor
set_option linter.unusedVariables false
set_option linter.unusedSimpArgs false
open Go.RowKit Go.BigFrame

def ints (x : List UInt8) : List Int := x.map fun c => (c.toNat : Int)
theorem ints_len (x : List UInt8) : (ints x).length = x.length := by simp [ints]
theorem ints_at (x : List UInt8) (j : Nat) (h : j < x.length) : (ints x).getD j 0 = ((x.getD j 0).toNat : Int) := by
  simp [ints, List.getD_eq_getElem?_getD, h]
theorem ints_of (x : List UInt8) : Lib.bytesOf (ints x) = x := by
  unfold Lib.bytesOf ints
  rw [List.map_map]
  conv => rhs; rw [← List.map_id x]
  refine List.map_congr_left fun c _ => ?_
  simp
theorem ints_rng (x : List UInt8) : ∀ z ∈ ints x, 0 ≤ z ∧ z < 256 := fun z hz => by
  unfold ints at hz
  rw [List.mem_map] at hz
  obtain ⟨c, _, rfl⟩ := hz
  have := c.toNat_lt
  omega
theorem BytesAt.ints {w : World} {A : Option Addr} {x : List UInt8} (h : BytesAt w A x) : Lib.BytesIn w A x.length (ints x) := fun h0 => by
  obtain ⟨q, o, e, _, hc⟩ := h h0
  exact ⟨q, o, e, fun i hi => by rw [hc i hi, ints_at x i hi]⟩
theorem one_in (w : World) (g : Nat) (c : UInt8) (hg : w.cell? ⟨g, 0, none⟩ = some (.int .u8 c.toNat)) : Lib.BytesIn w (some ⟨g, 0, none⟩) 1 (ints [c]) := fun _ => ⟨g, 0, rfl, fun i hi => by
  obtain rfl : i = 0 := by omega
  exact hg⟩
theorem cutLF_no (x : List UInt8) (A : Option Addr) (c g d : Nat) (w : World) (hT : TabS w) (hA : BytesAt w A x) (hx : x.length ≤ 1000000) (hc : x.length ≤ c) (hn : A = none → c = 0) (hg : w.cell? ⟨g, 0, none⟩ = some (.int .u8 10)) (hno : (10 : UInt8) ∉ x) :
    Calls Tryz.prog 64 #[.slice A x.length c, .slice (some ⟨g, 0, none⟩) 1 d] w fun e w' => e = .returned (.tuple #[.slice A x.length c, .slice none 0 0, .bool false]) ∧ Below w.heap.size w w' := by
  obtain ⟨m, hm⟩ := hT.max
  refine (Tryz.bytes_Cut_all A (some ⟨g, 0, none⟩) x.length c 1 d (ints x) (ints [10]) m w (ints_len x) rfl (ints_rng x) (ints_rng [10]) hA.ints (one_in w g 10 hg) hn hc (by omega) (by omega) hm).mono ?_
  rintro e w' ⟨rfl, q, rfl⟩
  refine ⟨?_, below_drewN _ _ _⟩
  rw [ints_of, ints_of, index_no 10 x hno]
  rfl
theorem cutLF_at (a y : List UInt8) (A : Option Addr) (n c g d : Nat) (w : World) (hT : TabS w) (hA : BytesAt w A (a ++ 10 :: y)) (hx : (a ++ 10 :: y).length = n) (hn1 : n ≤ 1000000) (hc : n ≤ c) (hn : A = none → c = 0) (hg : w.cell? ⟨g, 0, none⟩ = some (.int .u8 10)) (hno : (10 : UInt8) ∉ a) :
    Calls Tryz.prog 64 #[.slice A n c, .slice (some ⟨g, 0, none⟩) 1 d] w fun e w' => e = .returned (.tuple #[.slice A a.length c, Lib.fromV A n c (a.length + 1), .bool true]) ∧ Below w.heap.size w w' := by
  subst hx
  obtain ⟨m, hm⟩ := hT.max
  refine (Tryz.bytes_Cut_all A (some ⟨g, 0, none⟩) (a ++ 10 :: y).length c 1 d (ints (a ++ 10 :: y)) (ints [10]) m w (ints_len _) rfl (ints_rng _) (ints_rng [10]) hA.ints (one_in w g 10 hg) hn hc (by omega) (by omega) hm).mono ?_
  rintro e w' ⟨rfl, q, rfl⟩
  refine ⟨?_, below_drewN _ _ _⟩
  rw [ints_of, ints_of, index_at 10 y a hno]
  unfold Lib.cutV
  rw [if_pos (by omega), Int.toNat_natCast]
theorem suf13 (x : List UInt8) : Lib.hasSuffix x [13] = decide (x.getLastD 0 = 13) := by
  unfold Lib.hasSuffix
  rcases List.eq_nil_or_concat x with rfl | ⟨y, z, rfl⟩
  · rfl
  · rw [List.concat_eq_append]
    have e : (y ++ [z]).getLastD 0 = z := by rw [List.getLastD_eq_getLast?, List.getLast?_append]; rfl
    rw [e]
    unfold List.isSuffixOf
    rw [List.reverse_append]
    show List.isPrefixOf [13] (z :: y.reverse) = _
    rw [List.isPrefixOf]
    by_cases hz : z = 13
    · subst hz; rfl
    · rw [decide_eq_false hz, beq_eq_false_iff_ne.2 (Ne.symm hz)]; rfl
theorem cr_take (x : List UInt8) : crH x = x.take (crH x).length := by
  unfold crH
  split
  · rw [List.dropLast_eq_take, List.length_take]
    congr 1
    omega
  · rw [List.take_length]
theorem cr_le (x : List UInt8) : (crH x).length ≤ x.length := by
  unfold crH
  split
  · simp
  · exact Nat.le_refl _
theorem trimCR_any (x : List UInt8) (A : Option Addr) (c g d : Nat) (w : World) (hA : BytesAt w A x) (hx : x.length ≤ 1000000) (hc : x.length ≤ c) (hg : w.cell? ⟨g, 0, none⟩ = some (.int .u8 13)) :
    Calls Tryz.prog 65 #[.slice A x.length c, .slice (some ⟨g, 0, none⟩) 1 d] w fun e w' => e = .returned (.slice A (crH x).length c) ∧ w' = w := by
  refine (Tryz.bytes_TrimSuffix_all A (some ⟨g, 0, none⟩) x.length c 1 d (ints x) (ints [13]) w (ints_len x) rfl hc (by omega) hA.ints (one_in w g 13 hg)).mono ?_
  rintro e w' ⟨rfl, rfl⟩
  refine ⟨?_, rfl⟩
  rw [trimSuffixV_eq (ints_len x) hA.ints, ints_of, ints_of, suf13, ints_len]
  unfold crH
  by_cases h : x.getLastD 0 = 13
  · rw [decide_eq_true h, if_pos rfl, if_pos h, List.length_dropLast]; rfl
  · rw [decide_eq_false h, if_neg (by simp), if_neg h]
/-- x[i:] of bytes. -/
def slI (x i : Value) : Sem Value := Instr.sliceAt 23 x (some i) none none
theorem slI_eq (x i : Value) : Instr.sliceAt 23 x (some i) none none = slI x i := rfl
theorem slI_run (X : Addr) (h c k : Nat) (hk : k ≤ h) (hh : h ≤ c) (W : World) : (slI (.slice (some X) h c) (.int .i64 k)).run Tryz.prog W = .ok (.slice (some (if c = k then X else X.add k)) (h - k) (c - k)) W := by
  unfold slI
  have he : Tryz.prog.elem 23 = 5 := by simp [Program.elem, Tryz.underlying23]
  have hu : Tryz.prog.underlying 23 = some (.slice (Tryz.prog.elem 23)) := by rw [he]; exact Tryz.underlying23
  rw [run_sliceAt_slice W _ _ _ _ _ hu, run_slice_l W 23 (some X) h c hu .i64 (k : Int) (by omega) (by omega) , he, Tryz.sizeOf5]
  simp only [Result.andThen_ok, sliced, Int.toNat_natCast, Nat.mul_one]
  by_cases hck : c = k
  · rw [if_pos hck, if_pos hck]
  · rw [if_neg hck, if_neg hck]
    rfl
theorem slI_at {w : World} {X : Addr} {x : List UInt8} {h c : Nat} (hA : BytesAt w (some X) x) (hx : x.length = h) (hh : h ≤ c) (k : Nat) (hk : k ≤ h) : BytesAt w (some (if c = k then X else X.add k)) (x.drop k) := by
  by_cases hck : c = k
  · rw [if_pos hck, List.drop_of_length_le (by omega)]
    exact fun h0 => absurd h0 (by simp)
  · rw [if_neg hck]
    intro h0
    rw [List.length_drop] at h0
    obtain ⟨q, o, e, hq, hcl⟩ := hA (by omega)
    cases e
    refine ⟨q, o + k, by rw [Addr.add_mid], hq, fun j hj => ?_⟩
    rw [List.length_drop] at hj
    rw [Nat.add_assoc, hcl (k + j) (by omega)]
    congr 3
    simp [List.getD_eq_getElem?_getD]
/-! Rows of headers of one's own. -/
def hdvs (l : List HdV) : List Value := l.flatMap fun h => [.string (asS h.name), .string (asS h.value)]
theorem hdvs_len : ∀ l : List HdV, (hdvs l).length = l.length * 2
  | [] => rfl
  | h :: r => by
    have := hdvs_len r
    show (_ :: _ :: hdvs r).length = _
    simp only [List.length_cons, this]
    omega
theorem hdvs_at : ∀ (l : List HdV) (j : Nat), j < l.length → (hdvs l)[j * 2]? = some (.string (asS (l.getD j zeroH).name)) ∧ (hdvs l)[j * 2 + 1]? = some (.string (asS (l.getD j zeroH).value))
  | [], j, h => by simp at h
  | h :: r, 0, _ => ⟨rfl, rfl⟩
  | h :: r, j + 1, hj => by
    have := hdvs_at r j (by simpa using hj)
    rw [show (j + 1) * 2 = j * 2 + 1 + 1 from by omega]
    exact this
theorem hdvs_app (a b : List HdV) : hdvs (a ++ b) = hdvs a ++ hdvs b := by simp [hdvs]
theorem hdK : KCells Tryz.prog 2 22 69 := ⟨Tryz.underlying22, by
  obtain ⟨i, h1, h2, h3, h4⟩ := info_parts (show (Tryz.prog.info? 69).map (fun i => (i.zero, i.size, i.bytes)) = some (some (.agg #[.string ⟨#[]⟩, .string ⟨#[]⟩]), 2, 32) from by kernel_rfl)
  exact ⟨i, _, h1, h2, h3, by omega, rfl⟩⟩
/-- A row of headers of one's own, or none yet. -/
def OwnH (w : World) (b : Nat) (v : Value) (l : List HdV) : Prop := (v = .slice none 0 0 ∧ l = []) ∨ ∃ g cap, v = .slice (some ⟨g, 0, none⟩) l.length cap ∧ OwnK w 2 69 b g l.length cap (hdvs l)
theorem OwnH.below {w w' : World} {b : Nat} {v : Value} {l : List HdV} (h : OwnH w b v l) (hb : Below w.heap.size w w') : OwnH w' b v l := by
  rcases h with h | ⟨g, cap, h1, h2⟩
  · exact .inl h
  · exact .inr ⟨g, cap, h1, h2.below hb (Nat.le_refl _)⟩
/-- The headers l are answered so, and will be. -/
def HdsV (w : World) (v : Value) (l : List HdV) : Prop := ∃ A c, v = .slice A l.length c ∧ HdsAt w A l
theorem HdsV.below {w w' : World} {v : Value} {l : List HdV} (h : HdsV w v l) (hb : Below w.heap.size w w') : HdsV w' v l := by
  obtain ⟨A, c, h1, h2⟩ := h
  exact ⟨A, c, h1, h2.below hb (Nat.le_refl _)⟩
theorem HdsV.nil (w : World) : HdsV w (.slice none 0 0) [] := ⟨none, 0, rfl, fun h => absurd h (by simp)⟩
theorem OwnH.hds {w : World} {b : Nat} {v : Value} {l : List HdV} (h : OwnH w b v l) : HdsV w v l := by
  rcases h with ⟨rfl, rfl⟩ | ⟨g, cap, rfl, h2⟩
  · exact HdsV.nil w
  · refine ⟨_, cap, rfl, fun _ => ⟨g, 0, rfl, h2.lt, fun j hj => ?_⟩⟩
    have := hdvs_at l j hj
    exact ⟨by rw [Nat.zero_add]; exact h2.at _ _ this.1, by rw [Nat.zero_add]; exact h2.at _ _ this.2⟩
/-- append(nil, headers...). -/
theorem run_nilK {P : Program} {k : Nat} {t e : TypeId} (ht : KCells P k t e) {w : World} {b m : Nat} {ys : List Value} (ty : TypeId) (x : Value) (hs : Src P k t x m ys w) (h0 : 0 < m) (hn : m ≤ 1000000000) (hb : b ≤ w.heap.size) :
    ∃ cap w', (Builtin.append_ #[t, t] ty #[.slice none 0 0, x]).run P w = .ok (.slice (some ⟨w.heap.size, 0, none⟩) m cap) w' ∧ OwnK w' k e b w.heap.size m cap ys ∧ Below w.heap.size w w' := by
  obtain ⟨i0, z, hi, hz0, hz1, hz2, hzc⟩ := ht.info
  have hm : ys.length = m * k := hs.newsLen
  have hs' : Src P i0.size t x m ys w := by rw [hz1]; exact hs
  have hold : (Builtin.firstCells i0.size 0 (.slice none 0 0)).run P w.drew = .ok (([] : List Value)).toArray w.drew := by simp [Builtin.firstCells]
  have hr := run_append_grow_src w t t ty e i0 z ht.sl hi hz0 none 0 0 [] hold x m ys hs' (by omega) (by omega) (growslice_fits (by omega) (by
    have : (0 + m) * i0.bytes ≤ 1000000000 * 100 := Nat.mul_le_mul (by omega) hz2
    omega))
  rw [Nat.zero_add] at hr
  have hge := grownCap_ge w m 0 e
  refine ⟨_, _, hr, ⟨hb, hm, (Builtin.zeroCells z.cells (grownCap w m 0 e - m)).toList, ?_, ?_, hge⟩, ((Below.refl _ _).drew).alloc (Nat.le_refl _) _⟩
  · rw [show w.heap.size = w.drew.heap.size from rfl, heap_alloc_new w.drew _]
    refine congrArg (fun a => some (Obj.cells a e (0, 0))) (Array.ext' ?_)
    simp
  · rw [Array.length_toList, size_zeroCells, hzc]
/-- append(headers of one's own or none, another). -/
theorem run_hd (ty : TypeId) {w : World} {b : Nat} {v x : Value} {l ys : List HdV} (h : OwnH w b v l) (hs : Src Tryz.prog 2 22 x ys.length (hdvs ys) w) (h0 : 0 < ys.length) (hn : l.length + ys.length ≤ 1000000) (hb : b ≤ w.heap.size) :
    ∃ v' w', (Builtin.append_ #[22, 22] ty #[v, x]).run Tryz.prog w = .ok v' w' ∧ OwnH w' b v' (l ++ ys) ∧ Below b w w' := by
  rcases h with ⟨rfl, rfl⟩ | ⟨g, cap, rfl, h2⟩
  · obtain ⟨cap, w', h1, h2, h3⟩ := run_nilK hdK ty x hs h0 (by omega) hb
    exact ⟨_, w', h1, .inr ⟨_, cap, rfl, h2⟩, h3.mono hb⟩
  · obtain ⟨g', cap', w', h1, h3, h4, _⟩ := h2.run_app hdK ty x hs (by omega) hb
    refine ⟨_, w', h1, .inr ⟨g', cap', by rw [List.length_append], by rw [List.length_append, hdvs_app]; exact h3⟩, h2.grown (Below.refl _ _) hb h4⟩
theorem wpList_hd {ops : Array Oper} {rest : List Oper} {o : Oper} {a : Act} {w : World} {Q : Exit → Act → World → Prop} (hgd : o.guard = none) (s x : Operand)
    (ho : o.op = .call { callee := .builtin .append, args := #[s, x], argTypes := #[22, 22] })
    (base : Nat) (v xv : Value) (l ys : List HdV) (hs : a.eval s = v) (hx : a.eval x = xv) (hown : OwnH w base v l)
    (hA : Src Tryz.prog 2 22 xv ys.length (hdvs ys) w) (h0 : 0 < ys.length) (hn : l.length + ys.length ≤ 1000000) (hbase : base ≤ w.heap.size)
    (h : ∀ v' w', OwnH w' base v' (l ++ ys) → Below base w w' → wpList Tryz.prog ops Q rest (a.put o.dst v') w') : wpList Tryz.prog ops Q (o :: rest) a w := by
  refine wpList_plain hgd fun _ hK => ?_
  obtain ⟨v', w', hr, h2, h3⟩ := run_hd o.type hown hA h0 hn hbase
  unfold Oper.wp execOp
  simp only [ho, resolve, invoke, builtin, Sem.run_bind, Sem.run_pure, Result.andThen_ok, List.map_toArray, List.map_cons, List.map_nil, hs, hx, hr]
  exact hK _ _ (h v' w' h2 h3)
theorem src_hd (w : World) (h : HdV) (N V : ByteArray) (hN : N = asS h.name) (hV : V = asS h.value) (c : Nat) : Src Tryz.prog 2 22 (.slice (some ⟨w.heap.size, 0, none⟩) 1 c) [h].length (hdvs [h]) (w.alloc (.cells #[.string N, .string V] 69)) := by
  subst hN hV
  exact src_litK hdK _ w.heap.size 1 c (hdvs [h]) rfl (heap_alloc_new w _) (fun u hu => by
    simp only [hdvs, List.flatMap_cons, List.flatMap_nil, List.append_nil, List.mem_cons, List.not_mem_nil, or_false] at hu
    rcases hu with rfl | rfl <;> rfl)
end Go.Proofs.YtclonnpglikddaaGreatDoor
