
/- SHA-256 in plain Lean over 32-bit words, and how the model's numbers come to it. -/
import Derived.Laws.BitsLemmas
import Derived.Lib.EndianBits
namespace Go.Proofs.YtggbianodoneeaaDoor

def rotr (x : UInt32) (n : Nat) : UInt32 := UInt32.ofNat (((x.toNat * 2 ^ (32 - n)) % 4294967296) ||| (x.toNat / 2 ^ n))
def shr (x : UInt32) (n : Nat) : UInt32 := UInt32.ofNat (x.toNat / 2 ^ n)
def be4 (a b c d : UInt8) : UInt32 := UInt32.ofNat (a.toNat * 16777216 + b.toNat * 65536 + c.toNat * 256 + d.toNat)
def sig1 (x : UInt32) : UInt32 := (rotr x 17 ^^^ rotr x 19) ^^^ shr x 10
def sig0 (x : UInt32) : UInt32 := (rotr x 7 ^^^ rotr x 18) ^^^ shr x 3
def big1 (x : UInt32) : UInt32 := (rotr x 6 ^^^ rotr x 11) ^^^ rotr x 25
def big0 (x : UInt32) : UInt32 := (rotr x 2 ^^^ rotr x 13) ^^^ rotr x 22
def choice (e f g : UInt32) : UInt32 := (e &&& f) ^^^ ((e ^^^ 4294967295) &&& g)
def most (a b c : UInt32) : UInt32 := ((a &&& b) ^^^ (a &&& c)) ^^^ (b &&& c)
def wordOf (b : List UInt8) (k : Nat) : UInt32 := be4 (b.getD (4 * k) 0) (b.getD (4 * k + 1) 0) (b.getD (4 * k + 2) 0) (b.getD (4 * k + 3) 0)
def nextW (l : List UInt32) (i : Nat) : UInt32 := ((sig1 (l.getD (i - 2) 0) + l.getD (i - 7) 0) + sig0 (l.getD (i - 15) 0)) + l.getD (i - 16) 0
/-- The first k words of a block's schedule. -/
def wl (b : List UInt8) : Nat → List UInt32
  | 0 => []
  | k + 1 => wl b k ++ [if k < 16 then wordOf b k else nextW (wl b k) k]
structure St where
  (a b c d e f g h : UInt32)
def tOne (s : St) (k w : UInt32) : UInt32 := (((s.h + big1 s.e) + choice s.e s.f s.g) + k) + w
def tTwo (s : St) : UInt32 := big0 s.a + most s.a s.b s.c
def rnd (s : St) (k w : UInt32) : St := ⟨tOne s k w + tTwo s, s.a, s.b, s.c, s.d + tOne s k w, s.e, s.f, s.g⟩
def rnds (ks ws : List UInt32) (s : St) : Nat → St
  | 0 => s
  | n + 1 => rnd (rnds ks ws s n) (ks.getD n 0) (ws.getD n 0)
def addS (s t : St) : St := ⟨s.a + t.a, s.b + t.b, s.c + t.c, s.d + t.d, s.e + t.e, s.f + t.f, s.g + t.g, s.h + t.h⟩
def KS : List UInt32 := [1116352408, 1899447441, 3049323471, 3921009573, 961987163, 1508970993, 2453635748, 2870763221, 3624381080, 310598401, 607225278, 1426881987, 1925078388, 2162078206, 2614888103, 3248222580, 3835390401, 4022224774, 264347078, 604807628, 770255983, 1249150122, 1555081692, 1996064986, 2554220882, 2821834349, 2952996808, 3210313671, 3336571891, 3584528711, 113926993, 338241895, 666307205, 773529912, 1294757372, 1396182291, 1695183700, 1986661051, 2177026350, 2456956037, 2730485921, 2820302411, 3259730800, 3345764771, 3516065817, 3600352804, 4094571909, 275423344, 430227734, 506948616, 659060556, 883997877, 958139571, 1322822218, 1537002063, 1747873779, 1955562222, 2024104815, 2227730452, 2361852424, 2428436474, 2756734187, 3204031479, 3329325298]
def H0 : St := ⟨1779033703, 3144134277, 1013904242, 2773480762, 1359893119, 2600822924, 528734635, 1541459225⟩
def turnS (s : St) (b : List UInt8) : St := addS s (rnds KS (wl b 64) s 64)

theorem wl_len (b : List UInt8) : ∀ k, (wl b k).length = k
  | 0 => rfl
  | k + 1 => by simp [wl, wl_len b k]

/-! The model's numbers -/
theorem u_lt (a : UInt32) : a.toNat < 4294967296 := a.toNat_lt
theorem u_add (a b : UInt32) : ((a.toNat : Int) + (b.toNat : Int)) % 4294967296 = ((a + b).toNat : Int) := by
  rw [UInt32.toNat_add]; omega
theorem u_bits (op : BinOp) (a b : UInt32) : bits op .u32 (a.toNat : Int) (b.toNat : Int) = ((match op with | .and => a &&& b | .or => a ||| b | .xor => a ^^^ b | _ => a &&& ~~~b).toNat : Int) := by
  have ha : BitVec.ofInt 32 (a.toNat : Int) = a.toBitVec := by
    rw [BitVec.ofInt_natCast]; exact BitVec.eq_of_toNat_eq (by simp)
  have hb : BitVec.ofInt 32 (b.toNat : Int) = b.toBitVec := by
    rw [BitVec.ofInt_natCast]; exact BitVec.eq_of_toNat_eq (by simp)
  unfold bits
  simp only [IntKind.bits, ha, hb]
  have hw : ∀ v : BitVec 32, IntKind.u32.wrap (v.toNat : Int) = (v.toNat : Int) := fun v => by
    rw [IntKind.wrap_u32]; have := v.isLt; omega
  cases op <;> exact hw _
theorem u_xor (a b : UInt32) : bits .xor .u32 (a.toNat : Int) (b.toNat : Int) = ((a ^^^ b).toNat : Int) := u_bits .xor a b
theorem u_and (a b : UInt32) : bits .and .u32 (a.toNat : Int) (b.toNat : Int) = ((a &&& b).toNat : Int) := u_bits .and a b
theorem u_or (a b : UInt32) : bits .or .u32 (a.toNat : Int) (b.toNat : Int) = ((a ||| b).toNat : Int) := u_bits .or a b
theorem u_not (a : UInt32) : bits .xor .u32 4294967295 (a.toNat : Int) = ((a ^^^ 4294967295).toNat : Int) := by
  have := u_xor 4294967295 a
  rw [UInt32.xor_comm] at this
  exact this
theorem u_not' (a : UInt32) : bits .xor .u32 (a.toNat : Int) 4294967295 = ((a ^^^ 4294967295).toNat : Int) := u_xor a 4294967295
theorem u_of (n : Nat) (h : n < 4294967296) : (UInt32.ofNat n).toNat = n := by
  rw [UInt32.toNat_ofNat']; exact Nat.mod_eq_of_lt h
theorem or_nat (x y : Nat) (hx : x < 4294967296) (hy : y < 4294967296) : bits .or .u32 (x : Int) (y : Int) = ((x ||| y : Nat) : Int) := by
  have h1 := u_of x hx
  have h2 := u_of y hy
  have := u_or (UInt32.ofNat x) (UInt32.ofNat y)
  rw [UInt32.toNat_or, h1, h2] at this
  exact this
theorem or_lt (x y : Nat) (hx : x < 4294967296) (hy : y < 4294967296) : x ||| y < 4294967296 := Nat.or_lt_two_pow (n := 32) hx hy
/-- x << (32-n) | x >> n, as the model reckons it. -/
theorem u_rot (a : UInt32) (n : Nat) (A B : Int) (hA : A = ((a.toNat : Int) * 2 ^ (32 - n)) % 4294967296) (hB : B = (a.toNat : Int) / 2 ^ n) :
    bits .or .u32 A B = ((rotr a n).toNat : Int) := by
  have hp : (0 : Nat) < 2 ^ n := Nat.pow_pos (by omega)
  have hy : a.toNat / 2 ^ n < 4294967296 := Nat.lt_of_le_of_lt (Nat.div_le_self _ _) (u_lt a)
  have eA : A = (((a.toNat * 2 ^ (32 - n)) % 4294967296 : Nat) : Int) := by rw [hA]; simp
  have eB : B = ((a.toNat / 2 ^ n : Nat) : Int) := by rw [hB]; simp
  rw [eA, eB, or_nat _ _ (Nat.mod_lt _ (by decide)) hy]
  unfold rotr
  rw [u_of _ (or_lt _ _ (Nat.mod_lt _ (by decide)) hy)]
theorem u_rot' (a : UInt32) (n : Nat) (A B : Int) (hA : A = ((a.toNat : Int) * 2 ^ (32 - n)) % 4294967296) (hB : B = (a.toNat : Int) / 2 ^ n) :
    bits .or .u32 B A = ((rotr a n).toNat : Int) := by
  rw [← u_rot a n A B hA hB]
  unfold bits
  simp only [BitVec.or_comm]
theorem u_shr (a : UInt32) (n : Nat) : (a.toNat : Int) / 2 ^ n = ((shr a n).toNat : Int) := by
  unfold shr
  rw [u_of _ (Nat.lt_of_le_of_lt (Nat.div_le_self _ _) (u_lt a))]
  simp
/-- A word's number, as the model holds it. (No abbreviation: the walk must not look into it.) -/
def nv (x : UInt32) : Int := (x.toNat : Int)
theorem nv_range (a : UInt32) : 0 ≤ nv a ∧ nv a < 4294967296 := by have := u_lt a; unfold nv; omega
theorem nv_add (a b : UInt32) : (nv a + nv b) % 4294967296 = nv (a + b) := u_add a b
theorem nv_xor (a b : UInt32) : bits .xor .u32 (nv a) (nv b) = nv (a ^^^ b) := u_xor a b
theorem nv_and (a b : UInt32) : bits .and .u32 (nv a) (nv b) = nv (a &&& b) := u_and a b
theorem nv_not (a : UInt32) : bits .xor .u32 4294967295 (nv a) = nv (a ^^^ 4294967295) := u_not a
theorem nv_not' (a : UInt32) : bits .xor .u32 (nv a) 4294967295 = nv (a ^^^ 4294967295) := u_not' a
theorem nv_shr (a : UInt32) (n : Nat) : nv a / 2 ^ n = nv (shr a n) := u_shr a n
theorem nv_shr10 (a : UInt32) : nv a / 1024 = nv (shr a 10) := u_shr a 10
theorem nv_shr3 (a : UInt32) : nv a / 8 = nv (shr a 3) := u_shr a 3
theorem nv_rot (a : UInt32) (n : Nat) : bits .or .u32 (nv a * 2 ^ (32 - n) % 4294967296) (nv a / 2 ^ n) = nv (rotr a n) := u_rot a n _ _ rfl rfl
theorem nv_rot' (a : UInt32) (n : Nat) : bits .or .u32 (nv a / 2 ^ n) (nv a * 2 ^ (32 - n) % 4294967296) = nv (rotr a n) := u_rot' a n _ _ rfl rfl
theorem nv_inj {a b : UInt32} (h : nv a = nv b) : a = b := by
  unfold nv at h
  exact UInt32.toNat_inj.1 (by omega)
theorem u8_lt (c : UInt8) : (0 : Int) ≤ c.toNat ∧ (c.toNat : Int) < 256 := by have := c.toNat_lt; omega
/-- Four bytes, joined by shifts and 'or'. -/
theorem nv_be4 (a b c d : UInt8) : bits .or .u32 (bits .or .u32 (bits .or .u32 ((a.toNat : Int) % 4294967296 * 16777216 % 4294967296) ((b.toNat : Int) % 4294967296 * 65536 % 4294967296)) ((c.toNat : Int) % 4294967296 * 256 % 4294967296)) ((d.toNat : Int) % 4294967296) = nv (be4 a b c d) := by
  have ha := a.toNat_lt; have hb := b.toNat_lt; have hc := c.toNat_lt; have hd := d.toNat_lt
  have comm : ∀ x y : Int, bits .or .u32 x y = bits .or .u32 y x := fun x y => by unfold bits; simp only [BitVec.or_comm]
  have j24 : ∀ x y : Int, 0 ≤ y → y < 16777216 → 0 ≤ x → x % 16777216 = 0 → x < 4294967296 → bits .or .u32 x y = y + x := fun x y h1 h2 h3 h4 h5 => by rw [comm]; exact u32_or24 _ _ h1 h2 h3 h4 h5
  have j16 : ∀ x y : Int, 0 ≤ y → y < 65536 → 0 ≤ x → x % 65536 = 0 → x < 4294967296 → bits .or .u32 x y = y + x := fun x y h1 h2 h3 h4 h5 => by rw [comm]; exact u32_or16 _ _ h1 h2 h3 h4 h5
  have j8 : ∀ x y : Int, 0 ≤ y → y < 256 → 0 ≤ x → x % 256 = 0 → x < 4294967296 → bits .or .u32 x y = y + x := fun x y h1 h2 h3 h4 h5 => by rw [comm]; exact u32_or8 _ _ h1 h2 h3 h4 h5
  rw [j24 ((a.toNat : Int) % 4294967296 * 16777216 % 4294967296) ((b.toNat : Int) % 4294967296 * 65536 % 4294967296) (by omega) (by omega) (by omega) (by omega) (by omega)]
  rw [j16 _ ((c.toNat : Int) % 4294967296 * 256 % 4294967296) (by omega) (by omega) (by omega) (by omega) (by omega)]
  rw [j8 _ ((d.toNat : Int) % 4294967296) (by omega) (by omega) (by omega) (by omega) (by omega)]
  unfold nv be4
  rw [u_of _ (by omega)]
  omega
end Go.Proofs.YtggbianodoneeaaDoor
