/-
  Plain mathematics: SHA-256 over natural numbers.
-/
set_option linter.unusedVariables false
namespace Sha

def rot (x n : Nat) : Nat := x / 2 ^ n ||| x * 2 ^ (32 - n) % 4294967296
def ad (a b : Nat) : Nat := (a + b) % 4294967296
def sm0 (x : Nat) : Nat := (rot x 7 ^^^ rot x 18) ^^^ x / 8
def sm1 (x : Nat) : Nat := (rot x 17 ^^^ rot x 19) ^^^ x / 1024
def bg0 (x : Nat) : Nat := (rot x 2 ^^^ rot x 13) ^^^ rot x 22
def bg1 (x : Nat) : Nat := (rot x 6 ^^^ rot x 11) ^^^ rot x 25
def nt (x : Nat) : Nat := 4294967295 - x
def ch (e f g : Nat) : Nat := (e &&& f) ^^^ (nt e &&& g)
def mj (a b c : Nat) : Nat := ((a &&& b) ^^^ (a &&& c)) ^^^ (b &&& c)

structure St where
  a : Nat
  b : Nat
  c : Nat
  d : Nat
  e : Nat
  f : Nat
  g : Nat
  h : Nat

def St.list (s : St) : List Nat := [s.a, s.b, s.c, s.d, s.e, s.f, s.g, s.h]
structure St.Ok (s : St) : Prop where
  a : s.a < 4294967296
  b : s.b < 4294967296
  c : s.c < 4294967296
  d : s.d < 4294967296
  e : s.e < 4294967296
  f : s.f < 4294967296
  g : s.g < 4294967296
  h : s.h < 4294967296

def t1 (s : St) (k w : Nat) : Nat := ad (ad (ad (ad s.h (bg1 s.e)) (ch s.e s.f s.g)) k) w
def t2 (s : St) : Nat := ad (bg0 s.a) (mj s.a s.b s.c)
def rd (s : St) (k w : Nat) : St := ⟨ad (t1 s k w) (t2 s), s.a, s.b, s.c, ad s.d (t1 s k w), s.e, s.f, s.g⟩

def be4 (a b c d : Nat) : Nat := ((a * 16777216 ||| b * 65536) ||| c * 256) ||| d
def word (b : List UInt8) (t : Nat) : Nat := be4 (b.getD (4 * t) 0).toNat (b.getD (4 * t + 1) 0).toNat (b.getD (4 * t + 2) 0).toNat (b.getD (4 * t + 3) 0).toNat
def first (b : List UInt8) (n : Nat) : List Nat := (List.range n).map (word b)
def nxt (w : List Nat) : Nat := ad (ad (ad (sm1 (w.getD (w.length - 2) 0)) (w.getD (w.length - 7) 0)) (sm0 (w.getD (w.length - 15) 0))) (w.getD (w.length - 16) 0)
def ext (w : List Nat) : Nat → List Nat
  | 0 => w
  | n + 1 => ext w n ++ [nxt (ext w n)]
def sched (b : List UInt8) : List Nat := ext (first b 16) 48

def rds (K W : List Nat) (s : St) : Nat → St
  | 0 => s
  | n + 1 => rd (rds K W s n) (K.getD n 0) (W.getD n 0)
def plus (s t : St) : St := ⟨ad s.a t.a, ad s.b t.b, ad s.c t.c, ad s.d t.d, ad s.e t.e, ad s.f t.f, ad s.g t.g, ad s.h t.h⟩
def block (K : List Nat) (s : St) (b : List UInt8) : St := plus s (rds K (sched b) s 64)

/-- the first n blocks of a text -/
def fo (K : List Nat) (s : St) (l : List UInt8) : Nat → St
  | 0 => s
  | n + 1 => block K (fo K s l n) ((l.drop (64 * n)).take 64)

def be8 (n : Nat) : List UInt8 := [UInt8.ofNat (n / 2 ^ 56), UInt8.ofNat (n / 2 ^ 48), UInt8.ofNat (n / 2 ^ 40), UInt8.ofNat (n / 2 ^ 32), UInt8.ofNat (n / 2 ^ 24), UInt8.ofNat (n / 2 ^ 16), UInt8.ofNat (n / 2 ^ 8), UInt8.ofNat n]
/-- how many bytes come behind a text of n bytes -/
def padLen (n : Nat) : Nat := if 64 - n % 64 < 9 then 128 - n % 64 else 64 - n % 64
def pad (n : Nat) : List UInt8 := 128 :: List.replicate (padLen n - 9) 0 ++ be8 (n * 8 % 18446744073709551616)

def bytes4 (n : Nat) : List UInt8 := [UInt8.ofNat (n / 2 ^ 24), UInt8.ofNat (n / 2 ^ 16), UInt8.ofNat (n / 2 ^ 8), UInt8.ofNat n]
def St.text (s : St) : List UInt8 := s.list.flatMap bytes4

def K0 : List Nat := [1116352408, 1899447441, 3049323471, 3921009573, 961987163, 1508970993, 2453635748, 2870763221, 3624381080, 310598401, 607225278, 1426881987, 1925078388, 2162078206, 2614888103, 3248222580, 3835390401, 4022224774, 264347078, 604807628, 770255983, 1249150122, 1555081692, 1996064986, 2554220882, 2821834349, 2952996808, 3210313671, 3336571891, 3584528711, 113926993, 338241895, 666307205, 773529912, 1294757372, 1396182291, 1695183700, 1986661051, 2177026350, 2456956037, 2730485921, 2820302411, 3259730800, 3345764771, 3516065817, 3600352804, 4094571909, 275423344, 430227734, 506948616, 659060556, 883997877, 958139571, 1322822218, 1537002063, 1747873779, 1955562222, 2024104815, 2227730452, 2361852424, 2428436474, 2756734187, 3204031479, 3329325298]
def H0 : St := ⟨1779033703, 3144134277, 1013904242, 2773480762, 1359893119, 2600822924, 528734635, 1541459225⟩

/-- the words behind all full blocks of a text -/
def full (l : List UInt8) : St := fo K0 H0 l (l.length / 64)
def digest (l : List UInt8) : List UInt8 := (full (l ++ pad l.length)).text

/-! sizes -/
theorem ad_lt (a b : Nat) : ad a b < 4294967296 := Nat.mod_lt _ (by decide)
theorem div_lt (x n : Nat) (h : x < 4294967296) : x / 2 ^ n < 4294967296 := Nat.lt_of_le_of_lt (Nat.div_le_self _ _) h
theorem rot_lt (x n : Nat) (h : x < 4294967296) : rot x n < 4294967296 :=
  Nat.or_lt_two_pow (n := 32) (div_lt x n h) (Nat.mod_lt _ (by decide))
theorem xor_lt {a b : Nat} (ha : a < 4294967296) (hb : b < 4294967296) : a ^^^ b < 4294967296 := Nat.xor_lt_two_pow (n := 32) ha hb
theorem or_lt {a b : Nat} (ha : a < 4294967296) (hb : b < 4294967296) : a ||| b < 4294967296 := Nat.or_lt_two_pow (n := 32) ha hb
theorem and_lt {a b : Nat} (ha : a < 4294967296) : a &&& b < 4294967296 := Nat.lt_of_le_of_lt Nat.and_le_left ha
theorem sm0_lt (x : Nat) (h : x < 4294967296) : sm0 x < 4294967296 := xor_lt (xor_lt (rot_lt _ _ h) (rot_lt _ _ h)) (by omega)
theorem sm1_lt (x : Nat) (h : x < 4294967296) : sm1 x < 4294967296 := xor_lt (xor_lt (rot_lt _ _ h) (rot_lt _ _ h)) (by omega)
theorem bg0_lt (x : Nat) (h : x < 4294967296) : bg0 x < 4294967296 := xor_lt (xor_lt (rot_lt _ _ h) (rot_lt _ _ h)) (rot_lt _ _ h)
theorem bg1_lt (x : Nat) (h : x < 4294967296) : bg1 x < 4294967296 := xor_lt (xor_lt (rot_lt _ _ h) (rot_lt _ _ h)) (rot_lt _ _ h)
theorem nt_lt (x : Nat) : nt x < 4294967296 := by unfold nt; omega
theorem ch_lt (e f g : Nat) (he : e < 4294967296) : ch e f g < 4294967296 := xor_lt (and_lt he) (and_lt (nt_lt e))
theorem mj_lt (a b c : Nat) (ha : a < 4294967296) (hb : b < 4294967296) : mj a b c < 4294967296 := xor_lt (xor_lt (and_lt ha) (and_lt ha)) (and_lt hb)
theorem rd_ok {s : St} (h : s.Ok) (k w : Nat) : (rd s k w).Ok := ⟨ad_lt _ _, h.a, h.b, h.c, ad_lt _ _, h.e, h.f, h.g⟩
theorem rds_ok {s : St} (h : s.Ok) (K W : List Nat) : ∀ n, (rds K W s n).Ok
  | 0 => h
  | n + 1 => rd_ok (rds_ok h K W n) _ _
theorem plus_ok (s t : St) : (plus s t).Ok := ⟨ad_lt _ _, ad_lt _ _, ad_lt _ _, ad_lt _ _, ad_lt _ _, ad_lt _ _, ad_lt _ _, ad_lt _ _⟩
theorem H0_ok : H0.Ok := ⟨by decide, by decide, by decide, by decide, by decide, by decide, by decide, by decide⟩
theorem fo_ok (K : List Nat) {s : St} (h : s.Ok) (l : List UInt8) : ∀ n, (fo K s l n).Ok
  | 0 => h
  | n + 1 => plus_ok _ _
theorem full_ok (l : List UInt8) : (full l).Ok := fo_ok _ H0_ok _ _

theorem be4_lt (a b c d : Nat) (ha : a < 256) (hb : b < 256) (hc : c < 256) (hd : d < 256) : be4 a b c d < 4294967296 :=
  or_lt (or_lt (or_lt (by omega) (by omega)) (by omega)) (by omega)
theorem word_lt (b : List UInt8) (t : Nat) : word b t < 4294967296 := be4_lt _ _ _ _ (UInt8.toNat_lt _) (UInt8.toNat_lt _) (UInt8.toNat_lt _) (UInt8.toNat_lt _)

theorem first_length (b : List UInt8) (n : Nat) : (first b n).length = n := by simp [first]
theorem first_succ (b : List UInt8) (n : Nat) : first b (n + 1) = first b n ++ [word b n] := by simp [first, List.range_succ]
theorem ext_length (w : List Nat) : ∀ n, (ext w n).length = w.length + n
  | 0 => rfl
  | n + 1 => by simp [ext, ext_length w n]; omega
theorem sched_length (b : List UInt8) : (sched b).length = 64 := by simp [sched, ext_length, first_length]
theorem first_lt (b : List UInt8) (n : Nat) : ∀ x ∈ first b n, x < 4294967296 := by
  intro x hx
  simp only [first, List.mem_map] at hx
  obtain ⟨t, _, rfl⟩ := hx
  exact word_lt b t
theorem nxt_lt (w : List Nat) : nxt w < 4294967296 := ad_lt _ _
theorem ext_lt {w : List Nat} (h : ∀ x ∈ w, x < 4294967296) : ∀ n, ∀ x ∈ ext w n, x < 4294967296
  | 0 => h
  | n + 1 => by
    intro x hx
    simp only [ext, List.mem_append, List.mem_singleton] at hx
    rcases hx with hx | rfl
    · exact ext_lt h n x hx
    · exact nxt_lt _
theorem sched_lt (b : List UInt8) : ∀ x ∈ sched b, x < 4294967296 := ext_lt (first_lt b 16) 48
theorem getD_lt {w : List Nat} (h : ∀ x ∈ w, x < 4294967296) (j : Nat) : w.getD j 0 < 4294967296 := by
  rw [List.getD_eq_getElem?_getD]
  by_cases hj : j < w.length
  · rw [List.getElem?_eq_getElem hj]; exact h _ (List.getElem_mem hj)
  · rw [List.getElem?_eq_none (by omega)]; decide
theorem K0_lt : ∀ x ∈ K0, x < 4294967296 := by decide
theorem sum4 (a b c d : Nat) : ((a : Int) + (b : Int) + (c : Int) + (d : Int)) % 4294967296 = ((ad (ad (ad a b) c) d : Nat) : Int) := by
  simp only [ad]; omega
theorem up24 (a : Nat) (h : a < 256) : a * 16777216 < 4294967296 := by omega
theorem up16 (a : Nat) (h : a < 256) : a * 65536 < 4294967296 := by omega
theorem up8 (a : Nat) (h : a < 256) : a * 256 < 4294967296 := by omega
end Sha
