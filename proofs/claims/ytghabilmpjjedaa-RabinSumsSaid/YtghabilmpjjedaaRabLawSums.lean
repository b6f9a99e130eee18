/-
  RabinSums: of texts that are as long, the fingerprint of both by exclusive or is both's by exclusive or, and noughts ahead change none, for every polynomial, every two texts, any number of noughts.
  Conditions: none.
-/
import Derived.Test.YtghabilmpjjedaaRabG
import Derived.Test.YtghabilmpjjedaaRabRef
import Derived.Test.YtghabilmpjjedaaGoOwn
import Derived.Deep.RegionHeld3
import Derived.StillTailTactics
import Derived.ProofKit
import Derived.OpenShut
import Derived.ShutString
import Derived.ChangeOld
import Derived.SizedLaws
namespace Go.Proofs.Ytghabilmpjjedaa.rabSums
open Go.ChangeShapes Go.WideShapes Go.ChangeAt Go.RowKit
open Go.ChangeMaps (open_string shut_string)
set_option linter.unusedVariables false
set_option maxRecDepth 100000

theorem own : ownKnob Try.prog.godebug = none := by kernel_rfl
theorem laidOut : laidOutB Try.prog = true := by kernel_rfl
theorem u64_in {n : Int} (h : (Lit.int .u64 n).wf = true) : ∃ a : Nat, n = (a : Int) ∧ a < 18446744073709551616 := by
  have h2 : 0 ≤ n ∧ n ≤ 18446744073709551615 := by simpa [Lit.wf, IntKind.min, IntKind.max, IntKind.signed, IntKind.bits] using h
  exact ⟨n.toNat, by omega, by omega⟩


theorem of_one (p : Nat) (hp : p < 18446744073709551616) : ∃ (F : List UInt8 → Nat) (e : Int), (∀ s : ByteArray, s.size ≤ 9223372036854775807 → ∀ u, Calls Try.prog 9 #[.int .u64 p, .string s] u fun x w' => x = .returned (.tuple #[.int .u64 (F s.data.toList : Nat), .int .i64 e]) ∧ u = w') ∧ (e = 2 ∨ (e = 0 ∧ (∀ l, F l < 18446744073709551616) ∧ (∀ a b, a.length = b.length → F (List.zipWith (fun x y : UInt8 => x ^^^ y) a b) = F a ^^^ F b) ∧ ∀ n a, F (List.replicate n 0 ++ a) = F a)) := by
  by_cases h : Pol.fine p
  · exact ⟨Pol.fp p, 0, fun s hs u => (of_any p s hp hs u).2 h, .inr ⟨rfl, fun l => lt64 (by have := Pol.fp_len (Pol.fine_ne h) l; have := h.2; omega), fun a b => Pol.fp_zip (Pol.fine_ne h) a b, Pol.fp_noughts (Pol.fine_ne h)⟩⟩
  · exact ⟨fun _ => 0, 2, fun s hs u => (of_any p s hp hs u).1 h, .inl rfl⟩
theorem infoByte : (Try.prog.info? 5).map (fun i => (i.zero, i.size, i.bytes)) = some (some (.int .u8 0), 1, 1) := by kernel_rfl
theorem u8_in {n : Int} (h : (Lit.int .u8 n).wf = true) : ∃ a : Nat, n = (a : Int) ∧ a < 256 := by
  have h2 : 0 ≤ n ∧ n ≤ 255 := by simpa [Lit.wf, IntKind.min, IntKind.max, IntKind.signed, IntKind.bits] using h
  exact ⟨n.toNat, by omega, by omega⟩
def zx (a b : List UInt8) : List UInt8 := List.zipWith (fun x y : UInt8 => x ^^^ y) a b
theorem zx_take (a b : ByteArray) (k : Nat) (ha : k < a.size) (hb : k < b.size) : zx (a.data.toList.take (k + 1)) (b.data.toList.take (k + 1)) = zx (a.data.toList.take k) (b.data.toList.take k) ++ [a[k] ^^^ b[k]] := by
  unfold zx
  rw [List.take_succ_eq_append_getElem (by rw [ba_len]; exact ha), List.take_succ_eq_append_getElem (by rw [ba_len]; exact hb), List.zipWith_append (by simp; omega), ba_get a k ha, ba_get b k hb]
  rfl

set_option maxHeartbeats 2000000 in
theorem walk (n0 : Int) (a b : ByteArray) (n3 : Int) (w : World) (h0 : (Lit.int .u64 n0).wf = true) (za : a.size ≤ 140737488351232) (zb : b.size ≤ 140737488351232) (h3 : (Lit.int .u8 n3).wf = true) :
    Calls Try.prog 6 #[.int .u64 n0, .string a, .string b, .int .u8 n3] w fun e w' => e = .returned (.bool true) ∧ Below w.heap.size w w' := by
  obtain ⟨p, rfl, hp⟩ := u64_in h0
  obtain ⟨n, rfl, hn⟩ := u8_in h3
  clear h0 h3
  have hsum : a.size + b.size < 9223372036854775808 := by omega
  by_cases hl : 2000 < a.size + b.size
  · have hd : decide ((2000 : Int) < (a.size : Int) + (b.size : Int)) = true := decide_eq_true (by omega)
    clear hp hn
    go_enter Try.func6, Try.ntmps6
    go_wp2_with fail
    refine (rabAlive_any _).mono ?_; rintro e w1 ⟨rfl, hb1⟩
    go_wp2_with fail
    go_ret
    exact ⟨rfl, hb1⟩
  have hd : decide ((2000 : Int) < (a.size : Int) + (b.size : Int)) = false := decide_eq_false (by omega)
  obtain ⟨F, e, hof, he⟩ := of_one p hp
  obtain ⟨m, hm⟩ : ∃ m, m = min a.size b.size := ⟨_, rfl⟩
  have hma : m ≤ a.size := by omega
  have hmb : m ≤ b.size := by omega
  have hmn : min (a.size : Int) (b.size : Int) = (m : Int) := by omega
  obtain ⟨sa, hsa⟩ : ∃ sa, sa = a.extract 0 m := ⟨_, rfl⟩
  obtain ⟨sb, hsb⟩ : ∃ sb, sb = b.extract 0 m := ⟨_, rfl⟩
  have la : sa.data.toList = a.data.toList.take m := by rw [hsa, Lib.extract_data]; simp
  have lb : sb.data.toList = b.data.toList.take m := by rw [hsb, Lib.extract_data]; simp
  have zsa : sa.size ≤ 9223372036854775807 := by rw [← ba_len, la]; simp; omega
  have zsb : sb.size ≤ 9223372036854775807 := by rw [← ba_len, lb]; simp; omega
  have sla : sa.size = m := by rw [← ba_len, la, List.length_take, ba_len]; omega
  obtain ⟨zs, hzs⟩ : ∃ zs : ByteArray, zs = ⟨(List.replicate n (0 : UInt8)).toArray⟩ := ⟨_, rfl⟩
  obtain ⟨zq, hza⟩ : ∃ z : ByteArray, z = zs ++ sa := ⟨_, rfl⟩
  have lz : zq.data.toList = List.replicate n 0 ++ sa.data.toList := by
    rw [hza, hzs]; simp [ByteArray.data_append]
  have szz : zq.size ≤ 9223372036854775807 := by rw [← ba_len, lz, List.length_append, List.length_replicate, ba_len]; omega
  have szs : zs.size = n := by rw [hzs]; simp [ByteArray.size]
  have hx : ∀ u, Calls Try.prog 9 #[.int .u64 (p : Int), .string sa] u _ := fun u => hof sa zsa u
  have hy : ∀ u, Calls Try.prog 9 #[.int .u64 (p : Int), .string sb] u _ := fun u => hof sb zsb u
  have hw' : ∀ u, Calls Try.prog 9 #[.int .u64 (p : Int), .string zq] u _ := fun u => hof zq szz u
  obtain ⟨c, hc⟩ : ∃ c : ByteArray, c = ⟨(zx (a.data.toList.take m) (b.data.toList.take m)).toArray⟩ := ⟨_, rfl⟩
  have lc : c.data.toList = zx (a.data.toList.take m) (b.data.toList.take m) := by rw [hc]
  have szc : c.size ≤ 9223372036854775807 := by rw [← ba_len, lc]; simp [zx]; omega
  have hz : ∀ u, Calls Try.prog 9 #[.int .u64 (p : Int), .string c] u _ := fun u => hof c szc u
  rw [la] at hx
  rw [lb] at hy
  rw [lz, la] at hw'
  rw [lc] at hz
  obtain ⟨x, hxe⟩ : ∃ x, x = F (a.data.toList.take m) := ⟨_, rfl⟩
  obtain ⟨y, hye⟩ : ∃ y, y = F (b.data.toList.take m) := ⟨_, rfl⟩
  obtain ⟨z, hze⟩ : ∃ z, z = F (zx (a.data.toList.take m) (b.data.toList.take m)) := ⟨_, rfl⟩
  obtain ⟨X, hwe⟩ : ∃ X, X = F (List.replicate n 0 ++ a.data.toList.take m) := ⟨_, rfl⟩
  have hend : e = 2 ∨ (e = 0 ∧ X = x ∧ bits .xor .u64 (x : Int) (y : Int) = (z : Int)) := by
    rcases he with he | ⟨he, h1, h2, h3⟩
    · exact .inl he
    · refine .inr ⟨he, by rw [hwe, h3, hxe], ?_⟩
      rw [u64_xor_nat x y (by rw [hxe]; exact h1 _) (by rw [hye]; exact h1 _), hze, hxe, hye]
      congr 1
      exact (h2 _ _ (by simp; omega)).symm
  rw [← hxe] at hx
  rw [← hye] at hy
  rw [← hze] at hz
  rw [← hwe] at hw'
  have hm1 := fun u => make_noughts n (by omega) u
  have hc1 := fun u => conv_noughts n u
  rw [← hzs] at hc1
  have hn1 := IntWalk.i64_in (n : Int) (by omega)
  have HX := Lib.hid hx; clear hx
  have HY := Lib.hid hy; clear hy
  have HZ := Lib.hid hz; clear hz
  have HOZ := Lib.hid hw'; clear hw'
  have HM := Lib.hid hm1; clear hm1
  have HC := Lib.hid hc1; clear hc1
  have HN := Lib.hid hn1; clear hn1
  have HSA := Lib.hid hsa.symm
  have HSB := Lib.hid hsb.symm
  have HZA := Lib.hid hza.symm
  have Hend := Lib.hid hend; clear hend
  have Hc := Lib.hid hc; clear hc
  clear hxe hye hze hwe he hof la lb lc lz zsa zsb szc szz hsa hsb hza hp
  obtain ⟨i0, hi, hz0, hz1, hz2⟩ := info_parts infoByte
  have Hi := Lib.hid hi; clear hi
  have Hz0 := Lib.hid hz0; clear hz0
  have Hz1 := Lib.hid hz1; clear hz1
  have Hz2 := Lib.hid hz2; clear hz2
  have hsz : n + m < 9223372036854775808 := by omega
  have Hzs := Lib.hid hzs; clear hzs
  have Hm := Lib.hid hm; clear hm
  go_enter Try.func6, Try.ntmps6
  go_wp2_with fail
  rw [HSA.out]
  refine (HX.out _).mono ?_; rintro e1 w1 ⟨rfl, rfl⟩
  go_wp2_with fail
  rw [HSB.out]
  refine (HY.out _).mono ?_; rintro e1 w1 ⟨rfl, rfl⟩
  go_wp2_with fail
  go_loopw [14, 15] (fun vv i wr => ∃ (k : Nat) (v : Value), v = vv ∧ k ≤ m ∧ i = .int .i64 k ∧ Owns w.heap.size 5 v (u8s (zx (a.data.toList.take k) (b.data.toList.take k))).toList wr ∧ Below w.heap.size w wr) (fun _ i _ => m - (intOf i).toNat)
  case atStart => exact ⟨0, _, rfl, by omega, rfl, Owns.nil _ _ _, Below.refl _ _⟩
  case round =>
    obtain ⟨k, v, rfl, hk, rfl, hown, hb⟩ := hrel
    have Hown := Lib.hid hown; clear hown
    have Hb := Lib.hid hb; clear hb
    by_cases hlt : k < m
    · have hka : k < a.size := by omega
      have hkb : k < b.size := by omega
      have hge : decide ((k : Int) < (m : Int)) = true := decide_eq_true (by omega)
      have hge' : decide (k < m) = true := decide_eq_true hlt
      have hts := zx_take a b k hka hkb
      have hxl : (u8s (zx (a.data.toList.take k) (b.data.toList.take k))).toList.length = k := by
        rw [Array.length_toList, u8s_size]; simp [zx]; omega
      obtain ⟨q, hq⟩ : ∃ q : UInt8, q = a[k] ^^^ b[k] := ⟨_, rfl⟩
      have hqx : bits .xor .u8 (a[k].toNat : Int) (b[k].toNat : Int) = (q.toNat : Int) := by
        rw [u8_xor_nat _ _ a[k].toNat_lt b[k].toNat_lt, hq, UInt8.toNat_xor]
      rw [← hq] at hts
      have j0 : (0 : Int) ≤ (k : Int) := by omega
      have j1 : (k : Int) < (a.size : Int) := by omega
      have j2 : (k : Int) < (b.size : Int) := by omega
      have hown2 : wr.ownsRow w.heap.size 5 1 v k (u8s (zx (a.data.toList.take k) (b.data.toList.take k))).toList := by have h := Hown.out; unfold Owns at h; rw [hxl] at h; exact h
      have Hown2 := Lib.hid hown2; clear hown2
      have Hts := Lib.hid hts; clear hts
      have Hxl := Lib.hid hxl; clear hxl
      have Hq := Lib.hid hq; clear hq
      go_wp2_with fail
      go_region_held3 (fun w' => w.heap.size ≤ w'.heap.size) (first | exact Hb.out.size | (have := Hb.out.size; simp; omega) | (have := hgrow.size; have := Hb.out.size; simp at *; omega) | go_keep) ((refine step_append_lies _ (by rfl) (.tmp 53) (.tmp 61) 46 (by rfl) w.heap.size 5 i0 _ 1 1 Try.underlying46 Hi.out Hz0.out Hz1.out Hz2.out (by rfl) (by decide) v k (u8s (zx (a.data.toList.take k) (b.data.toList.take k))).toList (by rfl) ((Hown2.out.alloc _).drew) ⟨wr.heap.size, 0, none⟩ 1 1 [.int .u8 (q.toNat : Int)] (by rfl) (by rfl) (World.news_of_block (cs := #[.int .u8 (q.toNat : Int)]) (t := 5) (fr := (0, 0)) (heap_alloc_new wr _)) (by simp [Value.oneCell']) (by decide) (by unfold maxLen; omega) (by omega) (by have := Hb.out.size; simp; omega) (wr.heap.size + 1) (by simp) ?_; intro gg cap w1 hown1 hgrow hat hlt1))
      all_goals
        go_wp2
        go_roundw
        case rel =>
          refine ⟨k + 1, _, rfl, by omega, by go_num, ?_, ?_⟩
          · have e : (u8s (zx (a.data.toList.take (k + 1)) (b.data.toList.take (k + 1)))).toList = (u8s (zx (a.data.toList.take k) (b.data.toList.take k))).toList ++ [.int .u8 (q.toNat : Int)] := by rw [Hts.out]; simp [u8s]
            rw [e]
            unfold Owns
            rw [List.length_append, Hxl.out]
            exact hown1
          · exact ((Hb.out.alloc Hb.out.size _).drew).grown hgrow (by have := Hb.out.size; simp; omega) (fun j hj => (Hown.out.lt j hj).1)
        case measure => simp [intOf]; omega
    · obtain rfl : k = m := by omega
      have hge : decide ((k : Int) < (k : Int)) = false := decide_eq_false (by omega)
      have hcv := Hown.out.conv (P := Try.prog) 46 9 Try.underlying46 Try.underlying5 Try.underlying9
      rw [← Hc.out] at hcv
      clear Hown Hi Hz0 Hz1 Hz2 Hm Hc Hzs
      go_wp2_with fail
      refine (HZ.out _).mono ?_; rintro e1 w1 ⟨rfl, rfl⟩
      go_wp2_with fail
      clear hcv
      refine wp_region_phases [([0, 1, 2, 5, 6, 7], [3, 4, 8, 9, 10]), ([11, 12], [13, 14])] (by kernel_rfl) (by kernel_rfl) (fun _ => True) trivial ?_
      simp only [wpPhases, pick, List.filterMap_cons, List.filterMap_nil, List.getElem?_toArray, List.getElem?_cons_zero, List.getElem?_cons_succ]
      refine take_move (.tmp 0) (.int .u64 (p : Int)) rfl rfl rfl ?_
      simp only [Act.put, List.setIfInBounds_toArray, List.set_cons_zero, List.set_cons_succ]
      refine take_move (.tmp 3) (.int .u8 (n : Int)) rfl rfl rfl ?_
      simp only [Act.put, List.setIfInBounds_toArray, List.set_cons_zero, List.set_cons_succ]
      refine take_one (.int .i64 (n : Int)) rfl (fun u hu => by go_simp; rw [HN.out]) ?_
      simp only [Act.put, List.setIfInBounds_toArray, List.set_cons_zero, List.set_cons_succ]
      refine take_move (.tmp 1) (.string a) rfl rfl rfl ?_
      simp only [Act.put, List.setIfInBounds_toArray, List.set_cons_zero, List.set_cons_succ]
      refine take_move (.tmp 9) (.int .i64 (k : Int)) rfl rfl rfl ?_
      simp only [Act.put, List.setIfInBounds_toArray, List.set_cons_zero, List.set_cons_succ]
      refine take_one (.string sa) rfl (fun u hu => by go_simp; rw [HSA.out]) ?_
      simp only [Act.put, List.setIfInBounds_toArray, List.set_cons_zero, List.set_cons_succ]
      refine take_done ?_
      refine midk_one (.slice (some ⟨wr.heap.size, 0, none⟩) n n) rfl (run_make_at 46 (.tmp 73) (.tmp 73) rfl rfl rfl (HM.out wr.drew)) trivial ?_
      simp only [Act.put, List.setIfInBounds_toArray, List.set_cons_zero, List.set_cons_succ]
      refine midk_one (.string zs) rfl (run_conv_at 46 9 (.tmp 74) rfl rfl (HC.out wr.drew)) trivial ?_
      simp only [Act.put, List.setIfInBounds_toArray, List.set_cons_zero, List.set_cons_succ]
      refine midk_pure (.string zq) rfl (fun _ => by go_simp; rw [HZA.out, if_neg (by omega)]) trivial ?_
      simp only [Act.put, List.setIfInBounds_toArray, List.set_cons_zero, List.set_cons_succ]
      refine midk_wp rfl (call_wp 9 [.tmp 71, .tmp 79] #[22, 9] #[.int .u64 (p : Int), .string zq] rfl rfl rfl ?_)
      refine (HOZ.out _).mono ?_
      rintro e4 w4 ⟨rfl, rfl⟩
      refine ⟨_, rfl, trivial, ?_⟩
      simp only [Act.put, List.setIfInBounds_toArray, List.set_cons_zero, List.set_cons_succ]
      refine midk_pure (.tuple #[.int .u64 (X : Nat), .int .i64 e]) rfl (fun _ => rfl) trivial ?_
      simp only [Act.put, List.setIfInBounds_toArray, List.set_cons_zero, List.set_cons_succ]
      refine take_one (.int .u64 (X : Nat)) rfl (fun u hu => by go_simp) ?_
      simp only [Act.put, List.setIfInBounds_toArray, List.set_cons_zero, List.set_cons_succ]
      refine take_one (.int .i64 e) rfl (fun u hu => by go_simp) ?_
      simp only [Act.put, List.setIfInBounds_toArray, List.set_cons_zero, List.set_cons_succ]
      refine take_done ?_
      refine midk_pure (.int .u64 (X : Nat)) rfl (fun _ => rfl) trivial ?_
      simp only [Act.put, List.setIfInBounds_toArray, List.set_cons_zero, List.set_cons_succ]
      refine midk_pure (.int .i64 e) rfl (fun _ => rfl) trivial ?_
      simp only [Act.put, List.setIfInBounds_toArray, List.set_cons_zero, List.set_cons_succ]
      refine midk_end ?_
      have hbz : Below w.heap.size w (wr.drew.alloc (.cells (u8s (List.replicate n 0)) 5)) := Hb.out.drew.alloc Hb.out.size _
      generalize wr.drew.alloc (.cells (u8s (List.replicate n 0)) 5) = wz at *
      have hal : ∀ u, Below w.heap.size w u → Calls Try.prog 7 #[] u fun e w' => e = .returned (.bool true) ∧ Below w.heap.size w w' := fun u hu => (rabAlive_any u).mono fun e w' ⟨h1, h2⟩ => ⟨h1, hu.trans (h2.mono hu.size)⟩
      have Hal := Lib.hid hal; clear hal
      have Hbz := Lib.hid hbz; clear hbz
      clear HX HY HZ HOZ HM HC HN HZA HSA HSB Hb sla szs
      rcases Hend.out with rfl | ⟨rfl, rfl, hxy⟩
      · clear Hend
        go_wp2_with fail
        refine (Hal.out _ Hbz.out).mono ?_; rintro e1 w1 ⟨rfl, hb1⟩
        go_wp2_with fail
        go_ret
        exact ⟨rfl, hb1⟩
      · clear Hend
        go_wp2_with fail
        refine (Hal.out _ Hbz.out).mono ?_; rintro e1 w1 ⟨rfl, hb1⟩
        go_wp2_with fail
        go_ret
        exact ⟨rfl, hb1⟩

theorem contract (H : Type) (enc : TypeId × Value → H) (W : World) (base : Nat) (args : Array Value) (ds gs : List (DataW H)) (before : List MemPlace)
    (hval : ∀ (j : Nat) t v, Try.f6.params[j]? = some t → args[j]? = some v → Value.okWide Try.prog W .any base t v)
    (hW : DataW.Whole enc Try.prog Try.f6.params.toList Rows.rabinSumsSpec.vars false W args.toList ds gs before)
    (hsz : (DataW.weightsEach Try.prog (Try.f6.params.toList ++ Rows.rabinSumsSpec.plain.varTypes Try.prog) (ds ++ gs)).all (· ≤ reachBytes) = true) :
    Calls Try.prog 6 args W fun e W' => ∃ v, e = .returned v ∧ Rows.rabinSumsSpec.post enc Try.prog Try.f6 false true false false W args v W' := by
  have hW' := hW
  obtain ⟨p, q, hA0, hV, rfl, hfz, hnd⟩ := hW
  have hA : DataW.TrodAll enc Try.prog W 0 (fun _ => true) true Try.f6.params.toList args.toList ds p := hA0
  rw [Try.params6] at hA hval hsz
  obtain ⟨v0, vs0, d0, ds0, p0, q0, hargs, rfl, rfl, h0, r0⟩ := trodAll_cons hA
  obtain ⟨v1, vs1, d1, ds1, p1, q1, rfl, rfl, rfl, h1, r1⟩ := trodAll_cons r0
  obtain ⟨v2, vs2, d2, ds2, p2, q2, rfl, rfl, rfl, h2, r2⟩ := trodAll_cons r1
  obtain ⟨v3, vs3, d3, ds3, p3, q3, rfl, rfl, rfl, h3, r3⟩ := trodAll_cons r2
  obtain ⟨rfl, rfl, rfl⟩ := trodAll_nil r3
  obtain rfl : args = #[v0, v1, v2, v3] := Array.ext' hargs
  obtain ⟨rfl, rfl⟩ := trodVars_none hV
  obtain ⟨n0, rfl, rfl, rfl, w0⟩ := open_int Try.underlying22 (hval 0 22 v0 rfl rfl) h0
  obtain ⟨s1, rfl, rfl, rfl, m1⟩ := open_string Try.underlying9 (hval 1 9 v1 rfl rfl) h1
  obtain ⟨s2, rfl, rfl, rfl, m2⟩ := open_string Try.underlying9 (hval 2 9 v2 rfl rfl) h2
  obtain ⟨n3, rfl, rfl, rfl, w3⟩ := open_int Try.underlying5 (hval 3 5 v3 rfl rfl) h3
  clear hA0
  have z1 : s1.size ≤ 140737488351232 := by
    have := List.all_eq_true.1 hsz s1.data.toList.length (by simp [DataW.weightsEach, DataW.weights])
    rw [ba_len] at this
    exact of_decide_eq_true this
  have z2 : s2.size ≤ 140737488351232 := by
    have := List.all_eq_true.1 hsz s2.data.toList.length (by simp [DataW.weightsEach, DataW.weights])
    rw [ba_len] at this
    exact of_decide_eq_true this
  refine (walk n0 s1 s2 n3 W w0 z1 z2 w3).mono fun e W' ⟨he, bel⟩ => ?_
  subst he
  exact ⟨_, rfl, _, _, _, [], _, [], hW', trodAll_mk1 (shut_bool Try.underlying4 _), (trodAll_cons_mk (shut_int Try.underlying22 w0) (trodAll_cons_mk (shut_string Try.underlying9 m1) (trodAll_cons_mk (shut_string Try.underlying9 m2) (trodAll_cons_mk (shut_int Try.underlying5 w3) trodAll_mk0)))), rfl, bel.frame _, fun h => by cases h⟩

set_option maxRecDepth 100000 in
theorem lifted (os : Os) (started : os.Started) (H : Type) (enc : TypeId × Value → H) :
    ReturnsInHanded {} Try.checked os 6 .any (Rows.rabinSumsSpec.pre6 enc Try.prog Try.f6 Rows.rabinSumsRow.domain false) (Rows.rabinSumsSpec.post enc Try.prog Try.f6 false true false false) := by
  refine returnsInHanded_of_change_sized (C := Try.checked) own started (by kernel_rfl) Try.func6
    (ChangeSpec.witness6 (enc := enc) (C := Try.checked) false ⟨#[], #[.int .u64 0, .string .empty, .string .empty, .int .u8 0], []⟩ 8 (by kernel_rfl) (by kernel_rfl) (by kernel_rfl) (by kernel_rfl)) ?_
  intro W base args ds gs before hval hW hcnd hsz _
  exact contract H enc W base args ds gs before hval hW hsz

theorem over : Rows.rabinSumsRow.holds Try.pinned (OpenSpec.ofChange Rows.rabinSumsSpec) :=
  OpenClaim.holds_of_wide 6 Try.f6 rfl rfl rfl rfl rfl rfl rfl ⟨rfl, rfl, rfl, rfl, rfl⟩ rfl rfl rfl rfl rfl (by kernel_rfl) Try.func6 (by kernel_rfl)
    (of_decide_eq_true (by kernel_rfl)) (by unfold Func.isWrapper; first | (rw [if_pos (by decide +kernel)]; kernel_rfl) | (rw [if_neg (by decide +kernel)]; exact ⟨rfl, rfl⟩))
    (fun os started H enc _ => lifted os started H enc)

theorem proved : Rows.RabinSumsSaid := over

end Go.Proofs.Ytghabilmpjjedaa.rabSums
