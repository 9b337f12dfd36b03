/- The specification's reading of one point answers as the model's own. -/
import Derived.Test.YtigobciichnccaaDoorDec
import Derived.Test.YtigobciichnccaaDoorNPts
namespace Go.Proofs.YtigobciichnccaaDoor
open Go.RowKit
theorem wrap_bt (s : ByteArray) (i : Nat) : ∀ h, wrap64 (((s[i]'h).toNat : Nat) : Int) = (bt s i : Int) := by
  intro h
  rw [bt_get s i h]
  have := bt_lt s i
  unfold wrap64; omega
theorem ret3 {a b c d : Int} {ok : Bool} (h1 : a = c) (h2 : b = d) : Ending.returned (.tuple #[.int .i64 a, .int .i64 b, .bool ok]) = .returned (.tuple #[.int .i64 c, .int .i64 d, .bool ok]) := by rw [h1, h2]
/-- What the loop has made of the first k bytes. -/
def acc (s : ByteArray) (pos m : Nat) : Nat → Nat
  | 0 => bt s pos % m
  | k + 1 => acc s pos m k * 64 + bt s (pos + (k + 1)) % 64
/-- The bytes 1 to k go on. -/
def Goes (s : ByteArray) (pos k : Nat) : Prop := ∀ j, 1 ≤ j → j ≤ k → 128 ≤ bt s (pos + j) ∧ bt s (pos + j) ≤ 191
theorem Goes.succ {s : ByteArray} {pos k : Nat} (h : Goes s pos k) (h1 : 128 ≤ bt s (pos + (k + 1))) (h2 : bt s (pos + (k + 1)) ≤ 191) : Goes s pos (k + 1) := by
  intro j hj1 hj2
  by_cases e : j = k + 1
  · subst e; exact ⟨h1, h2⟩
  · exact h j hj1 (by omega)
theorem acc_bd (s : ByteArray) (pos m k : Nat) (hm : 0 < m) (hm2 : m ≤ 32) (hk : k ≤ 3) : acc s pos m k ≤ 8388607 := by
  have h0 : bt s pos % m < m := Nat.mod_lt _ hm
  have e0 : acc s pos m 0 = bt s pos % m := rfl
  have e1 : acc s pos m 1 = acc s pos m 0 * 64 + bt s (pos + 1) % 64 := rfl
  have e2 : acc s pos m 2 = acc s pos m 1 * 64 + bt s (pos + 2) % 64 := rfl
  have e3 : acc s pos m 3 = acc s pos m 2 * 64 + bt s (pos + 3) % 64 := rfl
  obtain rfl | rfl | rfl | rfl : k = 0 ∨ k = 1 ∨ k = 2 ∨ k = 3 := by omega
  all_goals omega
theorem broken_of {s : ByteArray} {pos : Nat} (h : dec s.size pos (bt s pos) (bt s (pos + 1)) (bt s (pos + 2)) (bt s (pos + 3)) = (65533, 1)) : (65533 : Int) = (dP s pos : Int) ∧ (1 : Int) = (dN s pos : Int) := by
  unfold dP dN; rw [decode_dec, h]; exact ⟨rfl, rfl⟩
theorem read_of {s : ByteArray} {pos c n : Nat} (h : dec s.size pos (bt s pos) (bt s (pos + 1)) (bt s (pos + 2)) (bt s (pos + 3)) = (c, n)) : (c : Int) = (dP s pos : Int) ∧ (n : Int) = (dN s pos : Int) := by
  unfold dP dN; rw [decode_dec, h]; exact ⟨rfl, rfl⟩
/-- The three answers: a point, how many bytes, and a word that the caller drops. -/
def Ok3 (p n : Int) (e : Ending) : Prop := ∃ ok, e = .returned (.tuple #[.int .i64 p, .int .i64 n, .bool ok])
theorem ok3 {a b p n : Int} {ok : Bool} (h : a = p ∧ b = n) : Ok3 p n (.returned (.tuple #[.int .i64 a, .int .i64 b, .bool ok])) := ⟨ok, by rw [h.1, h.2]⟩
theorem enc_two {q : Int} (h0 : 128 ≤ q) (h1 : q < 2048) : isPt q = true ∧ (strOfNums (Lib.encodeRuneZ q)).size = 2 := by
  refine ⟨(isPt_iff q).2 (by omega), ?_⟩
  rw [strOfNums_size, Lib.encodeRuneZ_two h0 (by omega)]; rfl
theorem enc_size (q : Int) (h : isPt q = true) : (strOfNums (Lib.encodeRuneZ q)).size = if q < 128 then 1 else if q < 2048 then 2 else if q < 65536 then 3 else 4 := by
  have hp := (isPt_iff q).1 h
  rw [strOfNums_size]
  by_cases h1 : q < 128
  · rw [if_pos h1, Lib.encodeRuneZ_one hp.1 (by omega)]; rfl
  rw [if_neg h1]
  by_cases h2 : q < 2048
  · rw [if_pos h2, Lib.encodeRuneZ_two (by omega) (by omega)]; rfl
  rw [if_neg h2]
  by_cases h3 : q < 65536
  · rw [if_pos h3, Lib.encodeRuneZ_three (by omega)]; rfl
  rw [if_neg h3, Lib.encodeRuneZ_four (by omega) (by omega)]; rfl
theorem stop_two {s : ByteArray} {pos k : Nat} (hk : k < 1) (h0 : 194 ≤ bt s pos) (h1 : bt s pos < 224) (t : bt s (pos + (k + 1)) < 128 ∨ 191 < bt s (pos + (k + 1))) :
    dec s.size pos (bt s pos) (bt s (pos + 1)) (bt s (pos + 2)) (bt s (pos + 3)) = (65533, 1) := by
  match k, hk, t with
  | 0, _, t =>
    have t' : bt s (pos + 1) < 128 ∨ 191 < bt s (pos + 1) := t
    exact dec_bad (bt_lt _ _) (by omega)
theorem stop_three {s : ByteArray} {pos k : Nat} (hk : k < 2) (h0 : 224 ≤ bt s pos) (h1 : bt s pos < 240) (t : bt s (pos + (k + 1)) < 128 ∨ 191 < bt s (pos + (k + 1))) :
    dec s.size pos (bt s pos) (bt s (pos + 1)) (bt s (pos + 2)) (bt s (pos + 3)) = (65533, 1) := by
  match k, hk, t with
  | 0, _, t =>
    have t' : bt s (pos + 1) < 128 ∨ 191 < bt s (pos + 1) := t
    exact dec_bad (bt_lt _ _) (by omega)
  | 1, _, t =>
    have t' : bt s (pos + 2) < 128 ∨ 191 < bt s (pos + 2) := t
    exact dec_bad (bt_lt _ _) (by omega)
theorem stop_four {s : ByteArray} {pos k : Nat} (hk : k < 3) (h0 : 240 ≤ bt s pos) (h1 : bt s pos < 245) (t : bt s (pos + (k + 1)) < 128 ∨ 191 < bt s (pos + (k + 1))) :
    dec s.size pos (bt s pos) (bt s (pos + 1)) (bt s (pos + 2)) (bt s (pos + 3)) = (65533, 1) := by
  match k, hk, t with
  | 0, _, t =>
    have t' : bt s (pos + 1) < 128 ∨ 191 < bt s (pos + 1) := t
    exact dec_bad (bt_lt _ _) (by omega)
  | 1, _, t =>
    have t' : bt s (pos + 2) < 128 ∨ 191 < bt s (pos + 2) := t
    exact dec_bad (bt_lt _ _) (by omega)
  | 2, _, t =>
    have t' : bt s (pos + 3) < 128 ∨ 191 < bt s (pos + 3) := t
    exact dec_bad (bt_lt _ _) (by omega)
theorem end_two {s : ByteArray} {pos q : Nat} (h0 : 194 ≤ bt s pos) (h1 : bt s pos < 224) (hsz : pos + 1 < s.size) (hg : Goes s pos 1) (hq : q = acc s pos 32 1) :
    ((q : Int) = (dP s pos : Int) ∧ ((2 : Nat) : Int) = (dN s pos : Int)) ∧ 128 ≤ q ∧ q < 2048 := by
  have z1 := hg 1 (by omega) (by omega)
  have ha : acc s pos 32 1 = bt s pos % 32 * 64 + bt s (pos + 1) % 64 := rfl
  have hd : dec s.size pos (bt s pos) (bt s (pos + 1)) (bt s (pos + 2)) (bt s (pos + 3)) = _ := dec_two h0 h1 hsz z1.1 z1.2
  rw [ha] at hq
  rw [← hq] at hd
  exact ⟨read_of hd, by omega, by omega⟩
theorem end_three {s : ByteArray} {pos q : Nat} (h0 : 224 ≤ bt s pos) (h1 : bt s pos < 240) (hsz : pos + 2 < s.size) (hg : Goes s pos 2) (hq : q = acc s pos 16 2) :
    q ≤ 65535 ∧ ((2048 ≤ q ∧ ¬ (55296 ≤ q ∧ q ≤ 57343)) → ((q : Int) = (dP s pos : Int) ∧ ((3 : Nat) : Int) = (dN s pos : Int))) ∧
      (¬ (2048 ≤ q ∧ ¬ (55296 ≤ q ∧ q ≤ 57343)) → ((65533 : Int) = (dP s pos : Int) ∧ (1 : Int) = (dN s pos : Int))) := by
  have z1 := hg 1 (by omega) (by omega)
  have z2 := hg 2 (by omega) (by omega)
  have ha : acc s pos 16 2 = (bt s pos % 16 * 64 + bt s (pos + 1) % 64) * 64 + bt s (pos + 2) % 64 := rfl
  have hd : dec s.size pos (bt s pos) (bt s (pos + 1)) (bt s (pos + 2)) (bt s (pos + 3)) = _ := dec_three h0 h1 hsz z1.1 z1.2 z2.1 z2.2
  have e : q = bt s pos % 16 * 4096 + bt s (pos + 1) % 64 * 64 + bt s (pos + 2) % 64 := by rw [hq, ha]; omega
  rw [← e] at hd
  refine ⟨by omega, fun ok => read_of (by rw [hd, if_pos ok]), fun ok => broken_of (by rw [hd, if_neg ok])⟩
theorem end_four {s : ByteArray} {pos q : Nat} (h0 : 240 ≤ bt s pos) (h1 : bt s pos < 245) (hsz : pos + 3 < s.size) (hg : Goes s pos 3) (hq : q = acc s pos 8 3) :
    q ≤ 2097151 ∧ ((65536 ≤ q ∧ q ≤ 1114111) → ((q : Int) = (dP s pos : Int) ∧ ((4 : Nat) : Int) = (dN s pos : Int))) ∧
      (¬ (65536 ≤ q ∧ q ≤ 1114111) → ((65533 : Int) = (dP s pos : Int) ∧ (1 : Int) = (dN s pos : Int))) := by
  have z1 := hg 1 (by omega) (by omega)
  have z2 := hg 2 (by omega) (by omega)
  have z3 := hg 3 (by omega) (by omega)
  have ha : acc s pos 8 3 = ((bt s pos % 8 * 64 + bt s (pos + 1) % 64) * 64 + bt s (pos + 2) % 64) * 64 + bt s (pos + 3) % 64 := rfl
  have hd : dec s.size pos (bt s pos) (bt s (pos + 1)) (bt s (pos + 2)) (bt s (pos + 3)) = _ := dec_four h0 h1 hsz z1.1 z1.2 z2.1 z2.2 z3.1 z3.2
  have e : q = bt s pos % 8 * 262144 + bt s (pos + 1) % 64 * 4096 + bt s (pos + 2) % 64 * 64 + bt s (pos + 3) % 64 := by rw [hq, ha]; omega
  rw [← e] at hd
  refine ⟨by omega, fun ok => read_of (by rw [hd, if_pos ok]), fun ok => broken_of (by rw [hd, if_neg ok])⟩
theorem not3 {q : Nat} (hpt : isPt (q : Int) = true) (h : ¬ (2048 ≤ q ∧ ¬ (55296 ≤ q ∧ q ≤ 57343))) : (((strOfNums (Lib.encodeRuneZ (q : Int))).size : Int) != 3) = true := by
  have hpb := (isPt_iff _).1 hpt
  rw [enc_size _ hpt, bne_iff_ne]
  repeat' split
  all_goals omega
theorem not4 {q : Nat} (hpt : isPt (q : Int) = true) (h : ¬ (65536 ≤ q ∧ q ≤ 1114111)) : (((strOfNums (Lib.encodeRuneZ (q : Int))).size : Int) != 4) = true := by
  have hpb := (isPt_iff _).1 hpt
  rw [enc_size _ hpt, bne_iff_ne]
  repeat' split
  all_goals omega
theorem yes3 {q : Nat} (h : q ≤ 65535) (ok : 2048 ≤ q ∧ ¬ (55296 ≤ q ∧ q ≤ 57343)) : isPt (q : Int) = true ∧ (((strOfNums (Lib.encodeRuneZ (q : Int))).size : Int) != 3) = false := by
  have hpt : isPt (q : Int) = true := (isPt_iff _).2 (by omega)
  refine ⟨hpt, ?_⟩
  rw [enc_size _ hpt, if_neg (by omega), if_neg (by omega), if_pos (by omega)]; rfl
theorem yes4 {q : Nat} (ok : 65536 ≤ q ∧ q ≤ 1114111) : isPt (q : Int) = true ∧ (((strOfNums (Lib.encodeRuneZ (q : Int))).size : Int) != 4) = false := by
  have hpt : isPt (q : Int) = true := (isPt_iff _).2 (by omega)
  refine ⟨hpt, ?_⟩
  rw [enc_size _ hpt, if_neg (by omega), if_neg (by omega), if_neg (by omega)]; rfl
theorem yes2 {q : Nat} (h0 : 128 ≤ q) (h1 : q < 2048) : isPt (q : Int) = true ∧ (((strOfNums (Lib.encodeRuneZ (q : Int))).size : Int) != 2) = false := by
  have hpt : isPt (q : Int) = true := (isPt_iff _).2 (by omega)
  refine ⟨hpt, ?_⟩
  rw [enc_size _ hpt, if_neg (by omega), if_pos (by omega)]; rfl
set_option maxHeartbeats 1000000 in
set_option maxRecDepth 100000 in
theorem next_one (s : ByteArray) (pos : Nat) (w : World) (hp : pos < s.size) (hb : bt s pos < 128) :
    Calls Tryd.prog 46 #[.string s, .int .i64 pos] w fun e w' => Ok3 (dP s pos) (dN s pos) e ∧ Below w.heap.size w w' := by
  have f0 := wrap_bt s pos
  have b0 : (bt s pos : Int) < 128 := by omega
  have HR := hide (read_of (dec_one (size := s.size) (pos := pos) (b1 := bt s (pos + 1)) (b2 := bt s (pos + 2)) (b3 := bt s (pos + 3)) hb))
  go_enter Tryd.func46, Tryd.ntmps46
  go_wp2
  go_ret3
  exact ⟨ok3 ⟨(f0 hp).trans (unhide HR).1, (unhide HR).2⟩, Below.refl _ _⟩
set_option maxHeartbeats 1000000 in
set_option maxRecDepth 100000 in
theorem next_bad (s : ByteArray) (pos : Nat) (w : World) (hp : pos < s.size) (hb : (128 ≤ bt s pos ∧ bt s pos < 194) ∨ 245 ≤ bt s pos) :
    Calls Tryd.prog 46 #[.string s, .int .i64 pos] w fun e w' => Ok3 (dP s pos) (dN s pos) e ∧ Below w.heap.size w w' := by
  have f0 := wrap_bt s pos
  have HR := hide (broken_of (s := s) (pos := pos) (dec_bad (bt_lt _ _) (by omega)))
  rcases hb with ⟨h1, h2⟩ | h1
  · have b0 : (128 : Int) ≤ (bt s pos : Int) := by omega
    have b1 : (bt s pos : Int) < 194 := by omega
    have b2 : (bt s pos : Int) < 224 := by omega
    have b3 : (bt s pos : Int) < 240 := by omega
    clear h1 h2
    go_enter Tryd.func46, Tryd.ntmps46
    go_wp2
    go_ret3
    exact ⟨ok3 (unhide HR), Below.refl _ _⟩
  · have b0 : (245 : Int) ≤ (bt s pos : Int) := by omega
    have b1 : (240 : Int) ≤ (bt s pos : Int) := by omega
    have b2 : (224 : Int) ≤ (bt s pos : Int) := by omega
    have b3 : (194 : Int) ≤ (bt s pos : Int) := by omega
    have b4 : (128 : Int) ≤ (bt s pos : Int) := by omega
    clear h1
    go_enter Tryd.func46, Tryd.ntmps46
    go_wp2
    go_ret3
    exact ⟨ok3 (unhide HR), Below.refl _ _⟩
set_option maxHeartbeats 1000000 in
set_option maxRecDepth 100000 in
theorem next_two (s : ByteArray) (pos : Nat) (w : World) (hp : pos < s.size) (hs : s.size ≤ 1048576) (h0 : 194 ≤ bt s pos) (h1 : bt s pos < 224) :
    Calls Tryd.prog 46 #[.string s, .int .i64 pos] w fun e w' => Ok3 (dP s pos) (dN s pos) e ∧ Below w.heap.size w w' := by
  have f0 := wrap_bt s pos
  have g0 : (194 : Int) ≤ (bt s pos : Int) := by omega
  have g1 : (bt s pos : Int) < 224 := by omega
  have g2 : (128 : Int) ≤ (bt s pos : Int) := by omega
  have H0 := hide h0
  have H1 := hide h1
  clear h0 h1
  by_cases hsz : pos + 1 < s.size
  · go_enter Tryd.func46, Tryd.ntmps46
    go_wp2
    go_loop [9, 10] (fun p i => ∃ k q : Nat, k ≤ 1 ∧ i = .int .i64 (k + 1) ∧ p = .int .i64 q ∧ q ≤ 8388607 ∧ Hid (q = acc s pos 32 k) ∧ Hid (Goes s pos k)) (fun _ i => 2 - (intOf i).toNat)
    case atStart => exact ⟨0, bt s pos % 32, by omega, by go_num, by go_num, by omega, hide rfl, hide (fun j hj1 hj2 => by omega)⟩
    case round =>
      obtain ⟨k, q, hk, rfl, rfl, hq, HQ, HG⟩ := hrel
      clear f0
      by_cases hlt : k < 1
      · have f1 := wrap_bt s (pos + (k + 1))
        have hbt := bt_lt s (pos + (k + 1))
        by_cases t1 : bt s (pos + (k + 1)) < 128
        · have HR := hide (broken_of (stop_two hlt (unhide H0) (unhide H1) (.inl t1)))
          have t1' : (bt s (pos + (k + 1)) : Int) < 128 := by omega
          clear t1
          go_wp2
          go_ret3
          exact ⟨ok3 (unhide HR), Below.refl _ _⟩
        · by_cases t2 : 191 < bt s (pos + (k + 1))
          · have HR := hide (broken_of (stop_two hlt (unhide H0) (unhide H1) (.inr t2)))
            have t1' : (128 : Int) ≤ (bt s (pos + (k + 1)) : Int) := by omega
            have t2' : (191 : Int) < (bt s (pos + (k + 1)) : Int) := by omega
            clear t1 t2
            go_wp2
            go_ret3
            exact ⟨ok3 (unhide HR), Below.refl _ _⟩
          · have HG' := hide ((unhide HG).succ (by omega) (by omega))
            have HQ' : Hid (q * 64 + bt s (pos + (k + 1)) % 64 = acc s pos 32 (k + 1)) := hide (by rw [unhide HQ]; rfl)
            have hbd := acc_bd s pos 32 (k + 1) (by omega) (by omega) (by omega)
            rw [← unhide HQ'] at hbd
            have t1' : (128 : Int) ≤ (bt s (pos + (k + 1)) : Int) := by omega
            have t2' : (bt s (pos + (k + 1)) : Int) ≤ 191 := by omega
            clear t1 t2 HQ HG
            go_wp2
            go_round
            case rel => exact ⟨k + 1, q * 64 + bt s (pos + (k + 1)) % 64, by omega, by go_num, by go_num, hbd, HQ', HG'⟩
            case measure => simp [intOf]; omega
      · obtain rfl : k = 1 := by omega
        have he := end_two (unhide H0) (unhide H1) hsz (unhide HG) (unhide HQ)
        obtain ⟨hpt, hs2⟩ := yes2 he.2.1 he.2.2
        have HR := hide he.1
        clear he HQ HG
        go_wp2_with (first | (go_at_call 77; refine (isPointS (q : Int) _).mono ?_; rintro e w1 ⟨rfl, rfl⟩) | (go_at_call 78; refine (write_any (q : Int) _).mono ?_; rintro e w2 ⟨rfl, hb2⟩))
        go_ret3
        exact ⟨ok3 (unhide HR), hb2⟩
  · have HR := hide (broken_of (s := s) (pos := pos) (dec_bad (bt_lt _ _) (by have := unhide H0; have := unhide H1; omega)))
    have hsz' : (s.size : Int) ≤ (pos : Int) + 1 := by omega
    go_enter Tryd.func46, Tryd.ntmps46
    go_wp2
    go_ret3
    exact ⟨ok3 (unhide HR), Below.refl _ _⟩
set_option maxHeartbeats 1000000 in
set_option maxRecDepth 100000 in
theorem next_three (s : ByteArray) (pos : Nat) (w : World) (hp : pos < s.size) (hs : s.size ≤ 1048576) (h0 : 224 ≤ bt s pos) (h1 : bt s pos < 240) :
    Calls Tryd.prog 46 #[.string s, .int .i64 pos] w fun e w' => Ok3 (dP s pos) (dN s pos) e ∧ Below w.heap.size w w' := by
  have f0 := wrap_bt s pos
  have g0 : (224 : Int) ≤ (bt s pos : Int) := by omega
  have g1 : (bt s pos : Int) < 240 := by omega
  have g2 : (128 : Int) ≤ (bt s pos : Int) := by omega
  have g3 : (194 : Int) ≤ (bt s pos : Int) := by omega
  have H0 := hide h0
  have H1 := hide h1
  clear h0 h1
  by_cases hsz : pos + 2 < s.size
  · go_enter Tryd.func46, Tryd.ntmps46
    go_wp2
    go_loop [9, 10] (fun p i => ∃ k q : Nat, k ≤ 2 ∧ i = .int .i64 (k + 1) ∧ p = .int .i64 q ∧ q ≤ 8388607 ∧ Hid (q = acc s pos 16 k) ∧ Hid (Goes s pos k)) (fun _ i => 3 - (intOf i).toNat)
    case atStart => exact ⟨0, bt s pos % 16, by omega, by go_num, by go_num, by omega, hide rfl, hide (fun j hj1 hj2 => by omega)⟩
    case round =>
      obtain ⟨k, q, hk, rfl, rfl, hq, HQ, HG⟩ := hrel
      clear f0
      by_cases hlt : k < 2
      · have f1 := wrap_bt s (pos + (k + 1))
        have hbt := bt_lt s (pos + (k + 1))
        by_cases t1 : bt s (pos + (k + 1)) < 128
        · have HR := hide (broken_of (stop_three hlt (unhide H0) (unhide H1) (.inl t1)))
          have t1' : (bt s (pos + (k + 1)) : Int) < 128 := by omega
          clear t1
          go_wp2
          go_ret3
          exact ⟨ok3 (unhide HR), Below.refl _ _⟩
        · by_cases t2 : 191 < bt s (pos + (k + 1))
          · have HR := hide (broken_of (stop_three hlt (unhide H0) (unhide H1) (.inr t2)))
            have t1' : (128 : Int) ≤ (bt s (pos + (k + 1)) : Int) := by omega
            have t2' : (191 : Int) < (bt s (pos + (k + 1)) : Int) := by omega
            clear t1 t2
            go_wp2
            go_ret3
            exact ⟨ok3 (unhide HR), Below.refl _ _⟩
          · have HG' := hide ((unhide HG).succ (by omega) (by omega))
            have HQ' : Hid (q * 64 + bt s (pos + (k + 1)) % 64 = acc s pos 16 (k + 1)) := hide (by rw [unhide HQ]; rfl)
            have hbd := acc_bd s pos 16 (k + 1) (by omega) (by omega) (by omega)
            rw [← unhide HQ'] at hbd
            have t1' : (128 : Int) ≤ (bt s (pos + (k + 1)) : Int) := by omega
            have t2' : (bt s (pos + (k + 1)) : Int) ≤ 191 := by omega
            clear t1 t2 HQ HG
            go_wp2
            go_round
            case rel => exact ⟨k + 1, q * 64 + bt s (pos + (k + 1)) % 64, by omega, by go_num, by go_num, hbd, HQ', HG'⟩
            case measure => simp [intOf]; omega
      · obtain rfl : k = 2 := by omega
        have he := end_three (unhide H0) (unhide H1) hsz (unhide HG) (unhide HQ)
        by_cases ok : 2048 ≤ q ∧ ¬ (55296 ≤ q ∧ q ≤ 57343)
        · obtain ⟨hpt, hs2⟩ := yes3 he.1 ok
          have HR := hide (he.2.1 ok)
          clear he HQ HG ok
          go_wp2_with (first | (go_at_call 77; refine (isPointS (q : Int) _).mono ?_; rintro e w1 ⟨rfl, rfl⟩) | (go_at_call 78; refine (write_any (q : Int) _).mono ?_; rintro e w2 ⟨rfl, hb2⟩))
          go_ret3
          exact ⟨ok3 (unhide HR), hb2⟩
        · have HR := hide (he.2.2 ok)
          cases hpt : isPt (q : Int)
          · clear he HQ HG ok
            go_wp2_with (first | (go_at_call 77; refine (isPointS (q : Int) _).mono ?_; rintro e w1 ⟨rfl, rfl⟩) | (go_at_call 78; refine (write_any (q : Int) _).mono ?_; rintro e w2 ⟨rfl, hb2⟩))
            go_ret3
            exact ⟨ok3 (unhide HR), Below.refl _ _⟩
          · have hs2 := not3 hpt ok
            clear he HQ HG ok
            go_wp2_with (first | (go_at_call 77; refine (isPointS (q : Int) _).mono ?_; rintro e w1 ⟨rfl, rfl⟩) | (go_at_call 78; refine (write_any (q : Int) _).mono ?_; rintro e w2 ⟨rfl, hb2⟩))
            go_ret3
            exact ⟨ok3 (unhide HR), hb2⟩
  · have HR := hide (broken_of (s := s) (pos := pos) (dec_bad (bt_lt _ _) (by have := unhide H0; have := unhide H1; omega)))
    have hsz' : (s.size : Int) ≤ (pos : Int) + 2 := by omega
    go_enter Tryd.func46, Tryd.ntmps46
    go_wp2
    go_ret3
    exact ⟨ok3 (unhide HR), Below.refl _ _⟩
set_option maxHeartbeats 1000000 in
set_option maxRecDepth 100000 in
theorem next_four (s : ByteArray) (pos : Nat) (w : World) (hp : pos < s.size) (hs : s.size ≤ 1048576) (h0 : 240 ≤ bt s pos) (h1 : bt s pos < 245) :
    Calls Tryd.prog 46 #[.string s, .int .i64 pos] w fun e w' => Ok3 (dP s pos) (dN s pos) e ∧ Below w.heap.size w w' := by
  have f0 := wrap_bt s pos
  have g0 : (240 : Int) ≤ (bt s pos : Int) := by omega
  have g1 : (bt s pos : Int) < 245 := by omega
  have g2 : (128 : Int) ≤ (bt s pos : Int) := by omega
  have g3 : (194 : Int) ≤ (bt s pos : Int) := by omega
  have g4 : (224 : Int) ≤ (bt s pos : Int) := by omega
  have H0 := hide h0
  have H1 := hide h1
  clear h0 h1
  by_cases hsz : pos + 3 < s.size
  · go_enter Tryd.func46, Tryd.ntmps46
    go_wp2
    go_loop [9, 10] (fun p i => ∃ k q : Nat, k ≤ 3 ∧ i = .int .i64 (k + 1) ∧ p = .int .i64 q ∧ q ≤ 8388607 ∧ Hid (q = acc s pos 8 k) ∧ Hid (Goes s pos k)) (fun _ i => 4 - (intOf i).toNat)
    case atStart => exact ⟨0, bt s pos % 8, by omega, by go_num, by go_num, by omega, hide rfl, hide (fun j hj1 hj2 => by omega)⟩
    case round =>
      obtain ⟨k, q, hk, rfl, rfl, hq, HQ, HG⟩ := hrel
      clear f0
      by_cases hlt : k < 3
      · have f1 := wrap_bt s (pos + (k + 1))
        have hbt := bt_lt s (pos + (k + 1))
        by_cases t1 : bt s (pos + (k + 1)) < 128
        · have HR := hide (broken_of (stop_four hlt (unhide H0) (unhide H1) (.inl t1)))
          have t1' : (bt s (pos + (k + 1)) : Int) < 128 := by omega
          clear t1
          go_wp2
          go_ret3
          exact ⟨ok3 (unhide HR), Below.refl _ _⟩
        · by_cases t2 : 191 < bt s (pos + (k + 1))
          · have HR := hide (broken_of (stop_four hlt (unhide H0) (unhide H1) (.inr t2)))
            have t1' : (128 : Int) ≤ (bt s (pos + (k + 1)) : Int) := by omega
            have t2' : (191 : Int) < (bt s (pos + (k + 1)) : Int) := by omega
            clear t1 t2
            go_wp2
            go_ret3
            exact ⟨ok3 (unhide HR), Below.refl _ _⟩
          · have HG' := hide ((unhide HG).succ (by omega) (by omega))
            have HQ' : Hid (q * 64 + bt s (pos + (k + 1)) % 64 = acc s pos 8 (k + 1)) := hide (by rw [unhide HQ]; rfl)
            have hbd := acc_bd s pos 8 (k + 1) (by omega) (by omega) (by omega)
            rw [← unhide HQ'] at hbd
            have t1' : (128 : Int) ≤ (bt s (pos + (k + 1)) : Int) := by omega
            have t2' : (bt s (pos + (k + 1)) : Int) ≤ 191 := by omega
            clear t1 t2 HQ HG
            go_wp2
            go_round
            case rel => exact ⟨k + 1, q * 64 + bt s (pos + (k + 1)) % 64, by omega, by go_num, by go_num, hbd, HQ', HG'⟩
            case measure => simp [intOf]; omega
      · obtain rfl : k = 3 := by omega
        have he := end_four (unhide H0) (unhide H1) hsz (unhide HG) (unhide HQ)
        by_cases ok : 65536 ≤ q ∧ q ≤ 1114111
        · obtain ⟨hpt, hs2⟩ := yes4 ok
          have HR := hide (he.2.1 ok)
          clear he HQ HG ok
          go_wp2_with (first | (go_at_call 77; refine (isPointS (q : Int) _).mono ?_; rintro e w1 ⟨rfl, rfl⟩) | (go_at_call 78; refine (write_any (q : Int) _).mono ?_; rintro e w2 ⟨rfl, hb2⟩))
          go_ret3
          exact ⟨ok3 (unhide HR), hb2⟩
        · have HR := hide (he.2.2 ok)
          cases hpt : isPt (q : Int)
          · clear he HQ HG ok
            go_wp2_with (first | (go_at_call 77; refine (isPointS (q : Int) _).mono ?_; rintro e w1 ⟨rfl, rfl⟩) | (go_at_call 78; refine (write_any (q : Int) _).mono ?_; rintro e w2 ⟨rfl, hb2⟩))
            go_ret3
            exact ⟨ok3 (unhide HR), Below.refl _ _⟩
          · have hs2 := not4 hpt ok
            clear he HQ HG ok
            go_wp2_with (first | (go_at_call 77; refine (isPointS (q : Int) _).mono ?_; rintro e w1 ⟨rfl, rfl⟩) | (go_at_call 78; refine (write_any (q : Int) _).mono ?_; rintro e w2 ⟨rfl, hb2⟩))
            go_ret3
            exact ⟨ok3 (unhide HR), hb2⟩
  · have HR := hide (broken_of (s := s) (pos := pos) (dec_bad (bt_lt _ _) (by have := unhide H0; have := unhide H1; omega)))
    have hsz' : (s.size : Int) ≤ (pos : Int) + 3 := by omega
    go_enter Tryd.func46, Tryd.ntmps46
    go_wp2
    go_ret3
    exact ⟨ok3 (unhide HR), Below.refl _ _⟩
theorem next_any (s : ByteArray) (pos : Nat) (w : World) (hp : pos < s.size) (hs : s.size ≤ 1048576) :
    Calls Tryd.prog 46 #[.string s, .int .i64 pos] w fun e w' => Ok3 (dP s pos) (dN s pos) e ∧ Below w.heap.size w w' := by
  by_cases h1 : bt s pos < 128
  · exact next_one s pos w hp h1
  by_cases h2 : bt s pos < 194 ∨ 245 ≤ bt s pos
  · exact next_bad s pos w hp (by omega)
  by_cases h3 : bt s pos < 224
  · exact next_two s pos w hp hs (by omega) h3
  by_cases h4 : bt s pos < 240
  · exact next_three s pos w hp hs (by omega) h4
  exact next_four s pos w hp hs (by omega) (by omega)
end Go.Proofs.YtigobciichnccaaDoor
