/- The rows of one level turned round; the order, as the program tells it. -/
import Derived.Test.YtfnaclpkpjembaaBidI
namespace Go.Proofs.Ytfnaclpkpjembaa.Bd
open Go.RowKit
set_option linter.unusedVariables false
theorem Rw.cap {w0 w : World} {B g n cap : Nat} {O : List Int} (h : Rw w0 w B g n cap O) : n ≤ cap ∧ cap ≤ 9223372036854775807 ∧ g < w.heap.size ∧ B ≤ g := by
  rcases h.ow.2 with ⟨e, _⟩ | ⟨g', cap', cur, e, hg, hh, hn, hm, hs, _⟩
  · cases e
  · injection e with e1 e2 e3
    injection e1 with e1
    injection e1 with e1
    subst e1 e3
    refine ⟨hn, ?_, (Array.getElem?_eq_some_iff.1 hh).1, hg⟩
    unfold maxLen at hm
    omega
theorem Rw.bel {w0 w : World} {B g n cap N : Nat} {O : List Int} (h : Rw w0 w B g n cap O) (h1 : N ≤ g) (h2 : N ≤ w0.heap.size) : Below N w0 w := grown_below h.gr h1 h2
theorem rv_none (O : List Int) (a b : Nat) (h : b ≤ a) : rv O a b = O := by
  refine ext_nth (rv_len _ _ _) (fun k hk => ?_)
  rw [rv_len] at hk
  rw [rv_at _ _ _ _ hk, if_neg (by omega)]
/-- What a walk over the rows of one level asks of the numbers. -/
structure Trn (n : Nat) (fl : Nat → Nat) (R : Nat → List Int) (Z : List Int) (low : Nat → Prop) : Prop where
  zero : fl 0 = 0
  le : ∀ k, fl k ≤ k
  lo : ∀ k, k < n → low k → fl (k + 1) = k + 1 ∧ R (k + 1) = rv (R k) (fl k) k
  hi : ∀ k, k < n → ¬ low k → fl (k + 1) = fl k ∧ R (k + 1) = R k
  last : Z = rv (R n) (fl n) n
theorem trn_of (L O : List Int) (h : Int) : Trn L.length (fun k => (trn L h O k).2) (fun k => (trn L h O k).1) (fin L h O) (fun k => nth L k < h) :=
  ⟨rfl, fun k => trn_le L h O k, fun k _ t => by simp only [trn_low t, and_self], fun k _ t => by simp only [trn_high t, and_self], rfl⟩
set_option maxHeartbeats 400000 in
set_option maxRecDepth 100000 in
theorem turn_walk (w0 w : World) (B g n cap : Nat) (a : Option Addr) (vc : Nat) (ln : Nat → Int) (fl : Nat → Nat) (R : Nat → List Int) (Z : List Int) (h : Int) (T : Hid (Trn n fl R Z (fun k => ln k < h))) (hl : n ≤ 1048576) (hc : n ≤ cap) (hc2 : cap ≤ 9223372036854775807)
    (HV : Hid (∀ wr, w0.grownBy wr (some g) → ∀ k, k < n → ∃ b off, a = some ⟨b, off, none⟩ ∧ wr.cell? ⟨b, off + k, none⟩ = some (.int .i64 (ln k)))) (H0 : Hid (Rw w0 w B g n cap (R 0))) :
    Calls Try.prog 25 #[.slice (some ⟨g, 0, none⟩) n cap, .slice a n vc, .int .i64 h] w fun e w' => e = .returned (.tuple #[]) ∧ Rw w0 w' B g n cap Z := by
  have e0 := (unhide T).zero
  go_enter Try.func25, Try.ntmps25
  go_wp2
  go_loopw [6, 11] (fun fv iv wr => ∃ k f : Nat, k ≤ n ∧ f = fl k ∧ iv = .int .i64 k ∧ fv = .int .i64 f ∧ Hid (Rw w0 wr B g n cap (R k))) (fun _ iv _ => n - (intOf iv).toNat)
  case atStart => exact ⟨0, 0, Nat.zero_le _, e0.symm, rfl, rfl, H0⟩
  case round =>
    obtain ⟨k, f, hk, hfl, rfl, rfl, SI⟩ := hrel
    clear H0 e0
    have hf : f ≤ k := by rw [hfl]; exact (unhide T).le k
    have HF := hide hfl
    clear hfl
    by_cases hlt : k < n
    · have hlt' : (k : Int) < (n : Int) := by omega
      obtain ⟨b, off, rfl, c1⟩ := unhide HV wr (unhide SI).gr k hlt
      by_cases t : ln k < h
      · have E := hide ((unhide T).lo k hlt t)
        go_wp2_with fail
        refine (reverse_any w0 _ B g n cap _ f k (k - f) (R k) (by omega) (by omega) hl (unhide SI)).mono ?_
        rintro e w1 ⟨rfl, hR⟩
        have S1 : Hid (Rw w0 w1 B g n cap (R (k + 1))) := hide (by rw [(unhide E).2, ← unhide HF]; exact hR)
        have E2 : Hid (k + 1 = fl (k + 1)) := hide (by rw [(unhide E).1])
        clear hR SI E c1
        go_wp2
        go_roundw
        case rel => exact ⟨k + 1, k + 1, by omega, unhide E2, by go_num, by go_num, S1⟩
        case measure => simp [intOf]; omega
      · have E := hide ((unhide T).hi k hlt t)
        have S1 : Hid (Rw w0 wr B g n cap (R (k + 1))) := hide (by rw [(unhide E).2]; exact unhide SI)
        have E2 : Hid (f = fl (k + 1)) := hide (by rw [(unhide E).1]; exact unhide HF)
        clear SI E
        go_wp2
        go_roundw
        case rel => exact ⟨k + 1, f, by omega, unhide E2, by go_num, rfl, S1⟩
        case measure => simp [intOf]; omega
    · obtain rfl : k = n := by omega
      have E := hide (unhide T).last
      by_cases hcf : cap = f
      · have hz : k - f = 0 := by omega
        have hz2 : (R k).length = k := (unhide SI).len
        have HZ : Hid (rv (R k) 0 0 = Z) := hide (by rw [unhide E, ← unhide HF, rv_none _ _ _ (Nat.le_refl _), rv_none _ _ _ (by omega)])
        clear hz2
        go_wp2_with fail
        refine (reverse_any w0 _ B g k cap _ 0 0 0 (R k) (by omega) (by omega) hl (unhide SI)).mono ?_
        rintro e w1 ⟨rfl, hR⟩
        have S1 : Hid (Rw w0 w1 B g k cap Z) := hide (by rw [← unhide HZ]; exact hR)
        clear hR SI E HZ
        go_wp2
        go_end0
        exact ⟨rfl, unhide S1⟩
      go_wp2_with fail
      refine (reverse_any w0 _ B g k cap _ f k (k - f) (R k) (by omega) (by omega) hl (unhide SI)).mono ?_
      rintro e w1 ⟨rfl, hR⟩
      have S1 : Hid (Rw w0 w1 B g k cap Z) := hide (by rw [unhide E, ← unhide HF]; exact hR)
      clear hR SI E
      go_wp2
      go_end0
      exact ⟨rfl, unhide S1⟩
theorem turnRows_any (w0 w : World) (N B g n cap : Nat) (v : Value) (L O : List Int) (h : Int) (hn : L.length = n) (hl : n ≤ 1048576) (hN : N ≤ g) (hN2 : N ≤ w0.heap.size) (HV : ∀ wr, Below N w0 wr → IntsAt wr v L) (S : Rw w0 w B g n cap O) :
    Calls Try.prog 25 #[.slice (some ⟨g, 0, none⟩) n cap, v, .int .i64 h] w fun e w' => e = .returned (.tuple #[]) ∧ Rw w0 w' B g n cap (fin L h O) := by
  obtain ⟨hc, hc2, hgs, hBg⟩ := S.cap
  obtain ⟨a, vc, rfl, _⟩ := HV w (S.bel hN hN2)
  subst hn
  refine turn_walk w0 w B g L.length cap a vc (nth L) _ _ _ h (hide (trn_of L O h)) hl hc hc2 (hide ?_) (hide S)
  intro wr hg k hk
  obtain ⟨a', vc', ev, hcell⟩ := HV wr (grown_below hg hN hN2)
  injection ev with e1 e2 e3
  subst e1
  rcases hcell with hnil | ⟨b, off, rfl, hb, hcell⟩
  · subst hnil; simp at hk
  · exact ⟨b, off, rfl, hcell k hk⟩
end Go.Proofs.Ytfnaclpkpjembaa.Bd
