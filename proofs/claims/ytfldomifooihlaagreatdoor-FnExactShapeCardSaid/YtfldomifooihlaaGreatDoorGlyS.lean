/- Where the consonants begin to which a vowel belongs, as the specification tells it. -/
import Derived.Test.YtfldomifooihlaaGreatDoorGlyC
namespace Go.Proofs.YtfldomifooihlaaGreatDoor.Gly
open Go.RowKit Chr
set_option linter.unusedVariables false
/-- The Ids of the first m glyphs, the last one first. -/
def rid (G : List (Int × Int × Int)) (m : Nat) : List Int := (ids (G.take m)).reverse
theorem rid_zero (G : List (Int × Int × Int)) : rid G 0 = [] := by simp [rid, ids]
theorem rid_succ (G : List (Int × Int × Int)) (m : Nat) (h : m < G.length) : rid G (m + 1) = (gat G m).1 :: rid G m := by
  unfold rid
  have e : gat G m = G[m] := by simp [gat, List.getD, h]
  rw [List.take_succ_eq_append_getElem h, ids_snoc, e]
theorem rid_len (G : List (Int × Int × Int)) (m : Nat) (h : m ≤ G.length) : (rid G m).length = m := by simp [rid, ids]; omega
set_option maxHeartbeats 2000000 in
set_option maxRecDepth 100000 in
theorem start_any (w : World) (B b c n : Nat) (G : List (Int × Int × Int)) (at' : Nat) (hn : n = G.length) (h : GR w B (.slice (some ⟨b, 0, none⟩) n c) G) (ha : at' ≤ G.length) (hl : G.length ≤ 65537) :
    Calls Tryz.prog 45 #[.slice (some ⟨b, 0, none⟩) n c, .int .i64 at'] w fun e w' => e = .returned (.int .i64 (fA (rid G at') at' : Nat)) ∧ w' = w := by
  have HC : Hid (∀ k, k < n → w.cell? ⟨b, k * 5, none⟩ = some (.int .i64 (gat G k).1)) := hide (fun k hk => (h.five hn k hk).1)
  have HR : Hid (∀ m, m < n → rid G (m + 1) = (gat G m).1 :: rid G m) := hide (fun m hm => rid_succ G m (by omega))
  have HRL : Hid (∀ m, m ≤ n → (rid G m).length = m) := hide (fun m hm => rid_len G m (by omega))
  have R0 := hide (rid_zero G)
  obtain ⟨A, hA⟩ : ∃ A, A = fA (rid G at') at' := ⟨_, rfl⟩
  have HA := hide hA
  rw [← hA]
  rw [← hn] at ha hl
  clear h hA hn
  go_enter Tryz.func45, Tryz.ntmps45
  go_wp2
  go_loopw [5, 6] (fun sv iv wr => ∃ st m : Nat, sv = .int .i64 st ∧ iv = .int .i64 ((m : Int) - 1) ∧ m ≤ n ∧ wr = w ∧ Hid (fA (rid G m) st = A)) (fun _ iv _ => (intOf iv + 1).toNat)
  case atStart => exact ⟨at', at', rfl, by go_num, ha, rfl, hide (unhide HA).symm⟩
  case round =>
    obtain ⟨st, m, rfl, rfl, hm, rfl, HS⟩ := hrel
    by_cases h0 : m = 0
    · subst h0
      have e : st = A := by have := unhide HS; rw [unhide R0, fA_nil] at this; exact this
      subst e
      go_wp2
      go_ret
      exact ⟨rfl, rfl⟩
    · have hge : (0 : Int) ≤ (m : Int) - 1 := by omega
      go_wp2
      go_loopw [6] (fun iv wi => ∃ q : Nat, iv = .int .i64 ((q : Int) - 1) ∧ q ≤ m ∧ wi = wr ∧ Hid (fA (rid G q) st = A)) (fun iv _ => (intOf iv + 1).toNat)
      case atStart => exact ⟨m, rfl, Nat.le_refl _, rfl, HS⟩
      case round =>
        obtain ⟨q, rfl, hq, rfl, HS1⟩ := hrel
        cases q with
        | zero =>
          have e : st = A := by have := unhide HS1; rw [unhide R0, fA_nil] at this; exact this
          subst e
          go_wp2
          go_ret
          exact ⟨rfl, rfl⟩
        | succ j =>
          have ej : (((j + 1 : Nat) : Int)) - 1 = (j : Int) := by omega
          rw [ej]
          have hj : (j : Int) < (n : Int) := by omega
          have h0j : (0 : Int) ≤ (j : Int) := by omega
          have c1 := unhide HC j (by omega)
          have HRj := hide (unhide HR j (by omega))
          have HSj := HS1
          rw [unhide HRj] at HSj
          have hrl := unhide HRL j (by omega)
          generalize (gat G j).1 = x at *
          have hbin : Hid (∀ (bx : bin x = true), fA (rid G j) st = A) := hide (fun bx => by have := unhide HSj; rw [fA_cons, if_pos bx] at this; exact this)
          cases y1 : (x == 1585)
          · cases y2 : (x == 1584)
            · have nb : bin x = false := by unfold bin; rw [y1, y2]; rfl
              by_cases k1 : x < 1536
              · have e : st = A := by
                  have := unhide HSj
                  rw [fA_cons, if_neg (by simp [nb]), if_neg (by unfold con; simp; omega)] at this
                  exact this
                subst e
                go_wp2
                go_ret
                exact ⟨rfl, rfl⟩
              · by_cases k2 : 1567 < x
                · have e : st = A := by
                    have := unhide HSj
                    rw [fA_cons, if_neg (by simp [nb]), if_neg (by unfold con; simp; omega)] at this
                    exact this
                  subst e
                  go_wp2
                  go_ret
                  exact ⟨rfl, rfl⟩
                · have HB : Hid (fB (rid G j) j = A) := hide (by
                    have := unhide HSj
                    rw [fA_cons, if_neg (by simp [nb]), if_pos (by unfold con; simp; omega), hrl] at this
                    exact this)
                  clear hbin HSj HS1 nb
                  go_wp2
                  go_loopw [7] (fun kv wi => ∃ q : Nat, kv = .int .i64 ((q : Int) - 1) ∧ q ≤ j ∧ wi = wr ∧ Hid (fB (rid G q) j = A)) (fun kv _ => (intOf kv + 1).toNat)
                  case atStart => exact ⟨j, rfl, Nat.le_refl _, rfl, HB⟩
                  case round =>
                    obtain ⟨q, rfl, hq2, rfl, HS2⟩ := hrel
                    clear c1 y1 y2
                    cases q with
                    | zero =>
                      have e : j = A := by have := unhide HS2; rw [unhide R0, fB_nil] at this; exact this
                      subst e
                      go_wp2
                      go_ret
                      exact ⟨rfl, rfl⟩
                    | succ i =>
                      have ei : (((i + 1 : Nat) : Int)) - 1 = (i : Int) := by omega
                      rw [ei]
                      have hi : (i : Int) < (n : Int) := by omega
                      have h0i : (0 : Int) ≤ (i : Int) := by omega
                      have c2 := unhide HC i (by omega)
                      have HRi := hide (unhide HR i (by omega))
                      have HSi := HS2
                      rw [unhide HRi] at HSi
                      generalize (gat G i).1 = x2 at *
                      cases z1 : (x2 == 1585)
                      · cases z2 : (x2 == 1584)
                        · have e : j = A := by
                            have := unhide HSi
                            rw [fB_cons, if_neg (by simp [z1]), if_neg (by simp [z2])] at this
                            exact this
                          have z3 : (x2 != 1584) = true := by rw [bne, z2]; rfl
                          subst e
                          go_wp2
                          go_ret
                          exact ⟨rfl, rfl⟩
                        · have HN : Hid (fA (rid G (i + 1)) j = A) := hide (by
                            have := unhide HSi
                            rw [fB_cons, if_neg (by simp [z1]), if_pos z2] at this
                            rw [unhide HRi, fA_cons, if_pos (by unfold bin; rw [z2]; rfl)]
                            exact this)
                          have z3 : (x2 != 1584) = false := by rw [bne, z2]; rfl
                          go_wp2
                          go_roundw
                          case rel => exact ⟨j, i + 1, rfl, by go_num, by omega, trivial, HN⟩
                          case measure => simp [intOf] <;> omega
                      · have HN : Hid (fB (rid G i) j = A) := hide (by
                          have := unhide HSi
                          rw [fB_cons, if_pos z1] at this
                          exact this)
                        go_wp2
                        go_roundw
                        case rel => exact ⟨i, by go_num, by omega, trivial, HN⟩
                        case measure => simp [intOf] <;> omega
            · have HN := hide (unhide hbin (by unfold bin; rw [y2]; rfl))
              clear hbin HSj
              go_wp2
              go_roundw
              case rel => exact ⟨j, by go_num, by omega, trivial, HN⟩
              case measure => simp [intOf] <;> omega
          · have HN := hide (unhide hbin (by unfold bin; rw [y1]; simp))
            clear hbin HSj
            go_wp2
            go_roundw
            case rel => exact ⟨j, by go_num, by omega, trivial, HN⟩
            case measure => simp [intOf] <;> omega
end Go.Proofs.YtfldomifooihlaaGreatDoor.Gly
