/- What was put is got: on plain lists. -/
import Derived.Test.YthoiolihkomgmaaDoorCm
namespace Go.Proofs.YthoiolihkomgmaaDoor.Cp5
open Go Go.Proofs.YthoiolihkomgmaaDoor.Wm Go.Proofs.YthoiolihkomgmaaDoor.Vm Go.Proofs.YthoiolihkomgmaaDoor.Ve Go.Proofs.YthoiolihkomgmaaDoor.Vs Go.Proofs.YthoiolihkomgmaaDoor.Vc Go.Proofs.YthoiolihkomgmaaDoor.Cm
theorem put1 (x : Nat) (h : x < 256) : putN x 1 = [UInt8.ofNat x] := by simp [putN, Nat.mod_eq_of_lt h]
theorem byte (x : Nat) (h : x < 256) : (UInt8.ofNat x).toNat = x := by simp; omega
theorem num_put (m V : Nat) (x : List UInt8) (h : V < 256 ^ m) : num m (putN V m ++ x) = .ok V x := by
  unfold num
  have hl := putN_length m V
  rw [if_pos (by rw [List.length_append]; omega)]
  rw [List.take_left' hl, List.drop_left' hl, getL_putN, Nat.mod_eq_of_lt h]
theorem text_put (b : List UInt8 → Nat → Bool) (s x : List UInt8) (h : s.length ≤ 100) : text b (putN s.length 1 ++ s ++ x) = .ok s x := by
  rw [put1 _ (by omega)]
  show (if 100 < (UInt8.ofNat s.length).toNat then _ else if (s ++ x).length < (UInt8.ofNat s.length).toNat then _ else Got.ok ((s ++ x).take (UInt8.ofNat s.length).toNat) ((s ++ x).drop (UInt8.ofNat s.length).toNat)) = _
  rw [byte _ (by omega), if_neg (by omega), if_neg (by rw [List.length_append]; omega), List.take_left' rfl, List.drop_left' rfl]
theorem checked_ok {v : V} (h : Is v) (x : List UInt8) : checked v x = .ok v x := by
  unfold checked
  rw [if_pos ((may_is v).2 h)]
theorem size_of (s : ByteArray) : s.data.toList.length = s.size := Array.length_toList
/-- A value's bytes are read as it, whatever stands behind. -/
theorem value_put {v : V} (h : Is v) (hk : v.ok) (x : List UInt8) : Cm.value (put v ++ x) = .ok v x := by
  cases h with
  | null => exact checked_ok .null x
  | bool n hn =>
    have e : (u64 n : Int) = n := by unfold u64; omega
    show (match num 1 (putN (u64 n) 1 ++ x) with | .ok n r' => checked ⟨1, (n : Int), 0, ⟨#[]⟩⟩ r' | .bad c => .bad c) = _
    rw [num_put 1 _ _ (by have : u64 n ≤ 1 := by unfold u64; omega
                          omega)]
    show checked ⟨1, (u64 n : Int), 0, ⟨#[]⟩⟩ x = _
    rw [e]
    exact checked_ok (.bool n hn) x
  | int n =>
    show (match num 8 (putN (u64 n) 8 ++ x) with | .ok n r' => checked ⟨2, toI n, 0, ⟨#[]⟩⟩ r' | .bad c => .bad c) = _
    rw [num_put 8 _ _ (u64_lt n)]
    show checked ⟨2, toI (u64 n), 0, ⟨#[]⟩⟩ x = _
    rw [toI_u64 hk.n.1 hk.n.2]
    exact checked_ok (.int n) x
  | real r hr =>
    show (match num 8 (putN r 8 ++ x) with | .ok n r' => checked ⟨3, 0, n, ⟨#[]⟩⟩ r' | .bad c => .bad c) = _
    rw [num_put 8 _ _ hk.r]
    exact checked_ok (.real r hr) x
  | bytes s hs =>
    show (match text (fun _ _ => true) (putN s.size 1 ++ s.data.toList ++ x) with | .ok t r' => checked ⟨4, 0, 0, bs t⟩ r' | .bad c => .bad c) = _
    rw [← size_of, text_put _ _ _ (by rw [size_of]; exact hs)]
    exact checked_ok (.bytes s hs) x
  | string s hs hu =>
    show (match text begins (putN s.size 1 ++ s.data.toList ++ x) with | .ok t r' => checked ⟨5, 0, 0, bs t⟩ r' | .bad c => .bad c) = _
    rw [← size_of, text_put _ _ _ (by rw [size_of]; exact hs)]
    exact checked_ok (.string s hs hu) x
theorem many_put : ∀ (l : List V) (x : List UInt8), (∀ v ∈ l, Is v) → (∀ v ∈ l, v.ok) → many l.length (putAll l ++ x) = .ok l x
  | [], x, _, _ => rfl
  | v :: l, x, h, hk => by
    simp only [List.length_cons, many, putAll, List.append_assoc]
    rw [value_put (h v (.head _)) (hk v (.head _))]
    simp only
    rw [many_put l x (fun u hu => h u (.tail _ hu)) (fun u hu => hk u (.tail _ hu))]
theorem row_put {l : List V} (h : mayRow l = true) (hk : ∀ v ∈ l, v.ok) (x : List UInt8) : Cm.row (putRow l ++ x) = .ok l x := by
  obtain ⟨h1, h2, h3⟩ := row_is h
  unfold putRow
  rw [put1 _ (by omega)]
  show (if 1 ≤ (UInt8.ofNat l.length).toNat ∧ (UInt8.ofNat l.length).toNat ≤ 8 then many (UInt8.ofNat l.length).toNat (putAll l ++ x) else .bad 7) = _
  rw [byte _ (by omega), if_pos ⟨h1, h2⟩, many_put l x h3 hk]
/-- Unlike rows have unlike bytes, of which none begin the other ones. -/
theorem row_apart {l m : List V} (hl : mayRow l = true) (hm : mayRow m = true) (kl : ∀ v ∈ l, v.ok) (km : ∀ v ∈ m, v.ok) (hne : l ≠ m) (n : Nat) (hn : n = min (putRow l).length (putRow m).length) : (putRow l).take n ≠ (putRow m).take n := by
  intro e
  rcases Nat.le_total (putRow l).length (putRow m).length with h | h
  · rw [hn, Nat.min_eq_left h, List.take_of_length_le (Nat.le_refl _)] at e
    have h1 := row_put hl kl ((putRow m).drop (putRow l).length)
    have h2 := row_put hm km []
    rw [List.append_nil] at h2
    have h3 : putRow l ++ (putRow m).drop (putRow l).length = putRow m := by
      conv => lhs; rw [e]
      rw [← e]
      exact (by have := List.take_append_drop (putRow l).length (putRow m); rwa [← e] at this)
    rw [h3, h2] at h1
    injection h1 with h1 _
    exact hne h1.symm
  · rw [hn, Nat.min_eq_right h, List.take_of_length_le (l := putRow m) (Nat.le_refl _)] at e
    have h1 := row_put hm km ((putRow l).drop (putRow m).length)
    have h2 := row_put hl kl []
    rw [List.append_nil] at h2
    have h3 : putRow m ++ (putRow l).drop (putRow m).length = putRow l := by
      have := List.take_append_drop (putRow m).length (putRow l); rwa [e] at this
    rw [h3, h2] at h1
    injection h1 with h1 _
    exact hne h1
end Go.Proofs.YthoiolihkomgmaaDoor.Cp5
