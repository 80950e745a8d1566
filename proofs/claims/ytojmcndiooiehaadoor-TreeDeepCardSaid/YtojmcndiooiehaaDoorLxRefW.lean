/-
  CONTRACTS: chapter 14: the document's word.
-/
import Derived.Test.YtojmcndiooiehaaDoorLxWord
namespace Go.Proofs.YtojmcndiooiehaaDoor
open Go.RowKit
open Me

end Go.Proofs.YtojmcndiooiehaaDoor
