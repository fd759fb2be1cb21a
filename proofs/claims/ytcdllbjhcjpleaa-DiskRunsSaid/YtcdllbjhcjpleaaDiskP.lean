/-
  The program's contracts of layer 11.
-/
import Derived.Test.YtcdllbjhcjpleaaDiskPW
import Derived.Test.YtcdllbjhcjpleaaDiskPA
import Derived.Test.YtcdllbjhcjpleaaDiskPN
namespace Go.Proofs.Ytcdllbjhcjpleaa
end Go.Proofs.Ytcdllbjhcjpleaa
